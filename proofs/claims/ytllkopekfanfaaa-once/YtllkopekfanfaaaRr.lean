/- The reference: Receive. -/
import Derived.BigQuiet
import Derived.Deep.RegionHeldLaw
import Derived.Deep.RegionWith
import Derived.Deep.RegionLaw
import Derived.Test.YtllkopekfanfaaaRu
namespace Go.Proofs.Ytllkopekfanfaaa
open Go.RowKit Go.Shelf Go.Lib Go.Sort Go.Maps
attribute [local go_sem] Oper.semAt_some

variable {w w' : World} {rb sb tb : Nat} {V : Value} {Rl : Ml} {g : Nat → Int × Int} {M : Qs} {B : Option Nat}
theorem mcells_take : ∀ (l : Ml) (k : Nat), (mcells l).take (k * 2) = mcells (l.take k)
  | _, 0 => by simp [mcells]
  | [], k + 1 => by simp [mcells]
  | y :: r, k + 1 => by
    have ih := mcells_take r k
    have e : mcells (y :: r) = .int .i64 y.1 :: .int .i64 y.2 :: mcells r := rfl
    have e2 : mcells ((y :: r).take (k + 1)) = .int .i64 y.1 :: .int .i64 y.2 :: mcells (r.take k) := rfl
    rw [e, e2, ← ih, show (k + 1) * 2 = k * 2 + 1 + 1 by omega]
    rfl
theorem mcells_drop (l : Ml) (k : Nat) : mcells (l.drop k) = (mcells l).drop (k * 2) := by
  have h := congrArg (List.drop (k * 2)) (mcells_append (l.take k) (l.drop k))
  rw [List.take_append_drop] at h
  by_cases hk : k ≤ l.length
  · have e0 : (mcells (l.take k)).drop (k * 2) = [] := List.drop_eq_nil_of_le (by rw [mcells_length, List.length_take]; omega)
    rw [h, List.drop_append, e0, mcells_length, List.length_take, Nat.min_eq_left hk, Nat.sub_self]
    simp
  · rw [List.drop_eq_nil_of_le (by omega), List.drop_eq_nil_of_le (by rw [mcells_length]; omega)]
    rfl
theorem Mr.front {w : World} {base g n cap k : Nat} {l : Ml} (h : Mr w base (.slice (some ⟨g, 0, none⟩) n cap) l) (hk : k ≤ l.length) : Wm w (.slice (some ⟨g, 0, none⟩) k cap) (l.take k) := by
  refine ⟨_, cap, by rw [List.length_take, Nat.min_eq_left hk], fun ad had j u hu => ?_, fun e => by cases e⟩
  obtain rfl : (⟨g, 0, none⟩ : Addr) = ad := by simpa using had
  have hc := h.cells
  refine hc j u ?_
  rw [← mcells_take] at hu
  have hj : j < k * 2 := by
    have := (List.getElem?_eq_some_iff.1 hu).1
    rw [List.length_take] at this
    omega
  rw [List.getElem?_take_of_lt hj] at hu
  exact hu
theorem Mr.back {w : World} {base g n cap c k m : Nat} {l : Ml} (h : Mr w base (.slice (some ⟨g, 0, none⟩) n cap) l) (hm : m = l.length - k) : Wm w (.slice (some ⟨g, k * 2, none⟩) m c) (l.drop k) := by
  refine ⟨_, c, by rw [List.length_drop, hm], fun ad had j u hu => ?_, fun e => by cases e⟩
  obtain rfl : (⟨g, k * 2, none⟩ : Addr) = ad := by simpa using had
  have hc := h.cells
  rw [Addr.add_mid]
  have hc' := hc (k * 2 + j) u
  rw [Addr.add_mid, Nat.zero_add] at hc'
  refine hc' ?_
  rw [mcells_drop, List.getElem?_drop] at hu
  exact hu
theorem step_app2L {w y0 : World} {ops : Array Oper} {o : Oper} {a : Act} {K : Act → World → Prop} {Q : Exit → Act → World → Prop} {E : Prop} (hgd : o.guard = none) (s x : Operand) (ho : o.op = .call { callee := .builtin .append, args := #[s, x], argTypes := #[60, 60] }) (D : Nat) (hD : o.dst = some D)
    {V VX : Value} {l m : Ml} (hs : a.eval s = V) (hV : Mr w y0.heap.size V l) (hx : a.eval x = VX) (hX : Wm w VX m) (hk : Kp y0 w []) (hl : l.length ≤ 1000) (hm : m.length ≤ 1000) (N : Nat) (hN : (l ++ m).length = N)
    (h : ∀ a2 c2 z, Mr z y0.heap.size (.slice a2 N c2) (l ++ m) → Kp y0 z [] → K (a.put (some D) (.slice a2 N c2)) z) :
    if Region.wanted o (yielded ops a.tmps) = true then Oper.wp Try.prog o a w K Q else E := by
  refine step_joinM hgd s x ho D hD y0.heap.size V VX l m hs hV hx hX (by omega) (by omega) hk.size ?_
  intro v' w' hM hG
  obtain ⟨a2, c2, rfl⟩ := hM.slice
  have kb := grown_mr hV hG hk (Nat.le_refl _)
  rw [hN] at hM ⊢
  exact h a2 c2 w' hM kb
theorem mr_one (W : World) (m1 m2 : Int) : Mr (W.alloc (.cells #[.int .i64 m1, .int .i64 m2] 34)) 0 (.slice (some ⟨W.heap.size, 0, none⟩) 1 1) [(m1, m2)] := ⟨rfl, .inr ⟨W.heap.size, 1, _, rfl, Nat.zero_le _, heap_alloc_new W _, Nat.le_refl _, by unfold maxLen; omega, rfl, rfl⟩⟩
theorem step_app3 {w : World} {ops : Array Oper} {o : Oper} {a : Act} {K : Act → World → Prop} {Q : Exit → Act → World → Prop} {E : Prop} (hgd : o.guard = none) (s x : Operand) (ho : o.op = .call { callee := .builtin .append, args := #[s, x], argTypes := #[60, 60] }) (D : Nat) (hD : o.dst = some D)
    {V : Value} {ad : Addr} {cap : Nat} {l : Ml} {m : Int × Int} (hs : a.eval s = V) (hV : Mr w 0 V l) (hx : a.eval x = .slice (some ad) 1 cap) (hX : Mr w 0 (.slice (some ad) 1 cap) [m]) (hl : l.length ≤ 1000) (N : Nat) (hN : (l ++ [m]).length = N)
    (h : ∀ a2 c2 z, Mr z 0 (.slice a2 N c2) (l ++ [m]) → w.grownBy z V.ownBlock → ((Value.slice a2 N c2).ownBlock = V.ownBlock ∨ (Value.slice a2 N c2).ownBlock = some w.heap.size) → K (a.put (some D) (.slice a2 N c2)) z) :
    if Region.wanted o (yielded ops a.tmps) = true then Oper.wp Try.prog o a w K Q else E := by
  have hw : Region.wanted o (yielded ops a.tmps) = true := by simp [Region.wanted, hgd]
  rw [if_pos hw]
  rw [← hD] at h
  obtain ⟨v', w', hr, h1, h2, h3⟩ := push_whereM (w := w) o.type V l hV ad [m] cap hX (by simp) (by omega) (by simp)
  obtain ⟨a2, c2, rfl⟩ := h1.slice
  rw [hN] at h1 h3 hr
  exact Lib.wp_append_run w s x 60 60 ho _ _ hs hx _ w' hr (h a2 c2 w' h1 h2 h3)
theorem wm_empty (w : World) (g o c : Nat) : Wm w (.slice (some ⟨g, o, none⟩) 0 c) [] := ⟨_, c, rfl, fun ad _ j u hu => (by simp [mcells] at hu), fun e => (by cases e)⟩
theorem Ri.setl2 {z : World} {V' : Value} {Rl' L' : Ml} (h : Ri w rb sb tb V Rl g M) (hk : Kp w z V.ownBlock.toList) (hm : Mr z 0 V' Rl') (hb : ∀ j, V'.ownBlock = some j → V.ownBlock = some j ∨ w.heap.size ≤ j) (ho : ordM Rl' = L') (hok : okM Rl') (hl : Rl'.length ≤ 32) : Ri (z.setCell ⟨rb, 1, none⟩ V') rb sb tb V' Rl' g { M with L := L' } ∧ Kp w (z.setCell ⟨rb, 1, none⟩ V') (rb :: V.ownBlock.toList) := by
  have hs := Kp.setCell z ⟨rb, 1, none⟩ V'
  have hlt := h.lt
  have hoff := h.off
  have hh := (hk.block rb hlt.1 (fun hm => by simp only [Option.mem_toList] at hm; exact (hoff.2.2 _ hm).1 rfl)).trans h.hh
  have kk : Kp w (z.setCell ⟨rb, 1, none⟩ V') (rb :: V.ownBlock.toList) := (hk.mono (fun k hx _ => List.mem_cons_of_mem _ hx)).trans (hs.mono (fun k hx _ => by simp only [List.mem_singleton] at hx; simp [hx]))
  have hty : ∀ k ∈ rb :: V.ownBlock.toList, ∀ c, w.heap[k]? ≠ some (.cells c 69 (0, 0)) ∧ w.heap[k]? ≠ some (.cells c 103 (0, 0)) := by
    intro k hx c
    rcases List.mem_cons.1 hx with hx | hx
    · subst hx
      rw [h.hh]
      simp
    · simp only [Option.mem_toList] at hx
      obtain ⟨cur, hc⟩ := h.vb hx
      rw [hc]
      simp
  refine ⟨⟨rc_set1 hh, hm.kp hs (fun k e hx => ?_), ho, hok, h.rs.off kk hty, h.rr.off kk hty, h.os, h.or, h.ne, h.tie, hl⟩, kk⟩
  simp only [List.mem_singleton] at hx
  subst hx
  rcases hb _ e with q | q
  · exact (hoff.2.2 _ q).1 rfl
  · omega
theorem Bp.set3 {W : World} {s : Nat} {d : Bool} {a b o : Int} (h : Bp W s d a b o) (o' : Int) : Bp (W.setCell ⟨s, 3, none⟩ (.int .i64 o')) s d a b o' := by
  unfold Bp at h ⊢
  rw [heap_setCell_same W s 3 _ 45 _ h]
  rfl
set_option maxRecDepth 100000 in
theorem rrec_b1 (h : Ri w rb sb tb V Rl g M) (t pr : Int) (hA : (mayT t && mayP pr) = false) : Calls Try.prog 30 #[.pointer (some ⟨rb, 0, none⟩), .int .i64 t, .int .i64 pr] w fun e w' => e = .returned (.tuple #[passed false (0, 0) 0, .int .i64 2]) ∧ Rto w w' rb sb tb V.ownBlock M := by
  have k0 := Kp.alloc w (.cells #[.bool false, .int .i64 0, .int .i64 0, .int .i64 0] 45) []
  have p0 := hid (Bp.new1 w)
  have HA := hid (fun z => ask_any z rb t pr)
  have H := hid h
  have K0 := hid k0
  have hAE : askE t pr = 2 := by unfold askE; rw [hA]; rfl
  rw [hAE] at HA
  clear hA hAE
  rw [passed_zero]
  clear h k0
  obtain ⟨s, hs⟩ : ∃ s, w.heap.size = s := ⟨_, rfl⟩
  obtain ⟨W0, hW0⟩ : ∃ W0, w.alloc (.cells #[.bool false, .int .i64 0, .int .i64 0, .int .i64 0] 45) = W0 := ⟨_, rfl⟩
  go_enter Try.func30, Try.ntmps30
  go_wp2_with fail
  simp only [hW0, hs] at K0 p0 ⊢
  refine (HA.out _).mono ?_
  rintro e w1 ⟨rfl, hw⟩; obtain rfl := hw.symm
  have q0 := p0.out.c0
  have q1 := p0.out.c1
  have q2 := p0.out.c2
  have q3 := p0.out.c3
  have q4 := p0.out.fr
  go_wp2
  refine bodyPost_ret (results_cell_tmp rfl _ _ s #[.bool false, .int .i64 0, .int .i64 0, .int .i64 0] (0, 0) rfl (p0.out.set false 0 0 0) (size45 _ _ _ _)) rfl ?_
  exact ⟨rfl, Rto.stay H.out.rq (K0.out.past (kp_set4 _ _ _ _ _ _) (fun k hk hl => by simp at hk; omega))⟩
set_option maxRecDepth 100000 in
theorem rrec_b2 (h : Ri w rb sb tb V Rl g M) (t pr : Int) (hA : (mayT t && mayP pr) = true) (hW : wAny M t = true) : Calls Try.prog 30 #[.pointer (some ⟨rb, 0, none⟩), .int .i64 t, .int .i64 pr] w fun e w' => e = .returned (.tuple #[passed false (0, 0) 0, .int .i64 7]) ∧ Rto w w' rb sb tb V.ownBlock M := by
  have k0 := Kp.alloc w (.cells #[.bool false, .int .i64 0, .int .i64 0, .int .i64 0] 45) []
  have p0 := hid (Bp.new1 w)
  have HA := hid (fun z => ask_any z rb t pr)
  have H := hid h
  have K0 := hid k0
  have hAE : askE t pr = 0 := by unfold askE; rw [hA]; rfl
  rw [hAE] at HA
  have HWT := hid (fun (z : World) (hk : Kp w z []) => rwaiting_any (h.same hk) t)
  rw [hW] at HWT
  generalize wSend M t = A at HWT
  clear hA hAE hW
  rw [passed_zero]
  clear h k0
  obtain ⟨s, hs⟩ : ∃ s, w.heap.size = s := ⟨_, rfl⟩
  obtain ⟨W0, hW0⟩ : ∃ W0, w.alloc (.cells #[.bool false, .int .i64 0, .int .i64 0, .int .i64 0] 45) = W0 := ⟨_, rfl⟩
  go_enter Try.func30, Try.ntmps30
  go_wp2_with fail
  simp only [hW0, hs] at K0 p0 ⊢
  refine (HA.out _).mono ?_
  rintro e w1 ⟨rfl, hw⟩; obtain rfl := hw.symm
  have q0 := p0.out.c0
  have q1 := p0.out.c1
  have q2 := p0.out.c2
  have q3 := p0.out.c3
  have q4 := p0.out.fr
  go_wp2_with fail
  refine (HWT.out _ K0.out).mono ?_
  rintro e w1 ⟨rfl, hw⟩; obtain rfl := hw.symm
  go_wp2
  refine bodyPost_ret (results_cell_tmp rfl _ _ s #[.bool false, .int .i64 0, .int .i64 0, .int .i64 0] (0, 0) rfl (p0.out.set false 0 0 0) (size45 _ _ _ _)) rfl ?_
  exact ⟨rfl, Rto.stay H.out.rq (K0.out.past (kp_set4 _ _ _ _ _ _) (fun k hk hl => by simp at hk; omega))⟩
set_option maxRecDepth 100000 in
set_option maxHeartbeats 1000000 in
theorem rrec_one (h : Ri w rb sb tb V Rl g M) (t pr : Int) (hA : (mayT t && mayP pr) = true) (hW : wAny M t = false) (hL : M.L = []) : Calls Try.prog 30 #[.pointer (some ⟨rb, 0, none⟩), .int .i64 t, .int .i64 pr] w fun e w' => e = .returned (.tuple #[passed false (0, 0) (-1), .int .i64 0]) ∧ Rto w w' rb sb tb V.ownBlock { M with r := putL M.r t pr } := by
  have k0 := Kp.alloc w (.cells #[.bool false, .int .i64 0, .int .i64 0, .int .i64 0] 45) []
  have p0 := hid (Bp.new1 w)
  have HA := hid (fun z => ask_any z rb t pr)
  have H := hid h
  have K0 := hid k0
  have hAE : askE t pr = 0 := by unfold askE; rw [hA]; rfl
  rw [hAE] at HA
  have HWT := hid (fun (z : World) (hk : Kp w z []) => rwaiting_any (h.same hk) t)
  rw [hW] at HWT
  generalize wSend M t = A at HWT
  have HO := hid (fun (z : World) (hk : Kp w z []) => rorderM_any z rb sb tb V Rl g M (h.same hk))
  have HR := hid (fun (z : World) (hk : Kp w z []) => rput_any z tb _ t pr (h.same hk).rr h.or)
  have HS := hid (fun (z z2 : World) (hz : Kp w z []) (h1 : Rt z z2 tb (putL M.r t pr)) => (h.same hz).setr h1 (h.or.put _ _))
  have C3 := hid (fun (z : World) (hk : Kp w z []) => (h.same hk).c3)
  rw [hL] at HO
  clear hA hAE hW hL
  clear h k0
  obtain ⟨s, hs⟩ : ∃ s, w.heap.size = s := ⟨_, rfl⟩
  obtain ⟨W0, hW0⟩ : ∃ W0, w.alloc (.cells #[.bool false, .int .i64 0, .int .i64 0, .int .i64 0] 45) = W0 := ⟨_, rfl⟩
  go_enter Try.func30, Try.ntmps30
  go_wp2_with fail
  simp only [hW0, hs] at K0 p0 ⊢
  refine (HA.out _).mono ?_
  rintro e w1 ⟨rfl, hw⟩; obtain rfl := hw.symm
  go_wp2_with fail
  refine (HWT.out _ K0.out).mono ?_
  rintro e w1 ⟨rfl, hw⟩; obtain rfl := hw.symm
  go_wp2_with fail
  refine (HO.out _ K0.out).mono ?_
  rintro e w2 ⟨v, rfl, hm, hk⟩
  obtain ⟨av, cv, rfl⟩ := hm.slice
  have K2 := hid (K0.out.trans hk)
  have P2 := hid (p0.out.keep hk (by simp))
  have HLT := hid (show s < w2.heap.size from lt_of_block P2.out)
  have c3 := C3.out _ K2.out
  clear hm hk
  go_wp2_with fail
  refine (HR.out _ K2.out).mono ?_
  rintro e w3 ⟨rfl, h1⟩
  have hX := HS.out w2 w3 K2.out h1
  have hsn : s ∉ [rb, sb, tb] := fun hm => by have := H.out.lt; simp at hm; omega
  have P3 := hid (P2.out.keep hX.2 hsn)
  have HX := hid hX
  have q0 := P3.out.c0
  have q1 := P3.out.c1
  have q2 := P3.out.c2
  have q3 := P3.out.c3
  have q4 := P3.out.fr
  clear h1 hX hsn
  go_wp2
  refine bodyPost_ret (results_cell_tmp rfl _ _ s #[.bool false, .int .i64 0, .int .i64 0, .int .i64 (-1)] (0, 0) rfl (P3.out.set false 0 0 (-1)) (size45 _ _ _ _)) rfl ?_
  exact ⟨rfl, fin_boxR H.out K2.out HX.out.1.rq (fun j e => .inl e) HX.out.2 (by omega) HLT.out (kp_set4 _ _ _ _ _ _) ⟨_, P3.out⟩⟩
set_option maxRecDepth 100000 in
set_option maxHeartbeats 4000000 in
theorem rrec_two (h : Ri w rb sb tb V Rl g M) (t pr : Int) (hA : (mayT t && mayP pr) = true) (hW : wAny M t = false) (x1 x2 : Int) (Z : Ml) (hL : M.L = (x1, x2) :: Z) (hb : fstB M.s = false) : Calls Try.prog 30 #[.pointer (some ⟨rb, 0, none⟩), .int .i64 t, .int .i64 pr] w fun e w' => e = .returned (.tuple #[passed true (x1, x2) (-1), .int .i64 0]) ∧ Rto w w' rb sb tb V.ownBlock { M with L := Z } := by
  have k0 := Kp.alloc w (.cells #[.bool false, .int .i64 0, .int .i64 0, .int .i64 0] 45) []
  have p0 := hid (Bp.new1 w)
  have HA := hid (fun z => ask_any z rb t pr)
  have H := hid h
  have K0 := hid k0
  have hAE : askE t pr = 0 := by unfold askE; rw [hA]; rfl
  rw [hAE] at HA
  have HWT := hid (fun (z : World) (hk : Kp w z []) => rwaiting_any (h.same hk) t)
  rw [hW] at HWT
  generalize wSend M t = A at HWT
  have HO := hid (fun (z : World) (hk : Kp w z []) => rorderM_any z rb sb tb V Rl g M (h.same hk))
  have HLL := hid hL
  have HB0 := hid hb
  rw [hL] at HO
  clear hA hAE hW hL hb
  clear h k0
  obtain ⟨s, hs⟩ : ∃ s, w.heap.size = s := ⟨_, rfl⟩
  obtain ⟨W0, hW0⟩ : ∃ W0, w.alloc (.cells #[.bool false, .int .i64 0, .int .i64 0, .int .i64 0] 45) = W0 := ⟨_, rfl⟩
  go_enter Try.func30, Try.ntmps30
  go_wp2_with fail
  simp only [hW0, hs] at K0 p0 ⊢
  refine (HA.out _).mono ?_
  rintro e w1 ⟨rfl, hw⟩; obtain rfl := hw.symm
  go_wp2_with fail
  refine (HWT.out _ K0.out).mono ?_
  rintro e w1 ⟨rfl, hw⟩; obtain rfl := hw.symm
  go_wp2_with fail
  refine (HO.out _ K0.out).mono ?_
  rintro e w2 ⟨v, rfl, hm, hk⟩
  obtain ⟨av, cv, rfl⟩ := hm.slice
  have K2 := hid (K0.out.trans hk)
  have P2 := hid (p0.out.keep hk (by simp))
  have HLT := hid (show s < w2.heap.size from lt_of_block P2.out)
  obtain ⟨gv, rfl, v0, v1⟩ := hm.at (k := 0) (x := (x1, x2)) rfl
  rw [List.length_cons]
  have HMR := hid hm
  clear hm hk
  go_wp2_with fail
  have kb := Kp.alloc w2 (.cells #[.bool true, .int .i64 x1, .int .i64 x2, .int .i64 (-1)] 45) []
  have PO : Bp (w2.alloc (.cells #[.bool true, .int .i64 x1, .int .i64 x2, .int .i64 (-1)] 45)) w2.heap.size true x1 x2 (-1) := heap_alloc_new w2 _
  have K3 := hid (K2.out.trans kb)
  have P3 := hid (P2.out.keep kb (by simp))
  have PO := hid PO
  have M3 := hid (HMR.out.keep kb)
  have HKB := hid kb
  obtain ⟨W3, hW3⟩ : ∃ W3, w2.alloc (.cells #[.bool true, .int .i64 x1, .int .i64 x2, .int .i64 (-1)] 45) = W3 := ⟨_, rfl⟩
  obtain ⟨ob, hob⟩ : ∃ ob, w2.heap.size = ob := ⟨_, rfl⟩
  have HOB := hid (show s < ob by have := HLT.out; omega)
  simp only [hW3, hob] at K3 P3 PO M3 ⊢
  clear kb v0 v1 hW3 hob HMR HKB
  have hmem : (x1, x2) ∈ Rl := by
    have h := H.out.ord
    rw [HLL.out] at h
    exact (ordM_mem H.out.msg).1 (by rw [h]; simp)
  have HME := hid hmem
  obtain ⟨N, hN⟩ : ∃ N, Rl.length = N := ⟨_, rfl⟩
  have HN := hid hN
  obtain ⟨NZ, hNZ⟩ : ∃ NZ, Z.length + 1 = NZ := ⟨_, rfl⟩
  have hNZI : ((Z.length : Nat) : Int) + 1 = (NZ : Int) := by omega
  have hNZ0 : 0 < NZ := by omega
  have h32 : N ≤ 32 := by rw [← hN]; exact H.out.len
  clear hmem hN
  simp only [hNZ, hNZI] at M3 ⊢
  clear hNZ hNZI
  go_loopw [13] (fun vi wr => ∃ k : Nat, k < N ∧ vi = .int .i64 k ∧ Hid ((∀ y ∈ Rl.take k, y.2 ≠ x2) ∧ Kp W3 wr [])) (fun vi _ => N - (intOf vi).toNat)
  case atStart => exact ⟨0, by have := HN.out; have := List.length_pos_of_mem HME.out; omega, rfl, hid ⟨by simp, Kp.refl _ _⟩⟩
  case round =>
    obtain ⟨k, hk, rfl, hR⟩ := hrel
    have hRI := H.out.same (K3.out.trans hR.out.2)
    have c1 := hRI.c1
    obtain ⟨ao, cap, hV⟩ := hRI.ms.slice
    have hms := hRI.ms
    rw [hV] at c1 hms
    rw [show Rl.length = N from HN.out] at c1 hms
    have hk1 : k < Rl.length := by have := HN.out; omega
    have hx0 := List.getElem?_eq_getElem hk1
    obtain ⟨y1, y2, hy⟩ : ∃ y1 y2, Rl[k] = (y1, y2) := ⟨Rl[k].1, Rl[k].2, rfl⟩
    rw [hy] at hx0
    obtain ⟨g1, rfl, e1, e2⟩ := hms.at hx0
    obtain ⟨gv', hgv, v0, v1⟩ := (M3.out.keep hR.out.2).at (k := 0) (x := (x1, x2)) rfl
    cases hgv
    have HY := hid hx0
    have HVV := hid hV
    clear hy hk1 hx0
    by_cases hq : y2 = x2
    · have hqb : (y2 != x2) = false := by simp [hq]
      have HQ := hid hq
      have HMS := hid hms
      clear hms hV hRI
      go_wp2_with fail
      go_region_held_law (fun W => W.cell? ⟨rb, 1, none⟩ = some (.slice (some ⟨g1, 0, none⟩) N cap) ∧ W.cell? ⟨g1, k * 2 + 1, none⟩ = some (.int .i64 y2) ∧ W.cell? ⟨gv, 1, none⟩ = some (.int .i64 x2)) (exact ⟨c1, e2, v1⟩) (fail)
      have HR3 := hid (hR.out.2.trans (Kp.drew wr []))
      have hkk : k ≤ cap ∧ k + 1 ≤ cap ∧ N ≤ cap := by have := HMS.out.le; omega
      clear c1 e1 e2 v0 v1 hq
      generalize wr.drew = y0 at HR3 ⊢
      have HXY := hid (show Ri y0 rb sb tb V Rl g M ∧ Kp w y0 [] from ⟨H.out.same (K3.out.trans HR3.out), K3.out.trans HR3.out⟩)
      have PY := hid (P3.out.keep HR3.out (by simp))
      have POY := hid (PO.out.keep HR3.out (by simp))
      have c1 := HXY.out.1.c1
      rw [HVV.out, HN.out] at c1
      have HMS2 := HXY.out.1.ms
      rw [HVV.out, HN.out] at HMS2
      have HMS2 := hid HMS2
      have hrl : rb < y0.heap.size := HXY.out.1.lt.1
      have HRH := hid HXY.out.1.hh
      have VF := hid (show Wm y0 (.slice (some ⟨g1, 0, none⟩) k cap) (Rl.take k) from HMS2.out.front (by have := HN.out; omega))
      have VB := hid (show ∀ o m c, m = N - (k + 1) → (cap ≠ k + 1 → o = (k + 1) * 2) → (cap = k + 1 → o = 0) → Wm y0 (.slice (some ⟨g1, o, none⟩) m c) (Rl.drop (k + 1)) from fun o m c hm h1 h2 => by
        subst hm
        by_cases q : cap = k + 1
        · rw [h2 q, show N - (k + 1) = 0 by omega, show Rl.drop (k + 1) = [] from List.drop_eq_nil_of_le (by have := HN.out; omega)]
          exact wm_empty y0 g1 0 c
        · rw [h1 q]
          exact HMS2.out.back (by have := HN.out; omega))
      have hwr : IntKind.i64.wrap ((k : Int) + 1) = (k : Int) + 1 := IntWalk.i64_in _ ⟨by omega, by omega⟩
      have hic1 : k + 1 ≤ cap := hkk.2.1
      have hic0 : (0 : Int) ≤ (k : Int) + 1 := by omega
      have hic2 : k ≤ cap := hkk.1
      have hic3 : (k : Int) ≤ cap := by omega
      have hiN1 : k + 1 ≤ N := by omega
      have hiN2 : (k : Int) + 1 ≤ N := by omega
      have HORD := hid (show ordM (Rl.take k ++ Rl.drop (k + 1)) = Z ∧ okM (Rl.take k ++ Rl.drop (k + 1)) from by
        have hsp : Rl = Rl.take k ++ (y1, y2) :: Rl.drop (k + 1) := by
          have hk1 := (List.getElem?_eq_some_iff.1 HY.out)
          obtain ⟨h1, h2⟩ := hk1
          rw [← h2, ← List.drop_eq_getElem_cons h1, List.take_append_drop]
        have hok := H.out.msg
        have hor := H.out.ord
        rw [HLL.out] at hor
        rw [hsp] at hok hor
        have := ordM_take hok hor HQ.out (hR.out.1)
        refine ⟨this.2, fun y hy => H.out.msg y ?_⟩
        rcases List.mem_append.1 hy with hy | hy
        · exact List.mem_of_mem_take hy
        · exact List.mem_of_mem_drop hy)
      have HLN := hid (show Rl.length ≤ 1000 by have := HN.out; omega)
      rcases (show cap = k + 1 ∨ k + 1 < cap by omega) with hq1 | hq1
      case' inl =>
        subst hq1
        have hq3 : (k : Int) ≤ (k : Int) + 1 := by omega
      case' inr => have hq2 : ¬ cap = k + 1 := by omega
      all_goals
        clear hR
        go_wp2_with fail
        go_region_law
          (first
            | (refine step_app1 (by rfl) _ _ (by rfl) 71 (by rfl) (y0 := y0) (l := Rl.take k) (by rfl) (by rfl) VF.out (Kp.drew _ _) (by rw [List.length_take]; have := HLN.out; omega) k (by rw [List.length_take]; have := HN.out; omega) ?_; intro a2 c2 z2 n2 k2 kb; have N2 := hid n2; have K2' := hid k2; have cc2 := (cellR1 ((k2.block rb hrl (by simp)).trans HRH.out)).trans (congrArg some HVV.out); rw [HN.out] at cc2; clear n2 k2 kb)
            | (refine step_app2L (by rfl) _ _ (by rfl) 79 (by rfl) (y0 := y0) (l := Rl.take k) (m := Rl.drop (k + 1)) (by rfl) N2.out (by rfl) ((VB.out _ _ _ (by omega) (by intros; omega) (by intros; omega)).keep K2'.out) K2'.out (by rw [List.length_take]; have := HLN.out; omega) (by rw [List.length_drop]; have := HLN.out; omega) (N - 1) (by rw [List.length_append, List.length_take, List.length_drop]; have := HN.out; omega) ?_; intro a3 c3 z3 n3 k3; have N3 := hid n3; have K3' := hid k3; have RB3 := (k3.block rb hrl (by simp)).trans HRH.out; have cc3 := (cellR1 RB3).trans (congrArg some HVV.out); rw [HN.out] at cc3; have ff3 := freeR RB3 1; clear n3 k3 RB3))
        all_goals (
          have hM := HXY.out.1.setl K3'.out N3.out HORD.out.1 HORD.out.2 (by rw [List.length_append, List.length_take, List.length_drop]; have := HN.out; omega)
          have hsn : s ∉ [rb, sb, tb] ∧ ob ∉ [rb, sb, tb] := ⟨fun hm => by have := H.out.lt; simp at hm; omega, fun hm => by have := H.out.lt; have := HOB.out; simp at hm; omega⟩
          have P4 := hid (PY.out.keep hM.2 hsn.1)
          have O4 := hid (POY.out.keep hM.2 hsn.2)
          have hvb : ∀ j, Value.ownBlock (.slice a3 (N - 1) c3) = some j → y0.heap.size ≤ j := fun j e => (owns_block N3.out e).1
          obtain ⟨z4, hz4⟩ : ∃ z4, z3.setCell ⟨rb, 1, none⟩ (.slice a3 (N - 1) c3) = z4 := ⟨_, rfl⟩
          simp only [hz4] at hM P4 O4 ⊢
          have c2 := hM.1.c2
          have HTK := hid (rtake_any z4 sb _ hM.1.rs hM.1.os)
          have HM := hid hM
          have HVB := hid hvb
          have HSN := hid hsn
          clear hM hsn hz4 hvb cc2 cc3 ff3 c1
          rw [take_no HB0.out, HB0.out] at HTK
          go_wp2_with fail
          refine HTK.out.mono ?_
          rintro e z5 ⟨rfl, h5⟩
          have hX := HM.out.1.sets (f' := M.f) h5 HM.out.1.os (fun u hu hp => HM.out.1.tie u hu hp)
          have P5 := hid (P4.out.keep hX.2 HSN.out.1)
          have O5 := hid (O4.out.keep hX.2 HSN.out.2)
          have HX := hid hX
          have q0 := P5.out.c0
          have q1 := P5.out.c1
          have q2 := P5.out.c2
          have q3 := P5.out.c3
          have q4 := P5.out.fr
          have o0 := O5.out.c0
          have o1 := O5.out.c1
          have o2 := O5.out.c2
          have o3 := O5.out.c3
          clear h5 hX
          go_wp2
          refine bodyPost_ret (results_cell_tmp rfl _ _ s #[.bool true, .int .i64 x1, .int .i64 x2, .int .i64 (-1)] (0, 0) rfl (P5.out.set true x1 x2 (-1)) (size45 _ _ _ _)) rfl ?_
          exact ⟨rfl, fin_boxR H.out HXY.out.2 HX.out.1.rq (fun j e => .inr (HVB.out j e)) (HM.out.2.trans HX.out.2) (by omega) (lt_of_block PY.out) (kp_set4 _ _ _ _ _ _) ⟨_, P5.out⟩⟩)
    · have hqb : (y2 != x2) = true := by simp [hq]
      have hk1 : k + 1 < N := by
        refine Decidable.byContradiction fun hn => ?_
        have h1 : Rl.take (k + 1) = Rl := List.take_of_length_le (by have := HN.out; omega)
        have h2 := HME.out
        rw [← h1, take_nx HY.out] at h2
        rcases List.mem_append.1 h2 with h2 | h2
        · exact hR.out.1 _ h2 rfl
        · simp at h2
          exact hq h2.2.symm
      have R2 := hid (show (∀ y ∈ Rl.take (k + 1), y.2 ≠ x2) ∧ Kp W3 wr.drew [] from ⟨fun y hy => by
        rw [take_nx HY.out] at hy
        rcases List.mem_append.1 hy with hy | hy
        · exact hR.out.1 y hy
        · simp at hy
          subst hy
          exact hq, hR.out.2.trans (Kp.drew _ _)⟩)
      clear hq hms hV hRI hR
      go_wp2_with fail
      go_region_held_law (fun W => W.cell? ⟨rb, 1, none⟩ = some (.slice (some ⟨g1, 0, none⟩) N cap) ∧ W.cell? ⟨g1, k * 2 + 1, none⟩ = some (.int .i64 y2) ∧ W.cell? ⟨gv, 1, none⟩ = some (.int .i64 x2)) (exact ⟨c1, e2, v1⟩) (fail)
      go_wp2_with fail
      go_roundw
      case rel => exact ⟨k + 1, hk1, by simp, R2⟩
      case measure => simp [intOf]; omega
end Go.Proofs.Ytllkopekfanfaaa
