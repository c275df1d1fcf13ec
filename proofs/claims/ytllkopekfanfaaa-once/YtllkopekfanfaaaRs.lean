/- The reference: New, Send. -/
import Derived.BigQuiet
import Derived.Deep.RegionHeldLaw
import Derived.Deep.RegionWith
import Derived.Deep.RegionLaw
import Derived.Test.YtllkopekfanfaaaRl
import Derived.Test.YtllkopekfanfaaaRlistJ
import Derived.Test.YtllkopekfanfaaaRput
namespace Go.Proofs.Ytllkopekfanfaaa
open Go.RowKit Go.Shelf Go.Lib Go.Sort Go.Maps
attribute [local go_sem] Oper.semAt_some

variable {w w' : World} {rb sb tb : Nat} {V : Value} {Rl : Ml} {g : Nat → Int × Int} {M : Qs} {B : Option Nat}
set_option maxRecDepth 100000 in
theorem rnew_bad (w : World) (n : Int) (h : ¬ (1 ≤ n ∧ n ≤ 32)) : Calls Try.prog 8 #[.int .i64 n] w fun e w' => e = .returned (.pointer none) ∧ Kp w w' [] := by
  by_cases h1 : n < 1
  · clear h
    go_enter Try.func8, Try.ntmps8
    go_wp2
    go_ret
    exact ⟨rfl, Kp.refl _ _⟩
  · have h2 : 32 < n := by omega
    clear h
    go_enter Try.func8, Try.ntmps8
    go_wp2
    go_ret
    exact ⟨rfl, Kp.refl _ _⟩
set_option maxRecDepth 100000 in
theorem rnew_ok (w : World) (n : Int) (h1 : 1 ≤ n) (h2 : n ≤ 32) : Calls Try.prog 8 #[.int .i64 n] w fun e w' => (∃ rb sb tb, e = .returned (.pointer (some ⟨rb, 0, none⟩)) ∧ Rq w' rb sb tb none (newQ n) ∧ w.heap.size ≤ rb ∧ w.heap.size ≤ sb ∧ w.heap.size ≤ tb) ∧ Kp w w' [] := by
  have hn1 : ¬ n < 1 := by omega
  have hn2 : ¬ 32 < n := by omega
  clear h1 h2
  go_enter Try.func8, Try.ntmps8
  go_wp2_with fail
  go_ret
  have k1 := Kp.alloc w (.cells #[.slice none 0 0] 69) []
  have k2 := Kp.alloc (w.alloc (.cells #[.slice none 0 0] 69)) (.cells #[.slice none 0 0] 69) []
  have k3 := Kp.alloc ((w.alloc (.cells #[.slice none 0 0] 69)).alloc (.cells #[.slice none 0 0] 69)) (.cells (rcells n (.slice none 0 0) w.heap.size (w.heap.size + 1) (fun _ => (0, 0))) 72) []
  have f1 : Rf (w.alloc (.cells #[.slice none 0 0] 69)) w.heap.size [] := ⟨_, heap_alloc_new w _, Dr.nil _ _⟩
  have f2 : Rf ((w.alloc (.cells #[.slice none 0 0] 69)).alloc (.cells #[.slice none 0 0] 69)) (w.heap.size + 1) [] := ⟨.slice none 0 0, by
    have := heap_alloc_new (w.alloc (.cells #[.slice none 0 0] 69)) (.cells #[.slice none 0 0] 69)
    simpa using this, Dr.nil _ _⟩
  refine ⟨⟨w.heap.size + 1 + 1, rfl, w.heap.size, w.heap.size + 1, ⟨.slice none 0 0, [], fun _ => (0, 0), rfl, ⟨?_, Mr.nil _ _, ordM_nil, okM.nil, (f1.keep k2).keep k3, f2.keep k3, okL.nil, okL.nil, by omega, by simp [newQ, hasP], by simp⟩⟩, by omega, by omega, by omega⟩, (k1.trans k2).trans k3⟩
  have := heap_alloc_new ((w.alloc (.cells #[.slice none 0 0] 69)).alloc (.cells #[.slice none 0 0] 69)) (.cells (rcells n (.slice none 0 0) w.heap.size (w.heap.size + 1) (fun _ => (0, 0))) 72)
  simpa [rcells, newQ] using this
theorem cellR1 {w : World} {rb sb tb : Nat} {n : Int} {V : Value} {g : Nat → Int × Int} (h : w.heap[rb]? = some (.cells (rcells n V sb tb g) 72 (0, 0))) : w.cell? ⟨rb, 1, none⟩ = some V := by simp [World.cell?, h, rcells]
theorem freeR {w : World} {rb : Nat} {c : Array Value} {t : TypeId} (h : w.heap[rb]? = some (.cells c t (0, 0))) (i : Nat) : w.frozen? ⟨rb, i, none⟩ = false := by simp [World.frozen?, h]
theorem step_joinM {w : World} {ops : Array Oper} {o : Oper} {a : Act} {K : Act → World → Prop} {Q : Exit → Act → World → Prop} {E : Prop} (hgd : o.guard = none) (s x : Operand) (ho : o.op = .call { callee := .builtin .append, args := #[s, x], argTypes := #[60, 60] }) (D : Nat) (hD : o.dst = some D)
    (base : Nat) (V VX : Value) (l m : Ml) (hs : a.eval s = V) (hV : Mr w base V l) (hx : a.eval x = VX) (hX : Wm w VX m) (hl : l.length ≤ 1000000) (hm : m.length ≤ 1000000) (hb : base ≤ w.heap.size)
    (h : ∀ v' w', Mr w' base v' (l ++ m) → w.grownBy w' V.ownBlock → K (a.put (some D) v') w') :
    if Region.wanted o (yielded ops a.tmps) = true then Oper.wp Try.prog o a w K Q else E := by
  have hw : Region.wanted o (yielded ops a.tmps) = true := by simp [Region.wanted, hgd]
  rw [if_pos hw]
  rw [← hD] at h
  exact wp_joinM s x ho base V VX l m hs hV hx hX hl hm hb h
theorem step_app1 {w y0 : World} {ops : Array Oper} {o : Oper} {a : Act} {K : Act → World → Prop} {Q : Exit → Act → World → Prop} {E : Prop} (hgd : o.guard = none) (s x : Operand) (ho : o.op = .call { callee := .builtin .append, args := #[s, x], argTypes := #[60, 60] }) (D : Nat) (hD : o.dst = some D)
    {V : Value} {l : Ml} (hs : a.eval s = .slice none 0 0) (hx : a.eval x = V) (hX : Wm y0 V l) (hk : Kp y0 w []) (hl : l.length ≤ 1000) (N : Nat) (hN : l.length = N)
    (h : ∀ a2 c2 z, Mr z y0.heap.size (.slice a2 N c2) l → Kp y0 z [] → Kp w z [] → K (a.put (some D) (.slice a2 N c2)) z) :
    if Region.wanted o (yielded ops a.tmps) = true then Oper.wp Try.prog o a w K Q else E := by
  refine step_joinM hgd s x ho D hD y0.heap.size _ V [] l hs (Mr.nil _ _) hx (hX.keep hk) (by simp) (by omega) hk.size ?_
  intro v' w' hM hG
  rw [List.nil_append] at hM
  obtain ⟨a2, c2, rfl⟩ := hM.slice
  have kb : Kp w w' [] := Kp.ofGrown (rows := []) hG (by intro g hg; cases hg)
  rw [hN] at hM ⊢
  exact h a2 c2 w' hM (hk.trans kb) kb
theorem step_app2 {w y0 : World} {ops : Array Oper} {o : Oper} {a : Act} {K : Act → World → Prop} {Q : Exit → Act → World → Prop} {E : Prop} (hgd : o.guard = none) (s x : Operand) (ho : o.op = .call { callee := .builtin .append, args := #[s, x], argTypes := #[60, 60] }) (D : Nat) (hD : o.dst = some D)
    {V VX : Value} {l : Ml} {m : Int × Int} (hs : a.eval s = V) (hV : Mr w y0.heap.size V l) (hx : a.eval x = VX) (hX : Wm w VX [m]) (hk : Kp y0 w []) (hl : l.length ≤ 1000) (N : Nat) (hN : (l ++ [m]).length = N)
    (h : ∀ a2 c2 z, Mr z y0.heap.size (.slice a2 N c2) (l ++ [m]) → Kp y0 z [] → K (a.put (some D) (.slice a2 N c2)) z) :
    if Region.wanted o (yielded ops a.tmps) = true then Oper.wp Try.prog o a w K Q else E := by
  refine step_joinM hgd s x ho D hD y0.heap.size V VX l [m] hs hV hx hX (by omega) (by simp) hk.size ?_
  intro v' w' hM hG
  obtain ⟨a2, c2, rfl⟩ := hM.slice
  have kb := grown_mr hV hG hk (Nat.le_refl _)
  rw [hN] at hM ⊢
  exact h a2 c2 w' hM kb
theorem rc_set1 {w : World} {rb sb tb : Nat} {n : Int} {V V' : Value} {g : Nat → Int × Int} (h : w.heap[rb]? = some (.cells (rcells n V sb tb g) 72 (0, 0))) : (w.setCell ⟨rb, 1, none⟩ V').heap[rb]? = some (.cells (rcells n V' sb tb g) 72 (0, 0)) := by
  rw [heap_setCell_same w rb 1 _ 72 V' h]
  rfl
/-- The messages are others: a row made new. -/
theorem Ri.setl {z : World} {V' : Value} {Rl' L' : Ml} (h : Ri w rb sb tb V Rl g M) (hk : Kp w z []) (hm : Mr z w.heap.size V' Rl') (ho : ordM Rl' = L') (hok : okM Rl') (hl : Rl'.length ≤ 32) : Ri (z.setCell ⟨rb, 1, none⟩ V') rb sb tb V' Rl' g { M with L := L' } ∧ Kp w (z.setCell ⟨rb, 1, none⟩ V') [rb, sb, tb] := by
  have hz := h.same hk
  have hs := Kp.setCell z ⟨rb, 1, none⟩ V'
  have hlt := h.lt
  have hoff := h.off
  refine ⟨⟨rc_set1 hz.hh, (hm.low (Nat.zero_le _)).kp hs (fun k e hx => ?_), ho, hok, hz.rs.off hs (fun k hx c => ?_), hz.rr.off hs (fun k hx c => ?_), h.os, h.or, h.ne, h.tie, hl⟩, hk.nil.trans (hs.mono (fun k hx _ => by simp at hx; simp [hx]))⟩
  · simp only [List.mem_singleton] at hx
    subst hx
    have := (owns_block hm e).1
    omega
  · simp only [List.mem_singleton] at hx
    subst hx
    rw [hz.hh]
    simp
  · simp only [List.mem_singleton] at hx
    subst hx
    rw [hz.hh]
    simp
theorem has_putL {L : List Dl} {t p u : Int} (h : hasP (putL L t p) u = true) : u = t ∨ hasP L u = true := by
  unfold putL at h
  split at h
  · split at h
    · exact .inr h
    · obtain ⟨x, hx, rfl⟩ := mem_has.1 h
      rcases List.mem_append.1 hx with hx | hx
      · exact .inr (mem_has.2 ⟨x, hx, rfl⟩)
      · simp at hx
        exact .inl (by rw [hx])
  · exact .inr h
theorem put_tie {L : List Dl} {f : MF} {g : Nat → Int × Int} (h : ∀ t : Nat, t < 16 → hasP L t = true → f t = some (g t)) {tn u : Nat} {p : Int} (hu : u < 16) (hp : hasP (putL L tn p) u = true) : setF f tn (some (g tn)) u = some (g u) := by
  unfold setF
  by_cases e : (u : Int) = tn
  · rw [if_pos e]
    have : u = tn := by omega
    rw [this]
  · rw [if_neg e]
    rcases has_putL hp with q | q
    · exact absurd q e
    · exact h u hu q
/-- A message is laid for a thread. -/
theorem Ri.setm {f : MF} {tn : Nat} (h : Ri w rb sb tb V Rl g M) (ht : tn < 16) (m : Int × Int) (hf : M.f = setF f tn (some (g tn))) : Ri ((w.setCell ⟨rb, 4 + tn * 2, none⟩ (.int .i64 m.1)).setCell ⟨rb, 4 + tn * 2 + 1, none⟩ (.int .i64 m.2)) rb sb tb V Rl (updG g tn m) { M with f := setF f tn (some m) } ∧ Kp w ((w.setCell ⟨rb, 4 + tn * 2, none⟩ (.int .i64 m.1)).setCell ⟨rb, 4 + tn * 2 + 1, none⟩ (.int .i64 m.2)) [rb, sb, tb] := by
  have hs := ((Kp.setCell w ⟨rb, 4 + tn * 2, none⟩ (.int .i64 m.1)).trans (Kp.setCell _ ⟨rb, 4 + tn * 2 + 1, none⟩ (.int .i64 m.2)))
  have hoff := h.off
  have h1 := heap_setCell_same w rb (4 + tn * 2) _ 72 (.int .i64 m.1) h.hh
  have h2 := heap_setCell_same _ rb (4 + tn * 2 + 1) _ 72 (.int .i64 m.2) h1
  rw [rc_set M.n V sb tb g m tn ht] at h2
  refine ⟨⟨h2, h.ms.kp hs (fun k e hx => ?_), h.ord, h.msg, h.rs.off hs (fun k hx c => ?_), h.rr.off hs (fun k hx c => ?_), h.os, h.or, h.ne, fun u hu hp => ?_, h.len⟩, hs.mono (fun k hx _ => by simp only [List.mem_singleton] at hx; simp [hx])⟩
  · simp only [List.mem_singleton] at hx
    exact (hoff.2.2 k e).1 hx
  · simp only [List.mem_singleton] at hx
    subst hx
    rw [h.hh]
    simp
  · simp only [List.mem_singleton] at hx
    subst hx
    rw [h.hh]
    simp
  · have := h.tie u hu hp
    rw [hf] at this
    unfold setF updG at *
    by_cases e : u = tn
    · subst e
      simp
    · have e' : ¬ (u : Int) = tn := by omega
      rw [if_neg e'] at this
      simp only [if_neg e', if_neg e]
      exact this
theorem ask_iff (t p : Int) : askE t p = if mayT t && mayP p then 0 else 2 := rfl
set_option maxRecDepth 100000 in
theorem rsend_b1 (h : Ri w rb sb tb V Rl g M) (t pr m1 m2 : Int) (hA : (mayT t && mayP pr) = false) : Calls Try.prog 29 #[.pointer (some ⟨rb, 0, none⟩), .int .i64 t, .int .i64 pr, .agg #[.int .i64 m1, .int .i64 m2]] w fun e w' => e = .returned (.tuple #[passed false (0, 0) 0, .int .i64 2]) ∧ Rto w w' rb sb tb V.ownBlock M := by
  have k0 := (Kp.alloc w (.cells #[.int .i64 m1, .int .i64 m2] 34) []).trans (Kp.alloc _ (.cells #[.bool false, .int .i64 0, .int .i64 0, .int .i64 0] 45) [])
  have b0 := (Bm.new w (m1, m2)).keep (Kp.alloc _ (.cells #[.bool false, .int .i64 0, .int .i64 0, .int .i64 0] 45) []) (by simp)
  have p0 := hid (Bp.new w (.cells #[.int .i64 m1, .int .i64 m2] 34))
  have HA := hid (fun z => ask_any z rb t pr)
  have H := hid h
  have d0 := cell_two0 b0
  have d1 := cell_two1 b0
  have K0 := hid k0
  have B0 := hid b0
  have hAE : askE t pr = 2 := by unfold askE; rw [hA]; rfl
  rw [hAE] at HA
  clear hA hAE
  rw [passed_zero]
  clear h k0 b0
  obtain ⟨s, hs⟩ : ∃ s, w.heap.size = s := ⟨_, rfl⟩
  obtain ⟨W0, hW0⟩ : ∃ W0, (w.alloc (.cells #[.int .i64 m1, .int .i64 m2] 34)).alloc (.cells #[.bool false, .int .i64 0, .int .i64 0, .int .i64 0] 45) = W0 := ⟨_, rfl⟩
  go_enter Try.func29, Try.ntmps29
  go_wp2_with fail
  simp only [hW0, hs] at K0 B0 p0 d0 d1 ⊢
  refine (HA.out _).mono ?_
  rintro e w1 ⟨rfl, hw⟩; obtain rfl := hw.symm
  have P1 := hid (p0.out.keep (Kp.refl W0 []) (by simp))
  have q0 := P1.out.c0
  have q1 := P1.out.c1
  have q2 := P1.out.c2
  have q3 := P1.out.c3
  have q4 := P1.out.fr
  go_wp2
  refine bodyPost_ret (results_cell_tmp rfl _ _ (s + 1) #[.bool false, .int .i64 0, .int .i64 0, .int .i64 0] (0, 0) rfl (P1.out.set false 0 0 0) (size45 _ _ _ _)) rfl ?_
  exact ⟨rfl, Rto.stay H.out.rq (K0.out.past (kp_set4 _ _ _ _ _ _) (fun k hk hl => by simp at hk; omega))⟩
set_option maxRecDepth 100000 in
theorem rsend_b2 (h : Ri w rb sb tb V Rl g M) (t pr m1 m2 : Int) (hA : (mayT t && mayP pr) = true) (hM : mayM m2 = false) : Calls Try.prog 29 #[.pointer (some ⟨rb, 0, none⟩), .int .i64 t, .int .i64 pr, .agg #[.int .i64 m1, .int .i64 m2]] w fun e w' => e = .returned (.tuple #[passed false (0, 0) 0, .int .i64 2]) ∧ Rto w w' rb sb tb V.ownBlock M := by
  have k0 := (Kp.alloc w (.cells #[.int .i64 m1, .int .i64 m2] 34) []).trans (Kp.alloc _ (.cells #[.bool false, .int .i64 0, .int .i64 0, .int .i64 0] 45) [])
  have b0 := (Bm.new w (m1, m2)).keep (Kp.alloc _ (.cells #[.bool false, .int .i64 0, .int .i64 0, .int .i64 0] 45) []) (by simp)
  have p0 := hid (Bp.new w (.cells #[.int .i64 m1, .int .i64 m2] 34))
  have HA := hid (fun z => ask_any z rb t pr)
  have H := hid h
  have d0 := cell_two0 b0
  have d1 := cell_two1 b0
  have K0 := hid k0
  have B0 := hid b0
  have hAE : askE t pr = 0 := by unfold askE; rw [hA]; rfl
  rw [hAE] at HA
  have hm : m2 < 0 ∨ 31 < m2 := by simp [mayM] at hM; omega
  clear hA hAE hM
  rw [passed_zero]
  clear h k0 b0
  obtain ⟨s, hs⟩ : ∃ s, w.heap.size = s := ⟨_, rfl⟩
  obtain ⟨W0, hW0⟩ : ∃ W0, (w.alloc (.cells #[.int .i64 m1, .int .i64 m2] 34)).alloc (.cells #[.bool false, .int .i64 0, .int .i64 0, .int .i64 0] 45) = W0 := ⟨_, rfl⟩
  go_enter Try.func29, Try.ntmps29
  go_wp2_with fail
  simp only [hW0, hs] at K0 B0 p0 d0 d1 ⊢
  refine (HA.out _).mono ?_
  rintro e w1 ⟨rfl, hw⟩; obtain rfl := hw.symm
  have P1 := hid (p0.out.keep (Kp.refl W0 []) (by simp))
  have q0 := P1.out.c0
  have q1 := P1.out.c1
  have q2 := P1.out.c2
  have q3 := P1.out.c3
  have q4 := P1.out.fr
  by_cases hm0 : m2 < 0
  · clear hm
    go_wp2
    refine bodyPost_ret (results_cell_tmp rfl _ _ (s + 1) #[.bool false, .int .i64 0, .int .i64 0, .int .i64 0] (0, 0) rfl (P1.out.set false 0 0 0) (size45 _ _ _ _)) rfl ?_
    exact ⟨rfl, Rto.stay H.out.rq (K0.out.past (kp_set4 _ _ _ _ _ _) (fun k hk hl => by simp at hk; omega))⟩
  · have hm1 : 31 < m2 := by omega
    clear hm
    go_wp2
    refine bodyPost_ret (results_cell_tmp rfl _ _ (s + 1) #[.bool false, .int .i64 0, .int .i64 0, .int .i64 0] (0, 0) rfl (P1.out.set false 0 0 0) (size45 _ _ _ _)) rfl ?_
    exact ⟨rfl, Rto.stay H.out.rq (K0.out.past (kp_set4 _ _ _ _ _ _) (fun k hk hl => by simp at hk; omega))⟩
set_option maxRecDepth 100000 in
theorem rsend_b3 (h : Ri w rb sb tb V Rl g M) (t pr m1 m2 : Int) (hA : (mayT t && mayP pr) = true) (hM : mayM m2 = true) (hW : wAny M t = true) : Calls Try.prog 29 #[.pointer (some ⟨rb, 0, none⟩), .int .i64 t, .int .i64 pr, .agg #[.int .i64 m1, .int .i64 m2]] w fun e w' => e = .returned (.tuple #[passed false (0, 0) 0, .int .i64 7]) ∧ Rto w w' rb sb tb V.ownBlock M := by
  have k0 := (Kp.alloc w (.cells #[.int .i64 m1, .int .i64 m2] 34) []).trans (Kp.alloc _ (.cells #[.bool false, .int .i64 0, .int .i64 0, .int .i64 0] 45) [])
  have b0 := (Bm.new w (m1, m2)).keep (Kp.alloc _ (.cells #[.bool false, .int .i64 0, .int .i64 0, .int .i64 0] 45) []) (by simp)
  have p0 := hid (Bp.new w (.cells #[.int .i64 m1, .int .i64 m2] 34))
  have HA := hid (fun z => ask_any z rb t pr)
  have H := hid h
  have d0 := cell_two0 b0
  have d1 := cell_two1 b0
  have K0 := hid k0
  have B0 := hid b0
  have hAE : askE t pr = 0 := by unfold askE; rw [hA]; rfl
  rw [hAE] at HA
  have hm : ¬ m2 < 0 ∧ ¬ 31 < m2 := by simp [mayM] at hM; omega
  obtain ⟨hm0, hm1⟩ := hm
  have HWT := hid (fun (z : World) (hk : Kp w z []) => rwaiting_any (h.same hk) t)
  rw [hW] at HWT
  generalize wSend M t = A at HWT
  clear hA hAE hM hW
  rw [passed_zero]
  clear h k0 b0
  obtain ⟨s, hs⟩ : ∃ s, w.heap.size = s := ⟨_, rfl⟩
  obtain ⟨W0, hW0⟩ : ∃ W0, (w.alloc (.cells #[.int .i64 m1, .int .i64 m2] 34)).alloc (.cells #[.bool false, .int .i64 0, .int .i64 0, .int .i64 0] 45) = W0 := ⟨_, rfl⟩
  go_enter Try.func29, Try.ntmps29
  go_wp2_with fail
  simp only [hW0, hs] at K0 B0 p0 d0 d1 ⊢
  refine (HA.out _).mono ?_
  rintro e w1 ⟨rfl, hw⟩; obtain rfl := hw.symm
  have P1 := hid (p0.out.keep (Kp.refl W0 []) (by simp))
  have q0 := P1.out.c0
  have q1 := P1.out.c1
  have q2 := P1.out.c2
  have q3 := P1.out.c3
  have q4 := P1.out.fr
  go_wp2_with fail
  refine (HWT.out _ K0.out).mono ?_
  rintro e w1 ⟨rfl, hw⟩; obtain rfl := hw.symm
  go_wp2
  refine bodyPost_ret (results_cell_tmp rfl _ _ (s + 1) #[.bool false, .int .i64 0, .int .i64 0, .int .i64 0] (0, 0) rfl (P1.out.set false 0 0 0) (size45 _ _ _ _)) rfl ?_
  exact ⟨rfl, Rto.stay H.out.rq (K0.out.past (kp_set4 _ _ _ _ _ _) (fun k hk hl => by simp at hk; omega))⟩
theorem okL.take {L : List Dl} (h : okL L) : okL (takeL L) := by
  unfold takeL
  split
  · exact h.del _
  · exact h
theorem fin_boxR {w w1 w2 w3 : World} {B' : Option Nat} {M' : Qs} {k : Nat} (hR : Ri w rb sb tb V Rl g M) (k1 : Kp w w1 []) (hq : Rq w2 rb sb tb B' M') (hB : ∀ j, B' = some j → V.ownBlock = some j ∨ w1.heap.size ≤ j) (k2 : Kp w1 w2 [rb, sb, tb]) (hg : w.heap.size ≤ k) (hg1 : k < w1.heap.size) (k3 : Kp w2 w3 [k]) (hc : ∃ c, w2.heap[k]? = some (.cells c 45 (0, 0))) : Rto w w3 rb sb tb V.ownBlock M' := by
  have hs := k1.size
  have hl := hR.lt
  obtain ⟨c, hc⟩ := hc
  refine ⟨B', hq.keep k3 (fun j hj c' t e => ?_) (fun j e hj => ?_), fun j e => (hB j e).imp id (fun h => by omega), (k1.nil.trans k2).past k3 (fun j hj hl => ?_)⟩
  · simp only [List.mem_singleton] at hj
    subst hj
    rw [hc] at e
    simp at e
    obtain ⟨-, rfl⟩ := e
    decide
  · simp only [List.mem_singleton] at hj
    subst hj
    rcases hB _ e with q | q
    · have := hl.2.2.2 _ q
      omega
    · omega
  · simp only [List.mem_singleton] at hj
    omega
set_option maxRecDepth 100000 in
set_option maxHeartbeats 1000000 in
theorem rsend_one (h : Ri w rb sb tb V Rl g M) (t pr m1 m2 : Int) (hA : (mayT t && mayP pr) = true) (hM : mayM m2 = true) (hW : wAny M t = false) (hb : fstB M.r = true) : Calls Try.prog 29 #[.pointer (some ⟨rb, 0, none⟩), .int .i64 t, .int .i64 pr, .agg #[.int .i64 m1, .int .i64 m2]] w fun e w' => e = .returned (.tuple #[passed true (m1, m2) (fstT M.r), .int .i64 0]) ∧ Rto w w' rb sb tb V.ownBlock { M with r := takeL M.r } := by
  have k0 := (Kp.alloc w (.cells #[.int .i64 m1, .int .i64 m2] 34) []).trans (Kp.alloc _ (.cells #[.bool false, .int .i64 0, .int .i64 0, .int .i64 0] 45) [])
  have b0 := (Bm.new w (m1, m2)).keep (Kp.alloc _ (.cells #[.bool false, .int .i64 0, .int .i64 0, .int .i64 0] 45) []) (by simp)
  have p0 := hid (Bp.new w (.cells #[.int .i64 m1, .int .i64 m2] 34))
  have HA := hid (fun z => ask_any z rb t pr)
  have H := hid h
  have d0 := cell_two0 b0
  have d1 := cell_two1 b0
  have K0 := hid k0
  have B0 := hid b0
  have hAE : askE t pr = 0 := by unfold askE; rw [hA]; rfl
  rw [hAE] at HA
  have hm : ¬ m2 < 0 ∧ ¬ 31 < m2 := by simp [mayM] at hM; omega
  obtain ⟨hm0, hm1⟩ := hm
  have HWT := hid (fun (z : World) (hk : Kp w z []) => rwaiting_any (h.same hk) t)
  rw [hW] at HWT
  generalize wSend M t = A at HWT
  have C3 := hid (fun (z : World) (hk : Kp w z []) => (h.same hk).c3)
  have HT := hid (fun (z : World) (hk : Kp w z []) => rtake_any z tb _ (h.same hk).rr h.or)
  have HS := hid (fun (z z2 : World) (hz : Kp w z []) (h1 : Rt z z2 tb (takeL M.r)) (ho : okL (takeL M.r)) => (h.same hz).setr h1 ho)
  rw [hb] at HT
  generalize fstT M.r = T at HT ⊢
  clear hA hAE hM hW hb
  clear h k0 b0
  obtain ⟨s, hs⟩ : ∃ s, w.heap.size = s := ⟨_, rfl⟩
  obtain ⟨W0, hW0⟩ : ∃ W0, (w.alloc (.cells #[.int .i64 m1, .int .i64 m2] 34)).alloc (.cells #[.bool false, .int .i64 0, .int .i64 0, .int .i64 0] 45) = W0 := ⟨_, rfl⟩
  go_enter Try.func29, Try.ntmps29
  go_wp2_with fail
  simp only [hW0, hs] at K0 B0 p0 d0 d1 ⊢
  refine (HA.out _).mono ?_
  rintro e w1 ⟨rfl, hw⟩; obtain rfl := hw.symm
  go_wp2_with fail
  refine (HWT.out _ K0.out).mono ?_
  rintro e w1 ⟨rfl, hw⟩; obtain rfl := hw.symm
  have c3 := C3.out _ K0.out
  go_wp2_with fail
  refine (HT.out _ K0.out).mono ?_
  rintro e w2 ⟨rfl, hrt⟩
  have hX := HS.out W0 w2 K0.out hrt H.out.or.take
  have hnb : ∀ k, s ≤ k → k ∉ [rb, sb, tb] := fun k hk hm => by
    have := H.out.lt
    simp at hm
    omega
  have b2 := B0.out.keep hX.2 (hnb _ (by omega))
  have P1 := hid (p0.out.keep hX.2 (hnb _ (by omega)))
  have d0 := cell_two0 b2
  have d1 := cell_two1 b2
  have q0 := P1.out.c0
  have q1 := P1.out.c1
  have q2 := P1.out.c2
  have q3 := P1.out.c3
  have q4 := P1.out.fr
  have HX := hid hX
  have HLT := hid (show s + 1 < W0.heap.size from lt_of_block p0.out)
  clear hrt hX hnb b2
  go_wp2
  refine bodyPost_ret (results_cell_tmp rfl _ _ (s + 1) #[.bool true, .int .i64 m1, .int .i64 m2, .int .i64 T] (0, 0) rfl (P1.out.set true m1 m2 T) (size45 _ _ _ _)) rfl ?_
  exact ⟨rfl, fin_boxR H.out K0.out HX.out.1.rq (fun j e => .inl e) HX.out.2 (by omega) HLT.out (kp_set4 _ _ _ _ _ _) ⟨_, P1.out⟩⟩
set_option maxRecDepth 100000 in
set_option maxHeartbeats 1000000 in
theorem rsend_two (h : Ri w rb sb tb V Rl g M) (t pr m1 m2 : Int) (hA : (mayT t && mayP pr) = true) (hM : mayM m2 = true) (hW : wAny M t = false) (hb : fstB M.r = false) (hl : (Rl.length : Int) < M.n) (hn : M.n ≤ 32) : Calls Try.prog 29 #[.pointer (some ⟨rb, 0, none⟩), .int .i64 t, .int .i64 pr, .agg #[.int .i64 m1, .int .i64 m2]] w fun e w' => e = .returned (.tuple #[passed true (m1, m2) (-1), .int .i64 0]) ∧ Rto w w' rb sb tb V.ownBlock { M with L := putM M.L (m1, m2) } := by
  have k0 := (Kp.alloc w (.cells #[.int .i64 m1, .int .i64 m2] 34) []).trans (Kp.alloc _ (.cells #[.bool false, .int .i64 0, .int .i64 0, .int .i64 0] 45) [])
  have b0 := (Bm.new w (m1, m2)).keep (Kp.alloc _ (.cells #[.bool false, .int .i64 0, .int .i64 0, .int .i64 0] 45) []) (by simp)
  have p0 := hid (Bp.new w (.cells #[.int .i64 m1, .int .i64 m2] 34))
  have HA := hid (fun z => ask_any z rb t pr)
  have H := hid h
  have d0 := cell_two0 b0
  have d1 := cell_two1 b0
  have K0 := hid k0
  have B0 := hid b0
  have hAE : askE t pr = 0 := by unfold askE; rw [hA]; rfl
  rw [hAE] at HA
  have hm : ¬ m2 < 0 ∧ ¬ 31 < m2 := by simp [mayM] at hM; omega
  obtain ⟨hm0, hm1⟩ := hm
  have HWT := hid (fun (z : World) (hk : Kp w z []) => rwaiting_any (h.same hk) t)
  rw [hW] at HWT
  generalize wSend M t = A at HWT
  have C3 := hid (fun (z : World) (hk : Kp w z []) => (h.same hk).c3)
  have HT := hid (fun (z : World) (hk : Kp w z []) => rtake_any z tb _ (h.same hk).rr h.or)
  have HS := hid (fun (z z2 : World) (hz : Kp w z []) (h1 : Rt z z2 tb (takeL M.r)) (ho : okL (takeL M.r)) => (h.same hz).setr h1 ho)
  rw [hb] at HT
  generalize fstT M.r = T at HT
  have HMM := hid hM
  rw [take_no hb] at HS HT
  clear hA hAE hM hW hb
  clear h k0 b0
  obtain ⟨s, hs⟩ : ∃ s, w.heap.size = s := ⟨_, rfl⟩
  obtain ⟨W0, hW0⟩ : ∃ W0, (w.alloc (.cells #[.int .i64 m1, .int .i64 m2] 34)).alloc (.cells #[.bool false, .int .i64 0, .int .i64 0, .int .i64 0] 45) = W0 := ⟨_, rfl⟩
  go_enter Try.func29, Try.ntmps29
  go_wp2_with fail
  simp only [hW0, hs] at K0 B0 p0 d0 d1 ⊢
  refine (HA.out _).mono ?_
  rintro e w1 ⟨rfl, hw⟩; obtain rfl := hw.symm
  go_wp2_with fail
  refine (HWT.out _ K0.out).mono ?_
  rintro e w1 ⟨rfl, hw⟩; obtain rfl := hw.symm
  have c3 := C3.out _ K0.out
  go_wp2_with fail
  refine (HT.out _ K0.out).mono ?_
  rintro e w2 ⟨rfl, hrt⟩
  have hX := HS.out W0 w2 K0.out hrt H.out.or
  have hnb : ∀ k, s ≤ k → k ∉ [rb, sb, tb] := fun k hk hm => by
    have := H.out.lt
    simp at hm
    omega
  have b2 := B0.out.keep hX.2 (hnb _ (by omega))
  have P1 := hid (p0.out.keep hX.2 (hnb _ (by omega)))
  have d0 := cell_two0 b2
  have d1 := cell_two1 b2
  have e0 := hX.1.c0
  have e1 := hX.1.c1
  have e2 := hX.1.fr
  have HX := hid hX
  have HLT := hid (show s + 1 < W0.heap.size from lt_of_block p0.out)
  obtain ⟨ao, cap, hV⟩ := hX.1.ms.slice
  obtain ⟨N, hN⟩ : ∃ N, Rl.length = N := ⟨_, rfl⟩
  rw [hN] at hV hl
  have HN := hid (And.intro hN hV)
  rw [hV] at e1
  clear hrt hX hnb b2 hV hN
  have hNn : (N : Int) < M.n := hl
  generalize M.n = Nn at e0 hNn
  go_wp2_with fail
  go_region_held_law (fun W => W.cell? ⟨rb, 0, none⟩ = some (.int .i64 Nn) ∧ W.cell? ⟨rb, 1, none⟩ = some (.slice ao N cap)) (exact ⟨e0, e1⟩) (fail)
  have HXY := hid (show Ri w2.drew rb sb tb V Rl g M ∧ Kp W0 w2.drew [rb, sb, tb] from ⟨HX.out.1.same (Kp.drew w2 []), HX.out.2.trans (Kp.drew w2 _)⟩)
  have PY := hid (P1.out.keep (Kp.drew w2 []) (by simp))
  clear d0 d1 e0 e1 e2 HX P1
  go_wp2_with fail
  generalize w2.drew = y0 at HXY PY ⊢
  have d0 := cell_two0 (B0.out.keep HXY.out.2 (fun hm => by have := H.out.lt; simp at hm; omega))
  have d1 := cell_two1 (B0.out.keep HXY.out.2 (fun hm => by have := H.out.lt; simp at hm; omega))
  have e1 := HXY.out.1.c1
  rw [HN.out.2] at e1
  have HMS := hid (show ∀ z, Kp y0 z [] → Wm z (.slice ao N cap) Rl from fun z hz => by
    have h := (HXY.out.1.ms.keep hz).wm
    rw [HN.out.2] at h
    exact h)
  have HLN := hid (show Rl.length ≤ 1000 by have := HN.out.1; have := H.out.len; omega)
  have hrl : rb < y0.heap.size := HXY.out.1.lt.1
  have hsl : s < y0.heap.size := by have := HXY.out.2.size; have := HLT.out; omega
  have HRH := hid HXY.out.1.hh
  have HBX := hid (show y0.heap[s]? = some (.cells #[.int .i64 m1, .int .i64 m2] 34 (0, 0)) from B0.out.keep HXY.out.2 (fun hm => by have := H.out.lt; simp at hm; omega))
  go_wp2_with fail
  go_region_law
    (first
      | (refine step_app1 (by rfl) _ _ (by rfl) 67 (by rfl) (y0 := y0) (V := .slice ao N cap) (l := Rl) (by rfl) (by rfl) (HMS.out _ (Kp.refl _ _)) (by first | exact Kp.drew _ _ | exact (Kp.alloc _ _ _).trans (Kp.drew _ _) | exact (Kp.drew _ _).trans (Kp.alloc _ _ _)) HLN.out N HN.out.1 ?_; intro a2 c2 z2 n2 k2 kb; have N2 := hid n2; have K2 := hid k2; have KB := hid kb; have hb2 := (k2.block s hsl (by simp)).trans HBX.out; have g0 := cell_two0 hb2; have g1 := cell_two1 hb2; have cc2 : z2.cell? ⟨rb, 1, none⟩ = some (.slice ao N cap) := (cellR1 ((k2.block rb hrl (by simp)).trans HRH.out)).trans (congrArg some HN.out.2); clear n2 k2 kb hb2)
      | (refine step_app2 (by rfl) _ _ (by rfl) 70 (by rfl) (y0 := y0) (l := Rl) (m := (m1, m2)) (by rfl) (by first | exact N2.out.keep (Kp.alloc _ _ _) | exact N2.out) (by rfl) (by first | exact wm_one _ m1 m2 (m1, m2) rfl rfl | exact (wm_one (World.drew y0) m1 m2 (m1, m2) rfl rfl).keep KB.out | exact (wm_one y0 m1 m2 (m1, m2) rfl rfl).keep KB.out) (by first | exact K2.out.trans (Kp.alloc _ _ _) | exact K2.out) HLN.out (N + 1) (by rw [List.length_append, HN.out.1]; rfl) ?_; intro a3 c3 z3 n3 k3; have N3 := hid n3; have K3 := hid k3; have RB3 := (k3.block rb hrl (by simp)).trans HRH.out; have cc3 : z3.cell? ⟨rb, 1, none⟩ = some (.slice ao N cap) := (cellR1 RB3).trans (congrArg some HN.out.2); have ff3 := freeR RB3 1; clear n3 k3 RB3))
  all_goals (
    have hM := HXY.out.1.setl K3.out N3.out (ordM_put HXY.out.1.msg HMM.out) (HXY.out.1.msg.snoc HMM.out) (by rw [List.length_append, HN.out.1]; simp; omega)
    have hsn : s ∉ [rb, sb, tb] ∧ s + 1 ∉ [rb, sb, tb] := ⟨fun hm => by have := H.out.lt; simp at hm; omega, fun hm => by have := H.out.lt; simp at hm; omega⟩
    have b4 := (B0.out.keep HXY.out.2 hsn.1).keep hM.2 hsn.1
    have P4 := hid (PY.out.keep hM.2 hsn.2)
    have kq := HXY.out.2.trans hM.2
    rw [HXY.out.1.ord] at hM
    obtain ⟨z4, hz4⟩ : ∃ z4, z3.setCell ⟨rb, 1, none⟩ (.slice a3 (N + 1) c3) = z4 := ⟨_, rfl⟩
    simp only [hz4] at hM b4 P4 kq ⊢
    have HM4 := hid (And.intro hM.1 kq)
    have HVB := hid (show ∀ k, Value.ownBlock (.slice a3 (N + 1) c3) = some k → y0.heap.size ≤ k from fun k e => (owns_block N3.out e).1)
    have x0 := cell_two0 b4
    have x1 := cell_two1 b4
    have q0 := P4.out.c0
    have q1 := P4.out.c1
    have q2 := P4.out.c2
    have q3 := P4.out.c3
    have q4 := P4.out.fr
    clear hM hsn b4 kq cc3 ff3 cc2 g0 g1 d0 d1 e1 hz4 N3 K3 N2 K2 KB
    go_wp2
    refine bodyPost_ret (results_cell_tmp rfl _ _ (s + 1) #[.bool true, .int .i64 m1, .int .i64 m2, .int .i64 (-1)] (0, 0) rfl (P4.out.set true m1 m2 (-1)) (size45 _ _ _ _)) rfl ?_
    exact ⟨rfl, fin_boxR H.out K0.out HM4.out.1.rq (fun j e => .inr (by have := HVB.out j e; have := HXY.out.2.size; omega)) HM4.out.2 (by omega) HLT.out (kp_set4 _ _ _ _ _ _) ⟨_, P4.out⟩⟩)
set_option maxRecDepth 100000 in
set_option maxHeartbeats 4000000 in
theorem rsend_three (h : Ri w rb sb tb V Rl g M) (t pr m1 m2 : Int) (hA : (mayT t && mayP pr) = true) (hM : mayM m2 = true) (hW : wAny M t = false) (hb : fstB M.r = false) (hl : ¬ (Rl.length : Int) < M.n) : Calls Try.prog 29 #[.pointer (some ⟨rb, 0, none⟩), .int .i64 t, .int .i64 pr, .agg #[.int .i64 m1, .int .i64 m2]] w fun e w' => e = .returned (.tuple #[passed false (m1, m2) (-1), .int .i64 0]) ∧ Rto w w' rb sb tb V.ownBlock { M with s := putL M.s t pr, f := setF M.f t (some (m1, m2)) } := by
  have k0 := (Kp.alloc w (.cells #[.int .i64 m1, .int .i64 m2] 34) []).trans (Kp.alloc _ (.cells #[.bool false, .int .i64 0, .int .i64 0, .int .i64 0] 45) [])
  have b0 := (Bm.new w (m1, m2)).keep (Kp.alloc _ (.cells #[.bool false, .int .i64 0, .int .i64 0, .int .i64 0] 45) []) (by simp)
  have p0 := hid (Bp.new w (.cells #[.int .i64 m1, .int .i64 m2] 34))
  have HA := hid (fun z => ask_any z rb t pr)
  have H := hid h
  have d0 := cell_two0 b0
  have d1 := cell_two1 b0
  have K0 := hid k0
  have B0 := hid b0
  have hAE : askE t pr = 0 := by unfold askE; rw [hA]; rfl
  rw [hAE] at HA
  have hm : ¬ m2 < 0 ∧ ¬ 31 < m2 := by simp [mayM] at hM; omega
  obtain ⟨hm0, hm1⟩ := hm
  have HWT := hid (fun (z : World) (hk : Kp w z []) => rwaiting_any (h.same hk) t)
  rw [hW] at HWT
  generalize wSend M t = A at HWT
  have C3 := hid (fun (z : World) (hk : Kp w z []) => (h.same hk).c3)
  have HT := hid (fun (z : World) (hk : Kp w z []) => rtake_any z tb _ (h.same hk).rr h.or)
  have HS := hid (fun (z z2 : World) (hz : Kp w z []) (h1 : Rt z z2 tb (takeL M.r)) (ho : okL (takeL M.r)) => (h.same hz).setr h1 ho)
  rw [hb] at HT
  generalize fstT M.r = T at HT
  obtain ⟨tn, rfl⟩ : ∃ tn : Nat, t = tn := ⟨t.toNat, by simp [mayT] at hA; omega⟩
  have ht16 : tn < 16 := by simp [mayT] at hA; omega
  have ht16I : (tn : Int) < 16 := by omega
  have HMM := hid hM
  rw [take_no hb] at HS HT
  clear hA hAE hM hW hb
  clear h k0 b0
  obtain ⟨s, hs⟩ : ∃ s, w.heap.size = s := ⟨_, rfl⟩
  obtain ⟨W0, hW0⟩ : ∃ W0, (w.alloc (.cells #[.int .i64 m1, .int .i64 m2] 34)).alloc (.cells #[.bool false, .int .i64 0, .int .i64 0, .int .i64 0] 45) = W0 := ⟨_, rfl⟩
  go_enter Try.func29, Try.ntmps29
  go_wp2_with fail
  simp only [hW0, hs] at K0 B0 p0 d0 d1 ⊢
  refine (HA.out _).mono ?_
  rintro e w1 ⟨rfl, hw⟩; obtain rfl := hw.symm
  go_wp2_with fail
  refine (HWT.out _ K0.out).mono ?_
  rintro e w1 ⟨rfl, hw⟩; obtain rfl := hw.symm
  have c3 := C3.out _ K0.out
  go_wp2_with fail
  refine (HT.out _ K0.out).mono ?_
  rintro e w2 ⟨rfl, hrt⟩
  have hX := HS.out W0 w2 K0.out hrt H.out.or
  have hnb : ∀ k, s ≤ k → k ∉ [rb, sb, tb] := fun k hk hm => by
    have := H.out.lt
    simp at hm
    omega
  have b2 := B0.out.keep hX.2 (hnb _ (by omega))
  have P1 := hid (p0.out.keep hX.2 (hnb _ (by omega)))
  have d0 := cell_two0 b2
  have d1 := cell_two1 b2
  have e0 := hX.1.c0
  have e1 := hX.1.c1
  have e2 := hX.1.fr
  have HX := hid hX
  have HLT := hid (show s + 1 < W0.heap.size from lt_of_block p0.out)
  obtain ⟨ao, cap, hV⟩ := hX.1.ms.slice
  obtain ⟨N, hN⟩ : ∃ N, Rl.length = N := ⟨_, rfl⟩
  rw [hN] at hV hl
  have HN := hid (And.intro hN hV)
  rw [hV] at e1
  clear hrt hX hnb b2 hV hN
  have hNn : ¬ (N : Int) < M.n := by omega
  generalize M.n = Nn at e0 hNn
  go_wp2_with fail
  go_region_held_law (fun W => W.cell? ⟨rb, 0, none⟩ = some (.int .i64 Nn) ∧ W.cell? ⟨rb, 1, none⟩ = some (.slice ao N cap)) (exact ⟨e0, e1⟩) (fail)
  have HXY := hid (show Ri w2.drew rb sb tb V Rl g M ∧ Kp W0 w2.drew [rb, sb, tb] from ⟨HX.out.1.same (Kp.drew w2 []), HX.out.2.trans (Kp.drew w2 _)⟩)
  have PY := hid (P1.out.keep (Kp.drew w2 []) (by simp))
  clear d0 d1 e0 e1 e2 HX P1
  generalize w2.drew = y0 at HXY PY ⊢
  have e2 := HXY.out.1.c2
  have HPT := hid (rput_any y0 sb _ tn pr HXY.out.1.rs H.out.os)
  go_wp2_with fail
  refine HPT.out.mono ?_
  rintro e y1 ⟨rfl, h1⟩
  have h2 := HXY.out.1.sets (f' := setF M.f tn (some (g tn))) h1 (H.out.os.put _ _) (fun u hu hp => put_tie HXY.out.1.tie hu hp)
  obtain ⟨mc0, mc1⟩ := h2.1.mc ht16
  have fr := h2.1.fr
  have hsn : s ∉ [rb, sb, tb] ∧ s + 1 ∉ [rb, sb, tb] := ⟨fun hm => by have := H.out.lt; simp at hm; omega, fun hm => by have := H.out.lt; simp at hm; omega⟩
  have b1 := (B0.out.keep HXY.out.2 hsn.1).keep h2.2 hsn.1
  have x0 := cell_two0 b1
  have x1 := cell_two1 b1
  have HS2 := hid h2
  have HSN := hid hsn
  have B1 := hid b1
  clear h1 h2 b1 hsn e2
  go_wp2_with fail
  go_region
  have hM := (HS2.out.1.same (Kp.drew y1 [])).setm ht16 (m1, m2) rfl
  have b4 := (B1.out.keep (Kp.drew y1 []) (by simp)).keep hM.2 HSN.out.1
  have P4 := hid (((PY.out.keep HS2.out.2 HSN.out.2).keep (Kp.drew y1 []) (by simp)).keep hM.2 HSN.out.2)
  have kq := ((HXY.out.2.trans HS2.out.2).trans (Kp.drew y1 _)).trans hM.2
  obtain ⟨z4, hz4⟩ : ∃ z4, (y1.drew.setCell ⟨rb, 4 + tn * 2, none⟩ (.int .i64 m1)).setCell ⟨rb, 4 + tn * 2 + 1, none⟩ (.int .i64 m2) = z4 := ⟨_, rfl⟩
  have hz5 : ((y1.setCell ⟨rb, 4 + tn * 2, none⟩ (.int .i64 m1)).setCell ⟨rb, 4 + tn * 2 + 1, none⟩ (.int .i64 m2)).drew = z4 := hz4
  simp only [hz4] at hM b4 P4 kq
  simp only [hz5]
  have HM4 := hid (And.intro hM.1 kq)
  have g0 := cell_two0 b4
  have g1 := cell_two1 b4
  have q0 := P4.out.c0
  have q1 := P4.out.c1
  have q2 := P4.out.c2
  have q3 := P4.out.c3
  have q4 := P4.out.fr
  clear hM b4 kq hz4 hz5 x0 x1 mc0 mc1 fr
  go_wp2
  refine bodyPost_ret (results_cell_tmp rfl _ _ (s + 1) #[.bool false, .int .i64 m1, .int .i64 m2, .int .i64 (-1)] (0, 0) rfl (P4.out.set false m1 m2 (-1)) (size45 _ _ _ _)) rfl ?_
  exact ⟨rfl, fin_boxR H.out K0.out HM4.out.1.rq (fun j e => .inl e) HM4.out.2 (by omega) HLT.out (kp_set4 _ _ _ _ _ _) ⟨_, P4.out⟩⟩
end Go.Proofs.Ytllkopekfanfaaa
