/- The reference: Push, Pop. -/
import Derived.BigQuiet
import Derived.Deep.RegionHeldLaw
import Derived.Deep.RegionWith
import Derived.Deep.RegionLaw
import Derived.Test.YtjggpchjfglgcaaRm
namespace Go.Proofs.Ytjggpchjfglgcaa
open Go.RowKit Go.Shelf Go.Lib
attribute [local go_sem] Oper.semAt_some

theorem Wm.keep {w w' : World} {v : Value} {m : Ml} (h : Wm w v m) (hk : Kp w w' []) : Wm w' v m := by
  obtain ⟨ao, cap, rfl, h1, h2⟩ := h
  refine ⟨ao, cap, rfl, fun ad had j u hu => ?_, h2⟩
  have := h1 ad had j u hu
  obtain ⟨b, o, fz⟩ := ad
  have hlt : ((⟨b, o, fz⟩ : Addr).add j).block < w.heap.size := Decidable.byContradiction fun hn => by
    have h0 : w.heap[((⟨b, o, fz⟩ : Addr).add j).block]? = none := Array.getElem?_eq_none (by omega)
    simp [World.cell?, h0] at this
  rw [Below.cell (Kp.below hk) hlt]
  exact this
theorem step_joinM {w : World} {ops : Array Oper} {o : Oper} {a : Act} {K : Act → World → Prop} {Q : Exit → Act → World → Prop} {E : Prop} (hgd : o.guard = none) (s x : Operand) (ho : o.op = .call { callee := .builtin .append, args := #[s, x], argTypes := #[39, 39] }) (D : Nat) (hD : o.dst = some D)
    (base : Nat) (V VX : Value) (l m : Ml) (hs : a.eval s = V) (hV : Mr w base V l) (hx : a.eval x = VX) (hX : Wm w VX m) (hl : l.length ≤ 1000000) (hm : m.length ≤ 1000000) (hb : base ≤ w.heap.size)
    (h : ∀ v' w', Mr w' base v' (l ++ m) → w.grownBy w' V.ownBlock → K (a.put (some D) v') w') :
    if Region.wanted o (yielded ops a.tmps) = true then Oper.wp Try.prog o a w K Q else E := by
  have hw : Region.wanted o (yielded ops a.tmps) = true := by simp [Region.wanted, hgd]
  rw [if_pos hw]
  rw [← hD] at h
  exact wp_joinM s x ho base V VX l m hs hV hx hX hl hm hb h
theorem step_app1 {w y0 : World} {ops : Array Oper} {o : Oper} {a : Act} {K : Act → World → Prop} {Q : Exit → Act → World → Prop} {E : Prop} (hgd : o.guard = none) (s x : Operand) (ho : o.op = .call { callee := .builtin .append, args := #[s, x], argTypes := #[39, 39] }) (D : Nat) (hD : o.dst = some D)
    {V : Value} {l : Ml} (hs : a.eval s = .slice none 0 0) (hx : a.eval x = V) (hX : Wm y0 V l) (hk : Kp y0 w []) (hl : l.length ≤ 1000) (N : Nat) (hN : l.length = N)
    (h : ∀ a2 c2 z, Mr z y0.heap.size (.slice a2 N c2) l → Kp y0 z [] → Kp w z [] → K (a.put (some D) (.slice a2 N c2)) z) :
    if Region.wanted o (yielded ops a.tmps) = true then Oper.wp Try.prog o a w K Q else E := by
  refine step_joinM hgd s x ho D hD y0.heap.size _ V [] l hs (Mr.nil _ _) hx (hX.keep hk) (by simp) (by omega) hk.size ?_
  intro v' w' hM hG
  rw [List.nil_append] at hM
  obtain ⟨a2, c2, rfl⟩ := hM.slice
  have kb : Kp w w' [] := Kp.ofGrown (rows := []) hG (by intro g hg; cases hg)
  rw [hN] at hM ⊢
  exact h a2 c2 w' hM (hk.trans kb) kb
theorem step_app2 {w y0 : World} {ops : Array Oper} {o : Oper} {a : Act} {K : Act → World → Prop} {Q : Exit → Act → World → Prop} {E : Prop} (hgd : o.guard = none) (s x : Operand) (ho : o.op = .call { callee := .builtin .append, args := #[s, x], argTypes := #[39, 39] }) (D : Nat) (hD : o.dst = some D)
    {V VX : Value} {l : Ml} {m : Int × Int} (hs : a.eval s = V) (hV : Mr w y0.heap.size V l) (hx : a.eval x = VX) (hX : Wm w VX [m]) (hk : Kp y0 w []) (hl : l.length ≤ 1000) (N : Nat) (hN : (l ++ [m]).length = N)
    (h : ∀ a2 c2 z, Mr z y0.heap.size (.slice a2 N c2) (l ++ [m]) → Kp y0 z [] → K (a.put (some D) (.slice a2 N c2)) z) :
    if Region.wanted o (yielded ops a.tmps) = true then Oper.wp Try.prog o a w K Q else E := by
  refine step_joinM hgd s x ho D hD y0.heap.size V VX l [m] hs hV hx hX (by omega) (by simp) hk.size ?_
  intro v' w' hM hG
  obtain ⟨a2, c2, rfl⟩ := hM.slice
  have kb := grown_mr hV hG hk (Nat.le_refl _)
  rw [hN] at hM ⊢
  exact h a2 c2 w' hM kb
variable {w w' : World} {rb : Nat} {V : Value} {M : Cn}
theorem set_both {w : World} {b t : Nat} {a0 a1 u v : Value} (h : w.heap[b]? = some (.cells #[a0, a1] t (0, 0))) : ((w.setCell ⟨b, 0, none⟩ u).setCell ⟨b, 1, none⟩ v).heap[b]? = some (.cells #[u, v] t (0, 0)) := by
  rw [heap_setCell_same _ b 1 _ t _ (heap_setCell_same w b 0 _ t _ h)]
  rfl
theorem kp_both (w : World) (b : Nat) (u v : Value) : Kp w ((w.setCell ⟨b, 0, none⟩ u).setCell ⟨b, 1, none⟩ v) [b] := (Kp.setCell w ⟨b, 0, none⟩ u).trans (Kp.setCell _ ⟨b, 1, none⟩ v)
theorem size30 (a b : Value) : (Try.prog.info? 30).map (·.size) = some (#[a, b] : Array Value).size := by kernel_rfl
theorem results_cell_row2 {P : Program} {fn : Func} {p u : Tmp} {ty : TypeId} (h : fn.results = #[.cell p ty, .tmp u]) (tmps : Array Value) (w : World) (g : Nat) (t : TypeId) (cs : Array Value) (fr : Nat × Nat) (d : TypeDesc)
    (hp : tmps.getD p undef = .pointer (some ⟨g, 0, none⟩)) (hg : w.heap[g]? = some (.cells cs t fr))
    (hu : P.underlying ty = some d) (hd : (match d with | .struct _ | .array _ _ => true | _ => false) = true) (hi : (P.info? ty).map (·.size) = some cs.size) :
    (results fn tmps).run P w = .ok (.tuple #[.agg cs, tmps.getD u undef]) w := by
  have hp' : tmps[p]?.getD undef = .pointer (some ⟨g, 0, none⟩) := by simpa using hp
  simp [results, h, hp', asAddr, run_loadVar_row w g t ty cs fr d hg hu hd hi]
theorem Wm.front {w : World} {ao : Option Addr} {N cap k : Nat} {l : Ml} (h : Wm w (.slice ao N cap) l) (hk : k ≤ N) (h0 : l ≠ []) : Wm w (.slice ao k cap) (l.take k) := by
  obtain ⟨ao', cap', e, h1, h2⟩ := h
  simp only [Value.slice.injEq] at e
  obtain ⟨rfl, rfl, rfl⟩ := e
  refine ⟨ao, cap, by rw [List.length_take, Nat.min_eq_left hk], fun ad had j u hu => h1 ad had j u ?_, fun e => absurd (h2 e).1 h0⟩
  have e : mcells l = mcells (l.take k) ++ mcells (l.drop k) := by rw [← mcells_append, List.take_append_drop]
  have hj := (List.getElem?_eq_some_iff.1 hu).1
  rw [e, List.getElem?_append_left hj]
  exact hu
theorem pushM_bad {x : Int} (h : mayPr x = false) (y : Int) : pushM M x y = M ∧ pushE M x = 2 := by unfold pushM pushE; rw [h]; exact ⟨rfl, rfl⟩
theorem pushM_full {x : Int} (h : mayPr x = true) (hl : M.L.length = 8) (y : Int) : pushM M x y = M ∧ pushE M x = 5 := by unfold pushM pushE; rw [h]; simp [hl]
theorem pushM_ok {x : Int} (h : mayPr x = true) (hl : ¬ M.L.length = 8) (y : Int) : pushM M x y = { M with L := M.L ++ [(x, y)] } ∧ pushE M x = 0 := by unfold pushM pushE; rw [h]; simp [hl]
set_option maxRecDepth 100000 in
set_option maxHeartbeats 4000000 in
theorem rpush_bad (h : Rq w rb M) (x y : Int) (hp : mayPr x = false) : Calls Try.prog 28 #[.pointer (some ⟨rb, 0, none⟩), .agg #[.int .i64 x, .int .i64 y]] w fun e w' => e = .returned (.int .i64 (pushE M x)) ∧ Rto w w' rb (pushM M x y) := by
  rw [(pushM_bad hp y).1, (pushM_bad (M := M) hp y).2]
  have H := hid h
  have hb := heap_alloc_new w (.cells #[.int .i64 x, .int .i64 y] 30)
  have d0 := cell_two0 hb
  have d1 := cell_two1 hb
  have hx : x < 0 ∨ (¬ x < 0 ∧ 32 ≤ x) := by simp [mayPr] at hp; omega
  clear h hp hb
  rcases hx with hx | ⟨hx, hx2⟩
  · go_enter Try.func28, Try.ntmps28
    go_wp2
    go_ret
    exact ⟨rfl, H.out.same (Kp.alloc _ _ _), Kp.alloc _ _ _⟩
  · go_enter Try.func28, Try.ntmps28
    go_wp2
    go_ret
    exact ⟨rfl, H.out.same (Kp.alloc _ _ _), Kp.alloc _ _ _⟩
set_option maxRecDepth 100000 in
set_option maxHeartbeats 4000000 in
theorem rpush_full (h : Rq w rb M) (x y : Int) (hp : mayPr x = true) (hl : M.L.length = 8) : Calls Try.prog 28 #[.pointer (some ⟨rb, 0, none⟩), .agg #[.int .i64 x, .int .i64 y]] w fun e w' => e = .returned (.int .i64 (pushE M x)) ∧ Rto w w' rb (pushM M x y) := by
  rw [(pushM_full hp hl y).1, (pushM_full hp hl y).2]
  have H := hid h
  have hb := heap_alloc_new w (.cells #[.int .i64 x, .int .i64 y] 30)
  have d0 := cell_two0 hb
  have d1 := cell_two1 hb
  have hx : ¬ x < 0 ∧ ¬ 32 ≤ x := by simp [mayPr] at hp; omega
  obtain ⟨hx1, hx2⟩ := hx
  obtain ⟨V, h⟩ := h
  have c4 := (h.same (Kp.alloc w (.cells #[.int .i64 x, .int .i64 y] 30) [])).c4
  obtain ⟨ao, cap, rfl⟩ := h.ms.slice
  rw [hl] at c4
  clear h hp hb hl
  go_enter Try.func28, Try.ntmps28
  go_wp2
  go_ret
  exact ⟨rfl, H.out.same (Kp.alloc _ _ _), Kp.alloc _ _ _⟩
set_option maxRecDepth 100000 in
set_option maxHeartbeats 4000000 in
theorem rpush_ok (h : Rq w rb M) (x y : Int) (hp : mayPr x = true) (hl : M.L.length < 8) : Calls Try.prog 28 #[.pointer (some ⟨rb, 0, none⟩), .agg #[.int .i64 x, .int .i64 y]] w fun e w' => e = .returned (.int .i64 (pushE M x)) ∧ Rto w w' rb (pushM M x y) := by
  rw [(pushM_ok hp (by omega) y).1, (pushM_ok hp (by omega) y).2]
  have hb := heap_alloc_new w (.cells #[.int .i64 x, .int .i64 y] 30)
  obtain ⟨s, hs⟩ : ∃ s, w.heap.size = s := ⟨_, rfl⟩
  rw [hs] at hb
  have K0 := hid (Kp.alloc w (.cells #[.int .i64 x, .int .i64 y] 30) [])
  obtain ⟨V, h⟩ := h
  have H0 := hid (h.same K0.out)
  have hsl : s < (w.alloc (.cells #[.int .i64 x, .int .i64 y] 30)).heap.size := by simp; omega
  obtain ⟨y0, hy0⟩ : ∃ y0, w.alloc (.cells #[.int .i64 x, .int .i64 y] 30) = y0 := ⟨_, rfl⟩
  rw [hy0] at hb K0 H0 hsl
  have HY := hid hy0
  have HBX := hid hb
  have d0 := cell_two0 hb
  have d1 := cell_two1 hb
  have hx : ¬ x < 0 ∧ ¬ 32 ≤ x := by simp [mayPr] at hp; omega
  obtain ⟨hx1, hx2⟩ := hx
  have e4 := H0.out.c4
  have HMS := hid (fun (z : World) (hk : Kp y0 z []) => (H0.out.same hk).ms.wm)
  obtain ⟨ao, cap, hV⟩ := h.ms.slice
  subst hV
  obtain ⟨N, hN⟩ : ∃ N, M.L.length = N := ⟨_, rfl⟩
  rw [hN] at e4 HMS hl H0
  have hN8 : ¬ (N : Int) = 8 := by omega
  have hq8 : ((N : Int) == 8) = false := by simp; omega
  have HLN := hid (show M.L.length ≤ 1000 by omega)
  have HN := hid hN
  have hrl : rb < y0.heap.size := H0.out.lt
  have HRH := hid H0.out.hh
  have HW0 := hid (show s = w.heap.size from hs.symm)
  have ff := H0.out.fr 4
  clear h hp hb hN
  go_enter Try.func28, Try.ntmps28
  go_wp2_with fail
  try simp only [hy0, hs]
  go_wp2_with fail
  go_region_law
    (first
      | (refine step_app1 (by rfl) _ _ (by rfl) 26 (by rfl) (y0 := y0) (V := .slice ao N cap) (l := M.L) (by rfl) (by rfl) (HMS.out _ (Kp.refl _ _)) (by first | exact Kp.drew _ _ | exact (Kp.alloc _ _ _).trans (Kp.drew _ _) | exact (Kp.drew _ _).trans (Kp.alloc _ _ _)) HLN.out N HN.out ?_; intro a2 c2 z2 n2 k2 kb; have N2 := hid n2; have K2 := hid k2; have KB := hid kb; have hb2 := (k2.block s hsl (by simp)).trans HBX.out; have g0 := cell_two0 hb2; have g1 := cell_two1 hb2; have cc2 := (cellR ((k2.block rb hrl (by simp)).trans HRH.out)).2.2.2.2.1; clear n2 k2 kb hb2)
      | (refine step_app2 (by rfl) _ _ (by rfl) 29 (by rfl) (y0 := y0) (l := M.L) (m := (x, y)) (by rfl) (by first | exact N2.out.keep (Kp.alloc _ _ _) | exact N2.out) (by rfl) (by first | exact wm_one _ x y (x, y) rfl rfl | exact (wm_one (World.drew y0) x y (x, y) rfl rfl).keep KB.out | exact (wm_one y0 x y (x, y) rfl rfl).keep KB.out) (by first | exact K2.out.trans (Kp.alloc _ _ _) | exact K2.out) HLN.out (N + 1) (by rw [List.length_append, HN.out]; rfl) ?_; intro a3 c3 z3 n3 k3; have N3 := hid n3; have K3 := hid k3; have RB3 := (k3.block rb hrl (by simp)).trans HRH.out; have cc3 := (cellR RB3).2.2.2.2.1; have ff3 := (cellR RB3).2.2.2.2.2 4; clear n3 k3 RB3))
  all_goals (
    have hM := H0.out.row K3.out N3.out
    have HM := hid hM
    have HK := hid ((K0.out.trans K3.out).nil.trans (Kp.setCell z3 ⟨rb, 4, none⟩ (.slice a3 (N + 1) c3)))
    clear hM cc3 ff3 cc2 g0 g1 d0 d1 e4 N3 K3 N2 K2 KB
    go_wp2
    go_ret
    exact ⟨rfl, ⟨_, HM.out⟩, HK.out⟩)
theorem rpush_any (h : Rq w rb M) (hl : M.L.length ≤ 8) (x y : Int) : Calls Try.prog 28 #[.pointer (some ⟨rb, 0, none⟩), .agg #[.int .i64 x, .int .i64 y]] w fun e w' => e = .returned (.int .i64 (pushE M x)) ∧ Rto w w' rb (pushM M x y) := by
  cases hp : mayPr x with
  | false => exact rpush_bad h x y hp
  | true =>
    by_cases h8 : M.L.length = 8
    · exact rpush_full h x y hp h8
    · exact rpush_ok h x y hp (by omega)
set_option maxRecDepth 100000 in
theorem rpop_none (h : Rq w rb M) (h0 : M.L = []) : Calls Try.prog 29 #[.pointer (some ⟨rb, 0, none⟩)] w fun e w' => e = .returned (.tuple #[.agg #[.int .i64 0, .int .i64 0], .int .i64 6]) ∧ Rto w w' rb M := by
  have H := hid h
  have K0 := hid (Kp.alloc w (.cells #[.int .i64 0, .int .i64 0] 30) [])
  have hb := heap_alloc_new w (.cells #[.int .i64 0, .int .i64 0] 30)
  have HB := hid hb
  have d0 := cell_two0 hb
  have d1 := cell_two1 hb
  have d2 := free_two hb
  obtain ⟨V, h⟩ := h
  have e4 := (h.same K0.out).c4
  have hm := h.ms
  rw [h0] at hm
  obtain ⟨ao, cap, rfl⟩ := hm.slice
  simp only [List.length_nil] at e4
  clear h hb hm h0
  obtain ⟨s, hs⟩ : ∃ s, w.heap.size = s := ⟨_, rfl⟩
  obtain ⟨W0, hW0⟩ : ∃ W0, w.alloc (.cells #[.int .i64 0, .int .i64 0] 30) = W0 := ⟨_, rfl⟩
  simp only [hW0, hs] at K0 HB d0 d1 d2 e4
  go_enter Try.func29, Try.ntmps29
  go_wp2
  refine bodyPost_ret (results_cell_row2 rfl _ _ s 30 #[.int .i64 0, .int .i64 0] (0, 0) _ rfl (set_both HB.out) Try.underlying30 rfl (size30 _ _)) rfl ?_
  exact ⟨rfl, H.out.same (K0.out.past (kp_both _ _ _ _) (fun k hk hl => by simp at hk; omega)), (K0.out.past (kp_both _ _ _ _) (fun k hk hl => by simp at hk; omega)).nil⟩
set_option maxRecDepth 100000 in
set_option maxHeartbeats 4000000 in
theorem rpop_some (h : Rq w rb M) (hl : M.L.length ≤ 8) (k : Nat) (hk : M.L.length = k + 1) (x y : Int) (hx : M.L[k]? = some (x, y)) : Calls Try.prog 29 #[.pointer (some ⟨rb, 0, none⟩)] w fun e w' => e = .returned (.tuple #[.agg #[.int .i64 x, .int .i64 y], .int .i64 0]) ∧ Rto w w' rb (popM M) := by
  have hpM : popM M = { M with L := M.L.take k } := by unfold popM; rw [List.dropLast_eq_take, hk]; rfl
  rw [hpM]
  have hne : M.L ≠ [] := by intro e; rw [e] at hk; simp at hk
  have hb := heap_alloc_new w (.cells #[.int .i64 0, .int .i64 0] 30)
  obtain ⟨s, hs⟩ : ∃ s, w.heap.size = s := ⟨_, rfl⟩
  rw [hs] at hb
  have K0 := hid (Kp.alloc w (.cells #[.int .i64 0, .int .i64 0] 30) [])
  have HW0 := hid hs
  obtain ⟨V, h⟩ := h
  have H0 := hid (h.same K0.out)
  have hsl : s < (w.alloc (.cells #[.int .i64 0, .int .i64 0] 30)).heap.size := by simp; omega
  obtain ⟨y0, hy0⟩ : ∃ y0, w.alloc (.cells #[.int .i64 0, .int .i64 0] 30) = y0 := ⟨_, rfl⟩
  rw [hy0] at hb K0 H0 hsl
  have e4 := H0.out.c4
  obtain ⟨ao, cap, rfl⟩ := h.ms.slice
  obtain ⟨N, hN⟩ : ∃ N, M.L.length = N := ⟨_, rfl⟩
  rw [hN] at e4 H0 hk hl
  have hle := (show N ≤ cap from by have := h.ms.le.2; omega)
  obtain ⟨g, rfl, q0, q1⟩ := H0.out.ms.at hx
  have HMS := hid (fun (z : World) (hz : Kp y0 z []) => (((H0.out.same hz).ms.wm).front (k := k) (by omega) hne))
  have hN0 : ¬ (N : Int) = 0 := by omega
  have hq0 : ((N : Int) == 0) = false := by simp; omega
  have hwr : IntKind.i64.wrap ((N : Int) - 1) = (k : Int) := by
    rw [show (N : Int) - 1 = (k : Int) by omega]
    exact IntWalk.i64_in _ ⟨by omega, by omega⟩
  have hkN : k < N := by omega
  have hkNI : (k : Int) < N := by omega
  have hkc : k ≤ cap := by omega
  have hkcI : (k : Int) ≤ cap := by omega
  have hkl := hid (show (M.L.take k).length = k by rw [List.length_take]; omega)
  have hkl2 := hid (show k ≤ 1000 by omega)
  have hrl : rb < y0.heap.size := H0.out.lt
  have HRH := hid H0.out.hh
  have ff := H0.out.fr 4
  have HB := hid hb
  have SH := hid (fun (z : World) (hz : Kp y0 z []) => And.intro ((H0.out.same hz).c4) (And.intro (hz.cell q0 (by simp)) (hz.cell q1 (by simp))))
  clear h hb hN hk hx hl hle hne hpM
  go_enter Try.func29, Try.ntmps29
  go_wp2_with fail
  try simp only [hy0, hs]
  go_wp2_with fail
  have KA := hid (Kp.alloc y0 (.cells #[.int .i64 0, .int .i64 0] 30) [])
  have f4 := (SH.out _ KA.out).1
  have f5 := (SH.out _ KA.out).2.1
  have f6 := (SH.out _ KA.out).2.2
  have q0 := (SH.out _ (Kp.refl _ _)).2.1
  have q1 := (SH.out _ (Kp.refl _ _)).2.2
  have HN9 := hid (heap_alloc_new y0 (.cells #[.int .i64 0, .int .i64 0] 30))
  have g0 := cell_two0 HN9.out
  have g1 := cell_two1 HN9.out
  have g2 := free_two HN9.out
  go_region
  have K1 := hid (show Kp y0 (y0.alloc (.cells #[.int .i64 x, .int .i64 y] 30)).drew [] from (Kp.alloc _ _ _).trans (Kp.drew _ _))
  have B1 := hid (show (y0.alloc (.cells #[.int .i64 x, .int .i64 y] 30)).drew.heap[y0.heap.size]? = some (.cells #[.int .i64 x, .int .i64 y] 30 (0, 0)) from heap_alloc_new y0 _)
  clear f4 f5 f6 q0 q1 g0 g1 g2 HN9 KA e4 ff
  generalize (y0.alloc (.cells #[.int .i64 x, .int .i64 y] 30)).drew = W1 at K1 B1 ⊢
  obtain ⟨s1, hs1⟩ : ∃ s1, y0.heap.size = s1 := ⟨_, rfl⟩
  rw [hs1] at B1
  simp only [hs1]
  have hss := hid (show s < s1 by omega)
  have hs1l := lt_of_block B1.out
  have hrl1 : rb < W1.heap.size := by have := K1.out.size; omega
  have H1 := hid (H0.out.same K1.out)
  have HM1 := hid (HMS.out _ K1.out)
  have e4 := H1.out.c4
  have ff := H1.out.fr 4
  have HRH1 := hid H1.out.hh
  clear SH HRH hs1
  go_wp2_with fail
  go_region_law
    (refine step_app1 (by rfl) _ _ (by rfl) 39 (by rfl) (y0 := W1) (V := .slice (some ⟨g, 0, none⟩) k cap) (l := M.L.take k) (by rfl) (by rfl) HM1.out (Kp.drew _ _) (by rw [hkl.out]; exact hkl2.out) k hkl.out ?_; intro a2 c2 z2 n2 k2 kb; have N2 := hid n2; have K2 := hid k2; have RB2 := (k2.block rb hrl1 (by simp)).trans HRH1.out; have cc2 := (cellR RB2).2.2.2.2.1; have ff2 := (cellR RB2).2.2.2.2.2 4; clear n2 k2 kb RB2)
  all_goals (
    have hM := H1.out.row K2.out N2.out
    have NB := hid (show ∀ j, Value.ownBlock (.slice a2 k c2) = some j → s < j from fun j e => by have := (owns_block N2.out e).1; have := hss.out; omega)
    have := hss.out
    have hne : rb ≠ s1 ∧ rb ≠ s := by
      have h1 := H1.out.hh
      have h2 := H0.out.hh
      refine ⟨?_, ?_⟩
      · rintro rfl
        rw [B1.out] at h1
        simp at h1
      · rintro rfl
        rw [HB.out] at h2
        simp at h2
    have kz := Kp.setCell z2 ⟨rb, 4, none⟩ (.slice a2 k c2)
    have hz2 := K2.out.size
    have b1 := (kz.block s1 (by omega) (by simp; exact fun e => hne.1 e.symm)).trans ((K2.out.block s1 hs1l (by simp)).trans B1.out)
    have b0 := (kz.block s (by omega) (by simp; exact fun e => hne.2 e.symm)).trans ((K2.out.block s (by omega) (by simp)).trans ((K1.out.block s hsl (by simp)).trans HB.out))
    have HM := hid hM
    have HK := hid (((K0.out.trans K1.out).trans K2.out).nil.trans kz)
    have u0 := cell_two0 b1
    have u1 := cell_two1 b1
    have t0 := cell_two0 b0
    have t1 := cell_two1 b0
    have t2 := free_two b0
    have HB0 := hid b0
    obtain ⟨z4, hz4⟩ : ∃ z4, z2.setCell ⟨rb, 4, none⟩ (.slice a2 k c2) = z4 := ⟨_, rfl⟩
    simp only [hz4] at HM HK u0 u1 t0 t1 t2 HB0 ⊢
    have hne2 := hid hne.2
    clear hM cc2 ff2 e4 ff N2 K2 kz b1 b0 hne hz4
    try clear d0 d1
    go_wp2
    refine bodyPost_ret (results_cell_row2 rfl _ _ s 30 #[.int .i64 x, .int .i64 y] (0, 0) _ rfl (set_both HB0.out) Try.underlying30 rfl (size30 _ _)) rfl ?_
    refine ⟨rfl, ⟨_, HM.out.keep2 (kp_both z4 s _ _) (by simp; exact hne2.out) (fun j e hj => by simp at hj; have := NB.out j e; omega)⟩, HK.out.past (kp_both z4 s _ _) (fun j hj hl => by simp at hj; have := HW0.out; omega)⟩
    done)
theorem rpop_any (h : Rq w rb M) (hl : M.L.length ≤ 8) : Calls Try.prog 29 #[.pointer (some ⟨rb, 0, none⟩)] w fun e w' => e = .returned (.tuple #[.agg #[.int .i64 (popV M).1, .int .i64 (popV M).2], .int .i64 (popE M)]) ∧ Rto w w' rb (popM M) := by
  by_cases h0 : M.L = []
  · have e1 : popV M = (0, 0) := by unfold popV; rw [h0]; rfl
    have e2 : popE M = 6 := by unfold popE; rw [if_pos h0]
    have e3 : popM M = M := by
      obtain ⟨a, e, o, u, L⟩ := M
      simp at h0
      subst h0
      rfl
    rw [e1, e2, e3]
    exact rpop_none h h0
  · obtain ⟨k, hk⟩ : ∃ k, M.L.length = k + 1 := ⟨M.L.length - 1, by have := List.length_pos_iff.2 h0; omega⟩
    have e2 : popE M = 0 := by unfold popE; rw [if_neg h0]
    have hx : M.L[k]? = some (popV M) := by
      unfold popV
      rw [List.getLast?_eq_getElem?, hk, Nat.add_sub_cancel, List.getElem?_eq_getElem (by omega)]
      rfl
    rw [e2]
    exact rpop_some h hl k hk _ _ hx
end Go.Proofs.Ytjggpchjfglgcaa
