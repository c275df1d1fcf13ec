/- The reference: New, High, over, Start, Stop, Use. -/
import Derived.Test.YtojcmnanapeooaaSame
namespace Go.Proofs.Ytojcmnanapeooaa
open Go.RowKit Go.Shelf
open Go.Lib hiding intOf

/-- What comes back comes back at one time, in the program and by the document. -/
def AtSame : Prop := ∀ a p l : Int, atT a p l = if a + p < l then l else a + p
theorem at_same : AtSame := fun a p l => by
  unfold atT
  split <;> omega
set_option maxRecDepth 100000 in
theorem rnew_ok (w : World) (b p m : Int) (h : mayN b p m = true) : Calls Try.prog 10 #[.int .i64 b, .int .i64 p, .int .i64 m] w fun e w' => e = .returned (.pointer (some ⟨w.heap.size, 0, none⟩)) ∧ Rr w' w.heap.size (.slice none 0 0) (newS b p m) ∧ Kp w w' [] := by
  have ok := hid (ok_new h)
  unfold mayN at h
  simp only [Bool.and_eq_true, decide_eq_true_eq] at h
  obtain ⟨⟨⟨⟨h1, h2⟩, h3⟩, h4⟩, h5⟩ := h
  have d1 : decide (b < 1) = false := decide_eq_false (by omega)
  have d2 : decide (p < b) = false := decide_eq_false (by omega)
  have d3 : decide (1099511627776 < p) = false := decide_eq_false (by omega)
  have d4 : decide (m < 1) = false := decide_eq_false (by omega)
  have d5 : decide (16 < m) = false := decide_eq_false (by omega)
  clear h1 h2 h3 h4 h5
  go_enter Try.func10, Try.ntmps10
  go_wp2
  go_ret
  exact ⟨rfl, ⟨heap_alloc_new w _, Dr.nil _ _, ok.out⟩, Kp.alloc _ _ _⟩
set_option maxRecDepth 100000 in
theorem rnew_no (w : World) (b p m : Int) (h : mayN b p m = false) : Calls Try.prog 10 #[.int .i64 b, .int .i64 p, .int .i64 m] w fun e w' => e = .returned (.pointer none) ∧ w' = w := by
  by_cases h1 : b < 1
  · clear h
    go_enter Try.func10, Try.ntmps10
    go_wp2
    go_ret
    exact ⟨rfl, rfl⟩
  · by_cases h2 : p < b
    · clear h
      go_enter Try.func10, Try.ntmps10
      go_wp2
      go_ret
      exact ⟨rfl, rfl⟩
    · by_cases h3 : 1099511627776 < p
      · clear h
        go_enter Try.func10, Try.ntmps10
        go_wp2
        go_ret
        exact ⟨rfl, rfl⟩
      · by_cases h4 : m < 1
        · clear h
          go_enter Try.func10, Try.ntmps10
          go_wp2
          go_ret
          exact ⟨rfl, rfl⟩
        · have h5 : 16 < m := by
            by_cases h5 : 16 < m
            · exact h5
            · unfold mayN at h
              rw [decide_eq_true (show 1 ≤ b by omega), decide_eq_true (show b ≤ p by omega), decide_eq_true (show p ≤ 1099511627776 by omega), decide_eq_true (show 1 ≤ m by omega), decide_eq_true (show m ≤ 16 by omega)] at h
              cases h
          clear h
          go_enter Try.func10, Try.ntmps10
          go_wp2
          go_ret
          exact ⟨rfl, rfl⟩
set_option maxRecDepth 100000 in
set_option maxHeartbeats 1000000 in
theorem rhigh_any (w : World) (sb : Nat) (v : Value) (s : Sv) (h : Rr w sb v s) : Calls Try.prog 29 #[.pointer (some ⟨sb, 0, none⟩)] w fun e w' => e = .returned (.bool (highB s)) ∧ ∃ k, w' = w.drewN k := by
  have hm := h.ok.m2
  have hm1 := h.ok.m1
  have hln := h.ok.ln
  obtain ⟨ao, cap, rfl⟩ := h.row.slice
  obtain ⟨bu, p, m, l, a, si, u, P⟩ := s
  obtain ⟨-, c2, c3, -, -, -, c7⟩ := h.c.c
  unfold highB
  simp only at c2 c3 c7 hm hm1 hln ⊢
  obtain ⟨N, hN⟩ : ∃ N, P.length = N := ⟨_, rfl⟩
  rw [hN] at c7 hln ⊢
  clear h hN
  by_cases h1 : 0 < l
  · have d1 : decide (0 < l) = true := decide_eq_true h1
    by_cases h2 : (N : Int) < m
    · have d2 : decide ((N : Int) < m) = true := decide_eq_true h2
      rw [d1, d2]
      go_enter Try.func29, Try.ntmps29
      go_wp2_with fail
      go_quiet (fail)
      go_wp2
      go_ret
      exact ⟨rfl, _, rfl⟩
    · have d2 : decide ((N : Int) < m) = false := decide_eq_false h2
      rw [d1, d2]
      go_enter Try.func29, Try.ntmps29
      go_wp2_with fail
      go_quiet (fail)
      go_wp2
      go_ret
      exact ⟨rfl, _, rfl⟩
  · have d1 : decide (0 < l) = false := decide_eq_false h1
    rw [d1, Bool.false_and]
    go_enter Try.func29, Try.ntmps29
    go_wp2_with fail
    go_quiet (fail)
    go_wp2
    go_ret
    exact ⟨rfl, _, rfl⟩
set_option maxRecDepth 100000 in
set_option maxHeartbeats 1000000 in
theorem over_any (hat : AtSame) (w : World) (sb : Nat) (b p m l : Int) (a : Bool) (si u : Int) (v : Value) (P : List Dl) (least : Int) (hc : Rc w sb b p m l a si u v) (hr : Dr w 0 v P) (hs0 : 0 ≤ si) (hs1 : si ≤ 1099511627776) (hp0 : 0 ≤ p) (hp1 : p ≤ 1099511627776) (hP : P.length ≤ 1000) :
    Calls Try.prog 37 #[.pointer (some ⟨sb, 0, none⟩), .int .i64 least] w fun e w' => e = .returned (.tuple #[]) ∧ (∃ v', Rc w' sb b p m l false 0 0 v' ∧ Dr w' 0 v' (endP si p least u P) ∧ ∀ g, v'.ownBlock = some g → v.ownBlock = some g ∨ w.heap.size ≤ g) ∧ Kp w w' (rws sb v) := by
  obtain ⟨ao, cap, rfl⟩ := hr.slice
  obtain ⟨c1, -, -, c4, c5, c6, c7⟩ := hc.c
  have f4 := hc.free 4
  have f5 := hc.free 5
  have f6 := hc.free 6
  have f7 := hc.free 7
  have H := hid hc
  have HR := hid hr
  have hlt := hc.lt
  have hne : sb ≠ w.heap.size := by omega
  obtain ⟨N, hN⟩ : ∃ N, P.length = N := ⟨_, rfl⟩
  rw [hN] at c7 H HR ⊢
  have HP := hid hP
  clear hc hr hN hP
  have hsp : (0 : Int) ≤ si + p ∧ si + p ≤ 2199023255552 := by omega
  have hwr : IntKind.i64.wrap (si + p) = si + p := by rw [IntKind.wrap_i64]; omega
  by_cases hu : 0 < u
  · have e1 : endP si p least u P = P ++ [(if si + p < least then least else si + p, u)] := by unfold endP; rw [if_pos hu, hat]
    rw [e1]
    clear e1 hat
    refine (Classical.em (si + p < least)).elim (fun hq => ?ca) (fun hq => ?cb)
    case' ca =>
      rw [if_pos hq]
      generalize least = T at hq ⊢
    case' cb =>
      rw [if_neg hq]
      obtain ⟨T, hT⟩ : ∃ T, si + p = T := ⟨_, rfl⟩
      rw [hT] at hq ⊢
    all_goals (
      go_enter Try.func37, Try.ntmps37
      go_wp2_with fail
      go_region
      go_wp2_with fail
      clear hwr hsp hq
      try clear hT
      have CK := hid (fun (W : World) (hK : Kp w W (Value.slice ao N cap).ownBlock.toList) => (show (W.cell? ⟨sb, 4, none⟩ = some (.bool a) ∧ W.cell? ⟨sb, 5, none⟩ = some (.int .i64 si) ∧ W.cell? ⟨sb, 6, none⟩ = some (.int .i64 u) ∧ W.cell? ⟨sb, 7, none⟩ = some (.slice ao N cap)) ∧ W.frozen? ⟨sb, 4, none⟩ = false ∧ W.frozen? ⟨sb, 5, none⟩ = false ∧ W.frozen? ⟨sb, 6, none⟩ = false ∧ W.frozen? ⟨sb, 7, none⟩ = false from by
        have hb := H.out.keep hK (fun hm => HR.out.apart H.out (by decide) (by simpa using hm))
        exact ⟨⟨hb.c.2.2.2.1, hb.c.2.2.2.2.1, hb.c.2.2.2.2.2.1, hb.c.2.2.2.2.2.2⟩, hb.free 4, hb.free 5, hb.free 6, hb.free 7⟩))
      have K1 := hid ((Kp.drew w []).trans (Kp.drew w.drew []))
      have KA := hid (K1.out.trans (Kp.alloc _ (.cells #[.int .i64 T, .int .i64 u] 45) []))
      have HO := hid ((Dr.one w.drew.drew T u).low (Nat.zero_le _))
      clear c1 c4 c5 f4 f5 f6
      obtain ⟨⟨-, -, p1, p2⟩, -, -, -, p3⟩ := CK.out w.drew.drew K1.out.nil
      obtain ⟨⟨-, -, p4, p5⟩, -, -, -, p6⟩ := CK.out (w.drew.drew.alloc (.cells #[.int .i64 T, .int .i64 u] 45)) KA.out.nil
      have hne2 : sb ≠ w.drew.drew.heap.size := hne
      go_region_law
        (first
          | (refine step_pushD (by rfl) _ _ (by rfl) 35 (by rfl) (.slice ao N cap) P _ [(T, u)] _ (by rfl) (HR.out.keep KA.out) (by rfl) HO.out (by simp) (by have := HP.out; omega) (by simp) ?_; intro v7 w7 hd7 hg7 hw7; obtain ⟨a7, c7, hv7⟩ := hd7.slice; have K7 := hid (KA.out.nil.trans (Kp.ofGrown (rows := (Value.slice ao N cap).ownBlock.toList) hg7 (by intro g hg; simpa using hg))); obtain ⟨⟨q1, q2, q3, q4⟩, q5, q6, q7, q8⟩ := CK.out _ K7.out; have H7 := hid (And.intro hd7 hw7); clear hd7 hg7 hw7)
          | fail)
      all_goals (
        rw [show (P ++ [(T, u)]).length = P.length + 1 by simp] at hv7
        have HF := hid (show (∃ v', Rc ((((w7.setCell ⟨sb, 7, none⟩ (.slice a7 (P.length + 1) c7)).setCell ⟨sb, 4, none⟩ (.bool false)).setCell ⟨sb, 5, none⟩ (.int .i64 0)).setCell ⟨sb, 6, none⟩ (.int .i64 0)) sb b p m l false 0 0 v' ∧ Dr ((((w7.setCell ⟨sb, 7, none⟩ (.slice a7 (P.length + 1) c7)).setCell ⟨sb, 4, none⟩ (.bool false)).setCell ⟨sb, 5, none⟩ (.int .i64 0)).setCell ⟨sb, 6, none⟩ (.int .i64 0)) 0 v' (P ++ [(T, u)]) ∧ ∀ g, v'.ownBlock = some g → (Value.slice ao N cap).ownBlock = some g ∨ w.heap.size ≤ g) ∧ Kp w ((((w7.setCell ⟨sb, 7, none⟩ (.slice a7 (P.length + 1) c7)).setCell ⟨sb, 4, none⟩ (.bool false)).setCell ⟨sb, 5, none⟩ (.int .i64 0)).setCell ⟨sb, 6, none⟩ (.int .i64 0)) (rws sb (.slice ao N cap)) by
          have hb := H.out.keep K7.out (fun hm => HR.out.apart H.out (by decide) (by simpa using hm))
          have hb4 := (((hb.set7 (.slice a7 (P.length + 1) c7)).set4 false).set5 0).set6 0
          have kk : Kp w7 ((((w7.setCell ⟨sb, 7, none⟩ (.slice a7 (P.length + 1) c7)).setCell ⟨sb, 4, none⟩ (.bool false)).setCell ⟨sb, 5, none⟩ (.int .i64 0)).setCell ⟨sb, 6, none⟩ (.int .i64 0)) [sb] := (((Kp.setCell w7 ⟨sb, 7, none⟩ _).trans (Kp.setCell _ ⟨sb, 4, none⟩ _)).trans (Kp.setCell _ ⟨sb, 5, none⟩ _)).trans (Kp.setCell _ ⟨sb, 6, none⟩ _)
          have h7 := H7.out
          rw [hv7] at h7
          refine ⟨⟨_, hb4, h7.1.kp kk fun g hg e => h7.1.apart hb (by decide) (by simp only [List.mem_singleton] at e; rw [← e]; exact hg), fun g hg => ?_⟩, (K7.out.mono (by intro k hk _; simp only [List.mem_cons]; exact .inr hk)).trans (kk.mono (by intro k hk _; simp at hk; simp [hk]))⟩
          rcases h7.2 with q | q
          · exact .inl (q ▸ hg)
          · refine .inr ?_
            rw [q] at hg
            simp at hg
            have := K1.out.size
            omega)
        subst hv7
        go_wp2_with fail
        try rw [Exit.noGoto_normal]
        refine bodyPost_end (results_none rfl _ _ _) rfl ?_
        exact ⟨rfl, HF.out⟩))
  · have e1 : endP si p least u P = P := by unfold endP; rw [if_neg hu]
    rw [e1]
    clear e1 hat
    have HF := hid (show (∃ v', Rc (((w.setCell ⟨sb, 4, none⟩ (.bool false)).setCell ⟨sb, 5, none⟩ (.int .i64 0)).setCell ⟨sb, 6, none⟩ (.int .i64 0)) sb b p m l false 0 0 v' ∧ Dr (((w.setCell ⟨sb, 4, none⟩ (.bool false)).setCell ⟨sb, 5, none⟩ (.int .i64 0)).setCell ⟨sb, 6, none⟩ (.int .i64 0)) 0 v' P ∧ ∀ g, v'.ownBlock = some g → (Value.slice ao N cap).ownBlock = some g ∨ w.heap.size ≤ g) ∧ Kp w (((w.setCell ⟨sb, 4, none⟩ (.bool false)).setCell ⟨sb, 5, none⟩ (.int .i64 0)).setCell ⟨sb, 6, none⟩ (.int .i64 0)) (rws sb (.slice ao N cap)) by
      have kk : Kp w (((w.setCell ⟨sb, 4, none⟩ (.bool false)).setCell ⟨sb, 5, none⟩ (.int .i64 0)).setCell ⟨sb, 6, none⟩ (.int .i64 0)) [sb] := ((Kp.setCell w ⟨sb, 4, none⟩ _).trans (Kp.setCell _ ⟨sb, 5, none⟩ _)).trans (Kp.setCell _ ⟨sb, 6, none⟩ _)
      exact ⟨⟨_, ((H.out.set4 false).set5 0).set6 0, HR.out.kp kk fun g hg e => HR.out.apart H.out (by decide) (by simp only [List.mem_singleton] at e; rw [← e]; exact hg), fun g hg => .inl hg⟩, kk.mono (by intro k hk _; simp at hk; simp [hk])⟩)
    go_enter Try.func37, Try.ntmps37
    go_wp2_with fail
    try rw [Exit.noGoto_normal]
    refine bodyPost_end (results_none rfl _ _ _) rfl ?_
    exact ⟨rfl, HF.out⟩
end Go.Proofs.Ytojcmnanapeooaa
