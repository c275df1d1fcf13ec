/- Same. -/
import Derived.Test.YtojcmnanapeooaaCopy
import Derived.Test.YtojcmnanapeooaaEq
namespace Go.Proofs.Ytojcmnanapeooaa
open Go.RowKit Go.Shelf

/-- Are they the same in all? -/
def sameB (s t : Sv) : Bool := s.per == t.per && s.most == t.most && s.left == t.left && (s.act == t.act && s.since == t.since && s.used == t.used) && decide (s.pcs = t.pcs)
theorem eql56 (a1 a2 : Bool) (x1 x2 y1 y2 : Int) (W : World) : (binOp .eql 56 (.agg #[.bool a1, .int .i64 x1, .int .i64 y1]) (.agg #[.bool a2, .int .i64 x2, .int .i64 y2])).run Try.prog W = .ok (.bool (a1 == a2 && x1 == x2 && y1 == y2)) W := by
  cases h0 : (a1 == a2) <;> cases h1 : (x1 == x2) <;> cases h2 : (y1 == y2) <;> go_simp
set_option maxRecDepth 100000 in
set_option maxHeartbeats 2000000 in
theorem same_any (w : World) (b1 b2 : Nat) (v1 v2 : Value) (s t : Sv) (h1 : Sr w b1 v1 s) (h2 : Sr w b2 v2 t) : Calls Try.prog 23 #[.pointer (some ⟨b1, 0, none⟩), .pointer (some ⟨b2, 0, none⟩)] w fun e w' => e = .returned (.bool (sameB s t)) ∧ ∃ k, w' = w.drewN k := by
  have Z1 := hid (zero_no w b1 _ _ _ _ _ _ _ h1.c h1.ok.m1)
  have Z2 := hid (zero_no w b2 _ _ _ _ _ _ _ h2.c h2.ok.m1)
  have CE := hid (fun n => eq_any (w.drewN n) 0 0 v1 v2 s.pcs t.pcs (h1.row.keep (Kp.drewN _ _ _)) (h2.row.keep (Kp.drewN _ _ _)) (by have := h1.ok.plen; omega))
  obtain ⟨ao1, cap1, rfl⟩ := h1.row.slice
  obtain ⟨ao2, cap2, rfl⟩ := h2.row.slice
  obtain ⟨bu1, p1, m1, l1, a1, si1, u1, P1⟩ := s
  obtain ⟨bu2, p2, m2, l2, a2, si2, u2, P2⟩ := t
  obtain ⟨c0, c1, c2, c3, c4, c5, c6⟩ := h1.c.c
  obtain ⟨d0, d1, d2, d3, d4, d5, d6⟩ := h2.c.c
  have hq := eql56 a1 a2 si1 si2 u1 u2
  unfold sameB
  simp only at c0 c1 c2 c3 c4 c5 c6 d0 d1 d2 d3 d4 d5 d6 Z1 Z2 CE ⊢
  obtain ⟨N1, hN1⟩ : ∃ N, P1.length = N := ⟨_, rfl⟩
  obtain ⟨N2, hN2⟩ : ∃ N, P2.length = N := ⟨_, rfl⟩
  rw [hN1] at c6 CE
  rw [hN2] at d6 CE
  obtain ⟨B, hB⟩ : ∃ B, decide (P1 = P2) = B := ⟨_, rfl⟩
  rw [hB] at CE ⊢
  clear h1 h2 hN1 hN2 hB
  cases e1 : (p1 == p2) with
  | false =>
    simp only [Bool.false_and]
    go_enter Try.func23, Try.ntmps23
    go_wp2_with (first | (go_at_call_of 30 (Value.pointer (some ⟨b1, 0, none⟩)); refine Z1.out.mono ?_; rintro e w' ⟨rfl, rfl⟩) | (go_at_call_of 30 (Value.pointer (some ⟨b2, 0, none⟩)); refine Z2.out.mono ?_; rintro e w' ⟨rfl, rfl⟩))
    go_quiet (first | (go_at_call 36; exact Calls.quiet_of (CE.out _)) | fail)
    go_wp2
    go_ret
    exact ⟨rfl, _, rfl⟩
  | true =>
    cases e2 : (m1 == m2) with
    | false =>
      simp only [Bool.true_and, Bool.false_and]
      go_enter Try.func23, Try.ntmps23
      go_wp2_with (first | (go_at_call_of 30 (Value.pointer (some ⟨b1, 0, none⟩)); refine Z1.out.mono ?_; rintro e w' ⟨rfl, rfl⟩) | (go_at_call_of 30 (Value.pointer (some ⟨b2, 0, none⟩)); refine Z2.out.mono ?_; rintro e w' ⟨rfl, rfl⟩))
      go_quiet (first | (go_at_call 36; exact Calls.quiet_of (CE.out _)) | fail)
      go_wp2
      go_ret
      exact ⟨rfl, _, rfl⟩
    | true =>
      cases e3 : (l1 == l2) with
      | false =>
        simp only [Bool.true_and, Bool.false_and]
        go_enter Try.func23, Try.ntmps23
        go_wp2_with (first | (go_at_call_of 30 (Value.pointer (some ⟨b1, 0, none⟩)); refine Z1.out.mono ?_; rintro e w' ⟨rfl, rfl⟩) | (go_at_call_of 30 (Value.pointer (some ⟨b2, 0, none⟩)); refine Z2.out.mono ?_; rintro e w' ⟨rfl, rfl⟩))
        go_quiet (first | (go_at_call 36; exact Calls.quiet_of (CE.out _)) | fail)
        go_wp2
        go_ret
        exact ⟨rfl, _, rfl⟩
      | true =>
        obtain ⟨B2, hB2⟩ : ∃ B2, (a1 == a2 && si1 == si2 && u1 == u2) = B2 := ⟨_, rfl⟩
        rw [hB2] at hq ⊢
        clear hB2
        cases B2 with
        | false =>
          simp only [Bool.true_and, Bool.false_and]
          go_enter Try.func23, Try.ntmps23
          go_wp2_with (first | (go_at_call_of 30 (Value.pointer (some ⟨b1, 0, none⟩)); refine Z1.out.mono ?_; rintro e w' ⟨rfl, rfl⟩) | (go_at_call_of 30 (Value.pointer (some ⟨b2, 0, none⟩)); refine Z2.out.mono ?_; rintro e w' ⟨rfl, rfl⟩))
          go_quiet (first | (go_at_call 36; exact Calls.quiet_of (CE.out _)) | fail)
          go_wp2
          go_ret
          exact ⟨rfl, _, rfl⟩
        | true =>
          simp only [Bool.true_and]
          go_enter Try.func23, Try.ntmps23
          go_wp2_with (first | (go_at_call_of 30 (Value.pointer (some ⟨b1, 0, none⟩)); refine Z1.out.mono ?_; rintro e w' ⟨rfl, rfl⟩) | (go_at_call_of 30 (Value.pointer (some ⟨b2, 0, none⟩)); refine Z2.out.mono ?_; rintro e w' ⟨rfl, rfl⟩))
          go_quiet (first | (go_at_call 36; exact Calls.quiet_of (CE.out _)) | fail)
          go_wp2
          go_ret
          exact ⟨rfl, _, rfl⟩
end Go.Proofs.Ytojcmnanapeooaa
