/- High, Active. -/
import Derived.Test.YtojcmnanapeooaaLook
namespace Go.Proofs.Ytojcmnanapeooaa
open Go.RowKit Go.Shelf

set_option maxRecDepth 100000 in
set_option maxHeartbeats 1000000 in
theorem high_any (w : World) (sb : Nat) (v : Value) (s : Sv) (h : Sr w sb v s) : Calls Try.prog 21 #[.pointer (some ⟨sb, 0, none⟩)] w fun e w' => e = .returned (.bool (highB s)) ∧ ∃ k, w' = w.drewN k := by
  have cz := fun (W : World) (hk : Kp w W []) => zero_no W sb _ _ _ _ _ _ _ (h.same hk).c h.ok.m1
  have hm := h.ok.m2
  have hm1 := h.ok.m1
  have hln := h.ok.ln
  obtain ⟨ao, cap, rfl⟩ := h.row.slice
  obtain ⟨bu, p, m, l, a, si, u, P⟩ := s
  obtain ⟨-, c1, c2, -, -, -, c6⟩ := h.c.c
  unfold highB
  simp only at c1 c2 c6 hm hm1 hln cz ⊢
  obtain ⟨N, hN⟩ : ∃ N, P.length = N := ⟨_, rfl⟩
  rw [hN] at c6 hln ⊢
  clear h hN
  have CZ := hid cz
  clear cz
  by_cases h1 : 0 < l
  · have d1 : decide (0 < l) = true := decide_eq_true h1
    by_cases h2 : (N : Int) < m
    · have d2 : decide ((N : Int) < m) = true := decide_eq_true h2
      rw [d1, d2]
      go_enter Try.func21, Try.ntmps21
      go_wp2_with fail
      go_quiet ((go_at_call 30; exact Calls.quiet_of_same (CZ.out _ (Kp.drewN _ _ _))))
      go_wp2
      go_ret
      exact ⟨rfl, _, rfl⟩
    · have d2 : decide ((N : Int) < m) = false := decide_eq_false h2
      rw [d1, d2]
      go_enter Try.func21, Try.ntmps21
      go_wp2_with fail
      go_quiet ((go_at_call 30; exact Calls.quiet_of_same (CZ.out _ (Kp.drewN _ _ _))))
      go_wp2
      go_ret
      exact ⟨rfl, _, rfl⟩
  · have d1 : decide (0 < l) = false := decide_eq_false h1
    rw [d1, Bool.false_and]
    go_enter Try.func21, Try.ntmps21
    go_wp2_with fail
    go_quiet ((go_at_call 30; exact Calls.quiet_of_same (CZ.out _ (Kp.drewN _ _ _))))
    go_wp2
    go_ret
    exact ⟨rfl, _, rfl⟩
set_option maxRecDepth 100000 in
theorem active_any (w : World) (sb : Nat) (v : Value) (s : Sv) (h : Sr w sb v s) : Calls Try.prog 18 #[.pointer (some ⟨sb, 0, none⟩)] w fun e w' => e = .returned (.tuple #[.int .i64 s.since, .int .i64 s.used, .bool s.act]) ∧ ∃ k, w' = w.drewN k := by
  have cz := zero_no w sb _ _ _ _ _ _ _ h.c h.ok.m1
  obtain ⟨bu, p, m, l, a, si, u, P⟩ := s
  obtain ⟨-, -, -, c3, c4, c5, -⟩ := h.c.c
  simp only at c3 c4 c5 ⊢
  clear h
  go_enter Try.func18, Try.ntmps18
  go_wp2_with (go_at_call 30; refine cz.mono ?_; rintro e w' ⟨rfl, rfl⟩)
  go_quiet (fail)
  go_wp2
  go_ret3
  exact ⟨rfl, _, rfl⟩
end Go.Proofs.Ytojcmnanapeooaa
