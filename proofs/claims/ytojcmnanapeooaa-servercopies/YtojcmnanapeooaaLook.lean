/- isZero, mayBeTime, New, High, Left, Active. -/
import Derived.Test.YtojcmnanapeooaaMem
import Derived.BigQuiet
namespace Go.Proofs.Ytojcmnanapeooaa
open Go.RowKit Go.Shelf

set_option maxRecDepth 100000 in
theorem zero_no (w : World) (sb : Nat) (p m l : Int) (a : Bool) (si u : Int) (v : Value) (h : Sc w sb p m l a si u v) (hm : 1 ≤ m) : Calls Try.prog 30 #[.pointer (some ⟨sb, 0, none⟩)] w fun e w' => e = .returned (.bool false) ∧ w' = w := by
  have c1 := h.c.2.1
  have hne : (m == 0) = false := by rw [beq_eq_false_iff_ne]; omega
  clear h
  go_enter Try.func30, Try.ntmps30
  go_wp2
  go_ret
  exact ⟨rfl, rfl⟩
set_option maxRecDepth 100000 in
theorem zero_yes (w : World) (p : Option Addr) (h : Zs w p) : Calls Try.prog 30 #[.pointer p] w fun e w' => e = .returned (.bool true) ∧ w' = w := by
  rcases h with rfl | ⟨b, rfl, h⟩
  · go_enter Try.func30, Try.ntmps30
    go_wp2
    go_ret
    exact ⟨rfl, rfl⟩
  · have c1 := h.c.2.1
    clear h
    go_enter Try.func30, Try.ntmps30
    go_wp2
    go_ret
    exact ⟨rfl, rfl⟩
set_option maxRecDepth 100000 in
theorem may_any (w : World) (n : Int) : Calls Try.prog 31 #[.int .i64 n] w fun e w' => e = .returned (.bool (mayT n)) ∧ w' = w := by
  unfold mayT
  by_cases h1 : 0 ≤ n
  · by_cases h2 : n ≤ 1099511627776
    · rw [decide_eq_true h1, decide_eq_true h2]
      go_enter Try.func31, Try.ntmps31
      go_wp2
      go_ret
      exact ⟨rfl, rfl⟩
    · rw [decide_eq_true h1, decide_eq_false h2]
      go_enter Try.func31, Try.ntmps31
      go_wp2
      go_ret
      exact ⟨rfl, rfl⟩
  · rw [decide_eq_false h1, Bool.false_and]
    go_enter Try.func31, Try.ntmps31
    go_wp2
    go_ret
    exact ⟨rfl, rfl⟩
set_option maxRecDepth 100000 in
theorem new_ok (w : World) (b p m : Int) (h : mayN b p m = true) : Calls Try.prog 9 #[.int .i64 b, .int .i64 p, .int .i64 m] w fun e w' => e = .returned (.tuple #[.pointer (some ⟨w.heap.size, 0, none⟩), .int .i64 0]) ∧ Sr w' w.heap.size (.slice none 0 0) (newS b p m) ∧ Kp w w' [] := by
  have ok := hid (ok_new h)
  unfold mayN at h
  simp only [Bool.and_eq_true, decide_eq_true_eq] at h
  obtain ⟨⟨⟨⟨h1, h2⟩, h3⟩, h4⟩, h5⟩ := h
  have d1 : decide (b < 1) = false := decide_eq_false (by omega)
  have d2 : decide (p < b) = false := decide_eq_false (by omega)
  have d3 : decide (1099511627776 < p) = false := decide_eq_false (by omega)
  have d4 : decide (m < 1) = false := decide_eq_false (by omega)
  have d5 : decide (16 < m) = false := decide_eq_false (by omega)
  clear h1 h2 h3 h4 h5
  go_enter Try.func9, Try.ntmps9
  go_wp2
  go_ret2
  exact ⟨rfl, ⟨heap_alloc_new w _, Dr.nil _ _, ok.out⟩, Kp.alloc _ _ _⟩
set_option maxRecDepth 100000 in
theorem new_no (w : World) (b p m : Int) (h : mayN b p m = false) : Calls Try.prog 9 #[.int .i64 b, .int .i64 p, .int .i64 m] w fun e w' => e = .returned (.tuple #[.pointer none, .int .i64 2]) ∧ w' = w := by
  by_cases h1 : b < 1
  · clear h
    go_enter Try.func9, Try.ntmps9
    go_wp2
    go_ret2
    exact ⟨rfl, rfl⟩
  · by_cases h2 : p < b
    · clear h
      go_enter Try.func9, Try.ntmps9
      go_wp2
      go_ret2
      exact ⟨rfl, rfl⟩
    · by_cases h3 : 1099511627776 < p
      · clear h
        go_enter Try.func9, Try.ntmps9
        go_wp2
        go_ret2
        exact ⟨rfl, rfl⟩
      · by_cases h4 : m < 1
        · clear h
          go_enter Try.func9, Try.ntmps9
          go_wp2
          go_ret2
          exact ⟨rfl, rfl⟩
        · have h5 : 16 < m := by
            by_cases h5 : 16 < m
            · exact h5
            · unfold mayN at h
              rw [decide_eq_true (show 1 ≤ b by omega), decide_eq_true (show b ≤ p by omega), decide_eq_true (show p ≤ 1099511627776 by omega), decide_eq_true (show 1 ≤ m by omega), decide_eq_true (show m ≤ 16 by omega)] at h
              cases h
          clear h
          go_enter Try.func9, Try.ntmps9
          go_wp2
          go_ret2
          exact ⟨rfl, rfl⟩
set_option maxRecDepth 100000 in
theorem left_any (w : World) (sb : Nat) (v : Value) (s : Sv) (h : Sr w sb v s) : Calls Try.prog 19 #[.pointer (some ⟨sb, 0, none⟩)] w fun e w' => e = .returned (.int .i64 s.left) ∧ w' = w := by
  have cz := zero_no w sb _ _ _ _ _ _ _ h.c h.ok.m1
  obtain ⟨bu, p, m, l, a, si, u, P⟩ := s
  have c2 := h.c.c.2.2.1
  simp only at c2 ⊢
  clear h
  go_enter Try.func19, Try.ntmps19
  go_wp2_with (go_at_call 30; refine cz.mono ?_; rintro e w' ⟨rfl, rfl⟩)
  go_ret
  exact ⟨rfl, rfl⟩
end Go.Proofs.Ytojcmnanapeooaa
