/- WheelTells where it asks for nothing. -/
import Derived.Test.YtoaceeddcnijoaaTellsW
namespace Go.Proofs.Ytoaceeddcnijoaa
open Go.RowKit Go.Shelf Go.Lib Go.Sort

set_option maxRecDepth 100000 in
set_option maxHeartbeats 1000000 in
theorem tells_bad (w : World) (so : Option Addr) (N sc : Nat) (from1 times : Int) (h : ¬ (N ≤ 100 ∧ (0 ≤ from1 ∧ from1 ≤ 1073741824) ∧ 0 ≤ times ∧ times ≤ 300)) :
    Calls Try.prog 4 #[.slice so N sc, .int .i64 from1, .int .i64 times] w fun e w' => e = .returned (.bool true) ∧ Kp w w' [] := by
  rcases (show (100 : Int) < N ∨ (¬ (100 : Int) < N ∧ from1 < 0) ∨ (¬ (100 : Int) < N ∧ ¬ from1 < 0 ∧ 1073741824 < from1) ∨ (¬ (100 : Int) < N ∧ ¬ from1 < 0 ∧ ¬ 1073741824 < from1 ∧ times < 0) ∨ (¬ (100 : Int) < N ∧ ¬ from1 < 0 ∧ ¬ 1073741824 < from1 ∧ ¬ times < 0 ∧ 300 < times) by omega) with h1 | ⟨h1, h2⟩ | ⟨h1, h2, h3⟩ | ⟨h1, h2, h3, h4⟩ | ⟨h1, h2, h3, h4, h5⟩
  · clear h
    go_enter Try.func4, Try.ntmps4
    go_wp2_with fail
    refine (known_any _).mono ?_
    rintro e w2 ⟨rfl, k2⟩
    have K2 := hid k2
    clear k2
    go_wp2
    go_ret
    exact ⟨rfl, K2.out⟩
  · clear h
    go_enter Try.func4, Try.ntmps4
    go_wp2_with fail
    refine (known_any _).mono ?_
    rintro e w2 ⟨rfl, k2⟩
    have K2 := hid k2
    clear k2
    go_wp2
    go_ret
    exact ⟨rfl, K2.out⟩
  · clear h
    go_enter Try.func4, Try.ntmps4
    go_wp2_with fail
    refine (known_any _).mono ?_
    rintro e w2 ⟨rfl, k2⟩
    have K2 := hid k2
    clear k2
    go_wp2
    go_ret
    exact ⟨rfl, K2.out⟩
  · clear h
    go_enter Try.func4, Try.ntmps4
    go_wp2_with fail
    refine (known_any _).mono ?_
    rintro e w2 ⟨rfl, k2⟩
    have K2 := hid k2
    clear k2
    go_wp2
    go_ret
    exact ⟨rfl, K2.out⟩
  · clear h
    go_enter Try.func4, Try.ntmps4
    go_wp2_with fail
    refine (known_any _).mono ?_
    rintro e w2 ⟨rfl, k2⟩
    have K2 := hid k2
    clear k2
    go_wp2
    go_ret
    exact ⟨rfl, K2.out⟩
end Go.Proofs.Ytoaceeddcnijoaa
