/- Same, where one is no wheel. -/
import Derived.Test.YtoaceeddcnijoaaSame
namespace Go.Proofs.Ytoaceeddcnijoaa
open Go.RowKit Go.Shelf Go.Lib Go.Sort

set_option maxRecDepth 100000 in
theorem zsame (w : World) (p q : Option Addr) (h1 : Zw w p) (h2 : Zw w q) : Calls Try.prog 15 #[.pointer p, .pointer q] w fun e w' => e = .returned (.bool true) ∧ Kp w w' [] := by
  have H1 := hid h1
  have H2 := hid h2
  clear h1 h2
  go_enter Try.func15, Try.ntmps15
  go_wp2_with fail
  refine (zero_yes w p H1.out).mono ?_
  rintro e x1 ⟨rfl, hx1⟩
  rw [hx1]
  clear hx1
  go_wp2_with fail
  refine (zero_yes w q H2.out).mono ?_
  rintro e x1 ⟨rfl, hx1⟩
  rw [hx1]
  clear hx1
  go_wp2_with fail
  refine (zlist w p H1.out).mono ?_
  rintro e x1 ⟨rfl, hx1⟩
  rw [hx1]
  clear hx1
  go_wp2_with fail
  refine (zlist w q H2.out).mono ?_
  rintro e x1 ⟨rfl, hx1⟩
  rw [hx1]
  clear hx1
  go_wp2_with fail
  refine (eq_any w 0 0 _ _ [] [] (Dr.nil _ _) (Dr.nil _ _) (by simp)).mono ?_
  rintro e w3 ⟨rfl, hk3⟩
  have R3 := hid hk3
  clear hk3
  go_wp2
  go_ret
  exact ⟨by simp, R3.out⟩
set_option maxRecDepth 100000 in
theorem zsame_left (w : World) (p : Option Addr) (wb : Nat) (F : Nat → Value) (D : Nat → List Dl) (h1 : Zw w p) (h2 : Wh w wb F D) : Calls Try.prog 15 #[.pointer p, .pointer (some ⟨wb, 0, none⟩)] w fun e w' => e = .returned (.bool false) ∧ w' = w := by
  have H1 := hid h1
  have H2 := hid h2
  clear h1 h2
  go_enter Try.func15, Try.ntmps15
  go_wp2_with fail
  refine (zero_yes w p H1.out).mono ?_
  rintro e x1 ⟨rfl, hx1⟩
  rw [hx1]
  clear hx1
  go_wp2_with fail
  refine (zero_no w wb F D H2.out).mono ?_
  rintro e x1 ⟨rfl, hx1⟩
  rw [hx1]
  clear hx1
  go_wp2
  go_ret
  exact ⟨rfl, rfl⟩
set_option maxRecDepth 100000 in
theorem zsame_right (w : World) (p : Option Addr) (wb : Nat) (F : Nat → Value) (D : Nat → List Dl) (h1 : Zw w p) (h2 : Wh w wb F D) : Calls Try.prog 15 #[.pointer (some ⟨wb, 0, none⟩), .pointer p] w fun e w' => e = .returned (.bool false) ∧ w' = w := by
  have H1 := hid h1
  have H2 := hid h2
  clear h1 h2
  go_enter Try.func15, Try.ntmps15
  go_wp2_with fail
  refine (zero_no w wb F D H2.out).mono ?_
  rintro e x1 ⟨rfl, hx1⟩
  rw [hx1]
  clear hx1
  go_wp2_with fail
  refine (zero_yes w p H1.out).mono ?_
  rintro e x1 ⟨rfl, hx1⟩
  rw [hx1]
  clear hx1
  go_wp2
  go_ret
  exact ⟨rfl, rfl⟩
end Go.Proofs.Ytoaceeddcnijoaa
