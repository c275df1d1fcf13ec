/- No wheel: nil, or a zero one. -/
import Derived.Test.YtoaceeddcnijoaaSet
import Derived.Test.YtoaceeddcnijoaaDue
import Derived.Test.YtoaceeddcnijoaaCopy
namespace Go.Proofs.Ytoaceeddcnijoaa
open Go.RowKit Go.Shelf Go.Lib Go.Sort

/-- What is no wheel. -/
def Zw (w : World) (p : Option Addr) : Prop := p = none ∨ ∃ b, p = some ⟨b, 0, none⟩ ∧ w.cell? ⟨b, 64, none⟩ = some (.bool false)
theorem Zw.keep {w w' : World} {p : Option Addr} (h : Zw w p) (hk : Kp w w' []) : Zw w' p := by
  rcases h with h | ⟨b, h1, h2⟩
  · exact .inl h
  · exact .inr ⟨b, h1, hk.cell h2 (by simp)⟩
set_option maxRecDepth 100000 in
theorem zero_yes (w : World) (p : Option Addr) (h : Zw w p) : Calls Try.prog 25 #[.pointer p] w fun e w' => e = .returned (.bool true) ∧ w' = w := by
  rcases h with rfl | ⟨b, rfl, hm⟩
  all_goals (
    go_enter Try.func25, Try.ntmps25
    go_wp2
    go_ret
    exact ⟨rfl, rfl⟩)
section
variable (w : World) (p : Option Addr) (h : Zw w p)
include h
set_option maxRecDepth 100000 in
theorem zset (id at1 : Int) : Calls Try.prog 11 #[.pointer p, .int .i64 id, .int .i64 at1] w fun e w' => e = .returned (.int .i64 1) ∧ w' = w := by
  have H := hid (zero_yes w p h)
  clear h
  go_enter Try.func11, Try.ntmps11
  go_wp2_with fail
  refine H.out.mono ?_
  rintro e w1 ⟨rfl, hw⟩
  rw [hw]
  clear hw
  go_wp2
  go_ret
  exact ⟨rfl, rfl⟩
set_option maxRecDepth 100000 in
theorem zcancel (id : Int) : Calls Try.prog 12 #[.pointer p, .int .i64 id] w fun e w' => e = .returned (.int .i64 1) ∧ w' = w := by
  have H := hid (zero_yes w p h)
  clear h
  go_enter Try.func12, Try.ntmps12
  go_wp2_with fail
  refine H.out.mono ?_
  rintro e w1 ⟨rfl, hw⟩
  rw [hw]
  clear hw
  go_wp2
  go_ret
  exact ⟨rfl, rfl⟩
set_option maxRecDepth 100000 in
theorem zdue (now : Int) : Calls Try.prog 13 #[.pointer p, .int .i64 now] w fun e w' => e = .returned (.slice none 0 0) ∧ Kp w w' [] := by
  have k1 := Kp.alloc w (.cells #[.int .i64 now] 2) []
  have H := hid (zero_yes _ p (h.keep k1))
  have HK := hid k1
  clear h k1
  go_enter Try.func13, Try.ntmps13
  go_wp2_with fail
  refine H.out.mono ?_
  rintro e w1 ⟨rfl, hw⟩
  rw [hw]
  clear hw
  go_wp2
  go_ret
  exact ⟨rfl, HK.out⟩
set_option maxRecDepth 100000 in
theorem zcopy : Calls Try.prog 14 #[.pointer p] w fun e w' => e = .returned (.pointer none) ∧ w' = w := by
  have H := hid (zero_yes w p h)
  clear h
  go_enter Try.func14, Try.ntmps14
  go_wp2_with fail
  refine H.out.mono ?_
  rintro e w1 ⟨rfl, hw⟩
  rw [hw]
  clear hw
  go_wp2
  go_ret
  exact ⟨rfl, rfl⟩
set_option maxRecDepth 100000 in
theorem zlist : Calls Try.prog 33 #[.pointer p] w fun e w' => e = .returned (.slice none 0 0) ∧ w' = w := by
  have H := hid (zero_yes w p h)
  clear h
  go_enter Try.func33, Try.ntmps33
  go_wp2_with fail
  refine H.out.mono ?_
  rintro e w1 ⟨rfl, hw⟩
  rw [hw]
  clear hw
  go_wp2
  go_ret
  exact ⟨rfl, rfl⟩
set_option maxRecDepth 100000 in
theorem zlen : Calls Try.prog 18 #[.pointer p] w fun e w' => e = .returned (.int .i64 0) ∧ w' = w := by
  have H := hid (zlist w p h)
  clear h
  go_enter Try.func18, Try.ntmps18
  go_wp2_with fail
  refine H.out.mono ?_
  rintro e w1 ⟨rfl, hw⟩
  rw [hw]
  clear hw
  go_wp2
  go_ret
  exact ⟨rfl, rfl⟩
end
end Go.Proofs.Ytoaceeddcnijoaa
