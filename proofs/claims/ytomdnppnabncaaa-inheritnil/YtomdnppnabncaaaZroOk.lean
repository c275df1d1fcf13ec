/- No graph gives what the laws ask. -/
import Derived.Test.YtomdnppnabncaaaPrgOk
import Derived.Test.YtomdnppnabncaaaNilW
namespace Go.Proofs.Ytomdnppnabncaaa
open Go.RowKit Go.Shelf
open Go.Lib hiding intOf

set_option maxRecDepth 100000 in
theorem zbase (w : World) (p : Option Addr) (t x : Int) (h : Zg0 w p) : Calls Try.prog 15 #[.pointer p, .int .i64 t, .int .i64 x] w fun e w' => e = .returned (.int .i64 1) ∧ Kp w w' [] := by
  have h1 := h.keep (Kp.alloc w (.cells #[.int .i64 x] 3) [])
  have HP := hid (prio_any (w.alloc (.cells #[.int .i64 x] 3)) x)
  have HC := hid (fun m v => change_zero (w.alloc (.cells #[.int .i64 x] 3)) p t m v h1)
  clear h h1
  go_enter Try.func15, Try.ntmps15
  go_wp2_with (first | (go_at_call 31; refine HP.out.mono ?_; rintro e w2 ⟨rfl, rfl⟩) | (go_at_call 30; refine (HC.out _ _).mono ?_; rintro e w2 ⟨rfl, rfl⟩))
  go_ret
  exact ⟨rfl, Kp.alloc _ _ _⟩
set_option maxRecDepth 100000 in
theorem zceil (w : World) (p : Option Addr) (t x : Int) (h : Zg0 w p) : Calls Try.prog 16 #[.pointer p, .int .i64 t, .int .i64 x] w fun e w' => e = .returned (.int .i64 1) ∧ Kp w w' [] := by
  have h1 := h.keep (Kp.alloc w (.cells #[.int .i64 x] 3) [])
  have HP := hid (prio_any (w.alloc (.cells #[.int .i64 x] 3)) x)
  have HC := hid (fun m v => change_zero (w.alloc (.cells #[.int .i64 x] 3)) p t m v h1)
  clear h h1
  go_enter Try.func16, Try.ntmps16
  go_wp2_with (first | (go_at_call 31; refine HP.out.mono ?_; rintro e w2 ⟨rfl, rfl⟩) | (go_at_call 30; refine (HC.out _ _).mono ?_; rintro e w2 ⟨rfl, rfl⟩))
  go_ret
  exact ⟨rfl, Kp.alloc _ _ _⟩
set_option maxRecDepth 100000 in
theorem zwaits (w : World) (p : Option Addr) (t x : Int) (h : Zg0 w p) : Calls Try.prog 17 #[.pointer p, .int .i64 t, .int .i64 x] w fun e w' => e = .returned (.int .i64 1) ∧ Kp w w' [] := by
  have h1 := h.keep (Kp.alloc w (.cells #[.int .i64 x] 3) [])
  have HP := hid (may_zero (w.alloc (.cells #[.int .i64 x] 3)) p x h1)
  have HC := hid (fun m v => change_zero (w.alloc (.cells #[.int .i64 x] 3)) p t m v h1)
  clear h h1
  by_cases hx : x = -1
  · have hq : (x == -1) = true := by simp [hx]
    clear hx
    go_enter Try.func17, Try.ntmps17
    go_wp2_with (first | (go_at_call 30; refine (HC.out _ _).mono ?_; rintro e w2 ⟨rfl, rfl⟩))
    go_ret
    exact ⟨rfl, Kp.alloc _ _ _⟩
  · have hq : (x == -1) = false := by simp [hx]
    clear hx
    go_enter Try.func17, Try.ntmps17
    go_wp2_with (first | (go_at_call 29; refine HP.out.mono ?_; rintro e w2 ⟨rfl, rfl⟩) | (go_at_call 30; refine (HC.out _ _).mono ?_; rintro e w2 ⟨rfl, rfl⟩))
    go_ret
    exact ⟨rfl, Kp.alloc _ _ _⟩
theorem zro : Zro Gr0 Zg0 where
  keep := fun h hk => h.keep hk
  nil := fun _ => .inl rfl
  zero := fun w => .inr ⟨w.heap.size, _, rfl, World.alloc_heap_new w _, rfl⟩
  base := zbase
  ceil := zceil
  waits := zwaits
  of_ := of_zero
  ring := ring_zero
  all := all_zero
  for_ := for_zero
  copy := copy_zero
  same := same_zero
  same_one := same_one0
end Go.Proofs.Ytomdnppnabncaaa
