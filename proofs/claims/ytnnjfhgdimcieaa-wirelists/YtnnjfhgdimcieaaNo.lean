/- Readers and functions that are not there are refused. -/
import Derived.Test.YtnnjfhgdimcieaaOpen
import Derived.Test.YtnnjfhgdimcieaaNum
namespace Go.Proofs.Ytnnjfhgdimcieaa
open Go.RowKit
set_option maxRecDepth 100000 in
set_option maxHeartbeats 1000000 in
theorem nothing_nil (w : World) :
    Calls Try.prog 36 #[.pointer none] w fun e w' => e = .returned (.bool true) ∧ w.grownBy w' none := by
  go_enter Try.func36, Try.ntmps36
  go_wp2
  go_ret
  exact ⟨rfl, World.grownBy_alloc _ _ _⟩
set_option maxRecDepth 100000 in
set_option maxHeartbeats 1000000 in
theorem nothing_zero (w : World) (b : Nat) (h : w.heap[b]? = some (.cells #[.slice none 0 0, .bool false] 73 (0, 0))) :
    Calls Try.prog 36 #[.pointer (some ⟨b, 0, none⟩)] w fun e w' => e = .returned (.bool true) ∧ w.grownBy w' none := by
  have hc0 := cell_two0 h
  have hc1 := cell_two1 h
  have hlt := lt_of_block h
  clear h
  go_enter Try.func36, Try.ntmps36
  go_wp2
  go_ret
  exact ⟨rfl, World.grownBy_alloc _ _ _⟩

set_option maxRecDepth 100000 in
/-- Put[int] without a function. -/
theorem puti_nil (w : World) : Calls Try.prog 33 #[.slice none 0 0, .nilFunc] w fun e w' => e = .returned (.tuple #[.slice none 0 0, .int .i64 1]) ∧ w' = w := by
  have hfn : ∀ w : World, (binOp .eql 68 .nilFunc .nilFunc).run Try.prog w = .ok (.bool true) w := fun _ => by kernel_rfl
  go_enter Try.func33, Try.ntmps33
  go_wp2
  go_ret2
  exact ⟨rfl, rfl⟩
set_option maxRecDepth 100000 in
theorem takei_nil (w : World) (r : Value) : Calls Try.prog 35 #[r, .int .i64 5, .nilFunc] w fun e w' => e = .returned (.tuple #[.slice none 0 0, .int .i64 1]) ∧ w.grownBy w' none := by
  have hfn : ∀ w : World, (binOp .eql 99 .nilFunc .nilFunc).run Try.prog w = .ok (.bool true) w := fun _ => by kernel_rfl
  go_enter Try.func35, Try.ntmps35
  go_wp2
  go_ret2
  exact ⟨rfl, grownBy_trans (World.grownBy_alloc _ _ _) (World.grownBy_alloc _ _ _)⟩
set_option maxRecDepth 100000 in
theorem takep_nil (w : World) : Calls Try.prog 31 #[.pointer none, .int .i64 (-1), .func (.func 32) #[] #[]] w fun e w' => e = .returned (.tuple #[.slice none 0 0, .int .i64 1]) ∧ w.grownBy w' none := by
  have hfn : ∀ w : World, (binOp .eql 64 (.func (.func 32) #[] #[]) .nilFunc).run Try.prog w = .ok (.bool false) w := fun _ => by kernel_rfl
  go_enter Try.func31, Try.ntmps31
  go_wp2
  go_ret2
  exact ⟨rfl, grownBy_trans (World.grownBy_alloc _ _ _) (World.grownBy_alloc _ _ _)⟩
set_option maxRecDepth 100000 in
theorem puti_empty (w : World) : Calls Try.prog 33 #[.slice none 0 0, .func (.func 34) #[] #[]] w fun e w' => ∃ v, e = .returned (.tuple #[v, .int .i64 0]) ∧ w'.ownsRow w.heap.size 5 1 v 1 [.int .u8 0] ∧ w.grownBy w' none := by
  have hfn : ∀ w : World, (binOp .eql 68 (.func (.func 34) #[] #[]) .nilFunc).run Try.prog w = .ok (.bool false) w := fun _ => by kernel_rfl
  go_enter Try.func33, Try.ntmps33
  go_wp2_with fail
  refine (number_any 0 w (by decide)).mono ?_
  rintro e w1 ⟨v, rfl, hown, hg⟩
  have HO := hid hown
  have HG := hid hg
  clear hown hg
  go_wp2
  refine wp_loop_rounds 1 ?_
  rw [rounds_succ]
  go_wp2
  go_ret2
  exact ⟨_, rfl, HO.out, HG.out⟩
end Go.Proofs.Ytnnjfhgdimcieaa
