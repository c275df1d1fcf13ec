/- do: one step. -/
import Derived.Test.YtjggpchjfglgcaaDo0
import Derived.Test.YtjggpchjfglgcaaDo1
import Derived.Test.YtjggpchjfglgcaaDo2
import Derived.Test.YtjggpchjfglgcaaDo3
import Derived.Test.YtjggpchjfglgcaaDo4
import Derived.Test.YtjggpchjfglgcaaDo5
import Derived.Test.YtjggpchjfglgcaaDo6
import Derived.Test.YtjggpchjfglgcaaDo7
namespace Go.Proofs.Ytjggpchjfglgcaa
open Go.RowKit Go.Shelf Go.Lib
attribute [local go_sem] Oper.semAt_some

theorem do_any (w : World) (cb rb : Nat) (M : Cn) (k : Int) (on : Bool) (x y : Int) (h : Pa w cb rb M) : Calls Try.prog 9 #[.pointer (some ⟨cb, 0, none⟩), .pointer (some ⟨rb, 0, none⟩), .agg #[.int .i64 k, .bool on, .int .i64 x, .int .i64 y]] w fun e w' => Did w w' cb rb (stM M k on x y) e := by
  by_cases hk : 1 ≤ k ∧ k ≤ 7
  · rcases (show k = 1 ∨ k = 2 ∨ k = 3 ∨ k = 4 ∨ k = 5 ∨ k = 6 ∨ k = 7 by omega) with rfl | rfl | rfl | rfl | rfl | rfl | rfl
    · exact do1 w cb rb M on x y h
    · exact do2 w cb rb M on x y h
    · exact do3 w cb rb M on x y h
    · exact do4 w cb rb M on x y h
    · exact do5 w cb rb M on x y h
    · exact do6 w cb rb M on x y h
    · exact do7 w cb rb M on x y h
  · have e : stM M k on x y = M := by
      unfold stM
      rw [if_neg (by omega), if_neg (by omega), if_neg (by omega), if_neg (by omega), if_neg (by omega), if_neg (by omega)]
    rw [e]
    exact do0 w cb rb M k on x y hk h
end Go.Proofs.Ytjggpchjfglgcaa
