/- Compare, and the reference's. -/
import Derived.Test.YtojdahgoapknjaaDoorAdd
namespace Go.Proofs.YtojdahgoapknjaaDoor
open Go.RowKit

theorem eql_sp (a b c d : Int) (w : World) : (binOp .eql 23 (sp a b) (sp c d)).run Tryd.prog w = .ok (.bool (decide (a = c) && decide (b = d))) w := by
  rw [run_eql_struct, sp_fields]; rfl
theorem neq_sp (a b c d : Int) (w : World) : (binOp .neq 23 (sp a b) (sp c d)).run Tryd.prog w = .ok (.bool (!(decide (a = c) && decide (b = d)))) w := by
  rw [run_neq_struct, sp_fields]; rfl
theorem guard_sp (o : BinOp) (x y : Operand) (xs ys : Array Value) (w : World) : (eqGuard o 23 x y (.agg xs) (.agg ys)).run Tryd.prog w = .ok () w := run_eqGuard_agg w o 23 x y xs ys (by kernel_rfl)

set_option maxRecDepth 100000 in
theorem cmp_any (w : World) (a b c d : Int) : Calls Tryd.prog 18 #[sp a b, sp c d] w fun x w' => x = .returned (.int .i64 (cmpP a b c d)) ∧ Kp w w' [] := by
  have hg := guard_sp
  have he := eql_sp a b c d
  rcases Int.lt_trichotomy a c with h1 | h1 | h1
  · rw [show cmpP a b c d = -1 by unfold cmpP; rw [if_pos (Or.inl h1)]]
    rw [show (decide (a = c) && decide (b = d)) = false by simp; intro h; omega] at he
    go_enter Tryd.func18, Tryd.ntmps18
    go_wp2
    go_ret
    exact ⟨rfl, (Kp.alloc _ _ _).trans (Kp.alloc _ _ _)⟩
  · subst h1
    rcases Int.lt_trichotomy b d with h2 | h2 | h2
    · rw [show cmpP a b a d = -1 by unfold cmpP; rw [if_pos (Or.inr ⟨rfl, h2⟩)]]
      rw [show (decide (a = a) && decide (b = d)) = false by simp; omega] at he
      go_enter Tryd.func18, Tryd.ntmps18
      go_wp2
      go_ret
      exact ⟨rfl, (Kp.alloc _ _ _).trans (Kp.alloc _ _ _)⟩
    · subst h2
      rw [show cmpP a b a b = 0 by unfold cmpP; rw [if_neg (by omega), if_pos ⟨rfl, rfl⟩]]
      rw [show (decide (a = a) && decide (b = b)) = true by simp] at he
      go_enter Tryd.func18, Tryd.ntmps18
      go_wp2
      go_ret
      exact ⟨rfl, (Kp.alloc _ _ _).trans (Kp.alloc _ _ _)⟩
    · rw [show cmpP a b a d = 1 by unfold cmpP; rw [if_neg (by omega), if_neg (by omega)]]
      rw [show (decide (a = a) && decide (b = d)) = false by simp; omega] at he
      go_enter Tryd.func18, Tryd.ntmps18
      go_wp2
      go_ret
      exact ⟨rfl, (Kp.alloc _ _ _).trans (Kp.alloc _ _ _)⟩
  · rw [show cmpP a b c d = 1 by unfold cmpP; rw [if_neg (by omega), if_neg (by omega)]]
    rw [show (decide (a = c) && decide (b = d)) = false by simp; intro h; omega] at he
    have e1 : (a == c) = false := by simp; omega
    have e2 : (decide (a = c)) = false := by simp; omega
    go_enter Tryd.func18, Tryd.ntmps18
    go_wp2
    go_ret
    exact ⟨rfl, (Kp.alloc _ _ _).trans (Kp.alloc _ _ _)⟩
set_option maxRecDepth 100000 in
theorem rcmp_any (w : World) (a b c d : Int) : Calls Tryd.prog 19 #[sp a b, sp c d] w fun x w' => x = .returned (.int .i64 (cmpP a b c d)) ∧ Kp w w' [] := by
  have hg := guard_sp
  have he := eql_sp a b c d
  rcases Int.lt_trichotomy a c with h1 | h1 | h1
  · rw [show cmpP a b c d = -1 by unfold cmpP; rw [if_pos (Or.inl h1)]]
    rw [show (decide (a = c) && decide (b = d)) = false by simp; intro h; omega] at he
    go_enter Tryd.func19, Tryd.ntmps19
    go_wp2
    go_ret
    exact ⟨rfl, (Kp.alloc _ _ _).trans (Kp.alloc _ _ _)⟩
  · subst h1
    rcases Int.lt_trichotomy b d with h2 | h2 | h2
    · rw [show cmpP a b a d = -1 by unfold cmpP; rw [if_pos (Or.inr ⟨rfl, h2⟩)]]
      rw [show (decide (a = a) && decide (b = d)) = false by simp; omega] at he
      go_enter Tryd.func19, Tryd.ntmps19
      go_wp2
      go_ret
      exact ⟨rfl, (Kp.alloc _ _ _).trans (Kp.alloc _ _ _)⟩
    · subst h2
      rw [show cmpP a b a b = 0 by unfold cmpP; rw [if_neg (by omega), if_pos ⟨rfl, rfl⟩]]
      rw [show (decide (a = a) && decide (b = b)) = true by simp] at he
      go_enter Tryd.func19, Tryd.ntmps19
      go_wp2
      go_ret
      exact ⟨rfl, (Kp.alloc _ _ _).trans (Kp.alloc _ _ _)⟩
    · rw [show cmpP a b a d = 1 by unfold cmpP; rw [if_neg (by omega), if_neg (by omega)]]
      rw [show (decide (a = a) && decide (b = d)) = false by simp; omega] at he
      go_enter Tryd.func19, Tryd.ntmps19
      go_wp2
      go_ret
      exact ⟨rfl, (Kp.alloc _ _ _).trans (Kp.alloc _ _ _)⟩
  · rw [show cmpP a b c d = 1 by unfold cmpP; rw [if_neg (by omega), if_neg (by omega)]]
    rw [show (decide (a = c) && decide (b = d)) = false by simp; intro h; omega] at he
    have e1 : (a == c) = false := by simp; omega
    have e2 : (decide (a = c)) = false := by simp; omega
    go_enter Tryd.func19, Tryd.ntmps19
    go_wp2
    go_ret
    exact ⟨rfl, (Kp.alloc _ _ _).trans (Kp.alloc _ _ _)⟩
end Go.Proofs.YtojdahgoapknjaaDoor
