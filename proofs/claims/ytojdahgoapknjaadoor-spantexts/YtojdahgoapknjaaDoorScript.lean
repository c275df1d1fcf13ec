/- Steps of a region that draws, told one by one: calls of num and half. -/
import Derived.Test.YtojdahgoapknjaaDoorAdd
import Derived.Deep.RegionHeldLaw
namespace Go.Proofs.YtojdahgoapknjaaDoor
open Go.RowKit
set_option linter.unusedVariables false

theorem num_step {ops : Array Oper} {Q : Exit → Act → World → Prop} {S : World → Prop} {fuel : Nat} {listed : Array Bool} {a : Act} {w : World} {i k : Nat} {o : Oper} {e : Int}
    (hr : Region.ready .any ops listed = [i]) (ho : ops[i]? = some o) (hop : o.op = Op.call { callee := .value (.func 17), args := #[.tmp k], argTypes := #[24] })
    (hw : Region.wanted o (yielded ops a.tmps) = true) (hx : a.tmps.getD k undef = .int .i64 e) (hS : S w)
    (h : wpAnyH Tryd.prog .any ops Q S fuel (listed.setIfInBounds i true) (a.put o.dst (.int .i64 e)) w) : wpAnyH Tryd.prog .any ops Q S (fuel + 1) listed a w := by
  refine wpAnyH_ready hr (by simp) ?_
  refine AllReadyH.cons ho (fun K hK => ?_) AllReadyH.nil
  rw [if_pos hw]
  obtain ⟨dst, op, type, pos, after, guard⟩ := o
  simp only at hop
  subst hop
  clear hw hr
  go_simp
  refine (num_any w e).mono ?_
  rintro x w' ⟨rfl, rfl⟩
  exact hK.out _ _ hS (fun _ => h)
theorem half_step {ops : Array Oper} {Q : Exit → Act → World → Prop} {S : World → Prop} {fuel : Nat} {listed : Array Bool} {a : Act} {w : World} {i : Nat} {o : Oper} {e : Int}
    (hr : Region.ready .any ops listed = [i]) (ho : ops[i]? = some o) (hop : o.op = Op.call { callee := .value (.func 32), args := #[.const (.int .i64 e)], argTypes := #[2] })
    (hw : Region.wanted o (yielded ops a.tmps) = true) (hS : ∀ y, Kp w y [] → S y)
    (h : ∀ y, Kp w y [] → S y → wpAnyH Tryd.prog .any ops Q S fuel (listed.setIfInBounds i true) (a.put o.dst (sp e 500000000)) y) : wpAnyH Tryd.prog .any ops Q S (fuel + 1) listed a w := by
  refine wpAnyH_ready hr (by simp) ?_
  refine AllReadyH.cons ho (fun K hK => ?_) AllReadyH.nil
  rw [if_pos hw]
  obtain ⟨dst, op, type, pos, after, guard⟩ := o
  simp only at hop
  subst hop
  clear hw hr
  go_simp
  refine (half_any w e).mono ?_
  rintro x y ⟨rfl, hk⟩
  exact hK.out _ _ (hS y hk) (fun hs => h y hk hs)
theorem load_yields {ops : Array Oper} {S : World → Prop} {a : Act} {o : Oper} {k p : Nat} {u v : Int} (hop : o.op = Op.load 23 (.tmp k)) (hw : Region.wanted o (yielded ops a.tmps) = true)
    (hx : a.tmps.getD k undef = .pointer (some ⟨p, 0, none⟩)) (hS : ∀ w, S w → Bx w p u v) : YieldsIf Tryd.prog ops S o (sp u v) a := by
  refine Or.inl ⟨hw, fun w hs => ?_⟩
  obtain ⟨dst, op, type, pos, after, guard⟩ := o
  simp only at hop
  subst hop
  have h0 := (hS w hs).c0
  have h1 := (hS w hs).c1
  go_simp
end Go.Proofs.YtojdahgoapknjaaDoor
