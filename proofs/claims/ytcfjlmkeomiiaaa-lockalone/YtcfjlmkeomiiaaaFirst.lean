/- First, List. -/
import Derived.Test.YtcfjlmkeomiiaaaOrder
namespace Go.Proofs.Ytcfjlmkeomiiaaa
open Go.RowKit Go.Shelf Go.Lib Go.Sort Go.Maps
attribute [local go_sem] Oper.semAt_some

theorem cells_kept {W W' : World} {row : Option Nat} {b B : Nat} {c : Array Value} {t : TypeId} {f : Nat × Nat} (h : W.heap[b]? = some (.cells c t f)) (hg : W.grownBy W' row) (hr : ∀ r, row = some r → B ≤ r ∧ ∃ o : Obj, W.heap[r]? = some o ∧ o.isCells = false) : W'.heap[b]? = some (.cells c t f) := by
  refine (hg.block b (lt_of_block h) ?_).trans h
  intro e
  obtain ⟨-, o, ho, hc⟩ := hr b e.symm
  rw [h] at ho
  cases ho
  simp [Obj.isCells] at hc
theorem free_one {w : World} {b : Nat} {v : Value} {t : TypeId} (h : w.heap[b]? = some (.cells #[v] t (0, 0))) : w.frozen? ⟨b, 0, none⟩ = false := by simp [World.frozen?, h]
theorem cell_one {w : World} {b : Nat} {v : Value} {t : TypeId} (h : w.heap[b]? = some (.cells #[v] t (0, 0))) : w.cell? ⟨b, 0, none⟩ = some v := by simp [World.cell?, h]
theorem set_one {w : World} {b : Nat} {v x : Value} {t : TypeId} (h : w.heap[b]? = some (.cells #[v] t (0, 0))) : (w.setCell ⟨b, 0, none⟩ x).heap[b]? = some (.cells #[x] t (0, 0)) := by
  rw [heap_setCell_same w b 0 _ t x h]
  rfl
/-- The two results' boxes. -/
structure B2 (W : World) (s : Nat) (a : Int) (c : Bool) : Prop where
  b0 : W.heap[s]? = some (.cells #[.int .i64 a] 3 (0, 0))
  b1 : W.heap[s + 1]? = some (.cells #[.bool c] 4 (0, 0))
theorem B2.kept {W W' : World} {s : Nat} {a : Int} {c : Bool} {row : Option Nat} {B : Nat} (h : B2 W s a c) (hg : W.grownBy W' row) (hr : ∀ r, row = some r → B ≤ r ∧ ∃ o : Obj, W.heap[r]? = some o ∧ o.isCells = false) : B2 W' s a c :=
  ⟨cells_kept h.b0 hg hr, cells_kept h.b1 hg hr⟩
theorem B2.set {W : World} {s : Nat} {a : Int} {c : Bool} (h : B2 W s a c) (a' : Int) (c' : Bool) : B2 ((W.setCell ⟨s, 0, none⟩ (.int .i64 a')).setCell ⟨s + 1, 0, none⟩ (.bool c')) s a' c' := by
  have e0 := set_one (x := .int .i64 a') h.b0
  have e1 : (W.setCell ⟨s, 0, none⟩ (.int .i64 a')).heap[s + 1]? = _ := (Below.heap_setCell _ _ _ _ (by simp)).trans h.b1
  exact ⟨(Below.heap_setCell _ _ _ _ (by simp)).trans e0, set_one e1⟩
/-- What First tells. -/
noncomputable def fstT (L : List Dl) : Int := ((ordL L).headD (0, 0)).1
noncomputable def fstB (L : List Dl) : Bool := !(ordL L).isEmpty
end Go.Proofs.Ytcfjlmkeomiiaaa
