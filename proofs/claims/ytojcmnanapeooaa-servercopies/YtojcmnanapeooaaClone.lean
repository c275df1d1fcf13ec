/- Clone. -/
import Derived.Test.YtojcmnanapeooaaCat
import Derived.Test.YtojcmnanapeooaaShelf
import Derived.Shelf.SlicesE.Clone
namespace Go.Proofs.Ytojcmnanapeooaa
open Go.RowKit Go.Shelf
open Go.Lib hiding intOf

theorem clone_any (w : World) (v : Value) (l : List Dl) (h : Dr w 0 v l) (hl : l.length ≤ 100000) : Calls Try.prog 35 #[v] w fun e w' => ∃ v', e = .returned v' ∧ Dr w' w.heap.size v' l ∧ Kp w w' [] := by
  obtain ⟨ao, cap, rfl⟩ := h.slice
  cases ao with
  | none =>
    obtain ⟨rfl, -, -⟩ := h.none_of
    refine (AnyE.slices_Clone_nil Try.lCl _ _ w).mono ?_
    rintro e w' ⟨rfl, rfl⟩
    exact ⟨_, rfl, Dr.nil _ _, Kp.refl _ _⟩
  | some ad =>
    obtain ⟨g, rfl⟩ := h.some_of
    obtain ⟨i0, hi, hz0, hz1, hz2⟩ := info_parts Try.infoD
    refine (AnyE.slices_Clone Try.lCl i0 (.agg #[.int .i64 0, .int .i64 0]) 2 16 hi hz0 hz1 hz2 rfl (by decide) (by intro W; kernel_rfl) g 0 l.length cap (dcells l) w (dcells_length l) (by unfold maxLen; omega) (by omega) (fun j u hu => by
      have := h.cells j u hu
      rw [Addr.add_lit] at this
      exact this) (dcells_one l)).mono ?_
    rintro e w' ⟨v', rfl, h1, -, h2⟩
    exact ⟨v', rfl, h1, Kp.of_below h2⟩

end Go.Proofs.Ytojcmnanapeooaa
