/- Three spans that came in. -/
import Derived.Test.YtojdahgoapknjaaDoorLaw
import Derived.Test.YtojdahgoapknjaaDoorAdds
namespace Go.Proofs.YtojdahgoapknjaaDoor
open Go.ChangeShapes Go.WideShapes Go.ChangeAt Go.WideMaps Go.WideElems Go.RowKit
set_option linter.unusedVariables false

theorem sp_cells {H : Type} {enc : TypeId × Value → H} {W : World} {base : Nat} {spare : Nat → Bool} {held : Bool} {fuel : Nat} {cs : List Value} {x : DataW H × List MemPlace}
    (h : DataW.trod enc Tryd.prog W base spare held fuel 23 cs = some x) : ∃ s n, cs = [.int .i64 s, .int .i64 n] := by
  obtain ⟨xs, m, rfl, hx, hl, hn, hel⟩ := DataW.trod_struct Tryd.underlying23 h
  have c23 : Tryd.prog.cellsOf 23 = 2 := by kernel_rfl
  have c2 : Tryd.prog.cellsOf 2 = 1 := by kernel_rfl
  rw [c23] at hl
  have hn2 : xs.length = 2 := by simpa using hn
  have e0 := hel 0 ⟨"Sec", 2, 0, false, "", "", 0⟩ rfl
  have e1 := hel 1 ⟨"Nsec", 2, 1, false, "", "", 8⟩ rfl
  simp only [c2] at e0 e1
  rw [List.getElem?_eq_getElem (by omega)] at e0 e1
  obtain ⟨k0, f0, -⟩ := DataW.trod_int Tryd.underlying2 e0
  obtain ⟨k1, f1, -⟩ := DataW.trod_int Tryd.underlying2 e1
  match cs, hl, f0, f1 with
  | [x, y], _, f0, f1 =>
    refine ⟨k0, k1, ?_⟩
    have g0 : x = .int .i64 k0 := by simpa using f0
    have g1 : y = .int .i64 k1 := by simpa using f1
    rw [g0, g1]
theorem l6_open {H : Type} {enc : TypeId × Value → H} {W : World} {b0 base : Nat} {spare : Nat → Bool} {held : Bool} {v : Value} {d : DataW H} {ps : List MemPlace}
    (hval : Value.okWide Tryd.prog W .any b0 49 v) (hd : DataW.Trod enc Tryd.prog W base spare held 49 v d ps) : ∃ a b c d e f, v = l6 a b c d e f := by
  have hv : ∃ cs, v = .agg cs := by
    cases v with
    | agg cs => exact ⟨cs, rfl⟩
    | _ => simp [Value.okWide, Tryd.underlying49] at hval
  obtain ⟨cs, rfl⟩ := hv
  obtain ⟨fuel, hd⟩ := hd
  obtain ⟨xs, m, rfl, hx, hl, hn, hel⟩ := DataW.trod_array Tryd.underlying49 hd
  have c49 : Tryd.prog.cellsOf 49 = 6 := by kernel_rfl
  have c23 : Tryd.prog.cellsOf 23 = 2 := by kernel_rfl
  rw [c49] at hl
  have e0 := hel 0 (by decide)
  have e1 := hel 1 (by decide)
  have e2 := hel 2 (by decide)
  rw [c23] at e0 e1 e2
  rw [List.getElem?_eq_getElem (by omega)] at e0 e1 e2
  obtain ⟨a, b, f0⟩ := sp_cells e0
  obtain ⟨c, d, f1⟩ := sp_cells e1
  obtain ⟨e, f, f2⟩ := sp_cells e2
  obtain ⟨l⟩ := cs
  have hl' : l.length = 6 := by simpa [Value.cells] using hl
  match l, hl', f0, f1, f2 with
  | [x1, x2, x3, x4, x5, x6], _, f0, f1, f2 =>
    refine ⟨a, b, c, d, e, f, ?_⟩
    simp [Value.cells] at f0 f1 f2
    obtain ⟨rfl, rfl⟩ := f0
    obtain ⟨rfl, rfl⟩ := f1
    obtain ⟨rfl, rfl⟩ := f2
    rfl
end Go.Proofs.YtojdahgoapknjaaDoor
