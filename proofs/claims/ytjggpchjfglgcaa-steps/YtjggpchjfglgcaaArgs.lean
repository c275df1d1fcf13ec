/- A script that came in, read. -/
import Derived.Test.YtjggpchjfglgcaaKn
import Derived.Test.YtjggpchjfglgcaaRows
import Derived.WalkKit
import Derived.ProofKit
import Derived.OpenShut
import Derived.ShutString
import Derived.ChangeOld
import Derived.Below
import Derived.SizedLaws
import Derived.Deep.Slices
namespace Go.Proofs.Ytjggpchjfglgcaa
open Go.ChangeShapes Go.WideShapes Go.ChangeAt Go.RowKit
set_option linter.unusedVariables false

/-- A step: its kind, a flag, a cleanup's program and value. -/
structure Stp where
  k : Int
  on : Bool
  x : Int
  y : Int
/-- A slice of n steps at V. -/
def Scr (w : World) (V : Value) (n : Nat) (S : Nat → Stp) : Prop :=
  ∃ ao cap, V = .slice ao n cap ∧ n ≤ cap ∧ (0 < n → ∃ b off, ao = some ⟨b, off, none⟩ ∧ ∀ i, i < n → w.cell? ⟨b, off + i * 4, none⟩ = some (.int .i64 (S i).k) ∧ w.cell? ⟨b, off + i * 4 + 1, none⟩ = some (.bool (S i).on) ∧ w.cell? ⟨b, off + i * 4 + 2, none⟩ = some (.int .i64 (S i).x) ∧ w.cell? ⟨b, off + i * 4 + 3, none⟩ = some (.int .i64 (S i).y))
theorem Scr.shape {w : World} {V : Value} {n : Nat} {S : Nat → Stp} (h : Scr w V n S) : ∃ ao cap, V = .slice ao n cap := by
  obtain ⟨ao, cap, rfl, -⟩ := h
  exact ⟨ao, cap, rfl⟩
theorem Scr.keep {w w' : World} {V : Value} {n : Nat} {S : Nat → Stp} (h : Scr w V n S) (hk : Kp w w' []) : Scr w' V n S := by
  obtain ⟨ao, cap, rfl, h1, h2⟩ := h
  refine ⟨ao, cap, rfl, h1, fun h0 => ?_⟩
  obtain ⟨b, off, rfl, hc⟩ := h2 h0
  refine ⟨b, off, rfl, fun i hi => ?_⟩
  obtain ⟨a, b', c, d⟩ := hc i hi
  exact ⟨hk.cell a (by simp), hk.cell b' (by simp), hk.cell c (by simp), hk.cell d (by simp)⟩
theorem Scr.at {w : World} {ao : Option Addr} {cap : Nat} {n : Nat} {S : Nat → Stp} (h : Scr w (.slice ao n cap) n S) {i : Nat} (hi : i < n) : ∃ b off, ao = some ⟨b, off, none⟩ ∧ w.cell? ⟨b, off + i * 4, none⟩ = some (.int .i64 (S i).k) ∧ w.cell? ⟨b, off + i * 4 + 1, none⟩ = some (.bool (S i).on) ∧ w.cell? ⟨b, off + i * 4 + 2, none⟩ = some (.int .i64 (S i).x) ∧ w.cell? ⟨b, off + i * 4 + 3, none⟩ = some (.int .i64 (S i).y) := by
  obtain ⟨ao', cap', hv, h1, h2⟩ := h
  simp only [Value.slice.injEq, true_and] at hv
  obtain ⟨rfl, rfl⟩ := hv
  obtain ⟨b, off, rfl, hc⟩ := h2 (by omega)
  obtain ⟨a, b', c, d⟩ := hc i hi
  exact ⟨b, off, rfl, a, b', c, d⟩

theorem own : ownKnob Try.prog.godebug = none := by kernel_rfl
theorem laidOut : laidOutB Try.prog = true := by kernel_rfl
theorem list4 {α : Type} {l : List α} (h : l.length = 4) : ∃ a b c d, l = [a, b, c, d] := by
  match l, h with
  | [a, b, c, d], _ => exact ⟨a, b, c, d, rfl⟩
theorem list2 {α : Type} {l : List α} (h : l.length = 2) : ∃ a b, l = [a, b] := by
  match l, h with
  | [a, b], _ => exact ⟨a, b, rfl⟩
theorem list3 {α : Type} {l : List α} (h : l.length = 3) : ∃ a b c, l = [a, b, c] := by
  match l, h with
  | [a, b, c], _ => exact ⟨a, b, c, rfl⟩
theorem step_of_trod {H : Type} {enc : TypeId × Value → H} {W : World} {base fuel : Nat} {spare : TypeId → Bool} {held : Bool} {cs : List Value} {d : DataW H} {p : List MemPlace}
    (hf : DataW.trod enc Try.prog W base spare held fuel 32 cs = some (d, p)) :
    ∃ s : Stp, cs = [.int .i64 s.k, .bool s.on, .int .i64 s.x, .int .i64 s.y] := by
  obtain ⟨xs, m, -, hx, hlen, hl, hi⟩ := DataW.trod_struct Try.underlying32 hf
  have hC : Try.prog.cellsOf 32 = 4 := by kernel_rfl
  rw [hC] at hlen
  obtain ⟨c0, c1, c2, c3, rfl⟩ := list4 hlen
  obtain ⟨y0, y1, y2, rfl⟩ := list3 (l := xs) (by simpa using hl)
  have k3 : Try.prog.cellsOf 3 = 1 := by kernel_rfl
  have k4 : Try.prog.cellsOf 4 = 1 := by kernel_rfl
  have k2 : Try.prog.cellsOf 2 = 1 := by kernel_rfl
  have k30 : Try.prog.cellsOf 30 = 2 := by kernel_rfl
  have i0 : DataW.trod enc Try.prog W base spare held m 3 (List.take (Try.prog.cellsOf 3) (List.drop 0 [c0, c1, c2, c3])) = some y0 := hi 0 _ rfl
  rw [k3] at i0
  have i1 : DataW.trod enc Try.prog W base spare held m 4 (List.take (Try.prog.cellsOf 4) (List.drop 1 [c0, c1, c2, c3])) = some y1 := hi 1 _ rfl
  rw [k4] at i1
  have i3 : DataW.trod enc Try.prog W base spare held m 30 (List.take (Try.prog.cellsOf 30) (List.drop 2 [c0, c1, c2, c3])) = some y2 := hi 2 _ rfl
  rw [k30] at i3
  obtain ⟨zs, m', -, -, hlen', hl', hi'⟩ := DataW.trod_struct Try.underlying30 i3
  obtain ⟨z0, z1, rfl⟩ := list2 (l := zs) (by simpa using hl')
  have i4 : DataW.trod enc Try.prog W base spare held m' 3 (List.take (Try.prog.cellsOf 3) (List.drop 0 (List.take 2 (List.drop 2 [c0, c1, c2, c3])))) = some z0 := hi' 0 _ rfl
  rw [k3] at i4
  have i5 : DataW.trod enc Try.prog W base spare held m' 2 (List.take (Try.prog.cellsOf 2) (List.drop 1 (List.take 2 (List.drop 2 [c0, c1, c2, c3])))) = some z1 := hi' 1 _ rfl
  rw [k2] at i5
  obtain ⟨k, e0, -, w0⟩ := DataW.trod_int Try.underlying3 i0
  obtain ⟨on, e1, -⟩ := DataW.trod_bool Try.underlying4 i1
  obtain ⟨x, e2, -, w2⟩ := DataW.trod_int Try.underlying3 i4
  obtain ⟨y, e3, -, w3⟩ := DataW.trod_int Try.underlying2 i5
  simp at e0 e1 e2 e3
  subst e0 e1 e2 e3
  exact ⟨⟨k, on, x, y⟩, rfl⟩
theorem sc_of_trod {H : Type} {enc : TypeId × Value → H} {W : World} {base fuel : Nat} {spare : TypeId → Bool} {held : Bool} {V : Value} {d : DataW H} {p : List MemPlace}
    (hf : DataW.trod enc Try.prog W base spare held fuel 22 [V] = some (d, p)) : ∃ n S, Scr W V n S ∧ n ≤ maxLen := by
  rcases Go.Deep.open_slice Try.underlying22 hf with ⟨hcs, hx⟩ | ⟨a, len, cap, m, nf, D, Pl, hcs, hb, hl, hm, hmm, hx, hel⟩
  · simp only [List.cons.injEq, and_true] at hcs
    subst hcs
    exact ⟨0, fun _ => ⟨0, false, 0, 0⟩, ⟨none, 0, rfl, Nat.le_refl _, fun h => by omega⟩, by unfold maxLen; omega⟩
  · simp only [List.cons.injEq, and_true] at hcs
    subst hcs
    have hC : Try.prog.cellsOf 32 = 4 := by kernel_rfl
    rw [hC] at hel
    have hlm : len ≤ m := by rw [hmm]; split <;> omega
    haveI : Inhabited Stp := ⟨⟨0, false, 0, 0⟩⟩
    obtain ⟨S, hS⟩ := Go.Deep.choose_lt (n := len) (p := fun i (s : Stp) => W.cells? base (a.add (i * 4)) 4 = some [.int .i64 s.k, .bool s.on, .int .i64 s.x, .int .i64 s.y]) (fun i hi => by
      obtain ⟨cs', h1, h2⟩ := hel i (by omega)
      obtain ⟨s, rfl⟩ := step_of_trod h2
      exact ⟨s, h1⟩)
    refine ⟨len, S, ⟨some a, cap, rfl, hl, fun h0 => ?_⟩, by omega⟩
    obtain ⟨b, off, spot⟩ := a
    have hspot : spot = none := by
      have := (World.cells?_some (hS 0 h0)).2.2 0 (by decide)
      have h2 := World.cell?_spot (v := .int .i64 (S 0).k) (by simpa using this)
      simpa [Addr.add] using h2
    subst hspot
    refine ⟨b, off, rfl, fun i hi => ?_⟩
    have hc := (World.cells?_some (hS i hi)).2.2
    simp only [Addr.add_lit] at hc
    exact ⟨hc 0 (by decide), hc 1 (by decide), hc 2 (by decide), hc 3 (by decide)⟩
end Go.Proofs.Ytjggpchjfglgcaa
