/- A script, and a list of yes and no, that came in, read. -/
import Derived.Test.YtojcmnanapeooaaKnown
import Derived.Test.YtojcmnanapeooaaRows
import Derived.WalkKit
import Derived.ProofKit
import Derived.OpenShut
import Derived.ShutString
import Derived.ChangeOld
import Derived.Below
import Derived.SizedLaws
import Derived.Deep.Slices
namespace Go.Proofs.Ytojcmnanapeooaa
open Go.ChangeShapes Go.WideShapes Go.ChangeAt Go.RowKit
set_option linter.unusedVariables false

/-- A step: its kind, its time. -/
structure Sp where
  k : Int
  t : Int
/-- A slice of n steps at V. -/
def Sc2 (w : World) (V : Value) (n : Nat) (S : Nat → Sp) : Prop :=
  ∃ ao cap, V = .slice ao n cap ∧ n ≤ cap ∧ (0 < n → ∃ b off, ao = some ⟨b, off, none⟩ ∧ ∀ i, i < n →
    w.cell? ⟨b, off + i * 2, none⟩ = some (.int .i64 (S i).k) ∧ w.cell? ⟨b, off + i * 2 + 1, none⟩ = some (.int .i64 (S i).t))
theorem Sc2.shape {w : World} {V : Value} {n : Nat} {S : Nat → Sp} (h : Sc2 w V n S) : ∃ ao cap, V = .slice ao n cap := by
  obtain ⟨ao, cap, rfl, -⟩ := h
  exact ⟨ao, cap, rfl⟩
theorem Sc2.keep {w w' : World} {V : Value} {n : Nat} {S : Nat → Sp} (h : Sc2 w V n S) (hk : Kp w w' []) : Sc2 w' V n S := by
  obtain ⟨ao, cap, rfl, h1, h2⟩ := h
  refine ⟨ao, cap, rfl, h1, fun h0 => ?_⟩
  obtain ⟨b, off, rfl, hc⟩ := h2 h0
  refine ⟨b, off, rfl, fun i hi => ?_⟩
  obtain ⟨a, b'⟩ := hc i hi
  exact ⟨hk.cell a (by simp), hk.cell b' (by simp)⟩
theorem Sc2.at {w : World} {ao : Option Addr} {cap : Nat} {n : Nat} {S : Nat → Sp} (h : Sc2 w (.slice ao n cap) n S) {i : Nat} (hi : i < n) : ∃ b off, ao = some ⟨b, off, none⟩ ∧
    w.cell? ⟨b, off + i * 2, none⟩ = some (.int .i64 (S i).k) ∧ w.cell? ⟨b, off + i * 2 + 1, none⟩ = some (.int .i64 (S i).t) := by
  obtain ⟨ao', cap', hv, h1, h2⟩ := h
  simp only [Value.slice.injEq, true_and] at hv
  obtain ⟨rfl, rfl⟩ := hv
  obtain ⟨b, off, rfl, hc⟩ := h2 (by omega)
  obtain ⟨a, b'⟩ := hc i hi
  exact ⟨b, off, rfl, a, b'⟩
/-- A slice of n times yes or no at V. -/
def Gb (w : World) (V : Value) (n : Nat) (G : Nat → Bool) : Prop :=
  ∃ ao cap, V = .slice ao n cap ∧ n ≤ cap ∧ (0 < n → ∃ b off, ao = some ⟨b, off, none⟩ ∧ ∀ i, i < n → w.cell? ⟨b, off + i, none⟩ = some (.bool (G i)))
theorem Gb.shape {w : World} {V : Value} {n : Nat} {G : Nat → Bool} (h : Gb w V n G) : ∃ ao cap, V = .slice ao n cap := by
  obtain ⟨ao, cap, rfl, -⟩ := h
  exact ⟨ao, cap, rfl⟩
theorem Gb.keep {w w' : World} {V : Value} {n : Nat} {G : Nat → Bool} (h : Gb w V n G) (hk : Kp w w' []) : Gb w' V n G := by
  obtain ⟨ao, cap, rfl, h1, h2⟩ := h
  refine ⟨ao, cap, rfl, h1, fun h0 => ?_⟩
  obtain ⟨b, off, rfl, hc⟩ := h2 h0
  exact ⟨b, off, rfl, fun i hi => hk.cell (hc i hi) (by simp)⟩
theorem Gb.at {w : World} {ao : Option Addr} {cap : Nat} {n : Nat} {G : Nat → Bool} (h : Gb w (.slice ao n cap) n G) {i : Nat} (hi : i < n) : ∃ b off, ao = some ⟨b, off, none⟩ ∧ w.cell? ⟨b, off + i, none⟩ = some (.bool (G i)) := by
  obtain ⟨ao', cap', hv, h1, h2⟩ := h
  simp only [Value.slice.injEq, true_and] at hv
  obtain ⟨rfl, rfl⟩ := hv
  obtain ⟨b, off, rfl, hc⟩ := h2 (by omega)
  exact ⟨b, off, rfl, hc i hi⟩

theorem own : ownKnob Try.prog.godebug = none := by kernel_rfl
theorem laidOut : laidOutB Try.prog = true := by kernel_rfl
theorem list2 {α : Type} {l : List α} (h : l.length = 2) : ∃ a b, l = [a, b] := by
  match l, h with
  | [a, b], _ => exact ⟨a, b, rfl⟩

theorem step_of_trod {H : Type} {enc : TypeId × Value → H} {W : World} {base fuel : Nat} {spare : TypeId → Bool} {held : Bool} {cs : List Value} {d : DataW H} {p : List MemPlace}
    (hf : DataW.trod enc Try.prog W base spare held fuel 32 cs = some (d, p)) :
    ∃ s : Sp, cs = [.int .i64 s.k, .int .i64 s.t] := by
  obtain ⟨xs, m, -, hx, hlen, hl, hi⟩ := DataW.trod_struct Try.underlying32 hf
  have hC : Try.prog.cellsOf 32 = 2 := by kernel_rfl
  rw [hC] at hlen
  obtain ⟨c0, c1, rfl⟩ := list2 hlen
  obtain ⟨y0, y1, rfl⟩ := list2 (l := xs) (by simpa using hl)
  have k3 : Try.prog.cellsOf 3 = 1 := by kernel_rfl
  have k2 : Try.prog.cellsOf 2 = 1 := by kernel_rfl
  have i0 : DataW.trod enc Try.prog W base spare held m 3 (List.take (Try.prog.cellsOf 3) (List.drop 0 [c0, c1])) = some y0 := hi 0 _ rfl
  rw [k3] at i0
  have i1 : DataW.trod enc Try.prog W base spare held m 2 (List.take (Try.prog.cellsOf 2) (List.drop 1 [c0, c1])) = some y1 := hi 1 _ rfl
  rw [k2] at i1
  obtain ⟨k, e0, -, w0⟩ := DataW.trod_int Try.underlying3 i0
  obtain ⟨n, e1, -, w1⟩ := DataW.trod_int Try.underlying2 i1
  simp at e0 e1
  subst e0 e1
  exact ⟨⟨k, n⟩, rfl⟩

theorem sc_of_trod {H : Type} {enc : TypeId × Value → H} {W : World} {base fuel : Nat} {spare : TypeId → Bool} {held : Bool} {V : Value} {d : DataW H} {p : List MemPlace}
    (hf : DataW.trod enc Try.prog W base spare held fuel 22 [V] = some (d, p)) : ∃ n S, Sc2 W V n S ∧ n ≤ maxLen := by
  rcases Go.Deep.open_slice Try.underlying22 hf with ⟨hcs, hx⟩ | ⟨a, len, cap, m, nf, D, Pl, hcs, hb, hl, hm, hmm, hx, hel⟩
  · simp only [List.cons.injEq, and_true] at hcs
    subst hcs
    exact ⟨0, fun _ => ⟨0, 0⟩, ⟨none, 0, rfl, Nat.le_refl _, fun h => by omega⟩, by unfold maxLen; omega⟩
  · simp only [List.cons.injEq, and_true] at hcs
    subst hcs
    have hC : Try.prog.cellsOf 32 = 2 := by kernel_rfl
    rw [hC] at hel
    have hlm : len ≤ m := by rw [hmm]; split <;> omega
    haveI : Inhabited Sp := ⟨⟨0, 0⟩⟩
    obtain ⟨S, hS⟩ := Go.Deep.choose_lt (n := len) (p := fun i (s : Sp) => W.cells? base (a.add (i * 2)) 2 = some [.int .i64 s.k, .int .i64 s.t]) (fun i hi => by
      obtain ⟨cs', h1, h2⟩ := hel i (by omega)
      obtain ⟨s, rfl⟩ := step_of_trod h2
      exact ⟨s, h1⟩)
    refine ⟨len, S, ⟨some a, cap, rfl, hl, fun h0 => ?_⟩, by omega⟩
    obtain ⟨b, off, spot⟩ := a
    have hspot : spot = none := by
      have := (World.cells?_some (hS 0 h0)).2.2 0 (by decide)
      have h2 := World.cell?_spot (v := .int .i64 (S 0).k) (by simpa using this)
      simpa [Addr.add] using h2
    subst hspot
    refine ⟨b, off, rfl, fun i hi => ?_⟩
    have hc := (World.cells?_some (hS i hi)).2.2
    simp only [Addr.add_lit] at hc
    exact ⟨hc 0 (by decide), hc 1 (by decide)⟩
theorem gb_of_trod {H : Type} {enc : TypeId × Value → H} {W : World} {base fuel : Nat} {spare : TypeId → Bool} {held : Bool} {V : Value} {d : DataW H} {p : List MemPlace}
    (hf : DataW.trod enc Try.prog W base spare held fuel 46 [V] = some (d, p)) : ∃ n G, Gb W V n G ∧ n ≤ maxLen := by
  rcases Go.Deep.open_slice Try.underlying46 hf with ⟨hcs, hx⟩ | ⟨a, len, cap, m, nf, D, Pl, hcs, hb, hl, hm, hmm, hx, hel⟩
  · simp only [List.cons.injEq, and_true] at hcs
    subst hcs
    exact ⟨0, fun _ => false, ⟨none, 0, rfl, Nat.le_refl _, fun h => by omega⟩, by unfold maxLen; omega⟩
  · simp only [List.cons.injEq, and_true] at hcs
    subst hcs
    have hC : Try.prog.cellsOf 4 = 1 := by kernel_rfl
    rw [hC] at hel
    have hlm : len ≤ m := by rw [hmm]; split <;> omega
    obtain ⟨S, hS⟩ := Go.Deep.choose_lt (n := len) (p := fun i (s : Bool) => W.cells? base (a.add (i * 1)) 1 = some [.bool s]) (fun i hi => by
      obtain ⟨cs', h1, h2⟩ := hel i (by omega)
      obtain ⟨s, rfl, -⟩ := DataW.trod_bool Try.underlying4 h2
      exact ⟨s, h1⟩)
    refine ⟨len, S, ⟨some a, cap, rfl, hl, fun h0 => ?_⟩, by omega⟩
    obtain ⟨b, off, spot⟩ := a
    have hspot : spot = none := by
      have := (World.cells?_some (hS 0 h0)).2.2 0 (by decide)
      have h2 := World.cell?_spot (v := .bool (S 0)) (by simpa using this)
      simpa [Addr.add] using h2
    subst hspot
    refine ⟨b, off, rfl, fun i hi => ?_⟩
    have hc := (World.cells?_some (hS i hi)).2.2 0 (by decide)
    simp only [Addr.add_lit] at hc
    rw [Nat.mul_one, Nat.add_zero] at hc
    exact hc
end Go.Proofs.Ytojcmnanapeooaa
