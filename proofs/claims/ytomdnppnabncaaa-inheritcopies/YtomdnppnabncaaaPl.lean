/- Steps in memory; a graph and the reference's, side by side. -/
import Derived.Test.YtomdnppnabncaaaDo
namespace Go.Proofs.Ytomdnppnabncaaa
open Go.RowKit Go.Shelf
open Go.Lib hiding intOf

/-- A step: its kind, thread and number. -/
structure Sp where
  k : Int
  t : Int
  p : Int
/-- A slice of n steps at V. -/
def Sc (w : World) (V : Value) (n : Nat) (S : Nat → Sp) : Prop :=
  ∃ ao cap, V = .slice ao n cap ∧ n ≤ cap ∧ (0 < n → ∃ b off, ao = some ⟨b, off, none⟩ ∧ ∀ i, i < n →
    w.cell? ⟨b, off + i * 3, none⟩ = some (.int .i64 (S i).k) ∧ w.cell? ⟨b, off + i * 3 + 1, none⟩ = some (.int .i64 (S i).t) ∧ w.cell? ⟨b, off + i * 3 + 2, none⟩ = some (.int .i64 (S i).p))
theorem Sc.shape {w : World} {V : Value} {n : Nat} {S : Nat → Sp} (h : Sc w V n S) : ∃ ao cap, V = .slice ao n cap := by
  obtain ⟨ao, cap, rfl, -⟩ := h
  exact ⟨ao, cap, rfl⟩
theorem Sc.keep {w w' : World} {V : Value} {n : Nat} {S : Nat → Sp} (h : Sc w V n S) (hk : Kp w w' []) : Sc w' V n S := by
  obtain ⟨ao, cap, rfl, h1, h2⟩ := h
  refine ⟨ao, cap, rfl, h1, fun h0 => ?_⟩
  obtain ⟨b, off, rfl, hc⟩ := h2 h0
  refine ⟨b, off, rfl, fun i hi => ?_⟩
  obtain ⟨a, b', c⟩ := hc i hi
  exact ⟨hk.cell a (by simp), hk.cell b' (by simp), hk.cell c (by simp)⟩
theorem Sc.at {w : World} {ao : Option Addr} {cap : Nat} {n : Nat} {S : Nat → Sp} (h : Sc w (.slice ao n cap) n S) {i : Nat} (hi : i < n) : ∃ b off, ao = some ⟨b, off, none⟩ ∧
    w.cell? ⟨b, off + i * 3, none⟩ = some (.int .i64 (S i).k) ∧ w.cell? ⟨b, off + i * 3 + 1, none⟩ = some (.int .i64 (S i).t) ∧ w.cell? ⟨b, off + i * 3 + 2, none⟩ = some (.int .i64 (S i).p) := by
  obtain ⟨ao', cap', hv, h1, h2⟩ := h
  simp only [Value.slice.injEq, true_and] at hv
  obtain ⟨rfl, rfl⟩ := hv
  obtain ⟨b, off, rfl, hc⟩ := h2 (by omega)
  obtain ⟨a, b', c⟩ := hc i hi
  exact ⟨b, off, rfl, a, b', c⟩

/-- Both, made in a call that began at w. -/
structure Pl (Gr : World → Nat → Gs → Prop) (w W : World) (gb rb : Nat) (G : Gs) : Prop where
  gr : Gr W gb G
  rr : Rr W rb G
  g0 : w.heap.size ≤ gb
  r0 : w.heap.size ≤ rb
  kp : Kp w W []
/-- The chapter's rows; all that may be looked at. -/
def KnownOk : Prop := ∀ w, Calls Try.prog 10 #[] w fun e w' => e = .returned (.bool true) ∧ Kp w w' []
def StandsOk (Gr : World → Nat → Gs → Prop) : Prop := ∀ (w : World) (gb rb : Nat) (G : Gs) (leave : Int), Gr w gb G → Rr w rb G → Calls Try.prog 12 #[.pointer (some ⟨gb, 0, none⟩), .pointer (some ⟨rb, 0, none⟩), .int .i64 leave] w fun e w' => e = .returned (.bool true) ∧ Kp w w' []
section
variable {Gr : World → Nat → Gs → Prop} {w W W' : World} {gb rb : Nat} {G : Gs}
theorem Pl.same (P : Prg Gr) (h : Pl Gr w W gb rb G) (hk : Kp W W' []) : Pl Gr w W' gb rb G := ⟨P.still h.gr hk, h.rr.same hk, h.g0, h.r0, h.kp.trans hk⟩
theorem Pl.step (P : Prg Gr) (h : Pl Gr w W gb rb G) (k t x : Int) : Calls Try.prog 11 #[.pointer (some ⟨gb, 0, none⟩), .pointer (some ⟨rb, 0, none⟩), .agg #[.int .i64 k, .int .i64 t, .int .i64 x]] W fun e w' => e = .returned (.bool true) ∧ Pl Gr w w' gb rb (stepG G k t x) ∧ Kp W w' [gb, rb] := by
  refine (does_any P W gb rb G k t x h.gr h.rr).mono ?_
  rintro e w' ⟨rfl, d⟩
  exact ⟨rfl, ⟨d.gr, d.rr, h.g0, h.r0, h.kp.past d.kp (by intro k hk hl; have := h.g0; have := h.r0; simp at hk; omega)⟩, d.kp⟩
theorem Pl.looks (P : Prg Gr) (st : StandsOk Gr) (h : Pl Gr w W gb rb G) (leave : Int) : Calls Try.prog 12 #[.pointer (some ⟨gb, 0, none⟩), .pointer (some ⟨rb, 0, none⟩), .int .i64 leave] W fun e w' => e = .returned (.bool true) ∧ Pl Gr w w' gb rb G := by
  refine (st W gb rb G leave h.gr h.rr).mono ?_
  rintro e w' ⟨rfl, k⟩
  exact ⟨rfl, h.same P k⟩
end
end Go.Proofs.Ytomdnppnabncaaa
