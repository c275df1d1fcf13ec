/- Plain facts of clocks in memory, of what a call leaves alone: no Go is walked here. -/
import Derived.Test.YtdkdjbicnaaafaaRows
import Derived.WalkKit
import Derived.WalkSpells
import Derived.Laws.Rows
import Derived.Laws.Tables
import Derived.Laws.Cells
import Derived.Deep.MidRow
import Derived.Deep.WholeRow
namespace Go.Proofs.Ytdkdjbicnaaafaa
open Go.RowKit

/-- A fact is kept from the walk. -/
theorem hid {p : Prop} (h : p) : Hid p := h

/-- What a call leaves alone: every elder block but those listed. -/
structure Kp (w w' : World) (rows : List Nat) : Prop where
  os : w'.os = w.os
  tape : w'.tape = w.tape
  output : w'.output = w.output
  size : w.heap.size ≤ w'.heap.size
  block : ∀ k, k < w.heap.size → k ∉ rows → w'.heap[k]? = w.heap[k]?

theorem Kp.refl (w : World) (rows : List Nat) : Kp w w rows := ⟨rfl, rfl, rfl, Nat.le_refl _, fun _ _ _ => rfl⟩
theorem Kp.trans {w w1 w2 : World} {rows : List Nat} (h : Kp w w1 rows) (h' : Kp w1 w2 rows) : Kp w w2 rows :=
  ⟨h'.os.trans h.os, h'.tape.trans h.tape, h'.output.trans h.output, Nat.le_trans h.size h'.size, fun k hk hr => (h'.block k (Nat.lt_of_lt_of_le hk h.size) hr).trans (h.block k hk hr)⟩
theorem Kp.mono {w w1 : World} {r1 r2 : List Nat} (h : Kp w w1 r1) (hr : ∀ k ∈ r1, k < w.heap.size → k ∈ r2) : Kp w w1 r2 :=
  ⟨h.os, h.tape, h.output, h.size, fun k hk hn => h.block k hk fun hm => hn (hr k hm hk)⟩
theorem Kp.nil {w w1 : World} {r : List Nat} (h : Kp w w1 []) : Kp w w1 r := h.mono (by simp)
/-- Behind one that wrote what was not there at first. -/
theorem Kp.past {w w1 w2 : World} {r1 r2 : List Nat} (h : Kp w w1 r1) (h' : Kp w1 w2 r2) (hr : ∀ k ∈ r2, k < w.heap.size → k ∈ r1) : Kp w w2 r1 :=
  ⟨h'.os.trans h.os, h'.tape.trans h.tape, h'.output.trans h.output, Nat.le_trans h.size h'.size, fun k hk hn => (h'.block k (Nat.lt_of_lt_of_le hk h.size) (fun hm => hn (hr k hm hk))).trans (h.block k hk hn)⟩
theorem Kp.alloc (w : World) (o : Obj) (rows : List Nat) : Kp w (w.alloc o) rows :=
  ⟨rfl, rfl, rfl, by simp, fun k hk _ => Below.heap_alloc _ _ _ hk⟩
theorem Kp.setCell (w : World) (a : Addr) (u : Value) : Kp w (w.setCell a u) [a.block] :=
  ⟨rfl, rfl, rfl, by simp, fun k _ hk => Below.heap_setCell _ _ _ _ (fun e => hk (by simp [e]))⟩
theorem Kp.drew (w : World) (rows : List Nat) : Kp w w.drew rows := ⟨rfl, rfl, rfl, Nat.le_refl _, fun _ _ _ => rfl⟩
theorem Kp.grown {w w1 : World} (h : w.grownBy w1 none) {rows : List Nat} : Kp w w1 rows := ⟨h.os, h.tape, h.output, h.size, fun k hk _ => h.block k hk (by simp)⟩
theorem Kp.below {w w1 : World} (h : Kp w w1 []) : Below w.heap.size w w1 := ⟨h.os, h.tape, h.output, h.size, fun k hk => h.block k hk (by simp)⟩
theorem Kp.of_below {w w1 : World} (h : Below w.heap.size w w1) : Kp w w1 [] := ⟨h.os, h.tape, h.output, h.size, fun k hk _ => h.block k hk⟩
theorem Kp.cell {w w1 : World} {rows : List Nat} {b i : Nat} {v : Value} (h : Kp w w1 rows) (hc : w.cell? ⟨b, i, none⟩ = some v) (hb : b ∉ rows) : w1.cell? ⟨b, i, none⟩ = some v :=
  (World.cell?_of_block (a := ⟨b, i, none⟩) (h.block b (World.block_lt_of_cell? w _ hc) hb)).trans hc

theorem lt_of_block {w : World} {b : Nat} {o : Obj} (h : w.heap[b]? = some o) : b < w.heap.size := by
  rcases Nat.lt_or_ge b w.heap.size with h' | h'
  · exact h'
  · rw [Array.getElem?_eq_none h'] at h; cases h



/-! ### Clocks in memory -/
/-- The program's clocks at block b: Real shows x, Mono y. -/
def Ck (w : World) (b : Nat) (x y : Int) : Prop := w.heap[b]? = some (.cells #[.int .i64 x, .int .i64 y, .bool true] 51 (0, 0))
/-- The reference's. -/
def Rk (w : World) (b : Nat) (x y : Int) : Prop := w.heap[b]? = some (.cells #[.int .i64 x, .int .i64 y] 54 (0, 0))
section
variable {w w' : World} {b : Nat} {x y : Int}
theorem Ck.lt (h : Ck w b x y) : b < w.heap.size := lt_of_block h
theorem Rk.lt (h : Rk w b x y) : b < w.heap.size := lt_of_block h
theorem Ck.keep (h : Ck w b x y) {rows : List Nat} (hk : Kp w w' rows) (hr : b ∉ rows) : Ck w' b x y := (hk.block b h.lt hr).trans h
theorem Rk.keep (h : Rk w b x y) {rows : List Nat} (hk : Kp w w' rows) (hr : b ∉ rows) : Rk w' b x y := (hk.block b h.lt hr).trans h
theorem Ck.c0 (h : Ck w b x y) : w.cell? ⟨b, 0, none⟩ = some (.int .i64 x) := by rw [cell_of_row w b 0 _ _ _ h]; rfl
theorem Ck.c1 (h : Ck w b x y) : w.cell? ⟨b, 1, none⟩ = some (.int .i64 y) := by rw [cell_of_row w b 1 _ _ _ h]; rfl
theorem Ck.c2 (h : Ck w b x y) : w.cell? ⟨b, 2, none⟩ = some (.bool true) := by rw [cell_of_row w b 2 _ _ _ h]; rfl
theorem Rk.c0 (h : Rk w b x y) : w.cell? ⟨b, 0, none⟩ = some (.int .i64 x) := by rw [cell_of_row w b 0 _ _ _ h]; rfl
theorem Rk.c1 (h : Rk w b x y) : w.cell? ⟨b, 1, none⟩ = some (.int .i64 y) := by rw [cell_of_row w b 1 _ _ _ h]; rfl
theorem Ck.free (h : Ck w b x y) (i : Nat) : w.frozen? ⟨b, i, none⟩ = false := by simp [World.frozen?, show w.heap[b]? = _ from h]
theorem Rk.free (h : Rk w b x y) (i : Nat) : w.frozen? ⟨b, i, none⟩ = false := by simp [World.frozen?, show w.heap[b]? = _ from h]
theorem Ck.set0 (h : Ck w b x y) (z : Int) : Ck (w.setCell ⟨b, 0, none⟩ (.int .i64 z)) b z y := by
  unfold Ck; rw [heap_setCell_same w b 0 _ 51 _ h]; rfl
theorem Ck.set1 (h : Ck w b x y) (z : Int) : Ck (w.setCell ⟨b, 1, none⟩ (.int .i64 z)) b x z := by
  unfold Ck; rw [heap_setCell_same w b 1 _ 51 _ h]; rfl
theorem Rk.set0 (h : Rk w b x y) (z : Int) : Rk (w.setCell ⟨b, 0, none⟩ (.int .i64 z)) b z y := by
  unfold Rk; rw [heap_setCell_same w b 0 _ 54 _ h]; rfl
theorem Rk.set1 (h : Rk w b x y) (z : Int) : Rk (w.setCell ⟨b, 1, none⟩ (.int .i64 z)) b x z := by
  unfold Rk; rw [heap_setCell_same w b 1 _ 54 _ h]; rfl
end
theorem ck_rk {w : World} {b c : Nat} {x y x' y' : Int} (h : Ck w b x y) (h' : Rk w c x' y') : b ≠ c := by
  rintro rfl
  unfold Ck at h; unfold Rk at h'
  rw [h] at h'
  simp at h'
/-- No clocks: nil, or made is false. -/
def Zc (w : World) (p : Option Addr) : Prop := p = none ∨ ∃ b, p = some ⟨b, 0, none⟩ ∧ w.cell? ⟨b, 2, none⟩ = some (.bool false)
theorem Zc.keep {w w' : World} {p : Option Addr} (h : Zc w p) (hk : Kp w w' []) : Zc w' p := by
  rcases h with h | ⟨b, h, hc⟩
  · exact .inl h
  · exact .inr ⟨b, h, hk.cell hc (by simp)⟩

/-! ### What they answer -/
/-- What a clock may show. -/
def may (x : Int) : Prop := 0 ≤ x ∧ x ≤ 1099511627776
/-- One more. -/
def tk (x : Int) : Int := min (x + 1) 1099511627776
theorem tk_may {x : Int} (h : may x) : may (tk x) := by unfold may tk at *; omega
def nowV (x y k : Int) : Int := if k = 0 then x else if k = 1 then y else 0
def nowE (k : Int) : Int := if k = 0 ∨ k = 1 then 0 else 2
def inV (x y k n : Int) : Int := if (k = 0 ∨ k = 1) ∧ 0 ≤ n then min (nowV x y k + n) 1099511627776 else 0
def inE (k n : Int) : Int := if (k = 0 ∨ k = 1) ∧ 0 ≤ n then 0 else 2
def leftV (x y k d : Int) : Int := if k = 0 ∨ k = 1 then max (min d 1099511627776) (nowV x y k) - nowV x y k else 0
def dueB (x y k d : Int) : Bool := decide (k = 0 ∨ k = 1) && (decide (d ≤ nowV x y k) || decide (nowV x y k = 1099511627776))
def setE (k n : Int) : Int := if (k = 0 ∨ k = 1) ∧ 0 ≤ n ∧ n ≤ 1099511627776 then (if k = 0 then 0 else 7) else 2
def setX (x k n : Int) : Int := if k = 0 ∧ 0 ≤ n ∧ n ≤ 1099511627776 then n else x
theorem setX_may {x k n : Int} (h : may x) : may (setX x k n) := by
  unfold setX may at *
  split <;> omega
theorem nowV_may {x y k : Int} (hx : may x) (hy : may y) : may (nowV x y k) := by
  unfold nowV
  split
  · exact hx
  · split
    · exact hy
    · exact ⟨by omega, by omega⟩
end Go.Proofs.Ytdkdjbicnaaafaa
