/- Plain facts of tables in memory, of what a call leaves alone: no Go is walked here. -/
import Derived.Test.YtaofpijcjohnhaaRows
import Derived.WalkKit
import Derived.WalkSpells
import Derived.Laws.Rows
import Derived.Laws.Tables
import Derived.Laws.Cells
import Derived.Deep.MidRow
import Derived.Deep.WholeRow
namespace Go.Proofs.Ytaofpijcjohnhaa
open Go.RowKit

/-- A fact is kept from the walk. -/
theorem hid {p : Prop} (h : p) : Hid p := h

/-- What a call leaves alone: every elder block but those listed. -/
structure Kp (w w' : World) (rows : List Nat) : Prop where
  os : w'.os = w.os
  tape : w'.tape = w.tape
  output : w'.output = w.output
  size : w.heap.size ≤ w'.heap.size
  block : ∀ k, k < w.heap.size → k ∉ rows → w'.heap[k]? = w.heap[k]?

theorem Kp.refl (w : World) (rows : List Nat) : Kp w w rows := ⟨rfl, rfl, rfl, Nat.le_refl _, fun _ _ _ => rfl⟩
theorem Kp.trans {w w1 w2 : World} {rows : List Nat} (h : Kp w w1 rows) (h' : Kp w1 w2 rows) : Kp w w2 rows :=
  ⟨h'.os.trans h.os, h'.tape.trans h.tape, h'.output.trans h.output, Nat.le_trans h.size h'.size, fun k hk hr => (h'.block k (Nat.lt_of_lt_of_le hk h.size) hr).trans (h.block k hk hr)⟩
theorem Kp.mono {w w1 : World} {r1 r2 : List Nat} (h : Kp w w1 r1) (hr : ∀ k ∈ r1, k < w.heap.size → k ∈ r2) : Kp w w1 r2 :=
  ⟨h.os, h.tape, h.output, h.size, fun k hk hn => h.block k hk fun hm => hn (hr k hm hk)⟩
theorem Kp.nil {w w1 : World} {r : List Nat} (h : Kp w w1 []) : Kp w w1 r := h.mono (by simp)
/-- Behind one that wrote what was not there at first. -/
theorem Kp.past {w w1 w2 : World} {r1 r2 : List Nat} (h : Kp w w1 r1) (h' : Kp w1 w2 r2) (hr : ∀ k ∈ r2, k < w.heap.size → k ∈ r1) : Kp w w2 r1 :=
  ⟨h'.os.trans h.os, h'.tape.trans h.tape, h'.output.trans h.output, Nat.le_trans h.size h'.size, fun k hk hn => (h'.block k (Nat.lt_of_lt_of_le hk h.size) (fun hm => hn (hr k hm hk))).trans (h.block k hk hn)⟩
theorem Kp.alloc (w : World) (o : Obj) (rows : List Nat) : Kp w (w.alloc o) rows :=
  ⟨rfl, rfl, rfl, by simp, fun k hk _ => Below.heap_alloc _ _ _ hk⟩
theorem Kp.setCell (w : World) (a : Addr) (u : Value) : Kp w (w.setCell a u) [a.block] :=
  ⟨rfl, rfl, rfl, by simp, fun k _ hk => Below.heap_setCell _ _ _ _ (fun e => hk (by simp [e]))⟩
theorem Kp.drew (w : World) (rows : List Nat) : Kp w w.drew rows := ⟨rfl, rfl, rfl, Nat.le_refl _, fun _ _ _ => rfl⟩
theorem Kp.grown {w w1 : World} (h : w.grownBy w1 none) {rows : List Nat} : Kp w w1 rows := ⟨h.os, h.tape, h.output, h.size, fun k hk _ => h.block k hk (by simp)⟩
theorem Kp.below {w w1 : World} (h : Kp w w1 []) : Below w.heap.size w w1 := ⟨h.os, h.tape, h.output, h.size, fun k hk => h.block k hk (by simp)⟩
theorem Kp.of_below {w w1 : World} (h : Below w.heap.size w w1) : Kp w w1 [] := ⟨h.os, h.tape, h.output, h.size, fun k hk _ => h.block k hk⟩
theorem Kp.cell {w w1 : World} {rows : List Nat} {b i : Nat} {v : Value} (h : Kp w w1 rows) (hc : w.cell? ⟨b, i, none⟩ = some v) (hb : b ∉ rows) : w1.cell? ⟨b, i, none⟩ = some v :=
  (World.cell?_of_block (a := ⟨b, i, none⟩) (h.block b (World.block_lt_of_cell? w _ hc) hb)).trans hc

theorem lt_of_block {w : World} {b : Nat} {o : Obj} (h : w.heap[b]? = some o) : b < w.heap.size := by
  rcases Nat.lt_or_ge b w.heap.size with h' | h'
  · exact h'
  · rw [Array.getElem?_eq_none h'] at h; cases h

/-! ### Places -/
/-- What the places are: taken?, the generation. -/
abbrev Pl := Nat → Bool × Int
def upd (T : Pl) (i : Nat) (v : Bool × Int) : Pl := fun j => if j = i then v else T j
theorem upd_same (T : Pl) (i : Nat) (v : Bool × Int) : upd T i v i = v := by simp [upd]
theorem upd_ne (T : Pl) {i j : Nat} (v : Bool × Int) (h : j ≠ i) : upd T i v j = T j := by simp [upd, h]

/-- k places from i on, as cells. -/
def pcl (T : Pl) : Nat → Nat → List Value
  | 0, _ => []
  | k + 1, i => .bool (T i).1 :: .int .i64 (T i).2 :: pcl T k (i + 1)
theorem pcl_length (T : Pl) (k i : Nat) : (pcl T k i).length = k * 2 := by
  induction k generalizing i with
  | zero => rfl
  | succ k ih => simp [pcl, ih]; omega
theorem pcl_at (T : Pl) (k i j : Nat) (hj : j < k) : (pcl T k i)[j * 2]? = some (.bool (T (i + j)).1) ∧ (pcl T k i)[j * 2 + 1]? = some (.int .i64 (T (i + j)).2) := by
  induction k generalizing i j with
  | zero => omega
  | succ k ih =>
    cases j with
    | zero => simp [pcl]
    | succ j =>
      have h := ih (i + 1) j (by omega)
      rw [show (j + 1) * 2 = j * 2 + 1 + 1 by omega, show j * 2 + 1 + 1 + 1 = (j * 2 + 1) + 1 + 1 by omega]
      simp only [pcl, List.getElem?_cons_succ]
      rw [show i + (j + 1) = i + 1 + j by omega]
      exact h
theorem pcl_congr {T U : Pl} (k i : Nat) (h : ∀ j, j < k → T (i + j) = U (i + j)) : pcl T k i = pcl U k i := by
  induction k generalizing i with
  | zero => rfl
  | succ k ih =>
    have h0 := h 0 (by omega)
    simp only [Nat.add_zero] at h0
    simp only [pcl, h0]
    rw [ih (i + 1) (fun j hj => by have := h (j + 1) (by omega); rwa [show i + (j + 1) = i + 1 + j by omega] at this)]
theorem pcl_one (T : Pl) (k i : Nat) : ∀ v ∈ pcl T k i, v.oneCell' = true := by
  induction k generalizing i with
  | zero => intro v hv; cases hv
  | succ k ih =>
    intro v hv
    simp only [pcl, List.mem_cons] at hv
    rcases hv with rfl | rfl | hv
    · rfl
    · rfl
    · exact ih _ v hv
theorem pcl_set0 (T : Pl) (k i j : Nat) (hj : j < k) (b : Bool) : (pcl T k i).set (j * 2) (.bool b) = pcl (upd T (i + j) (b, (T (i + j)).2)) k i := by
  induction k generalizing i j with
  | zero => omega
  | succ k ih =>
    cases j with
    | zero =>
      simp only [pcl, Nat.zero_mul, List.set_cons_zero, Nat.add_zero, upd_same]
      rw [pcl_congr (T := T) (U := upd T i (b, (T i).2)) k (i + 1) (fun j _ => (upd_ne T _ (by omega)).symm)]
    | succ j =>
      rw [show (j + 1) * 2 = j * 2 + 1 + 1 by omega]
      simp only [pcl, List.set_cons_succ]
      rw [ih (i + 1) j (by omega), show i + (j + 1) = i + 1 + j by omega, upd_ne T _ (show i ≠ i + 1 + j by omega)]
theorem pcl_set1 (T : Pl) (k i j : Nat) (hj : j < k) (g : Int) : (pcl T k i).set (j * 2 + 1) (.int .i64 g) = pcl (upd T (i + j) ((T (i + j)).1, g)) k i := by
  induction k generalizing i j with
  | zero => omega
  | succ k ih =>
    cases j with
    | zero =>
      simp only [pcl, Nat.zero_mul, Nat.zero_add, List.set_cons_succ, List.set_cons_zero, Nat.add_zero, upd_same]
      rw [pcl_congr (T := T) (U := upd T i ((T i).1, g)) k (i + 1) (fun j _ => (upd_ne T _ (by omega)).symm)]
    | succ j =>
      rw [show (j + 1) * 2 + 1 = j * 2 + 1 + 1 + 1 by omega]
      simp only [pcl, List.set_cons_succ]
      rw [ih (i + 1) j (by omega), show i + (j + 1) = i + 1 + j by omega, upd_ne T _ (show i ≠ i + 1 + j by omega)]

/-! ### A table in memory -/
def tcs (n : Int) (T : Pl) : Array Value := (Value.int .i64 n :: pcl T 16 0).toArray
/-- A table at block tb: n places, T. -/
def Tt (w : World) (tb : Nat) (n : Int) (T : Pl) : Prop := w.heap[tb]? = some (.cells (tcs n T) 55 (0, 0))
section
variable {w w' : World} {tb : Nat} {n : Int} {T : Pl}
theorem Tt.lt (h : Tt w tb n T) : tb < w.heap.size := lt_of_block h
theorem Tt.keep (h : Tt w tb n T) {rows : List Nat} (hk : Kp w w' rows) (hr : tb ∉ rows) : Tt w' tb n T := (hk.block tb h.lt hr).trans h
theorem Tt.count (h : Tt w tb n T) : w.cell? ⟨tb, 0, none⟩ = some (.int .i64 n) := by
  rw [cell_of_row w tb 0 _ _ _ h]; simp [tcs]
theorem Tt.taken (h : Tt w tb n T) (i : Nat) (hi : i < 16) : w.cell? ⟨tb, 1 + i * 2, none⟩ = some (.bool (T i).1) := by
  rw [cell_of_row w tb _ _ _ _ h, show 1 + i * 2 = i * 2 + 1 by omega]
  have := (pcl_at T 16 0 i hi).1
  rw [Nat.zero_add] at this
  simpa [tcs] using this
theorem Tt.gen (h : Tt w tb n T) (i : Nat) (hi : i < 16) : w.cell? ⟨tb, 1 + i * 2 + 1, none⟩ = some (.int .i64 (T i).2) := by
  rw [cell_of_row w tb _ _ _ _ h, show 1 + i * 2 + 1 = (i * 2 + 1) + 1 by omega]
  have := (pcl_at T 16 0 i hi).2
  rw [Nat.zero_add] at this
  simpa [tcs] using this
theorem Tt.free (h : Tt w tb n T) (i : Nat) : w.frozen? ⟨tb, i, none⟩ = false := by simp [World.frozen?, show w.heap[tb]? = _ from h]
theorem Tt.setTaken (h : Tt w tb n T) (i : Nat) (hi : i < 16) (b : Bool) : Tt (w.setCell ⟨tb, 1 + i * 2, none⟩ (.bool b)) tb n (upd T i (b, (T i).2)) := by
  unfold Tt
  rw [heap_setCell_same w tb (1 + i * 2) _ 55 _ h]
  have := pcl_set0 T 16 0 i hi b
  rw [Nat.zero_add] at this
  simp only [tcs, ← this, List.setIfInBounds_toArray]
  rw [show 1 + i * 2 = i * 2 + 1 by omega, List.set_cons_succ]
theorem Tt.setGen (h : Tt w tb n T) (i : Nat) (hi : i < 16) (g : Int) : Tt (w.setCell ⟨tb, 1 + i * 2 + 1, none⟩ (.int .i64 g)) tb n (upd T i ((T i).1, g)) := by
  unfold Tt
  rw [heap_setCell_same w tb (1 + i * 2 + 1) _ 55 _ h]
  have := pcl_set1 T 16 0 i hi g
  rw [Nat.zero_add] at this
  simp only [tcs, ← this, List.setIfInBounds_toArray]
  rw [show 1 + i * 2 + 1 = (i * 2 + 1) + 1 by omega, List.set_cons_succ]
theorem Tt.range (h : Tt w tb n T) : w.rangeAt tb 1 (pcl T 16 0) := fun j v hv => by
  rw [cell_of_row w tb _ _ _ _ h, show 1 + j = j + 1 by omega]
  simpa [tcs] using hv
end
theorem upd_upd (T : Pl) (i : Nat) (u v : Bool × Int) : upd (upd T i u) i v = upd T i v := by
  funext j
  by_cases h : j = i <;> simp [upd, h]
/-- Generations that are no great numbers. -/
def Gd (T : Pl) : Prop := ∀ i, i < 16 → 0 ≤ (T i).2 ∧ (T i).2 ≤ 1000000
/-- The lowest free place from i on, of m. -/
def low (T : Pl) : Nat → Nat → Nat
  | 0, i => i
  | m + 1, i => if (T i).1 then low T m (i + 1) else i
/-- Is the place's handle there, and what is it? -/
def ofB (T : Pl) (n i : Int) : Bool := decide (0 ≤ i ∧ i < n) && (T i.toNat).1
def ofV (T : Pl) (n i : Int) : Int := if ofB T n i then i + 16 * (T i.toNat).2 else 0
def atB (T : Pl) (n h : Int) : Bool := ofB T n (h.tmod 16) && ofV T n (h.tmod 16) == h
def atV (T : Pl) (n h : Int) : Int := if atB T n h then h.tmod 16 else 0
end Go.Proofs.Ytaofpijcjohnhaa
