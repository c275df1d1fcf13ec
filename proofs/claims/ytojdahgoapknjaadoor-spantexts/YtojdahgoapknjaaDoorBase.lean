/- Spans as numbers, what a call leaves alone: no Go is walked here. -/
import Derived.Test.YtojdahgoapknjaaDoorRows
import Derived.WalkKit
import Derived.WalkSpells
import Derived.Laws.Rows
import Derived.Laws.Tables
import Derived.Laws.Cells
namespace Go.Proofs.YtojdahgoapknjaaDoor
open Go.RowKit

/-- A fact is kept from the walk. -/
theorem hid {p : Prop} (h : p) : Hid p := h

/-- What a call leaves alone: every elder block but those listed. -/
structure Kp (w w' : World) (rows : List Nat) : Prop where
  os : w'.os = w.os
  tape : w'.tape = w.tape
  output : w'.output = w.output
  size : w.heap.size ≤ w'.heap.size
  block : ∀ k, k < w.heap.size → k ∉ rows → w'.heap[k]? = w.heap[k]?

theorem Kp.refl (w : World) (rows : List Nat) : Kp w w rows := ⟨rfl, rfl, rfl, Nat.le_refl _, fun _ _ _ => rfl⟩
theorem Kp.trans {w w1 w2 : World} {rows : List Nat} (h : Kp w w1 rows) (h' : Kp w1 w2 rows) : Kp w w2 rows :=
  ⟨h'.os.trans h.os, h'.tape.trans h.tape, h'.output.trans h.output, Nat.le_trans h.size h'.size, fun k hk hr => (h'.block k (Nat.lt_of_lt_of_le hk h.size) hr).trans (h.block k hk hr)⟩
/-- Behind one that wrote what was not there at first. -/
theorem Kp.past {w w1 w2 : World} {r1 r2 : List Nat} (h : Kp w w1 r1) (h' : Kp w1 w2 r2) (hr : ∀ k ∈ r2, k < w.heap.size → k ∈ r1) : Kp w w2 r1 :=
  ⟨h'.os.trans h.os, h'.tape.trans h.tape, h'.output.trans h.output, Nat.le_trans h.size h'.size, fun k hk hn => (h'.block k (Nat.lt_of_lt_of_le hk h.size) (fun hm => hn (hr k hm hk))).trans (h.block k hk hn)⟩
theorem Kp.alloc (w : World) (o : Obj) (rows : List Nat) : Kp w (w.alloc o) rows :=
  ⟨rfl, rfl, rfl, by simp, fun k hk _ => Below.heap_alloc _ _ _ hk⟩
theorem Kp.setCell (w : World) (a : Addr) (u : Value) : Kp w (w.setCell a u) [a.block] :=
  ⟨rfl, rfl, rfl, by simp, fun k _ hk => Below.heap_setCell _ _ _ _ (fun e => hk (by simp [e]))⟩
theorem Kp.drew (w : World) (rows : List Nat) : Kp w w.drew rows := ⟨rfl, rfl, rfl, Nat.le_refl _, fun _ _ _ => rfl⟩
theorem Kp.below {w w1 : World} (h : Kp w w1 []) : Below w.heap.size w w1 := ⟨h.os, h.tape, h.output, h.size, fun k hk => h.block k hk (by simp)⟩
theorem Kp.of_below {w w1 : World} (h : Below w.heap.size w w1) : Kp w w1 [] := ⟨h.os, h.tape, h.output, h.size, fun k hk _ => h.block k hk⟩
theorem Kp.cell {w w1 : World} {rows : List Nat} {b i : Nat} {v : Value} (h : Kp w w1 rows) (hc : w.cell? ⟨b, i, none⟩ = some v) (hb : b ∉ rows) : w1.cell? ⟨b, i, none⟩ = some v :=
  (World.cell?_of_block (a := ⟨b, i, none⟩) (h.block b (World.block_lt_of_cell? w _ hc) hb)).trans hc

theorem lt_of_block {w : World} {b : Nat} {o : Obj} (h : w.heap[b]? = some o) : b < w.heap.size := by
  rcases Nat.lt_or_ge b w.heap.size with h' | h'
  · exact h'
  · rw [Array.getElem?_eq_none h'] at h; cases h

theorem Kp.two (w : World) (r : Nat) (a b : Value) : Kp w ((w.setCell ⟨r, 0, none⟩ a).setCell ⟨r, 1, none⟩ b) [r] := (Kp.setCell w ⟨r, 0, none⟩ a).trans (Kp.setCell _ ⟨r, 1, none⟩ b)
/-- Two cells are stored in a block that is new. -/
theorem Kp.store2 {w w1 : World} {r : Nat} (h : Kp w w1 []) (hr : w.heap.size ≤ r) (a b : Value) : Kp w ((w1.setCell ⟨r, 0, none⟩ a).setCell ⟨r, 1, none⟩ b) [] :=
  h.past (Kp.two w1 r a b) (by intro k hk hl; simp at hk; omega)
theorem cell_two0 {w : World} {b : Nat} {v u : Value} {t : TypeId} (h : w.heap[b]? = some (.cells #[v, u] t (0, 0))) : w.cell? ⟨b, 0, none⟩ = some v := by simp [World.cell?, h]
theorem cell_two1 {w : World} {b : Nat} {v u : Value} {t : TypeId} (h : w.heap[b]? = some (.cells #[v, u] t (0, 0))) : w.cell? ⟨b, 1, none⟩ = some u := by simp [World.cell?, h]
theorem free_two {w : World} {b i : Nat} {v u : Value} {t : TypeId} (h : w.heap[b]? = some (.cells #[v, u] t (0, 0))) : w.frozen? ⟨b, i, none⟩ = false := by simp [World.frozen?, h]
theorem stored2 {w : World} {r : Nat} {u v a b : Value} {t : TypeId} (h : w.heap[r]? = some (.cells #[u, v] t (0, 0))) : ((w.setCell ⟨r, 0, none⟩ a).setCell ⟨r, 1, none⟩ b).heap[r]? = some (.cells #[a, b] t (0, 0)) := by
  have h1 : (w.setCell ⟨r, 0, none⟩ a).heap[r]? = some (.cells #[a, v] t (0, 0)) := by rw [heap_setCell_same w r 0 _ t a h]; rfl
  rw [heap_setCell_same _ r 1 _ t b h1]; rfl
theorem heap_new (w : World) (o : Obj) : (w.alloc o).heap[w.heap.size]? = some o := heap_alloc_new w o
/-- A span's value. -/
abbrev sp (s n : Int) : Value := .agg #[.int .i64 s, .int .i64 n]
/-- An int64. -/
def I64 (x : Int) : Prop := -9223372036854775808 ≤ x ∧ x ≤ 9223372036854775807
theorem wrap_id {x : Int} (h : I64 x) : IntKind.i64.wrap x = x := by
  exact IntWalk.i64_in _ h

/-- May there be such a span? -/
def may (s n : Int) : Bool := decide (0 ≤ s) && decide (s ≤ 2147483647) && decide (0 ≤ n) && decide (n < 1000000000)
theorem may_iff {s n : Int} : may s n = true ↔ 0 ≤ s ∧ s ≤ 2147483647 ∧ 0 ≤ n ∧ n < 1000000000 := by
  unfold may; simp only [Bool.and_eq_true, decide_eq_true_eq]; omega
/-- Nanoseconds in all. -/
def tot (s n : Int) : Int := s * 1000000000 + n
/-- The span of so many, and its error. -/
def ofN (t : Int) : Int × Int × Int := if t / 1000000000 > 2147483647 then (0, 0, 5) else (t / 1000000000, t % 1000000000, 0)
/-- What Add, Sub, Times, Ticks, Of and Compare answer. -/
def addP (a b c d : Int) : Int × Int × Int := if (may a b && may c d) = true then ofN (tot a b + tot c d) else (0, 0, 2)
def subP (a b c d : Int) : Int × Int × Int := if (may a b && may c d && decide (tot c d ≤ tot a b)) = true then ofN (tot a b - tot c d) else (0, 0, 2)
def timesP (a b n : Int) : Int × Int × Int := if (may a b && decide (0 ≤ n)) = true then ofN (tot a b * n) else (0, 0, 2)
def ticksP (a b : Int) : Int × Int := if may a b = true then (if (tot a b + 999999) / 1000000 > 1099511627776 then (0, 5) else ((tot a b + 999999) / 1000000, 0)) else (0, 2)
def ofP (n : Int) : Int × Int × Int := if 0 ≤ n ∧ n ≤ 1099511627776 then (n / 1000, n % 1000 * 1000000, 0) else (0, 0, 2)
def cmpP (a b c d : Int) : Int := if a < c ∨ a = c ∧ b < d then -1 else if a = c ∧ b = d then 0 else 1
/-- The pair that a call answers. -/
abbrev spE (r : Int × Int × Int) : Value := .tuple #[sp r.1 r.2.1, .int .i64 r.2.2]

/-! ### Spans compared -/
theorem sp_fields (a b c d : Int) (w : World) : (Op.equalIn 10000 23 (sp a b) (sp c d)).run Tryd.prog w = .ok (decide (a = c) && decide (b = d)) w := by
  rw [run_equalIn_struct w 9999 23 _ _ (by kernel_rfl) (by kernel_rfl)]
  have hf : Tryd.prog.fieldsOf 23 = #[⟨"Sec", 2, 0, false, "", "", 0⟩, ⟨"Nsec", 2, 1, false, "", "", 8⟩] := by kernel_rfl
  rw [hf]
  have h3 : (isAgg 2).run Tryd.prog w = .ok false w := Tryd.isAgg2 w
  have h4 := Tryd.underlying2
  by_cases e1 : a = c <;> by_cases e2 : b = d <;> simp [Op.eqFields, part, Sem.run_bind, h3, h4, go_sem, e1, e2]
end Go.Proofs.YtojdahgoapknjaaDoor
