/- Ready lists in memory, what a call leaves alone: no Go is walked here. -/
import Derived.Test.YtclbphnelfacfaaTake
import Derived.WalkKit
import Derived.WalkSpells
import Derived.Laws.Rows
import Derived.Laws.Tables
import Derived.Laws.Cells
import Derived.Deep.MidRow
import Derived.Deep.WholeRow
namespace Go.Proofs.Ytclbphnelfacfaa
open Go.RowKit

/-- A fact is kept from the walk. -/
theorem hid {p : Prop} (h : p) : Hid p := h

/-- What a call leaves alone: every elder block but those listed. -/
structure Kp (w w' : World) (rows : List Nat) : Prop where
  os : w'.os = w.os
  tape : w'.tape = w.tape
  output : w'.output = w.output
  size : w.heap.size ≤ w'.heap.size
  block : ∀ k, k < w.heap.size → k ∉ rows → w'.heap[k]? = w.heap[k]?

theorem Kp.refl (w : World) (rows : List Nat) : Kp w w rows := ⟨rfl, rfl, rfl, Nat.le_refl _, fun _ _ _ => rfl⟩
theorem Kp.trans {w w1 w2 : World} {rows : List Nat} (h : Kp w w1 rows) (h' : Kp w1 w2 rows) : Kp w w2 rows :=
  ⟨h'.os.trans h.os, h'.tape.trans h.tape, h'.output.trans h.output, Nat.le_trans h.size h'.size, fun k hk hr => (h'.block k (Nat.lt_of_lt_of_le hk h.size) hr).trans (h.block k hk hr)⟩
theorem Kp.mono {w w1 : World} {r1 r2 : List Nat} (h : Kp w w1 r1) (hr : ∀ k ∈ r1, k < w.heap.size → k ∈ r2) : Kp w w1 r2 :=
  ⟨h.os, h.tape, h.output, h.size, fun k hk hn => h.block k hk fun hm => hn (hr k hm hk)⟩
theorem Kp.nil {w w1 : World} {r : List Nat} (h : Kp w w1 []) : Kp w w1 r := h.mono (by simp)
/-- Behind one that wrote what was not there at first. -/
theorem Kp.past {w w1 w2 : World} {r1 r2 : List Nat} (h : Kp w w1 r1) (h' : Kp w1 w2 r2) (hr : ∀ k ∈ r2, k < w.heap.size → k ∈ r1) : Kp w w2 r1 :=
  ⟨h'.os.trans h.os, h'.tape.trans h.tape, h'.output.trans h.output, Nat.le_trans h.size h'.size, fun k hk hn => (h'.block k (Nat.lt_of_lt_of_le hk h.size) (fun hm => hn (hr k hm hk))).trans (h.block k hk hn)⟩
theorem Kp.alloc (w : World) (o : Obj) (rows : List Nat) : Kp w (w.alloc o) rows :=
  ⟨rfl, rfl, rfl, by simp, fun k hk _ => Below.heap_alloc _ _ _ hk⟩
theorem Kp.setCell (w : World) (a : Addr) (u : Value) : Kp w (w.setCell a u) [a.block] :=
  ⟨rfl, rfl, rfl, by simp, fun k _ hk => Below.heap_setCell _ _ _ _ (fun e => hk (by simp [e]))⟩
theorem Kp.drew (w : World) (rows : List Nat) : Kp w w.drew rows := ⟨rfl, rfl, rfl, Nat.le_refl _, fun _ _ _ => rfl⟩
theorem Kp.grown {w w1 : World} (h : w.grownBy w1 none) {rows : List Nat} : Kp w w1 rows := ⟨h.os, h.tape, h.output, h.size, fun k hk _ => h.block k hk (by simp)⟩
theorem Kp.below {w w1 : World} (h : Kp w w1 []) : Below w.heap.size w w1 := ⟨h.os, h.tape, h.output, h.size, fun k hk => h.block k hk (by simp)⟩
theorem Kp.of_below {w w1 : World} (h : Below w.heap.size w w1) : Kp w w1 [] := ⟨h.os, h.tape, h.output, h.size, fun k hk _ => h.block k hk⟩
theorem Kp.cell {w w1 : World} {rows : List Nat} {b i : Nat} {v : Value} (h : Kp w w1 rows) (hc : w.cell? ⟨b, i, none⟩ = some v) (hb : b ∉ rows) : w1.cell? ⟨b, i, none⟩ = some v :=
  (World.cell?_of_block (a := ⟨b, i, none⟩) (h.block b (World.block_lt_of_cell? w _ hc) hb)).trans hc

theorem lt_of_block {w : World} {b : Nat} {o : Obj} (h : w.heap[b]? = some o) : b < w.heap.size := by
  rcases Nat.lt_or_ge b w.heap.size with h' | h'
  · exact h'
  · rw [Array.getElem?_eq_none h'] at h; cases h


/-- k numbers from i on, as cells. -/
def icl (c : Nat → Nat) : Nat → Nat → List Value
  | 0, _ => []
  | k + 1, i => .int .i64 (c i : Nat) :: icl c k (i + 1)
theorem icl_length (c : Nat → Nat) (k i : Nat) : (icl c k i).length = k := by
  induction k generalizing i with
  | zero => rfl
  | succ k ih => simp [icl, ih]
theorem icl_at (c : Nat → Nat) (k i j : Nat) (hj : j < k) : (icl c k i)[j]? = some (.int .i64 (c (i + j) : Nat)) := by
  induction k generalizing i j with
  | zero => omega
  | succ k ih =>
    cases j with
    | zero => simp [icl]
    | succ j =>
      simp only [icl, List.getElem?_cons_succ]
      rw [ih (i + 1) j (by omega), show i + (j + 1) = i + 1 + j by omega]
theorem icl_congr {c d : Nat → Nat} (k i : Nat) (h : ∀ j, j < k → c (i + j) = d (i + j)) : icl c k i = icl d k i := by
  induction k generalizing i with
  | zero => rfl
  | succ k ih =>
    have h0 := h 0 (by omega)
    simp only [Nat.add_zero] at h0
    simp only [icl, h0]
    rw [ih (i + 1) (fun j hj => by have := h (j + 1) (by omega); rwa [show i + (j + 1) = i + 1 + j by omega] at this)]
theorem icl_one (c : Nat → Nat) (k i : Nat) : ∀ v ∈ icl c k i, v.oneCell' = true := by
  induction k generalizing i with
  | zero => intro v hv; cases hv
  | succ k ih =>
    intro v hv
    simp only [icl, List.mem_cons] at hv
    rcases hv with rfl | hv
    · rfl
    · exact ih _ v hv
theorem icl_set (c : Nat → Nat) (k i j : Nat) (hj : j < k) (v : Nat) : (icl c k i).set j (.int .i64 v) = icl (upd c (i + j) v) k i := by
  induction k generalizing i j with
  | zero => omega
  | succ k ih =>
    cases j with
    | zero =>
      simp only [icl, List.set_cons_zero, Nat.add_zero, upd_same]
      rw [icl_congr (c := c) (d := upd c i v) k (i + 1) (fun j _ => (upd_ne c _ (by omega)).symm)]
    | succ j =>
      simp only [icl, List.set_cons_succ]
      rw [ih (i + 1) j (by omega), show i + (j + 1) = i + 1 + j by omega, upd_ne c _ (show i ≠ i + 1 + j by omega)]

/-! ### A ready list in memory -/
def rcl (c : Nat → Nat) (u s : Nat) : List Value := icl c 112 0 ++ [.int .u32 (u : Nat), .int .i64 (s : Nat)]
def rcs (c : Nat → Nat) (u s : Nat) : Array Value := (rcl c u s).toArray
def Rr (w : World) (rb : Nat) (c : Nat → Nat) (u s : Nat) : Prop := w.heap[rb]? = some (.cells (rcs c u s) 80 (0, 0))
section
variable {w w' : World} {rb : Nat} {c : Nat → Nat} {u s : Nat}
theorem Rr.lt (h : Rr w rb c u s) : rb < w.heap.size := lt_of_block h
theorem Rr.keep (h : Rr w rb c u s) {rows : List Nat} (hk : Kp w w' rows) (hr : rb ∉ rows) : Rr w' rb c u s := (hk.block rb h.lt hr).trans h
theorem rcl_at (c : Nat → Nat) (u s i : Nat) (hi : i < 112) : (rcl c u s)[i]? = some (.int .i64 (c i : Nat)) := by
  unfold rcl
  rw [List.getElem?_append_left (by rw [icl_length]; exact hi), icl_at c 112 0 i hi, Nat.zero_add]
theorem rcl_used (c : Nat → Nat) (u s : Nat) : (rcl c u s)[112]? = some (.int .u32 (u : Nat)) := by
  unfold rcl
  rw [List.getElem?_append_right (by rw [icl_length]; exact Nat.le_refl _), icl_length]
  rfl
theorem rcl_steps (c : Nat → Nat) (u s : Nat) : (rcl c u s)[113]? = some (.int .i64 (s : Nat)) := by
  unfold rcl
  rw [List.getElem?_append_right (by rw [icl_length]; decide), icl_length]
  rfl
theorem Rr.link (h : Rr w rb c u s) (i : Nat) (hi : i < 112) : w.cell? ⟨rb, i, none⟩ = some (.int .i64 (c i : Nat)) := by
  rw [cell_of_row w rb i _ _ _ h]; simpa [rcs] using rcl_at c u s i hi
theorem Rr.used (h : Rr w rb c u s) : w.cell? ⟨rb, 112, none⟩ = some (.int .u32 (u : Nat)) := by
  rw [cell_of_row w rb _ _ _ _ h]; simpa [rcs] using rcl_used c u s
theorem Rr.steps (h : Rr w rb c u s) : w.cell? ⟨rb, 113, none⟩ = some (.int .i64 (s : Nat)) := by
  rw [cell_of_row w rb _ _ _ _ h]; simpa [rcs] using rcl_steps c u s
theorem Rr.free (h : Rr w rb c u s) (i : Nat) : w.frozen? ⟨rb, i, none⟩ = false := by simp [World.frozen?, show w.heap[rb]? = _ from h]
theorem Rr.setLink (h : Rr w rb c u s) (i v : Nat) (hi : i < 112) : Rr (w.setCell ⟨rb, i, none⟩ (.int .i64 (v : Nat))) rb (upd c i v) u s := by
  unfold Rr
  rw [heap_setCell_same w rb i _ 80 _ h]
  have := icl_set c 112 0 i hi v
  rw [Nat.zero_add] at this
  simp only [rcs, rcl, ← this, List.setIfInBounds_toArray]
  rw [List.set_append_left _ _ (by rw [icl_length]; exact hi)]
theorem Rr.setUsed (h : Rr w rb c u s) (v : Nat) : Rr (w.setCell ⟨rb, 112, none⟩ (.int .u32 (v : Nat))) rb c v s := by
  unfold Rr
  rw [heap_setCell_same w rb 112 _ 80 _ h]
  simp only [rcs, rcl, List.setIfInBounds_toArray]
  rw [List.set_append_right _ _ (by rw [icl_length]; exact Nat.le_refl _), icl_length]
  rfl
theorem Rr.setSteps (h : Rr w rb c u s) (v : Nat) : Rr (w.setCell ⟨rb, 113, none⟩ (.int .i64 (v : Nat))) rb c u v := by
  unfold Rr
  rw [heap_setCell_same w rb 113 _ 80 _ h]
  simp only [rcs, rcl, List.setIfInBounds_toArray]
  rw [List.set_append_right _ _ (by rw [icl_length]; decide), icl_length]
  rfl
theorem Rr.range (h : Rr w rb c u s) : w.rangeAt rb 0 (icl c 48 0) := fun j v hv => by
  have hj : j < 48 := by
    rcases Nat.lt_or_ge j 48 with h' | h'
    · exact h'
    · rw [List.getElem?_eq_none (by rw [icl_length]; exact h')] at hv; cases hv
  rw [icl_at c 48 0 j hj] at hv
  rw [Nat.zero_add]
  rw [Nat.zero_add] at hv
  rw [h.link j (by omega)]
  exact hv
theorem Rr.congr {d : Nat → Nat} (h : Rr w rb c u s) (e : ∀ i, i < 112 → c i = d i) : Rr w rb d u s := by
  have : rcs c u s = rcs d u s := by
    unfold rcs rcl
    rw [icl_congr (d := d) 112 0 (fun j hj => by rw [Nat.zero_add]; exact e j hj)]
  unfold Rr at h ⊢
  rw [← this]; exact h
end
end Go.Proofs.Ytclbphnelfacfaa
