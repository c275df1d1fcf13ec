/- What a call leaves alone; pieces (a time, an amount) in a slice. -/
import Derived.Test.YtojcmnanapeooaaRows
import Derived.WalkKit
import Derived.WalkSpells
import Derived.Laws.AppendOwn
import Derived.Laws.OwnMore
import Derived.OneCell
import Derived.Below
import Derived.Deep.Draws
import Derived.Deep.MidRow
import Derived.Deep.RegionHeldLaw
import Derived.Shelf.SlicesE.Clone
namespace Go.Proofs.Ytojcmnanapeooaa
open Go.RowKit Go.Shelf
open Go.Lib hiding intOf

/-- A fact is kept from the walk. -/
theorem hid {p : Prop} (h : p) : Hid p := h
/-- A piece: its time, its amount. -/
abbrev Dl := Int × Int
/-- A piece's two cells. -/
def encD (x : Dl) : List Value := [.int .i64 x.1, .int .i64 x.2]
theorem lenD (x : Dl) : (encD x).length = 2 := rfl
theorem oneD (x : Dl) : ∀ v ∈ encD x, v.oneCell' = true := by
  intro v hv
  simp [encD] at hv
  rcases hv with rfl | rfl <;> rfl
theorem drop_get {X : List Dl} {i : Nat} (h : i < X.length) : X.drop i = X[i]! :: X.drop (i + 1) := by
  rw [getElem!_pos X i h]; exact List.drop_eq_getElem_cons h
theorem take_get {X : List Dl} {i : Nat} (h : i < X.length) : X.take (i + 1) = X.take i ++ [X[i]!] := by
  rw [getElem!_pos X i h]; exact List.take_succ_eq_append_getElem h
theorem get_mid (A : List Dl) (B : List Dl) (i : Nat) (h : A.length ≤ i) : (A ++ B)[i]! = B[i - A.length]! := by
  rw [List.getElem!_eq_getElem?_getD, List.getElem!_eq_getElem?_getD, List.getElem?_append_right h]
theorem part_at {L : List Dl} {i : Nat} (h : i < L.length) : L = L.take i ++ L[i]! :: L.drop (i + 1) := by
  rw [getElem!_pos L i h]
  simp
/-- What a call leaves alone: every elder block but those listed. -/
structure Kp (w w' : World) (rows : List Nat) : Prop where
  os : w'.os = w.os
  tape : w'.tape = w.tape
  output : w'.output = w.output
  size : w.heap.size ≤ w'.heap.size
  block : ∀ k, k < w.heap.size → k ∉ rows → w'.heap[k]? = w.heap[k]?
theorem Kp.refl (w : World) (rows : List Nat) : Kp w w rows := ⟨rfl, rfl, rfl, Nat.le_refl _, fun _ _ _ => rfl⟩
theorem Kp.trans {w w1 w2 : World} {rows : List Nat} (h : Kp w w1 rows) (h' : Kp w1 w2 rows) : Kp w w2 rows :=
  ⟨h'.os.trans h.os, h'.tape.trans h.tape, h'.output.trans h.output, Nat.le_trans h.size h'.size, fun k hk hr => (h'.block k (Nat.lt_of_lt_of_le hk h.size) hr).trans (h.block k hk hr)⟩
theorem Kp.mono {w w1 : World} {r1 r2 : List Nat} (h : Kp w w1 r1) (hr : ∀ k ∈ r1, k < w.heap.size → k ∈ r2) : Kp w w1 r2 :=
  ⟨h.os, h.tape, h.output, h.size, fun k hk hn => h.block k hk fun hm => hn (hr k hm hk)⟩
theorem Kp.nil {w w1 : World} {r : List Nat} (h : Kp w w1 []) : Kp w w1 r := h.mono (by simp)
/-- Behind one that wrote what was not there at first. -/
theorem Kp.past {w w1 w2 : World} {r1 r2 : List Nat} (h : Kp w w1 r1) (h' : Kp w1 w2 r2) (hr : ∀ k ∈ r2, k < w.heap.size → k ∈ r1) : Kp w w2 r1 :=
  ⟨h'.os.trans h.os, h'.tape.trans h.tape, h'.output.trans h.output, Nat.le_trans h.size h'.size, fun k hk hn => (h'.block k (Nat.lt_of_lt_of_le hk h.size) (fun hm => hn (hr k hm hk))).trans (h.block k hk hn)⟩
theorem Kp.alloc (w : World) (o : Obj) (rows : List Nat) : Kp w (w.alloc o) rows := ⟨rfl, rfl, rfl, by simp, fun k hk _ => Below.heap_alloc _ _ _ hk⟩
theorem Kp.setCell (w : World) (a : Addr) (u : Value) : Kp w (w.setCell a u) [a.block] := ⟨rfl, rfl, rfl, by simp, fun k _ hk => Below.heap_setCell _ _ _ _ (fun e => hk (by simp [e]))⟩
theorem Kp.drew (w : World) (rows : List Nat) : Kp w w.drew rows := ⟨rfl, rfl, rfl, Nat.le_refl _, fun _ _ _ => rfl⟩
theorem Kp.drewN (w : World) (k : Nat) (rows : List Nat) : Kp w (w.drewN k) rows := ⟨rfl, rfl, rfl, Nat.le_refl _, fun _ _ _ => rfl⟩
theorem Kp.below {w w1 : World} (h : Kp w w1 []) : Below w.heap.size w w1 := ⟨h.os, h.tape, h.output, h.size, fun k hk => h.block k hk (by simp)⟩
theorem Kp.of_below {w w' : World} (h : Below w.heap.size w w') : Kp w w' [] := ⟨h.os, h.tape, h.output, h.size, fun k hk _ => h.block k hk⟩
theorem Kp.cell {w w' : World} {rows : List Nat} {b i : Nat} {v : Value} (hk : Kp w w' rows) (h : w.cell? ⟨b, i, none⟩ = some v) (hb : b ∉ rows) : w'.cell? ⟨b, i, none⟩ = some v :=
  (World.cell?_of_block (a := ⟨b, i, none⟩) (hk.block b (World.block_lt_of_cell? w _ h) hb)).trans h
theorem Kp.ofGrown {w w' : World} {row : Option Nat} (h : w.grownBy w' row) {rows : List Nat} (hr : ∀ g, row = some g → g ∈ rows) : Kp w w' rows :=
  ⟨h.os, h.tape, h.output, h.size, fun k hk hn => h.block k hk (fun e => hn (hr k e.symm))⟩

theorem owns_shape {w : World} {base e s : Nat} {v : Value} {n : Nat} {xs : List Value} (h : w.ownsRow base e s v n xs) : ∃ ao cap, v = .slice ao n cap := by
  rcases h.2 with ⟨rfl, rfl⟩ | ⟨g, cap, cur, rfl, -⟩
  · exact ⟨_, _, rfl⟩
  · exact ⟨_, _, rfl⟩
theorem owns_block {w : World} {base e s : Nat} {v : Value} {n : Nat} {xs : List Value} (h : w.ownsRow base e s v n xs) {g : Nat} (hg : v.ownBlock = some g) : base ≤ g ∧ ∃ cur, w.heap[g]? = some (.cells cur e (0, 0)) := by
  rcases h.2 with ⟨rfl, rfl⟩ | ⟨g', cap, cur, rfl, h1, h2, -⟩
  · simp [Value.ownBlock] at hg
  · simp [Value.ownBlock] at hg
    subst hg
    exact ⟨h1, cur, h2⟩
theorem owns_kp {w w' : World} {base e s : Nat} {v : Value} {n : Nat} {xs : List Value} {rows : List Nat} (h : w.ownsRow base e s v n xs) (hk : Kp w w' rows) (hr : ∀ g, v.ownBlock = some g → g ∉ rows) : w'.ownsRow base e s v n xs := by
  refine ⟨h.1, ?_⟩
  rcases h.2 with ⟨rfl, h0⟩ | ⟨g, cap, cur, rfl, h1, h2, h3⟩
  · exact .inl ⟨rfl, h0⟩
  · exact .inr ⟨g, cap, cur, rfl, h1, (hk.block g (lt_of_block h2) (hr g rfl)).trans h2, h3⟩
theorem owns_low {w : World} {base base' e s : Nat} {v : Value} {n : Nat} {xs : List Value} (h : w.ownsRow base e s v n xs) (hb : base' ≤ base) : w.ownsRow base' e s v n xs := by
  refine ⟨h.1, ?_⟩
  rcases h.2 with h0 | ⟨g, cap, cur, rfl, h1, h2, h3⟩
  · exact .inl h0
  · exact .inr ⟨g, cap, cur, rfl, Nat.le_trans hb h1, h2, h3⟩
theorem block_ne {w : World} {b g t e : Nat} {c cur : Array Value} (h : w.heap[b]? = some (.cells c t (0, 0))) (h' : w.heap[g]? = some (.cells cur e (0, 0))) (hne : t ≠ e) : b ≠ g := by
  rintro rfl
  rw [h] at h'
  simp at h'
  exact hne h'.2

/-- Deadlines' cells. -/
def dcells (l : List Dl) : List Value := l.flatMap encD
theorem dcells_length (l : List Dl) : (dcells l).length = l.length * 2 := by
  unfold dcells
  induction l with
  | nil => rfl
  | cons x r ih => rw [List.flatMap_cons, List.length_append, ih, lenD, List.length_cons]; omega
theorem dcells_append (a b : List Dl) : dcells (a ++ b) = dcells a ++ dcells b := List.flatMap_append
theorem dcells_at : ∀ (l : List Dl) (i : Nat), i < l.length → (dcells l)[i * 2]? = some (.int .i64 l[i]!.1) ∧ (dcells l)[i * 2 + 1]? = some (.int .i64 l[i]!.2)
  | [], _, h => by simp at h
  | x :: r, 0, _ => ⟨rfl, rfl⟩
  | x :: r, i + 1, h => by
    have ih := dcells_at r i (by simpa using h)
    have e : dcells (x :: r) = .int .i64 x.1 :: .int .i64 x.2 :: dcells r := rfl
    rw [e, show (i + 1) * 2 = i * 2 + 1 + 1 by omega]
    simpa using ih
theorem dcells_one (l : List Dl) : ∀ u ∈ dcells l, u.oneCell' = true := by
  intro u hu
  obtain ⟨x, -, hx⟩ := List.mem_flatMap.1 hu
  exact oneD x u hx
/-- The slice value v holds the deadlines l, in a block of its own from base on. -/
def Dr (W : World) (base : Nat) (v : Value) (l : List Dl) : Prop := W.ownsRow base 45 2 v l.length (dcells l)
theorem Dr.nil (W : World) (base : Nat) : Dr W base (.slice none 0 0) [] := ⟨rfl, .inl ⟨rfl, rfl⟩⟩
theorem Dr.kp {w w' : World} {base : Nat} {v : Value} {l : List Dl} {rows : List Nat} (h : Dr w base v l) (hk : Kp w w' rows) (hr : ∀ g, v.ownBlock = some g → g ∉ rows) : Dr w' base v l := owns_kp h hk hr
theorem Dr.keep {w w' : World} {base : Nat} {v : Value} {l : List Dl} (h : Dr w base v l) (hk : Kp w w' []) : Dr w' base v l := h.kp hk (by simp)
theorem Dr.slice {w : World} {base : Nat} {v : Value} {l : List Dl} (h : Dr w base v l) : ∃ ao cap, v = .slice ao l.length cap := owns_shape h
theorem Dr.low {w : World} {base base' : Nat} {v : Value} {l : List Dl} (h : Dr w base v l) (hb : base' ≤ base) : Dr w base' v l := owns_low h hb
/-- Pieces in a block's first cells. -/
def Hk (w : World) (g : Nat) (l : List Dl) : Prop := ∀ j, j < l.length * 2 → w.cell? ⟨g, j, none⟩ = (dcells l)[j]? ∧ w.frozen? ⟨g, j, none⟩ = false
theorem Hk.cells {W : World} {blk : Nat} {L : List Dl} (h : Hk W blk L) {i : Nat} (hi : i < L.length) : W.cell? ⟨blk, i * 2, none⟩ = some (.int .i64 L[i]!.1) ∧ W.cell? ⟨blk, i * 2 + 1, none⟩ = some (.int .i64 L[i]!.2) ∧ W.frozen? ⟨blk, i * 2, none⟩ = false ∧ W.frozen? ⟨blk, i * 2 + 1, none⟩ = false := by
  have h0 := h (i * 2) (by omega)
  have h1 := h (i * 2 + 1) (by omega)
  have hd := dcells_at L i hi
  exact ⟨h0.1.trans hd.1, h1.1.trans hd.2, h0.2, h1.2⟩
theorem Dr.hk {w : World} {base : Nat} {g m cap : Nat} {l : List Dl} (h : Dr w base (.slice (some ⟨g, 0, none⟩) m cap) l) : Hk w g l ∧ m = l.length ∧ base ≤ g ∧ g < w.heap.size := by
  rcases h.2 with ⟨hv, -⟩ | ⟨g', cap', cur, hv, hb, h2, h3, h4, h5, h6⟩
  · cases hv
  · simp only [Value.slice.injEq, Option.some.injEq, Addr.mk.injEq] at hv
    obtain ⟨⟨rfl, -⟩, rfl, rfl⟩ := hv
    refine ⟨?_, rfl, hb, lt_of_block h2⟩
    intro j hj
    refine ⟨?_, by simp [World.frozen?, h2]⟩
    rw [← h6, List.getElem?_take_of_lt hj, Array.getElem?_toList]
    simp only [World.cell?, h2]
    simp
end Go.Proofs.Ytojcmnanapeooaa
