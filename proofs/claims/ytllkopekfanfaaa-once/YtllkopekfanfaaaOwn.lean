/- What a call leaves alone; waiters in a slice; SortStableFunc. -/
import Derived.Test.YtllkopekfanfaaaCmp
import Derived.Laws.AppendOwn
import Derived.Laws.OwnMore
import Derived.OneCell
namespace Go.Proofs.Ytllkopekfanfaaa
open Go.RowKit Go.Shelf Go.Lib Go.Sort

/-- What a call leaves alone: every elder block but those listed. -/
structure Kp (w w' : World) (rows : List Nat) : Prop where
  os : w'.os = w.os
  tape : w'.tape = w.tape
  output : w'.output = w.output
  size : w.heap.size ≤ w'.heap.size
  block : ∀ k, k < w.heap.size → k ∉ rows → w'.heap[k]? = w.heap[k]?
theorem Kp.refl (w : World) (rows : List Nat) : Kp w w rows := ⟨rfl, rfl, rfl, Nat.le_refl _, fun _ _ _ => rfl⟩
theorem Kp.trans {w w1 w2 : World} {rows : List Nat} (h : Kp w w1 rows) (h' : Kp w1 w2 rows) : Kp w w2 rows :=
  ⟨h'.os.trans h.os, h'.tape.trans h.tape, h'.output.trans h.output, Nat.le_trans h.size h'.size, fun k hk hr => (h'.block k (Nat.lt_of_lt_of_le hk h.size) hr).trans (h.block k hk hr)⟩
theorem Kp.mono {w w1 : World} {r1 r2 : List Nat} (h : Kp w w1 r1) (hr : ∀ k ∈ r1, k < w.heap.size → k ∈ r2) : Kp w w1 r2 :=
  ⟨h.os, h.tape, h.output, h.size, fun k hk hn => h.block k hk fun hm => hn (hr k hm hk)⟩
theorem Kp.nil {w w1 : World} {r : List Nat} (h : Kp w w1 []) : Kp w w1 r := h.mono (by simp)
/-- Behind one that wrote what was not there at first. -/
theorem Kp.past {w w1 w2 : World} {r1 r2 : List Nat} (h : Kp w w1 r1) (h' : Kp w1 w2 r2) (hr : ∀ k ∈ r2, k < w.heap.size → k ∈ r1) : Kp w w2 r1 :=
  ⟨h'.os.trans h.os, h'.tape.trans h.tape, h'.output.trans h.output, Nat.le_trans h.size h'.size, fun k hk hn => (h'.block k (Nat.lt_of_lt_of_le hk h.size) (fun hm => hn (hr k hm hk))).trans (h.block k hk hn)⟩
theorem Kp.alloc (w : World) (o : Obj) (rows : List Nat) : Kp w (w.alloc o) rows := ⟨rfl, rfl, rfl, by simp, fun k hk _ => Below.heap_alloc _ _ _ hk⟩
theorem Kp.setCell (w : World) (a : Addr) (u : Value) : Kp w (w.setCell a u) [a.block] := ⟨rfl, rfl, rfl, by simp, fun k _ hk => Below.heap_setCell _ _ _ _ (fun e => hk (by simp [e]))⟩
theorem Kp.drew (w : World) (rows : List Nat) : Kp w w.drew rows := ⟨rfl, rfl, rfl, Nat.le_refl _, fun _ _ _ => rfl⟩
theorem Kp.drewN (w : World) (k : Nat) (rows : List Nat) : Kp w (w.drewN k) rows := ⟨rfl, rfl, rfl, Nat.le_refl _, fun _ _ _ => rfl⟩
theorem Kp.below {w w1 : World} (h : Kp w w1 []) : Below w.heap.size w w1 := ⟨h.os, h.tape, h.output, h.size, fun k hk => h.block k hk (by simp)⟩
theorem Kp.of_below {w w' : World} (h : Below w.heap.size w w') : Kp w w' [] := ⟨h.os, h.tape, h.output, h.size, fun k hk _ => h.block k hk⟩
theorem Kp.cell {w w' : World} {rows : List Nat} {b i : Nat} {v : Value} (hk : Kp w w' rows) (h : w.cell? ⟨b, i, none⟩ = some v) (hb : b ∉ rows) : w'.cell? ⟨b, i, none⟩ = some v :=
  (World.cell?_of_block (a := ⟨b, i, none⟩) (hk.block b (World.block_lt_of_cell? w _ h) hb)).trans h
theorem Kp.ofGrown {w w' : World} {row : Option Nat} (h : w.grownBy w' row) {rows : List Nat} (hr : ∀ g, row = some g → g ∈ rows) : Kp w w' rows :=
  ⟨h.os, h.tape, h.output, h.size, fun k hk hn => h.block k hk (fun e => hn (hr k e.symm))⟩
theorem Kp.grow (w : World) (os : Array Obj) (rows : List Nat) : Kp w (grow w os) rows := ⟨rfl, rfl, rfl, by simp, fun k hk _ => heap_grow_old w os hk⟩

theorem owns_shape {w : World} {base e s : Nat} {v : Value} {n : Nat} {xs : List Value} (h : w.ownsRow base e s v n xs) : ∃ ao cap, v = .slice ao n cap := by
  rcases h.2 with ⟨rfl, rfl⟩ | ⟨g, cap, cur, rfl, -⟩
  · exact ⟨_, _, rfl⟩
  · exact ⟨_, _, rfl⟩
theorem owns_block {w : World} {base e s : Nat} {v : Value} {n : Nat} {xs : List Value} (h : w.ownsRow base e s v n xs) {g : Nat} (hg : v.ownBlock = some g) : base ≤ g ∧ ∃ cur, w.heap[g]? = some (.cells cur e (0, 0)) := by
  rcases h.2 with ⟨rfl, rfl⟩ | ⟨g', cap, cur, rfl, h1, h2, -⟩
  · simp [Value.ownBlock] at hg
  · simp [Value.ownBlock] at hg
    subst hg
    exact ⟨h1, cur, h2⟩
theorem owns_kp {w w' : World} {base e s : Nat} {v : Value} {n : Nat} {xs : List Value} {rows : List Nat} (h : w.ownsRow base e s v n xs) (hk : Kp w w' rows) (hr : ∀ g, v.ownBlock = some g → g ∉ rows) : w'.ownsRow base e s v n xs := by
  refine ⟨h.1, ?_⟩
  rcases h.2 with ⟨rfl, h0⟩ | ⟨g, cap, cur, rfl, h1, h2, h3⟩
  · exact .inl ⟨rfl, h0⟩
  · exact .inr ⟨g, cap, cur, rfl, h1, (hk.block g (lt_of_block h2) (hr g rfl)).trans h2, h3⟩
theorem owns_low {w : World} {base base' e s : Nat} {v : Value} {n : Nat} {xs : List Value} (h : w.ownsRow base e s v n xs) (hb : base' ≤ base) : w.ownsRow base' e s v n xs := by
  refine ⟨h.1, ?_⟩
  rcases h.2 with h0 | ⟨g, cap, cur, rfl, h1, h2, h3⟩
  · exact .inl h0
  · exact .inr ⟨g, cap, cur, rfl, Nat.le_trans hb h1, h2, h3⟩
theorem block_ne {w : World} {b g t e : Nat} {c cur : Array Value} (h : w.heap[b]? = some (.cells c t (0, 0))) (h' : w.heap[g]? = some (.cells cur e (0, 0))) (hne : t ≠ e) : b ≠ g := by
  rintro rfl
  rw [h] at h'
  simp at h'
  exact hne h'.2

/-- Deadlines' cells. -/
def dcells (l : List Dl) : List Value := l.flatMap encD
theorem dcells_length (l : List Dl) : (dcells l).length = l.length * 2 := by
  unfold dcells
  induction l with
  | nil => rfl
  | cons x r ih => rw [List.flatMap_cons, List.length_append, ih, lenD, List.length_cons]; omega
theorem dcells_append (a b : List Dl) : dcells (a ++ b) = dcells a ++ dcells b := List.flatMap_append
theorem dcells_at : ∀ (l : List Dl) (i : Nat), i < l.length → (dcells l)[i * 2]? = some (.int .i64 l[i]!.1) ∧ (dcells l)[i * 2 + 1]? = some (.int .i64 l[i]!.2)
  | [], _, h => by simp at h
  | x :: r, 0, _ => ⟨rfl, rfl⟩
  | x :: r, i + 1, h => by
    have ih := dcells_at r i (by simpa using h)
    have e : dcells (x :: r) = .int .i64 x.1 :: .int .i64 x.2 :: dcells r := rfl
    rw [e, show (i + 1) * 2 = i * 2 + 1 + 1 by omega]
    simpa using ih
theorem dcells_one (l : List Dl) : ∀ u ∈ dcells l, u.oneCell' = true := by
  intro u hu
  obtain ⟨x, -, hx⟩ := List.mem_flatMap.1 hu
  exact oneD x u hx
theorem dcells_flat (l : List Dl) : dcells l = (flatK encD 2 l.toArray).toList := by
  apply List.ext_getElem?
  intro t
  by_cases ht : t < l.length * 2
  · have h2 : t / 2 < l.length := by omega
    have e := dcells_at l (t / 2) h2
    have g := get_flatK encD 2 l.toArray t (by simpa using ht)
    rw [arr_get] at g
    have sz : (flatK encD 2 l.toArray).size = l.length * 2 := by simp
    rw [getElem!_pos _ t (by omega)] at g
    have g2 : (flatK encD 2 l.toArray).toList[t]? = some ((encD l[t / 2]!)[t % 2]!) := by
      rw [Array.getElem?_toList, Array.getElem?_eq_getElem (show t < (flatK encD 2 l.toArray).size by omega), g]
    rw [g2]
    rcases Nat.mod_two_eq_zero_or_one t with q | q
    · have := e.1
      rw [show t / 2 * 2 = t by omega] at this
      rw [this, q]; rfl
    · have := e.2
      rw [show t / 2 * 2 + 1 = t by omega] at this
      rw [this, q]; rfl
  · rw [List.getElem?_eq_none (by rw [dcells_length]; omega), List.getElem?_eq_none (by simp; omega)]

/-- The slice value v holds the deadlines l, in a block of its own from base on. -/
def Dr (W : World) (base : Nat) (v : Value) (l : List Dl) : Prop := W.ownsRow base 103 2 v l.length (dcells l)
theorem Dr.nil (W : World) (base : Nat) : Dr W base (.slice none 0 0) [] := ⟨rfl, .inl ⟨rfl, rfl⟩⟩
theorem Dr.kp {w w' : World} {base : Nat} {v : Value} {l : List Dl} {rows : List Nat} (h : Dr w base v l) (hk : Kp w w' rows) (hr : ∀ g, v.ownBlock = some g → g ∉ rows) : Dr w' base v l := owns_kp h hk hr
theorem Dr.keep {w w' : World} {base : Nat} {v : Value} {l : List Dl} (h : Dr w base v l) (hk : Kp w w' []) : Dr w' base v l := h.kp hk (by simp)
theorem Dr.slice {w : World} {base : Nat} {v : Value} {l : List Dl} (h : Dr w base v l) : ∃ ao cap, v = .slice ao l.length cap := owns_shape h
theorem Dr.low {w : World} {base base' : Nat} {v : Value} {l : List Dl} (h : Dr w base v l) (hb : base' ≤ base) : Dr w base' v l := owns_low h hb
theorem Dr.hk {w : World} {base : Nat} {g m cap : Nat} {l : List Dl} (h : Dr w base (.slice (some ⟨g, 0, none⟩) m cap) l) : Hk w g l ∧ m = l.length ∧ base ≤ g ∧ g < w.heap.size := by
  rcases h.2 with ⟨hv, -⟩ | ⟨g', cap', cur, hv, hb, h2, h3, h4, h5, h6⟩
  · cases hv
  · simp only [Value.slice.injEq, Option.some.injEq, Addr.mk.injEq] at hv
    obtain ⟨⟨rfl, -⟩, rfl, rfl⟩ := hv
    refine ⟨?_, rfl, hb, lt_of_block h2⟩
    intro j hj
    have hj' : j < l.length * 2 := by simpa using hj
    refine ⟨?_, by simp [World.frozen?, h2]⟩
    have e1 : (cur.toList.take (l.length * 2))[j]? = (dcells l)[j]? := by rw [h6]
    rw [List.getElem?_take_of_lt hj', dcells_flat, Array.getElem?_toList, Array.getElem?_toList] at e1
    simp only [World.cell?, h2, Nat.zero_add]
    simp only [Option.isSome_none, Bool.false_eq_true, if_false]
    rw [e1, Array.getElem?_eq_getElem (by simpa using hj'), getElem!_pos _ j (by simpa using hj')]
    rfl
/-- Behind a sort. -/
theorem Dr.of_sw {w w' : World} {base : Nat} {g cap : Nat} {l Z : List Dl} (h : Dr w base (.slice (some ⟨g, 0, none⟩) l.length cap) l) (hS : Sw w g Z w') (hZ : Z.length = l.length) : Dr w' base (.slice (some ⟨g, 0, none⟩) l.length cap) Z ∧ Kp w w' [g] := by
  obtain ⟨n, os, rfl⟩ := hS
  have hkp : Kp w (sortWorldK encD 2 w g 0 n Z.toArray os) [g] := by
    refine ⟨rfl, rfl, rfl, by unfold sortWorldK; rw [size_grow, size_putRowK]; exact Nat.le_add_right _ _, fun k hk hne => ?_⟩
    have hne' : g ≠ k := fun e => hne (by simp [e])
    unfold sortWorldK
    rw [heap_grow_old _ _ (by rw [size_putRowK]; exact hk)]
    simp [putRowK, putRow, mapBlock, Sort.ahead, Array.getElem?_modify, hne']
  refine ⟨?_, hkp⟩
  rcases h.2 with ⟨hv, -⟩ | ⟨g', cap', cur, hv, hb, h2, h3, h4, h5, h6⟩
  · cases hv
  · simp only [Value.slice.injEq, Option.some.injEq, Addr.mk.injEq, and_true, true_and] at hv
    obtain ⟨rfl, rfl⟩ := hv
    unfold Dr
    rw [hZ]
    refine ⟨by rw [dcells_length, hZ], .inr ⟨g, cap, putCells id 0 (flatK encD 2 Z.toArray) cur, rfl, hb, ?_, h3, h4, by simp [putCells, h5], ?_⟩⟩
    · unfold sortWorldK
      rw [heap_grow_old _ _ (by rw [size_putRowK]; exact lt_of_block h2)]
      simp [putRowK, putRow, mapBlock, Sort.ahead, Array.getElem?_modify, h2, onCells]
    · rw [dcells_flat]
      apply List.ext_getElem?
      intro j
      have sz : (flatK encD 2 Z.toArray).size = l.length * 2 := by simp [hZ]
      by_cases hj : j < l.length * 2
      · have hc : j < cur.size := by rw [h5]; omega
        rw [List.getElem?_take_of_lt hj, Array.getElem?_toList, Array.getElem?_toList]
        simp [putCells, hc, sz, hj, getElem!_pos]
      · rw [List.getElem?_take_eq_none (by omega), List.getElem?_eq_none (by simp [hZ]; omega)]

set_option maxRecDepth 100000 in
theorem ins_nil (w : World) : Calls Try.prog 99 #[.slice none 0 0, .int .i64 0, .int .i64 0, cmpV] w fun e w' => e = .returned (.tuple #[]) ∧ w' = w := by
  go_enter Try.func99, Try.ntmps99
  go_wp2_with fail
  go_loopw [8] (fun v wr => v = .int .i64 1 ∧ wr = w) (fun _ _ => 0)
  case atStart => exact ⟨rfl, rfl⟩
  case round =>
    obtain ⟨rfl, rfl⟩ := hrel
    go_wp2
    refine bodyPost_end (results_none rfl _ _ _) rfl ?_
    exact ⟨rfl, rfl⟩
set_option maxRecDepth 100000 in
theorem stable_nil (w : World) : Calls Try.prog 96 #[.slice none 0 0, .int .i64 0, cmpV] w fun e w' => e = .returned (.tuple #[]) ∧ w' = w := by
  go_enter Try.func96, Try.ntmps96
  go_wp2_with fail
  go_loopw [7, 8] (fun va vb wr => va = .int .i64 0 ∧ vb = .int .i64 20 ∧ wr = w) (fun _ _ _ => 0)
  case atStart => exact ⟨rfl, rfl, rfl⟩
  case round =>
    obtain ⟨rfl, rfl, rfl⟩ := hrel
    go_wp2_with fail
    refine (ins_nil wr).mono ?_
    rintro e w2 ⟨rfl, hE⟩
    rw [hE]
    clear hE
    go_wp2_with fail
    go_loopw [6] (fun v wx => v = .int .i64 20 ∧ wx = wr) (fun _ _ => 0)
    case atStart => exact ⟨rfl, rfl⟩
    case round =>
      obtain ⟨rfl, rfl⟩ := hrel
      go_wp2
      refine bodyPost_end (results_none rfl _ _ _) rfl ?_
      exact ⟨rfl, rfl⟩
set_option maxRecDepth 100000 in
/-- At most 19: one insertion sort. -/
theorem stable_any (w0 : World) (blk cap N : Nat) (l L0 : List Dl) (W : World) (hS : Sw w0 blk l W) (h0 : Hk w0 blk L0) (hl : L0.length = N) (hN : l.length = N) (hblk : blk < w0.heap.size) (hsz : N < 20) :
    Calls Try.prog 96 #[.slice (some ⟨blk, 0, none⟩) N cap, .int .i64 N, cmpV] W fun e w' => e = .returned (.tuple #[]) ∧ ∃ Z, St l Z ∧ Sw w0 blk Z w' := by
  have hc := ins_any w0 blk cap [] l [] L0 W 0 N (by simpa using hS) h0 (by simp; omega) hblk rfl (by simp; omega) (by simp; omega)
  simp only [List.nil_append, List.append_nil, hN] at hc
  have HC := hid hc
  have hbI : ¬ (20 : Int) ≤ N := by omega
  have hbJ : ¬ (20 : Int) < N := by omega
  clear hS h0 hl hN hc
  go_enter Try.func96, Try.ntmps96
  go_wp2_with fail
  go_loopw [7, 8] (fun va vb wr => va = .int .i64 0 ∧ vb = .int .i64 20 ∧ wr = W) (fun _ _ _ => 0)
  case atStart => exact ⟨rfl, rfl, rfl⟩
  case round =>
    obtain ⟨rfl, rfl, rfl⟩ := hrel
    go_wp2_with fail
    refine HC.out.mono ?_
    rintro e w2 ⟨rfl, hE⟩
    have HE := hid hE
    clear hE
    go_wp2_with fail
    go_loopw [6] (fun v wx => v = .int .i64 20 ∧ wx = w2) (fun _ _ => 0)
    case atStart => exact ⟨rfl, rfl⟩
    case round =>
      obtain ⟨rfl, rfl⟩ := hrel
      go_wp2
      refine bodyPost_end (results_none rfl _ _ _) rfl ?_
      exact ⟨rfl, HE.out⟩
set_option maxRecDepth 100000 in
theorem sort52 (w : World) (v : Value) (N cap : Nat) (ao : Option Addr) (hv : v = .slice ao N cap) (Q : World → Prop) (h : Calls Try.prog 96 #[.slice ao N cap, .int .i64 N, cmpV] w fun e w' => e = .returned (.tuple #[]) ∧ Q w') : Calls Try.prog 92 #[v, cmpV] w fun e w' => e = .returned (.tuple #[]) ∧ Q w' := by
  subst hv
  have H := hid h
  clear h
  go_enter Try.func92, Try.ntmps92
  go_wp2_with fail
  refine H.out.mono ?_
  rintro e w2 ⟨rfl, hQ⟩
  have HQ := hid hQ
  clear hQ
  go_wp2
  refine bodyPost_end (results_none rfl _ _ _) rfl ?_
  exact ⟨rfl, HQ.out⟩
/-- SortStableFunc: the slice, sorted in place. -/
theorem order_any (w : World) (base : Nat) (v : Value) (l : List Dl) (h : Dr w base v l) (hl : l.length < 20) : Calls Try.prog 92 #[v, cmpV] w fun e w' => e = .returned (.tuple #[]) ∧ (∃ Z, St l Z ∧ Dr w' base v Z) ∧ Kp w w' v.ownBlock.toList := by
  obtain ⟨ao, cap, rfl⟩ := h.slice
  cases ao with
  | none =>
    have hz : l = [] ∧ cap = 0 := by
      rcases h.2 with ⟨hv, h0⟩ | ⟨g, cap', cur, hv, -⟩
      · simp only [Value.slice.injEq, true_and] at hv
        exact ⟨List.eq_nil_of_length_eq_zero h0, hv.2⟩
      · cases hv
    obtain ⟨rfl, rfl⟩ := hz
    refine (sort52 w _ 0 0 none rfl (fun w' => w' = w) (stable_nil w)).mono ?_
    rintro e w2 ⟨rfl, rfl⟩
    exact ⟨rfl, ⟨[], st_nil, h⟩, Kp.refl _ _⟩
  | some ad =>
    have had : ∃ g, ad = ⟨g, 0, none⟩ := by
      rcases h.2 with ⟨hv, -⟩ | ⟨g, cap', cur, hv, -⟩
      · cases hv
      · simp only [Value.slice.injEq, Option.some.injEq] at hv
        exact ⟨g, hv.1⟩
    obtain ⟨g, rfl⟩ := had
    obtain ⟨hH, -, -, hg⟩ := h.hk
    refine (sort52 w _ l.length cap _ rfl _ (stable_any w g cap l.length l l w (SWK.start hH) hH rfl rfl hg (by omega))).mono ?_
    rintro e w2 ⟨rfl, Z, hZ, hS⟩
    have D := h.of_sw hS hZ.length
    exact ⟨rfl, ⟨Z, hZ, D.1⟩, D.2⟩
end Go.Proofs.Ytllkopekfanfaaa
