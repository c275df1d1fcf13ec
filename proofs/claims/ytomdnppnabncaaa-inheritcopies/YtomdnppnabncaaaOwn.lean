/- What a call leaves alone; numbers in a slice; rows of cells. -/
import Derived.Test.YtomdnppnabncaaaProg
import Derived.WalkKit
import Derived.WalkSpells
import Derived.Laws.AppendOwn
import Derived.Laws.OwnMore
import Derived.OneCell
import Derived.Below
import Derived.Deep.Draws
import Derived.Deep.MidRow
import Derived.Deep.RegionHeldLaw
import Derived.BigQuiet
import Derived.Shelf.SlicesE.Clone
namespace Go.Proofs.Ytomdnppnabncaaa
open Go.RowKit Go.Shelf Go.Lib

/-- A fact is kept from the walk. -/
theorem hid {p : Prop} (h : p) : Hid p := h
/-- What a call leaves alone: every elder block but those listed. -/
structure Kp (w w' : World) (rows : List Nat) : Prop where
  os : w'.os = w.os
  tape : w'.tape = w.tape
  output : w'.output = w.output
  size : w.heap.size ≤ w'.heap.size
  block : ∀ k, k < w.heap.size → k ∉ rows → w'.heap[k]? = w.heap[k]?
theorem Kp.refl (w : World) (rows : List Nat) : Kp w w rows := ⟨rfl, rfl, rfl, Nat.le_refl _, fun _ _ _ => rfl⟩
theorem Kp.trans {w w1 w2 : World} {rows : List Nat} (h : Kp w w1 rows) (h' : Kp w1 w2 rows) : Kp w w2 rows :=
  ⟨h'.os.trans h.os, h'.tape.trans h.tape, h'.output.trans h.output, Nat.le_trans h.size h'.size, fun k hk hr => (h'.block k (Nat.lt_of_lt_of_le hk h.size) hr).trans (h.block k hk hr)⟩
theorem Kp.mono {w w1 : World} {r1 r2 : List Nat} (h : Kp w w1 r1) (hr : ∀ k ∈ r1, k < w.heap.size → k ∈ r2) : Kp w w1 r2 :=
  ⟨h.os, h.tape, h.output, h.size, fun k hk hn => h.block k hk fun hm => hn (hr k hm hk)⟩
theorem Kp.nil {w w1 : World} {r : List Nat} (h : Kp w w1 []) : Kp w w1 r := h.mono (by simp)
/-- Behind one that wrote what was not there at first. -/
theorem Kp.past {w w1 w2 : World} {r1 r2 : List Nat} (h : Kp w w1 r1) (h' : Kp w1 w2 r2) (hr : ∀ k ∈ r2, k < w.heap.size → k ∈ r1) : Kp w w2 r1 :=
  ⟨h'.os.trans h.os, h'.tape.trans h.tape, h'.output.trans h.output, Nat.le_trans h.size h'.size, fun k hk hn => (h'.block k (Nat.lt_of_lt_of_le hk h.size) (fun hm => hn (hr k hm hk))).trans (h.block k hk hn)⟩
theorem Kp.alloc (w : World) (o : Obj) (rows : List Nat) : Kp w (w.alloc o) rows := ⟨rfl, rfl, rfl, by simp, fun k hk _ => Below.heap_alloc _ _ _ hk⟩
theorem Kp.setCell (w : World) (a : Addr) (u : Value) : Kp w (w.setCell a u) [a.block] := ⟨rfl, rfl, rfl, by simp, fun k _ hk => Below.heap_setCell _ _ _ _ (fun e => hk (by simp [e]))⟩
theorem Kp.drew (w : World) (rows : List Nat) : Kp w w.drew rows := ⟨rfl, rfl, rfl, Nat.le_refl _, fun _ _ _ => rfl⟩
theorem Kp.drewN (w : World) (k : Nat) (rows : List Nat) : Kp w (w.drewN k) rows := ⟨rfl, rfl, rfl, Nat.le_refl _, fun _ _ _ => rfl⟩
theorem Kp.below {w w1 : World} (h : Kp w w1 []) : Below w.heap.size w w1 := ⟨h.os, h.tape, h.output, h.size, fun k hk => h.block k hk (by simp)⟩
theorem Kp.of_below {w w' : World} (h : Below w.heap.size w w') : Kp w w' [] := ⟨h.os, h.tape, h.output, h.size, fun k hk _ => h.block k hk⟩
theorem Kp.cell {w w' : World} {rows : List Nat} {b i : Nat} {v : Value} (hk : Kp w w' rows) (h : w.cell? ⟨b, i, none⟩ = some v) (hb : b ∉ rows) : w'.cell? ⟨b, i, none⟩ = some v :=
  (World.cell?_of_block (a := ⟨b, i, none⟩) (hk.block b (World.block_lt_of_cell? w _ h) hb)).trans h
theorem Kp.ofGrown {w w' : World} {row : Option Nat} (h : w.grownBy w' row) {rows : List Nat} (hr : ∀ g, row = some g → g ∈ rows) : Kp w w' rows :=
  ⟨h.os, h.tape, h.output, h.size, fun k hk hn => h.block k hk (fun e => hn (hr k e.symm))⟩

theorem owns_shape {w : World} {base e s : Nat} {v : Value} {n : Nat} {xs : List Value} (h : w.ownsRow base e s v n xs) : ∃ ao cap, v = .slice ao n cap := by
  rcases h.2 with ⟨rfl, rfl⟩ | ⟨g, cap, cur, rfl, -⟩
  · exact ⟨_, _, rfl⟩
  · exact ⟨_, _, rfl⟩
theorem owns_block {w : World} {base e s : Nat} {v : Value} {n : Nat} {xs : List Value} (h : w.ownsRow base e s v n xs) {g : Nat} (hg : v.ownBlock = some g) : base ≤ g ∧ ∃ cur, w.heap[g]? = some (.cells cur e (0, 0)) := by
  rcases h.2 with ⟨rfl, rfl⟩ | ⟨g', cap, cur, rfl, h1, h2, -⟩
  · simp [Value.ownBlock] at hg
  · simp [Value.ownBlock] at hg
    subst hg
    exact ⟨h1, cur, h2⟩
theorem owns_kp {w w' : World} {base e s : Nat} {v : Value} {n : Nat} {xs : List Value} {rows : List Nat} (h : w.ownsRow base e s v n xs) (hk : Kp w w' rows) (hr : ∀ g, v.ownBlock = some g → g ∉ rows) : w'.ownsRow base e s v n xs := by
  refine ⟨h.1, ?_⟩
  rcases h.2 with ⟨rfl, h0⟩ | ⟨g, cap, cur, rfl, h1, h2, h3⟩
  · exact .inl ⟨rfl, h0⟩
  · exact .inr ⟨g, cap, cur, rfl, h1, (hk.block g (lt_of_block h2) (hr g rfl)).trans h2, h3⟩
theorem owns_low {w : World} {base base' e s : Nat} {v : Value} {n : Nat} {xs : List Value} (h : w.ownsRow base e s v n xs) (hb : base' ≤ base) : w.ownsRow base' e s v n xs := by
  refine ⟨h.1, ?_⟩
  rcases h.2 with h0 | ⟨g, cap, cur, rfl, h1, h2, h3⟩
  · exact .inl h0
  · exact .inr ⟨g, cap, cur, rfl, Nat.le_trans hb h1, h2, h3⟩
theorem block_ne {w : World} {b g t e : Nat} {c cur : Array Value} (h : w.heap[b]? = some (.cells c t (0, 0))) (h' : w.heap[g]? = some (.cells cur e (0, 0))) (hne : t ≠ e) : b ≠ g := by
  rintro rfl
  rw [h] at h'
  simp at h'
  exact hne h'.2

def icells (l : List Int) : List Value := l.map fun x => .int .i64 x
def Ns (w : World) (base : Nat) (v : Value) (l : List Int) : Prop := w.ownsRow base 3 1 v l.length (icells l)
theorem Ns.nil (w : World) (base : Nat) : Ns w base (.slice none 0 0) [] := ⟨rfl, .inl ⟨rfl, rfl⟩⟩
theorem Ns.kp {w w' : World} {base : Nat} {v : Value} {l : List Int} {rows : List Nat} (h : Ns w base v l) (hk : Kp w w' rows) (hr : ∀ g, v.ownBlock = some g → g ∉ rows) : Ns w' base v l := owns_kp h hk hr
theorem Ns.keep {w w' : World} {base : Nat} {v : Value} {l : List Int} (h : Ns w base v l) (hk : Kp w w' []) : Ns w' base v l := owns_kp h hk (by simp)
theorem Ns.low {w : World} {base base' : Nat} {v : Value} {l : List Int} (h : Ns w base v l) (hb : base' ≤ base) : Ns w base' v l := owns_low h hb
theorem Ns.slice {w : World} {base : Nat} {v : Value} {l : List Int} (h : Ns w base v l) : ∃ ao cap, v = .slice ao l.length cap := owns_shape h
theorem Ns.some_of {w : World} {base : Nat} {ad : Addr} {m cap : Nat} {l : List Int} (h : Ns w base (.slice (some ad) m cap) l) : ∃ g, ad = ⟨g, 0, none⟩ := by
  rcases h.2 with ⟨hv, -⟩ | ⟨g, cap', cur, hv, -⟩
  · cases hv
  · simp only [Value.slice.injEq, Option.some.injEq] at hv
    exact ⟨g, hv.1⟩
theorem Ns.none_of {w : World} {base : Nat} {m cap : Nat} {l : List Int} (h : Ns w base (.slice none m cap) l) : l = [] ∧ m = 0 ∧ cap = 0 := by
  rcases h.2 with ⟨hv, h0⟩ | ⟨g, cap', cur, hv, -⟩
  · simp only [Value.slice.injEq, true_and] at hv
    exact ⟨List.eq_nil_of_length_eq_zero h0, hv⟩
  · cases hv
theorem Ns.open {w : World} {base g m cap : Nat} {l : List Int} (h : Ns w base (.slice (some ⟨g, 0, none⟩) m cap) l) : ∃ cur, m = l.length ∧ base ≤ g ∧ w.heap[g]? = some (.cells cur 3 (0, 0)) ∧ l.length ≤ cap ∧ cap ≤ maxLen ∧ cur.size = cap ∧ cur.toList.take l.length = icells l := by
  rcases h.2 with ⟨hv, -⟩ | ⟨g', cap', cur, hv, hb, h2, h3, h4, h5, h6⟩
  · cases hv
  · simp only [Value.slice.injEq, Option.some.injEq, Addr.mk.injEq] at hv
    obtain ⟨⟨rfl, -⟩, rfl, rfl⟩ := hv
    exact ⟨cur, rfl, hb, h2, h3, h4, by omega, by rw [Nat.mul_one] at h6; exact h6⟩
theorem icells_at (l : List Int) (k : Nat) (hk : k < l.length) : (icells l)[k]? = some (.int .i64 l[k]!) := by
  simp [icells, getElem!_pos, hk]
theorem Ns.at {w : World} {base : Nat} {ao : Option Addr} {m cap : Nat} {l : List Int} (h : Ns w base (.slice ao m cap) l) {k : Nat} (hk : k < l.length) {x : Int} (e : l[k]! = x) :
    ∃ g, ao = some ⟨g, 0, none⟩ ∧ w.cell? ⟨g, k, none⟩ = some (.int .i64 x) ∧ w.frozen? ⟨g, k, none⟩ = false := by
  cases ao with
  | none => rw [h.none_of.1] at hk; simp at hk
  | some ad =>
    obtain ⟨g, rfl⟩ := h.some_of
    obtain ⟨cur, -, -, hg, -, -, -, ht⟩ := h.open
    refine ⟨g, rfl, ?_, by simp [World.frozen?, hg]⟩
    have e1 : (cur.toList.take l.length)[k]? = (icells l)[k]? := by rw [ht]
    rw [List.getElem?_take_of_lt hk, icells_at l k hk, e, Array.getElem?_toList] at e1
    simp [World.cell?, hg, e1]
theorem Ns.push {w : World} {base : Nat} {v : Value} {l : List Int} {x : Int} (h : w.ownsRow base 3 1 v (l.length + 1) (icells l ++ [.int .i64 x])) : Ns w base v (l ++ [x]) := by
  unfold Ns icells
  simpa [icells] using h
theorem Try.infoI : (Try.prog.info? 3).map (fun i => (i.zero, i.size, i.bytes)) = some (some (.int .i64 0), 1, 8) := by kernel_rfl
theorem wpList_pushI {ops : Array Oper} {rest : List Oper} {o : Oper} {a : Act} {W : World} {Q : Exit → Act → World → Prop} (hgd : o.guard = none) (s x : Operand)
    (ho : o.op = .call { callee := .builtin .append, args := #[s, x], argTypes := #[35, 35] }) (base : Nat) (V : Value) (l : List Int) (h : Int) (g : Nat)
    (hs : a.eval s = V) (hown : Ns W base V l) (hx : a.eval x = .slice (some ⟨g, 0, none⟩) 1 1) (hc : W.cell? ⟨g, 0, none⟩ = some (.int .i64 h)) (hm : l.length ≤ 100000) (hb : base ≤ W.heap.size)
    (K : ∀ v' w', Ns w' base v' (l ++ [h]) → W.grownBy w' V.ownBlock → wpList Try.prog ops Q rest (a.put o.dst v') w') :
    wpList Try.prog ops Q (o :: rest) a W := by
  obtain ⟨i0, hi, hz0, hz1, hz2⟩ := info_parts Try.infoI
  exact wpList_append_own _ hgd s x 35 ho base 3 i0 (.int .i64 0) 1 8 Try.underlying35 hi hz0 hz1 hz2 rfl (by decide) V l.length (icells l) hs hown ⟨g, 0, none⟩ 1 1 [.int .i64 h] hx rfl (by
      intro j u hu
      match j with
      | 0 =>
        simp at hu
        subst hu
        rw [Addr.add_lit]
        exact hc
      | j + 1 => simp at hu) (by simp; rfl) (by unfold maxLen; omega) (by omega) hb (fun v' w' h1 h2 _ => K v' w' (Ns.push h1) h2)
theorem grown_own {W w' : World} {base e s n : Nat} {V : Value} {xs : List Value} (hN : W.ownsRow base e s V n xs) (hG : W.grownBy w' V.ownBlock) {w : World} (hk : Kp w W []) (hb : w.heap.size ≤ base) : Kp w w' [] :=
  hk.past (Kp.ofGrown (rows := V.ownBlock.toList) hG (by intro g hg; simp [hg])) (by
    intro g hg hl
    simp at hg
    have := (owns_block hN hg).1
    omega)

theorem icells_one (l : List Int) : ∀ u ∈ icells l, u.oneCell' = true := by
  intro u hu
  obtain ⟨x, -, rfl⟩ := List.mem_map.1 hu
  rfl
def vcl (F : Nat → Value) : Nat → Nat → List Value
  | 0, _ => []
  | k + 1, i => F i :: vcl F k (i + 1)
theorem vcl_length (F : Nat → Value) (k i : Nat) : (vcl F k i).length = k := by
  induction k generalizing i with
  | zero => rfl
  | succ k ih => simp [vcl, ih]
theorem vcl_at (F : Nat → Value) (k i j : Nat) (hj : j < k) : (vcl F k i)[j]? = some (F (i + j)) := by
  induction k generalizing i j with
  | zero => omega
  | succ k ih =>
    cases j with
    | zero => simp [vcl]
    | succ j =>
      simp only [vcl, List.getElem?_cons_succ]
      rw [ih (i + 1) j (by omega), show i + (j + 1) = i + 1 + j by omega]
def updV (F : Nat → Value) (i : Nat) (v : Value) : Nat → Value := fun j => if j = i then v else F j
theorem vcl_set (F : Nat → Value) (k j : Nat) (v : Value) (hj : j < k) : (vcl F k 0).set j v = vcl (updV F j v) k 0 := by
  apply List.ext_getElem?
  intro n
  rw [List.getElem?_set]
  rcases Nat.lt_or_ge n k with hn | hn
  · rw [vcl_at _ k 0 n hn, Nat.zero_add]
    by_cases e : j = n
    · subst e
      rw [if_pos rfl, if_pos (by rw [vcl_length]; exact hj)]
      rw [vcl_at _ k 0 j hj, Nat.zero_add]
      simp [updV]
    · rw [if_neg e, vcl_at _ k 0 n hn, Nat.zero_add]
      have : n ≠ j := fun h => e h.symm
      simp [updV, this]
  · rw [List.getElem?_eq_none (by rw [vcl_length]; exact hn)]
    by_cases e : j = n
    · omega
    · rw [if_neg e, List.getElem?_eq_none (by rw [vcl_length]; exact hn)]
theorem vcl_congr {F G : Nat → Value} (k i : Nat) (h : ∀ j, j < k → F (i + j) = G (i + j)) : vcl F k i = vcl G k i := by
  induction k generalizing i with
  | zero => rfl
  | succ k ih =>
    have h0 := h 0 (by omega)
    simp only [Nat.add_zero] at h0
    simp only [vcl, h0]
    rw [ih (i + 1) (fun j hj => by have := h (j + 1) (by omega); rwa [show i + (j + 1) = i + 1 + j by omega] at this)]
theorem vcl_put {F G : Nat → Value} {k j : Nat} {v : Value} (hj : j < k) (h : ∀ i, i < k → G i = if i = j then v else F i) : (vcl F k 0).set j v = vcl G k 0 := by
  rw [vcl_set F k j v hj]
  refine vcl_congr k 0 fun i hi => ?_
  rw [Nat.zero_add, h i hi]
  rfl
theorem vcl_cell {w : World} {b k t : Nat} {F : Nat → Value} (h : w.heap[b]? = some (.cells (vcl F k 0).toArray t (0, 0))) (i : Nat) (hi : i < k) : w.cell? ⟨b, i, none⟩ = some (F i) := by
  rw [cell_of_row w b i _ _ _ h]
  have := vcl_at F k 0 i hi
  rw [Nat.zero_add] at this
  simpa using this
theorem vcl_heap {w : World} {b k t j : Nat} {F G : Nat → Value} {v : Value} (h : w.heap[b]? = some (.cells (vcl F k 0).toArray t (0, 0))) (hj : j < k) (hg : ∀ i, i < k → G i = if i = j then v else F i) : (w.setCell ⟨b, j, none⟩ v).heap[b]? = some (.cells (vcl G k 0).toArray t (0, 0)) := by
  rw [heap_setCell_same w b j _ t _ h, List.setIfInBounds_toArray, vcl_put hj hg]
end Go.Proofs.Ytomdnppnabncaaa
