/- Offsets in a slice of the law's own. -/
import Derived.Test.YtgefmnnkpffpcaaGreatDoorNoMoreJ
import Derived.Laws.AppendOwn
import Derived.Laws.OwnMore
import Derived.OneCell
import Derived.Test.YtgefmnnkpffpcaaGreatDoorHcheck3J
namespace Go.Proofs.YtgefmnnkpffpcaaGreatDoor
open Go.RowKit

theorem Tryz.infoI : (Tryz.prog.info? 3).map (fun i => (i.zero, i.size, i.bytes)) = some (some (.int .i64 0), 1, 8) := by kernel_rfl
abbrev gi (l : List Int) : List Value := l.map fun x => Value.int .i64 x
theorem gi_one (l : List Int) : ∀ u ∈ gi l, u.oneCell' = true := by
  intro u hu
  obtain ⟨x, -, rfl⟩ := List.mem_map.1 hu
  rfl
theorem owns_block {w : World} {base e s : Nat} {v : Value} {n : Nat} {xs : List Value} (h : w.ownsRow base e s v n xs) {g : Nat} (hg : v.ownBlock = some g) : base ≤ g ∧ ∃ cur, w.heap[g]? = some (.cells cur e (0, 0)) := by
  rcases h.2 with ⟨rfl, rfl⟩ | ⟨g', cap, cur, rfl, h1, h2, -⟩
  · simp [Value.ownBlock] at hg
  · simp [Value.ownBlock] at hg
    subst hg
    exact ⟨h1, cur, h2⟩
theorem owns_kp {w w' : World} {base e s : Nat} {v : Value} {n : Nat} {xs : List Value} {rows : List Nat} (h : w.ownsRow base e s v n xs) (hk : Kp w w' rows) (hr : ∀ g, v.ownBlock = some g → g ∉ rows) : w'.ownsRow base e s v n xs := by
  refine ⟨h.1, ?_⟩
  rcases h.2 with ⟨rfl, h0⟩ | ⟨g, cap, cur, rfl, h1, h2, h3⟩
  · exact .inl ⟨rfl, h0⟩
  · exact .inr ⟨g, cap, cur, rfl, h1, (hk.block g (lt_of_block h2) (hr g rfl)).trans h2, h3⟩
theorem owns_low {w : World} {base base' e s : Nat} {v : Value} {n : Nat} {xs : List Value} (h : w.ownsRow base e s v n xs) (hb : base' ≤ base) : w.ownsRow base' e s v n xs := by
  refine ⟨h.1, ?_⟩
  rcases h.2 with h0 | ⟨g, cap, cur, rfl, h1, h2, h3⟩
  · exact .inl h0
  · exact .inr ⟨g, cap, cur, rfl, Nat.le_trans hb h1, h2, h3⟩
theorem block_ne {w : World} {b g t e : Nat} {c cur : Array Value} (h : w.heap[b]? = some (.cells c t (0, 0))) (h' : w.heap[g]? = some (.cells cur e (0, 0))) (hne : t ≠ e) : b ≠ g := by
  rintro rfl
  rw [h] at h'
  simp at h'
  exact hne h'.2
theorem Kp.ofGrown {w w' : World} {row : Option Nat} (h : w.grownBy w' row) {rows : List Nat} (hr : ∀ g, row = some g → g ∈ rows) : Kp w w' rows :=
  ⟨h.os, h.tape, h.output, h.size, fun k hk hn => h.block k hk (fun e => hn (hr k e.symm))⟩

/-- The slice value V reads as the numbers l. -/
def Is (w : World) (base : Nat) (V : Value) (l : List Int) : Prop := w.ownsRow base 3 1 V l.length (gi l)
theorem Is.nil (w : World) (base : Nat) : Is w base (.slice none 0 0) [] := ⟨rfl, .inl ⟨rfl, rfl⟩⟩
theorem Is.kp {w w' : World} {base : Nat} {V : Value} {l : List Int} {rows : List Nat} (h : Is w base V l) (hk : Kp w w' rows) (hr : ∀ g, V.ownBlock = some g → g ∉ rows) : Is w' base V l := owns_kp h hk hr
theorem Is.keep {w w' : World} {base : Nat} {V : Value} {l : List Int} (h : Is w base V l) (hk : Kp w w' []) : Is w' base V l := h.kp hk (by simp)
theorem Is.slice {w : World} {base : Nat} {V : Value} {l : List Int} (h : Is w base V l) : ∃ ao cap, V = .slice ao l.length cap := owns_shape h
theorem Is.cap {w : World} {base : Nat} {ao : Option Addr} {m cap : Nat} {l : List Int} (h : Is w base (.slice ao m cap) l) : m = l.length ∧ l.length ≤ cap ∧ (l ≠ [] → ∃ g, ao = some ⟨g, 0, none⟩) := by
  rcases h.2 with ⟨hv, h0⟩ | ⟨g, cap', cur, hv, hb, h2, h3, h4⟩
  · simp only [Value.slice.injEq] at hv
    obtain ⟨rfl, rfl, rfl⟩ := hv
    exact ⟨h0.symm, by omega, fun hne => absurd (List.eq_nil_of_length_eq_zero h0) hne⟩
  · simp only [Value.slice.injEq] at hv
    obtain ⟨rfl, rfl, rfl⟩ := hv
    exact ⟨rfl, h3, fun _ => ⟨g, rfl⟩⟩
theorem Is.at {w : World} {base : Nat} {ao : Option Addr} {m cap : Nat} {l : List Int} (h : Is w base (.slice ao m cap) l) {k : Nat} {x : Int} (hk : l[k]? = some x) :
    ∃ g, ao = some ⟨g, 0, none⟩ ∧ m = l.length ∧ base ≤ g ∧ w.cell? ⟨g, k, none⟩ = some (.int .i64 x) := by
  have hkl : k < l.length := by
    rcases Nat.lt_or_ge k l.length with h' | h'
    · exact h'
    · rw [List.getElem?_eq_none h'] at hk; cases hk
  have h1 : w.ownsRow base 3 1 (.slice ao m cap) l.length (gi l) := h
  rcases h1.2 with ⟨-, h0⟩ | ⟨g, cap', cur, hv, hb, h2, h3⟩
  · omega
  · simp only [Value.slice.injEq] at hv
    obtain ⟨rfl, rfl, rfl⟩ := hv
    refine ⟨g, rfl, rfl, hb, ?_⟩
    rw [h1.cellAt k (by omega)]
    simp [gi, hk]
/-- A slice that reads so; who owns it is not asked. -/
def Rs (w : World) (V : Value) (l : List Int) : Prop := ∃ ao cap, V = .slice ao l.length cap ∧ (ao = none → cap = 0) ∧ (l ≠ [] → ∃ g off, ao = some ⟨g, off, none⟩ ∧ ∀ j x, l[j]? = some x → w.cell? ⟨g, off + j, none⟩ = some (.int .i64 x))
theorem Rs.kp {w w' : World} {V : Value} {l : List Int} (h : Rs w V l) (hk : Kp w w' []) : Rs w' V l := by
  obtain ⟨ao, cap, rfl, h0, h1⟩ := h
  refine ⟨ao, cap, rfl, h0, fun hne => ?_⟩
  obtain ⟨g, off, rfl, hc⟩ := h1 hne
  exact ⟨g, off, rfl, fun j x hj => hk.cell (hc j x hj) (by simp)⟩

theorem one_cell {W : World} {x : Int} : ∀ (j : Nat) (u : Value), [Value.int .i64 x][j]? = some u → (W.alloc (.cells #[.int .i64 x] 3)).cell? ((⟨W.heap.size, 0, none⟩ : Addr).add j) = some u := by
  intro j u hu
  match j with
  | 0 =>
    simp at hu
    subst hu
    rw [Addr.add_mid, cell_of_row _ _ _ _ _ _ (heap_alloc_new W _)]
    rfl
  | j + 1 => simp at hu
theorem wpList_push {ops : Array Oper} {rest : List Oper} {o : Oper} {a : Act} {W : World} {Q : Exit → Act → World → Prop} (hgd : o.guard = none) (s x : Operand)
    (ho : o.op = .call { callee := .builtin .append, args := #[s, x], argTypes := #[29, 29] }) (base : Nat) (V : Value) (l : List Int) (h : Int)
    (hs : a.eval s = V) (hown : Is W base V l) (hx : a.eval x = .slice (some ⟨W.heap.size, 0, none⟩) 1 1) (hm : l.length ≤ 100000) (hb : base ≤ W.heap.size)
    (K : ∀ v' w', Is w' base v' (l ++ [h]) → (W.alloc (.cells #[.int .i64 h] 3)).grownBy w' V.ownBlock → wpList Tryz.prog ops Q rest (a.put o.dst v') w') :
    wpList Tryz.prog ops Q (o :: rest) a (W.alloc (.cells #[.int .i64 h] 3)) := by
  obtain ⟨i0, hi, hz0, hz1, hz2⟩ := info_parts Tryz.infoI
  exact wpList_append_own _ hgd s x 29 ho base 3 i0 (.int .i64 0) 1 8 Tryz.underlying29 hi hz0 hz1 hz2 rfl (by decide) V l.length (gi l) hs (owns_kp hown (Kp.alloc W _ []) (by simp)) ⟨W.heap.size, 0, none⟩ 1 1 [.int .i64 h] hx rfl one_cell (by simp; rfl) (by unfold maxLen; omega) (by omega) (by simp; omega) (fun v' w' h1 h2 _ => K v' w' (by unfold Is; simpa [gi] using h1) h2)
theorem grown_kp {W w' : World} {base : Nat} {V : Value} {l : List Int} (hN : Is W base V l) {o : Obj} (hG : (W.alloc o).grownBy w' V.ownBlock) {w : World} (hk : Kp w W []) (hb : w.heap.size ≤ base) : Kp w w' [] :=
  (hk.trans (Kp.alloc W o [])).past (Kp.ofGrown (rows := V.ownBlock.toList) hG (by intro g hg; simp [hg])) (by
    intro g hg hl
    simp at hg
    have := (owns_block hN hg).1
    omega)
/-- One list laid behind another. -/
theorem wp_join {w : World} {o : Oper} {a : Act} {K : Act → World → Prop} {Q : Exit → Act → World → Prop} (s x : Operand) (ho : o.op = .call { callee := .builtin .append, args := #[s, x], argTypes := #[29, 29] })
    (base : Nat) (V VX : Value) (l m : List Int) (hs : a.eval s = V) (hV : Is w base V l) (hx : a.eval x = VX) (hX : Rs w VX m) (hl : l.length ≤ 100000) (hm : m.length ≤ 100000) (hb : base ≤ w.heap.size)
    (h : ∀ v' w', Is w' base v' (l ++ m) → w.grownBy w' V.ownBlock → K (a.put o.dst v') w') : o.wp Tryz.prog a w K Q := by
  obtain ⟨i0, hi, hz0, hz1, hz2⟩ := info_parts Tryz.infoI
  obtain ⟨ao, cap, rfl, h0, h1⟩ := hX
  cases ao with
  | none =>
    have hm0 : m = [] := Classical.byContradiction fun hne => by
      obtain ⟨g, off, e, -⟩ := h1 hne
      cases e
    have hc := h0 rfl
    subst hm0 hc
    have hrun := run_append_owned_none (P := Tryz.prog) (w := w) base 29 o.type 3 i0 1 Tryz.underlying29 hi V l.length (gi l) hV
    unfold Oper.wp
    simp [execOp, ho, resolve, invoke, builtin, hs, hx, hrun, Result.andThen]
    exact h V w (by rw [List.append_nil]; exact hV) (World.grownBy.refl _ _)
  | some ad =>
    refine wp_append_own w s x 29 ho base 3 i0 (.int .i64 0) 1 8 Tryz.underlying29 hi hz0 hz1 hz2 rfl (by decide) V l.length (gi l) hs hV ad m.length cap (gi m) hx (by simp [gi]) ?_ (gi_one m) (by unfold maxLen; omega) (by omega) hb
        fun v' w' a1 a2 _ => h v' w' (by unfold Is; simpa [gi] using a1) a2
    intro j u hu
    have hne : m ≠ [] := by rintro rfl; simp at hu
    obtain ⟨g, off, e, hc⟩ := h1 hne
    cases e
    cases hxj : m[j]? with
    | none => simp [gi, hxj] at hu
    | some y =>
      simp [gi, hxj] at hu
      subst hu
      rw [Addr.add_lit]
      exact hc j y hxj
theorem step_join {w : World} {ops : Array Oper} {o : Oper} {a : Act} {K : Act → World → Prop} {Q : Exit → Act → World → Prop} {E : Prop} (hgd : o.guard = none) (s x : Operand) (ho : o.op = .call { callee := .builtin .append, args := #[s, x], argTypes := #[29, 29] }) (D : Nat) (hD : o.dst = some D)
    (base : Nat) (V VX : Value) (l m : List Int) (hs : a.eval s = V) (hV : Is w base V l) (hx : a.eval x = VX) (hX : Rs w VX m) (hl : l.length ≤ 100000) (hm : m.length ≤ 100000) (hb : base ≤ w.heap.size)
    (h : ∀ v' w', Is w' base v' (l ++ m) → w.grownBy w' V.ownBlock → K (a.put (some D) v') w') :
    if Region.wanted o (yielded ops a.tmps) = true then Oper.wp Tryz.prog o a w K Q else E := by
  have hw : Region.wanted o (yielded ops a.tmps) = true := by simp [Region.wanted, hgd]
  rw [if_pos hw]
  rw [← hD] at h
  exact wp_join s x ho base V VX l m hs hV hx hX hl hm hb h
end Go.Proofs.YtgefmnnkpffpcaaGreatDoor

/- The reference's blocks in a slice: reading, changing, appending. -/
namespace Go.Proofs.YtgefmnnkpffpcaaGreatDoor
open Go.RowKit Go.Maps

theorem Tryz.infoB : (Tryz.prog.info? 44).map (fun i => (i.zero, i.size, i.bytes)) = some (some (.agg #[.int .i64 0, .int .i64 0, .bool false]), 3, 24) := by kernel_rfl
/-- The cells of blocks. -/
def bq (l : List Bl) : List Value := l.flatMap fun b => [.int .i64 b.1, .int .i64 b.2.1, .bool b.2.2]
theorem bc_length (l : List Bl) : (bq l).length = l.length * 3 := by
  unfold bq
  induction l with
  | nil => rfl
  | cons x r ih => rw [List.flatMap_cons, List.length_append, ih, List.length_cons]; simp; omega
theorem bc_append (a b : List Bl) : bq (a ++ b) = bq a ++ bq b := List.flatMap_append
theorem bc_cons (x : Bl) (r : List Bl) : bq (x :: r) = .int .i64 x.1 :: .int .i64 x.2.1 :: .bool x.2.2 :: bq r := rfl
theorem bc_one (l : List Bl) : ∀ u ∈ bq l, u.oneCell' = true := by
  intro u hu
  obtain ⟨x, -, hx⟩ := List.mem_flatMap.1 hu
  simp at hx
  rcases hx with rfl | rfl | rfl <;> rfl
theorem bc_at : ∀ (l : List Bl) (i : Nat), i < l.length → (bq l)[i * 3]? = some (.int .i64 l[i]!.1) ∧ (bq l)[i * 3 + 1]? = some (.int .i64 l[i]!.2.1) ∧ (bq l)[i * 3 + 2]? = some (.bool l[i]!.2.2)
  | [], _, h => by simp at h
  | x :: r, 0, _ => ⟨rfl, rfl, rfl⟩
  | x :: r, i + 1, h => by
    have ih := bc_at r i (by simpa using h)
    rw [bc_cons, show (i + 1) * 3 = i * 3 + 1 + 1 + 1 by omega]
    simpa using ih
theorem bc_take : ∀ (l : List Bl) (k : Nat), (bq l).take (k * 3) = bq (l.take k)
  | _, 0 => by simp [bq]
  | [], k + 1 => by simp [bq]
  | y :: r, k + 1 => by
    have ih := bc_take r k
    rw [List.take_succ_cons, bc_cons, bc_cons, ← ih, show (k + 1) * 3 = k * 3 + 1 + 1 + 1 by omega]
    rfl
theorem bc_drop (l : List Bl) (k : Nat) : bq (l.drop k) = (bq l).drop (k * 3) := by
  have h := congrArg (List.drop (k * 3)) (bc_append (l.take k) (l.drop k))
  rw [List.take_append_drop] at h
  by_cases hk : k ≤ l.length
  · have e0 : (bq (l.take k)).drop (k * 3) = [] := List.drop_eq_nil_of_le (by rw [bc_length, List.length_take]; omega)
    rw [h, List.drop_append, e0, bc_length, List.length_take, Nat.min_eq_left hk, Nat.sub_self]
    simp
  · rw [List.drop_eq_nil_of_le (by omega), List.drop_eq_nil_of_le (by rw [bc_length]; omega)]
    rfl
/-- A block's size, its flag, set anew. -/
theorem bc_size : ∀ (l : List Bl) (i : Nat) (z : Int), i < l.length → (bq l).set (i * 3 + 1) (.int .i64 z) = bq (l.set i (l[i]!.1, z, l[i]!.2.2))
  | [], _, _, h => by simp at h
  | y :: r, 0, z, _ => rfl
  | y :: r, i + 1, z, h => by
    have ih := bc_size r i z (by simpa using h)
    have e2 : (y :: r).set (i + 1) ((y :: r)[i + 1]!.1, z, (y :: r)[i + 1]!.2.2) = y :: r.set i (r[i]!.1, z, r[i]!.2.2) := by simp
    rw [e2, bc_cons, bc_cons, ← ih, show (i + 1) * 3 + 1 = i * 3 + 1 + 1 + 1 + 1 by omega]
    rfl
theorem bc_flag : ∀ (l : List Bl) (i : Nat) (f : Bool), i < l.length → (bq l).set (i * 3 + 2) (.bool f) = bq (l.set i (l[i]!.1, l[i]!.2.1, f))
  | [], _, _, h => by simp at h
  | y :: r, 0, f, _ => rfl
  | y :: r, i + 1, f, h => by
    have ih := bc_flag r i f (by simpa using h)
    have e2 : (y :: r).set (i + 1) ((y :: r)[i + 1]!.1, (y :: r)[i + 1]!.2.1, f) = y :: r.set i (r[i]!.1, r[i]!.2.1, f) := by simp
    rw [e2, bc_cons, bc_cons, ← ih, show (i + 1) * 3 + 2 = i * 3 + 2 + 1 + 1 + 1 by omega]
    rfl
/-- The slice v holds the blocks l, in a block of its own from base on. -/
def Br (W : World) (base : Nat) (v : Value) (l : List Bl) : Prop := W.ownsRow base 44 3 v l.length (bq l)
theorem Br.nil (W : World) (base : Nat) : Br W base (.slice none 0 0) [] := ⟨rfl, .inl ⟨rfl, rfl⟩⟩
theorem Br.kp {w w' : World} {base : Nat} {v : Value} {l : List Bl} {rows : List Nat} (h : Br w base v l) (hk : Kp w w' rows) (hr : ∀ g, v.ownBlock = some g → g ∉ rows) : Br w' base v l := owns_kp h hk hr
theorem Br.keep {w w' : World} {base : Nat} {v : Value} {l : List Bl} (h : Br w base v l) (hk : Kp w w' []) : Br w' base v l := h.kp hk (by simp)
theorem Br.slice {w : World} {base : Nat} {v : Value} {l : List Bl} (h : Br w base v l) : ∃ ao cap, v = .slice ao l.length cap := owns_shape h
theorem Br.low {w : World} {base base' : Nat} {v : Value} {l : List Bl} (h : Br w base v l) (hb : base' ≤ base) : Br w base' v l := owns_low h hb
theorem Br.open {w : World} {base : Nat} {ao : Option Addr} {m cap : Nat} {l : List Bl} (h : Br w base (.slice ao m cap) l) (hne : l ≠ []) : ∃ g cur, ao = some ⟨g, 0, none⟩ ∧ m = l.length ∧ base ≤ g ∧ w.heap[g]? = some (.cells cur 44 (0, 0)) ∧ l.length ≤ cap ∧ cap ≤ maxLen ∧ cur.size = cap * 3 ∧ cur.toList.take (l.length * 3) = bq l := by
  rcases h.2 with ⟨hv, h0⟩ | ⟨g', cap', cur, hv, hb, h2, h3, h4, h5, h6⟩
  · exact absurd (List.eq_nil_of_length_eq_zero h0) hne
  · simp only [Value.slice.injEq] at hv
    obtain ⟨rfl, rfl, rfl⟩ := hv
    exact ⟨g', cur, rfl, rfl, hb, h2, h3, h4, h5, h6⟩
theorem Br.make {w : World} {base g cap : Nat} {l : List Bl} {cur : Array Value} (hb : base ≤ g) (h2 : w.heap[g]? = some (.cells cur 44 (0, 0))) (h3 : l.length ≤ cap) (h4 : cap ≤ maxLen) (h5 : cur.size = cap * 3) (h6 : cur.toList.take (l.length * 3) = bq l) : Br w base (.slice (some ⟨g, 0, none⟩) l.length cap) l :=
  ⟨bc_length l, .inr ⟨g, cap, cur, rfl, hb, h2, h3, h4, h5, h6⟩⟩
theorem Br.cells {w : World} {base g m cap : Nat} {l : List Bl} (h : Br w base (.slice (some ⟨g, 0, none⟩) m cap) l) : ∀ j u, (bq l)[j]? = some u → w.cell? ⟨g, j, none⟩ = some u := by
  intro j u hu
  have hj : j < (bq l).length := (List.getElem?_eq_some_iff.1 hu).1
  rw [bc_length] at hj
  obtain ⟨ao, cp, e⟩ := h.slice
  simp only [Value.slice.injEq] at e
  obtain ⟨-, rfl, -⟩ := e
  have h1 : w.ownsRow base 44 3 (.slice (some ⟨g, 0, none⟩) l.length cap) l.length (bq l) := h
  rw [h1.cellAt j (by omega), hu]
theorem Br.at {w : World} {base : Nat} {ao : Option Addr} {m cap : Nat} {l : List Bl} (h : Br w base (.slice ao m cap) l) {k : Nat} (hk : k < l.length) {x1 x2 : Int} {f : Bool} (e : l[k]! = (x1, x2, f)) :
    ∃ g, ao = some ⟨g, 0, none⟩ ∧ w.cell? ⟨g, k * 3, none⟩ = some (.int .i64 x1) ∧ w.cell? ⟨g, k * 3 + 1, none⟩ = some (.int .i64 x2) ∧ w.cell? ⟨g, k * 3 + 2, none⟩ = some (.bool f) ∧ (∀ i, w.frozen? ⟨g, i, none⟩ = false) ∧ base ≤ g ∧ g < w.heap.size := by
  obtain ⟨g, cur, rfl, -, hb, h2, -⟩ := h.open (by rintro rfl; simp at hk)
  have hd := bc_at l k hk
  rw [e] at hd
  exact ⟨g, rfl, h.cells _ _ hd.1, h.cells _ _ hd.2.1, h.cells _ _ hd.2.2, fun i => by simp [World.frozen?, h2], hb, lt_of_block h2⟩
theorem Br.size {w : World} {base g m cap : Nat} {l : List Bl} (h : Br w base (.slice (some ⟨g, 0, none⟩) m cap) l) {i : Nat} (hi : i < l.length) {x1 x2 : Int} {f : Bool} (e : l[i]! = (x1, x2, f)) (z : Int) : Br (w.setCell ⟨g, i * 3 + 1, none⟩ (.int .i64 z)) base (.slice (some ⟨g, 0, none⟩) m cap) (l.set i (x1, z, f)) := by
  obtain ⟨g', cur, hg, rfl, hb, h2, h3, h4, h5, h6⟩ := h.open (by rintro rfl; simp at hi)
  simp only [Option.some.injEq, Addr.mk.injEq, and_true] at hg
  subst hg
  have e2 := heap_setCell_same w g (i * 3 + 1) _ _ (.int .i64 z) h2
  have e3 : l.length = (l.set i (x1, z, f)).length := by simp
  have := Br.make (l := l.set i (x1, z, f)) hb e2 (by rw [← e3]; exact h3) h4 (by simp [h5]) (by
    have := bc_size l i z hi
    rw [e] at this
    rw [← e3, ← this, ← h6]
    simp only [Array.toList_setIfInBounds, List.take_set])
  rw [← e3] at this
  exact this
theorem Br.flag {w : World} {base g m cap : Nat} {l : List Bl} (h : Br w base (.slice (some ⟨g, 0, none⟩) m cap) l) {i : Nat} (hi : i < l.length) {x1 x2 : Int} {f : Bool} (e : l[i]! = (x1, x2, f)) (f' : Bool) : Br (w.setCell ⟨g, i * 3 + 2, none⟩ (.bool f')) base (.slice (some ⟨g, 0, none⟩) m cap) (l.set i (x1, x2, f')) := by
  obtain ⟨g', cur, hg, rfl, hb, h2, h3, h4, h5, h6⟩ := h.open (by rintro rfl; simp at hi)
  simp only [Option.some.injEq, Addr.mk.injEq, and_true] at hg
  subst hg
  have e2 := heap_setCell_same w g (i * 3 + 2) _ _ (.bool f') h2
  have e3 : l.length = (l.set i (x1, x2, f')).length := by simp
  have := Br.make (l := l.set i (x1, x2, f')) hb e2 (by rw [← e3]; exact h3) h4 (by simp [h5]) (by
    have := bc_flag l i f' hi
    rw [e] at this
    rw [← e3, ← this, ← h6]
    simp only [Array.toList_setIfInBounds, List.take_set])
  rw [← e3] at this
  exact this
/-- A view: the slice v reads as m. -/
def Bv (w : World) (v : Value) (m : List Bl) : Prop := ∃ ao cap, v = .slice ao m.length cap ∧ (∀ ad, ao = some ad → ∃ g off, ad = ⟨g, off, none⟩ ∧ ∀ j u, (bq m)[j]? = some u → w.cell? ⟨g, off + j, none⟩ = some u) ∧ (ao = none → m = [] ∧ cap = 0)
theorem Bv.kp {w w' : World} {v : Value} {m : List Bl} (h : Bv w v m) (hk : Kp w w' []) : Bv w' v m := by
  obtain ⟨ao, cap, rfl, h1, h2⟩ := h
  refine ⟨ao, cap, rfl, fun ad had => ?_, h2⟩
  obtain ⟨g, off, rfl, h3⟩ := h1 ad had
  exact ⟨g, off, rfl, fun j u hu => hk.cell (h3 j u hu) (by simp)⟩
theorem Br.front {w : World} {base g n cap k : Nat} {l : List Bl} (h : Br w base (.slice (some ⟨g, 0, none⟩) n cap) l) (hk : k ≤ l.length) : Bv w (.slice (some ⟨g, 0, none⟩) k cap) (l.take k) := by
  refine ⟨_, cap, by rw [List.length_take, Nat.min_eq_left hk], fun ad had => ⟨g, 0, by simpa using had.symm, fun j u hu => ?_⟩, fun e => by cases e⟩
  rw [Nat.zero_add]
  refine h.cells j u ?_
  rw [← bc_take] at hu
  have hj : j < k * 3 := by
    have := (List.getElem?_eq_some_iff.1 hu).1
    rw [List.length_take] at this
    omega
  rw [List.getElem?_take_of_lt hj] at hu
  exact hu
theorem Br.back {w : World} {base g n cap c k m : Nat} {l : List Bl} (h : Br w base (.slice (some ⟨g, 0, none⟩) n cap) l) (hm : m = l.length - k) : Bv w (.slice (some ⟨g, k * 3, none⟩) m c) (l.drop k) := by
  refine ⟨_, c, by rw [List.length_drop, hm], fun ad had => ⟨g, k * 3, by simpa using had.symm, fun j u hu => ?_⟩, fun e => by cases e⟩
  refine h.cells _ u ?_
  rw [bc_drop, List.getElem?_drop] at hu
  exact hu
theorem bv_empty (w : World) (g o c : Nat) : Bv w (.slice (some ⟨g, o, none⟩) 0 c) [] := ⟨_, c, rfl, fun ad had => ⟨g, o, by simpa using had.symm, fun j u hu => by simp [bq] at hu⟩, fun e => (by cases e)⟩
theorem Br.one (W : World) (x : Bl) : Br (W.alloc (.cells #[.int .i64 x.1, .int .i64 x.2.1, .bool x.2.2] 44)) W.heap.size (.slice (some ⟨W.heap.size, 0, none⟩) 1 1) [x] :=
  ⟨rfl, .inr ⟨W.heap.size, 1, _, rfl, Nat.le_refl _, heap_alloc_new W _, Nat.le_refl _, by unfold maxLen; omega, rfl, rfl⟩⟩
theorem wp_joinB {w : World} {o : Oper} {a : Act} {K : Act → World → Prop} {Q : Exit → Act → World → Prop} (s x : Operand) (ho : o.op = .call { callee := .builtin .append, args := #[s, x], argTypes := #[38, 38] })
    (base : Nat) (V VX : Value) (l m : List Bl) (hs : a.eval s = V) (hV : Br w base V l) (hx : a.eval x = VX) (hX : Bv w VX m) (hl : l.length ≤ 1000000) (hm : m.length ≤ 1000000) (hb : base ≤ w.heap.size)
    (h : ∀ v' w', Br w' base v' (l ++ m) → w.grownBy w' V.ownBlock → K (a.put o.dst v') w') : o.wp Tryz.prog a w K Q := by
  obtain ⟨i0, hi, hz0, hz1, hz2⟩ := info_parts Tryz.infoB
  obtain ⟨ao, cap, rfl, h1, h2⟩ := hX
  cases ao with
  | none =>
    obtain ⟨rfl, rfl⟩ := h2 rfl
    have hrun := run_append_owned_none (P := Tryz.prog) (w := w) base 38 o.type 44 i0 3 Tryz.underlying38 hi V l.length (bq l) hV
    unfold Oper.wp
    simp [execOp, ho, resolve, invoke, builtin, hs, hx, hrun, Result.andThen]
    exact h V w (by rw [List.append_nil]; exact hV) (World.grownBy.refl _ _)
  | some ad =>
    obtain ⟨g, off, rfl, h3⟩ := h1 ad rfl
    exact wp_append_own w s x 38 ho base 44 i0 (.agg #[.int .i64 0, .int .i64 0, .bool false]) 3 24 Tryz.underlying38 hi hz0 hz1 hz2 rfl (by decide) V l.length (bq l) hs hV ⟨g, off, none⟩ m.length cap (bq m) hx (bc_length m) (fun j u hu => by rw [Addr.add_lit]; exact h3 j u hu) (bc_one m) (by unfold maxLen; omega) (by omega) hb
        fun v' w' a1 a2 _ => h v' w' (by unfold Br; rw [List.length_append, bc_append]; exact a1) a2
theorem wpList_joinB {w : World} {ops : Array Oper} {rest : List Oper} {o : Oper} {a : Act} {Q : Exit → Act → World → Prop} (hgd : o.guard = none) (s x : Operand) (ho : o.op = .call { callee := .builtin .append, args := #[s, x], argTypes := #[38, 38] })
    (base : Nat) (V VX : Value) (l m : List Bl) (hs : a.eval s = V) (hV : Br w base V l) (hx : a.eval x = VX) (hX : Bv w VX m) (hl : l.length ≤ 1000000) (hm : m.length ≤ 1000000) (hb : base ≤ w.heap.size)
    (h : ∀ v' w', Br w' base v' (l ++ m) → w.grownBy w' V.ownBlock → wpList Tryz.prog ops Q rest (a.put o.dst v') w') : wpList Tryz.prog ops Q (o :: rest) a w :=
  wpList_plain hgd fun _ hK => wp_joinB s x ho base V VX l m hs hV hx hX hl hm hb fun v' w' h1 h2 => hK _ _ (h v' w' h1 h2)
theorem step_joinB {w : World} {ops : Array Oper} {o : Oper} {a : Act} {K : Act → World → Prop} {Q : Exit → Act → World → Prop} {E : Prop} (hgd : o.guard = none) (s x : Operand) (ho : o.op = .call { callee := .builtin .append, args := #[s, x], argTypes := #[38, 38] }) (D : Nat) (hD : o.dst = some D)
    (base : Nat) (V VX : Value) (l m : List Bl) (hs : a.eval s = V) (hV : Br w base V l) (hx : a.eval x = VX) (hX : Bv w VX m) (hl : l.length ≤ 1000000) (hm : m.length ≤ 1000000) (hb : base ≤ w.heap.size)
    (h : ∀ v' w', Br w' base v' (l ++ m) → w.grownBy w' V.ownBlock → K (a.put (some D) v') w') :
    if Region.wanted o (yielded ops a.tmps) = true then Oper.wp Tryz.prog o a w K Q else E := by
  have hw : Region.wanted o (yielded ops a.tmps) = true := by simp [Region.wanted, hgd]
  rw [if_pos hw]
  rw [← hD] at h
  exact wp_joinB s x ho base V VX l m hs hV hx hX hl hm hb h
end Go.Proofs.YtgefmnnkpffpcaaGreatDoor
