/- Offsets in a slice of the law's own. -/
import Derived.Test.YtgefmnnkpffpcaaGreatDoorSet
import Derived.Laws.AppendOwn
import Derived.Laws.OwnMore
import Derived.OneCell
namespace Go.Proofs.YtgefmnnkpffpcaaGreatDoor
open Go.RowKit

theorem Tryz.infoI : (Tryz.prog.info? 3).map (fun i => (i.zero, i.size, i.bytes)) = some (some (.int .i64 0), 1, 8) := by kernel_rfl
abbrev gi (l : List Int) : List Value := l.map fun x => Value.int .i64 x
theorem gi_one (l : List Int) : ∀ u ∈ gi l, u.oneCell' = true := by
  intro u hu
  obtain ⟨x, -, rfl⟩ := List.mem_map.1 hu
  rfl
theorem owns_block {w : World} {base e s : Nat} {v : Value} {n : Nat} {xs : List Value} (h : w.ownsRow base e s v n xs) {g : Nat} (hg : v.ownBlock = some g) : base ≤ g ∧ ∃ cur, w.heap[g]? = some (.cells cur e (0, 0)) := by
  rcases h.2 with ⟨rfl, rfl⟩ | ⟨g', cap, cur, rfl, h1, h2, -⟩
  · simp [Value.ownBlock] at hg
  · simp [Value.ownBlock] at hg
    subst hg
    exact ⟨h1, cur, h2⟩
theorem owns_kp {w w' : World} {base e s : Nat} {v : Value} {n : Nat} {xs : List Value} {rows : List Nat} (h : w.ownsRow base e s v n xs) (hk : Kp w w' rows) (hr : ∀ g, v.ownBlock = some g → g ∉ rows) : w'.ownsRow base e s v n xs := by
  refine ⟨h.1, ?_⟩
  rcases h.2 with ⟨rfl, h0⟩ | ⟨g, cap, cur, rfl, h1, h2, h3⟩
  · exact .inl ⟨rfl, h0⟩
  · exact .inr ⟨g, cap, cur, rfl, h1, (hk.block g (lt_of_block h2) (hr g rfl)).trans h2, h3⟩
theorem owns_low {w : World} {base base' e s : Nat} {v : Value} {n : Nat} {xs : List Value} (h : w.ownsRow base e s v n xs) (hb : base' ≤ base) : w.ownsRow base' e s v n xs := by
  refine ⟨h.1, ?_⟩
  rcases h.2 with h0 | ⟨g, cap, cur, rfl, h1, h2, h3⟩
  · exact .inl h0
  · exact .inr ⟨g, cap, cur, rfl, Nat.le_trans hb h1, h2, h3⟩
theorem block_ne {w : World} {b g t e : Nat} {c cur : Array Value} (h : w.heap[b]? = some (.cells c t (0, 0))) (h' : w.heap[g]? = some (.cells cur e (0, 0))) (hne : t ≠ e) : b ≠ g := by
  rintro rfl
  rw [h] at h'
  simp at h'
  exact hne h'.2
theorem Kp.ofGrown {w w' : World} {row : Option Nat} (h : w.grownBy w' row) {rows : List Nat} (hr : ∀ g, row = some g → g ∈ rows) : Kp w w' rows :=
  ⟨h.os, h.tape, h.output, h.size, fun k hk hn => h.block k hk (fun e => hn (hr k e.symm))⟩

/-- The slice value V reads as the numbers l. -/
def Is (w : World) (base : Nat) (V : Value) (l : List Int) : Prop := w.ownsRow base 3 1 V l.length (gi l)
theorem Is.nil (w : World) (base : Nat) : Is w base (.slice none 0 0) [] := ⟨rfl, .inl ⟨rfl, rfl⟩⟩
theorem Is.kp {w w' : World} {base : Nat} {V : Value} {l : List Int} {rows : List Nat} (h : Is w base V l) (hk : Kp w w' rows) (hr : ∀ g, V.ownBlock = some g → g ∉ rows) : Is w' base V l := owns_kp h hk hr
theorem Is.keep {w w' : World} {base : Nat} {V : Value} {l : List Int} (h : Is w base V l) (hk : Kp w w' []) : Is w' base V l := h.kp hk (by simp)
theorem Is.slice {w : World} {base : Nat} {V : Value} {l : List Int} (h : Is w base V l) : ∃ ao cap, V = .slice ao l.length cap := owns_shape h
theorem Is.cap {w : World} {base : Nat} {ao : Option Addr} {m cap : Nat} {l : List Int} (h : Is w base (.slice ao m cap) l) : m = l.length ∧ l.length ≤ cap ∧ (l ≠ [] → ∃ g, ao = some ⟨g, 0, none⟩) := by
  rcases h.2 with ⟨hv, h0⟩ | ⟨g, cap', cur, hv, hb, h2, h3, h4⟩
  · simp only [Value.slice.injEq] at hv
    obtain ⟨rfl, rfl, rfl⟩ := hv
    exact ⟨h0.symm, by omega, fun hne => absurd (List.eq_nil_of_length_eq_zero h0) hne⟩
  · simp only [Value.slice.injEq] at hv
    obtain ⟨rfl, rfl, rfl⟩ := hv
    exact ⟨rfl, h3, fun _ => ⟨g, rfl⟩⟩
theorem Is.at {w : World} {base : Nat} {ao : Option Addr} {m cap : Nat} {l : List Int} (h : Is w base (.slice ao m cap) l) {k : Nat} {x : Int} (hk : l[k]? = some x) :
    ∃ g, ao = some ⟨g, 0, none⟩ ∧ m = l.length ∧ base ≤ g ∧ w.cell? ⟨g, k, none⟩ = some (.int .i64 x) := by
  have hkl : k < l.length := by
    rcases Nat.lt_or_ge k l.length with h' | h'
    · exact h'
    · rw [List.getElem?_eq_none h'] at hk; cases hk
  have h1 : w.ownsRow base 3 1 (.slice ao m cap) l.length (gi l) := h
  rcases h1.2 with ⟨-, h0⟩ | ⟨g, cap', cur, hv, hb, h2, h3⟩
  · omega
  · simp only [Value.slice.injEq] at hv
    obtain ⟨rfl, rfl, rfl⟩ := hv
    refine ⟨g, rfl, rfl, hb, ?_⟩
    rw [h1.cellAt k (by omega)]
    simp [gi, hk]
/-- A slice that reads so; who owns it is not asked. -/
def Rs (w : World) (V : Value) (l : List Int) : Prop := ∃ ao cap, V = .slice ao l.length cap ∧ (ao = none → cap = 0) ∧ (l ≠ [] → ∃ g off, ao = some ⟨g, off, none⟩ ∧ ∀ j x, l[j]? = some x → w.cell? ⟨g, off + j, none⟩ = some (.int .i64 x))
theorem Rs.kp {w w' : World} {V : Value} {l : List Int} (h : Rs w V l) (hk : Kp w w' []) : Rs w' V l := by
  obtain ⟨ao, cap, rfl, h0, h1⟩ := h
  refine ⟨ao, cap, rfl, h0, fun hne => ?_⟩
  obtain ⟨g, off, rfl, hc⟩ := h1 hne
  exact ⟨g, off, rfl, fun j x hj => hk.cell (hc j x hj) (by simp)⟩

theorem one_cell {W : World} {x : Int} : ∀ (j : Nat) (u : Value), [Value.int .i64 x][j]? = some u → (W.alloc (.cells #[.int .i64 x] 3)).cell? ((⟨W.heap.size, 0, none⟩ : Addr).add j) = some u := by
  intro j u hu
  match j with
  | 0 =>
    simp at hu
    subst hu
    rw [Addr.add_mid, cell_of_row _ _ _ _ _ _ (heap_alloc_new W _)]
    rfl
  | j + 1 => simp at hu
theorem wpList_push {ops : Array Oper} {rest : List Oper} {o : Oper} {a : Act} {W : World} {Q : Exit → Act → World → Prop} (hgd : o.guard = none) (s x : Operand)
    (ho : o.op = .call { callee := .builtin .append, args := #[s, x], argTypes := #[29, 29] }) (base : Nat) (V : Value) (l : List Int) (h : Int)
    (hs : a.eval s = V) (hown : Is W base V l) (hx : a.eval x = .slice (some ⟨W.heap.size, 0, none⟩) 1 1) (hm : l.length ≤ 100000) (hb : base ≤ W.heap.size)
    (K : ∀ v' w', Is w' base v' (l ++ [h]) → (W.alloc (.cells #[.int .i64 h] 3)).grownBy w' V.ownBlock → wpList Tryz.prog ops Q rest (a.put o.dst v') w') :
    wpList Tryz.prog ops Q (o :: rest) a (W.alloc (.cells #[.int .i64 h] 3)) := by
  obtain ⟨i0, hi, hz0, hz1, hz2⟩ := info_parts Tryz.infoI
  exact wpList_append_own _ hgd s x 29 ho base 3 i0 (.int .i64 0) 1 8 Tryz.underlying29 hi hz0 hz1 hz2 rfl (by decide) V l.length (gi l) hs (owns_kp hown (Kp.alloc W _ []) (by simp)) ⟨W.heap.size, 0, none⟩ 1 1 [.int .i64 h] hx rfl one_cell (by simp; rfl) (by unfold maxLen; omega) (by omega) (by simp; omega) (fun v' w' h1 h2 _ => K v' w' (by unfold Is; simpa [gi] using h1) h2)
theorem grown_kp {W w' : World} {base : Nat} {V : Value} {l : List Int} (hN : Is W base V l) {o : Obj} (hG : (W.alloc o).grownBy w' V.ownBlock) {w : World} (hk : Kp w W []) (hb : w.heap.size ≤ base) : Kp w w' [] :=
  (hk.trans (Kp.alloc W o [])).past (Kp.ofGrown (rows := V.ownBlock.toList) hG (by intro g hg; simp [hg])) (by
    intro g hg hl
    simp at hg
    have := (owns_block hN hg).1
    omega)
/-- One list laid behind another. -/
theorem wp_join {w : World} {o : Oper} {a : Act} {K : Act → World → Prop} {Q : Exit → Act → World → Prop} (s x : Operand) (ho : o.op = .call { callee := .builtin .append, args := #[s, x], argTypes := #[29, 29] })
    (base : Nat) (V VX : Value) (l m : List Int) (hs : a.eval s = V) (hV : Is w base V l) (hx : a.eval x = VX) (hX : Rs w VX m) (hl : l.length ≤ 1000) (hm : m.length ≤ 1000) (hb : base ≤ w.heap.size)
    (h : ∀ v' w', Is w' base v' (l ++ m) → w.grownBy w' V.ownBlock → K (a.put o.dst v') w') : o.wp Tryz.prog a w K Q := by
  obtain ⟨i0, hi, hz0, hz1, hz2⟩ := info_parts Tryz.infoI
  obtain ⟨ao, cap, rfl, h0, h1⟩ := hX
  cases ao with
  | none =>
    have hm0 : m = [] := Classical.byContradiction fun hne => by
      obtain ⟨g, off, e, -⟩ := h1 hne
      cases e
    have hc := h0 rfl
    subst hm0 hc
    have hrun := run_append_owned_none (P := Tryz.prog) (w := w) base 29 o.type 3 i0 1 Tryz.underlying29 hi V l.length (gi l) hV
    unfold Oper.wp
    simp [execOp, ho, resolve, invoke, builtin, hs, hx, hrun, Result.andThen]
    exact h V w (by rw [List.append_nil]; exact hV) (World.grownBy.refl _ _)
  | some ad =>
    refine wp_append_own w s x 29 ho base 3 i0 (.int .i64 0) 1 8 Tryz.underlying29 hi hz0 hz1 hz2 rfl (by decide) V l.length (gi l) hs hV ad m.length cap (gi m) hx (by simp [gi]) ?_ (gi_one m) (by unfold maxLen; omega) (by omega) hb
        fun v' w' a1 a2 _ => h v' w' (by unfold Is; simpa [gi] using a1) a2
    intro j u hu
    have hne : m ≠ [] := by rintro rfl; simp at hu
    obtain ⟨g, off, e, hc⟩ := h1 hne
    cases e
    cases hxj : m[j]? with
    | none => simp [gi, hxj] at hu
    | some y =>
      simp [gi, hxj] at hu
      subst hu
      rw [Addr.add_lit]
      exact hc j y hxj
theorem step_join {w : World} {ops : Array Oper} {o : Oper} {a : Act} {K : Act → World → Prop} {Q : Exit → Act → World → Prop} {E : Prop} (hgd : o.guard = none) (s x : Operand) (ho : o.op = .call { callee := .builtin .append, args := #[s, x], argTypes := #[29, 29] }) (D : Nat) (hD : o.dst = some D)
    (base : Nat) (V VX : Value) (l m : List Int) (hs : a.eval s = V) (hV : Is w base V l) (hx : a.eval x = VX) (hX : Rs w VX m) (hl : l.length ≤ 1000) (hm : m.length ≤ 1000) (hb : base ≤ w.heap.size)
    (h : ∀ v' w', Is w' base v' (l ++ m) → w.grownBy w' V.ownBlock → K (a.put (some D) v') w') :
    if Region.wanted o (yielded ops a.tmps) = true then Oper.wp Tryz.prog o a w K Q else E := by
  have hw : Region.wanted o (yielded ops a.tmps) = true := by simp [Region.wanted, hgd]
  rw [if_pos hw]
  rw [← hD] at h
  exact wp_join s x ho base V VX l m hs hV hx hX hl hm hb h
end Go.Proofs.YtgefmnnkpffpcaaGreatDoor
