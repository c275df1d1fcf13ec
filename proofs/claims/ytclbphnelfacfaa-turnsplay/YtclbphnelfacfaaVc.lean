/- Rows of values in memory; lists that are joined. -/
import Derived.Test.YtclbphnelfacfaaRd
namespace Go.Proofs.Ytclbphnelfacfaa
open Go.RowKit Go.Shelf

theorem Ns.cells {w : World} {base : Nat} {ad : Addr} {m cap : Nat} {l : List Nat} (h : Ns w base (.slice (some ad) m cap) l) : ∀ (j : Nat) (u : Value), (ni l)[j]? = some u → w.cell? (ad.add j) = some u := by
  intro j u hu
  cases hx : l[j]? with
  | none => simp [ni, hx] at hu
  | some x =>
    obtain ⟨g, e, -, -, hc⟩ := h.at hx
    cases e
    rw [Addr.add_mid]
    simp [ni, hx] at hu
    subst hu
    simpa using hc
theorem ni_one (l : List Nat) : ∀ u ∈ ni l, u.oneCell' = true := by
  intro u hu
  obtain ⟨x, -, rfl⟩ := List.mem_map.1 hu
  rfl
/-- One list laid behind another. -/
theorem wp_join {w : World} {o : Oper} {a : Act} {K : Act → World → Prop} {Q : Exit → Act → World → Prop} (s x : Operand) (ho : o.op = .call { callee := .builtin .append, args := #[s, x], argTypes := #[40, 40] })
    (base b2 : Nat) (V VX : Value) (l m : List Nat) (hs : a.eval s = V) (hV : Ns w base V l) (hx : a.eval x = VX) (hX : Ns w b2 VX m) (hl : l.length ≤ 1000) (hm : m.length ≤ 1000) (hb : base ≤ w.heap.size)
    (h : ∀ v' w', Ns w' base v' (l ++ m) → w.grownBy w' V.ownBlock → K (a.put o.dst v') w') : o.wp Try.prog a w K Q := by
  obtain ⟨i0, hi, hz0, hz1, hz2⟩ := info_parts Try.infoI
  obtain ⟨ao, cap, rfl⟩ := hX.slice
  by_cases hm0 : m = []
  · have e := hX.2 hm0
    rw [e] at hx
    have hrun := run_append_owned_none (P := Try.prog) (w := w) base 40 o.type 3 i0 1 Try.underlying40 hi V l.length (ni l) hV.1
    unfold Oper.wp
    simp [execOp, ho, resolve, invoke, builtin, hs, hx, hrun, Result.andThen]
    exact h V w (by rw [hm0, List.append_nil]; exact hV) (World.grownBy.refl _ _)
  · cases ao with
    | none =>
      obtain ⟨y, hy⟩ : ∃ y, m[0]? = some y := by cases m with | nil => exact absurd rfl hm0 | cons y m => exact ⟨y, rfl⟩
      obtain ⟨g, e, -⟩ := hX.at hy
      cases e
    | some ad =>
      exact wp_append_own w s x 40 ho base 3 i0 (.int .i64 0) 1 8 Try.underlying40 hi hz0 hz1 hz2 rfl (by decide) V l.length (ni l) hs hV.1 ad m.length cap (ni m) hx (by simp [ni]) hX.cells (ni_one m) (by unfold maxLen; omega) (by omega) hb
        fun v' w' a1 a2 _ => h v' w' ⟨by simpa [ni] using a1, by simp [hm0]⟩ a2
theorem wpList_join {w : World} {ops : Array Oper} {rest : List Oper} {o : Oper} {a : Act} {Q : Exit → Act → World → Prop} (hgd : o.guard = none) (s x : Operand) (ho : o.op = .call { callee := .builtin .append, args := #[s, x], argTypes := #[40, 40] })
    (base b2 : Nat) (V VX : Value) (l m : List Nat) (hs : a.eval s = V) (hV : Ns w base V l) (hx : a.eval x = VX) (hX : Ns w b2 VX m) (hl : l.length ≤ 1000) (hm : m.length ≤ 1000) (hb : base ≤ w.heap.size)
    (h : ∀ v' w', Ns w' base v' (l ++ m) → w.grownBy w' V.ownBlock → wpList Try.prog ops Q rest (a.put o.dst v') w') : wpList Try.prog ops Q (o :: rest) a w :=
  wpList_plain hgd fun _ hK => wp_join s x ho base b2 V VX l m hs hV hx hX hl hm hb fun v' w' h1 h2 => hK _ _ (h v' w' h1 h2)
theorem step_join {w : World} {ops : Array Oper} {o : Oper} {a : Act} {K : Act → World → Prop} {Q : Exit → Act → World → Prop} {E : Prop} (hgd : o.guard = none) (s x : Operand) (ho : o.op = .call { callee := .builtin .append, args := #[s, x], argTypes := #[40, 40] }) (D : Nat) (hD : o.dst = some D)
    (base b2 : Nat) (V VX : Value) (l m : List Nat) (hs : a.eval s = V) (hV : Ns w base V l) (hx : a.eval x = VX) (hX : Ns w b2 VX m) (hl : l.length ≤ 1000) (hm : m.length ≤ 1000) (hb : base ≤ w.heap.size)
    (h : ∀ v' w', Ns w' base v' (l ++ m) → w.grownBy w' V.ownBlock → K (a.put (some D) v') w') :
    if Region.wanted o (yielded ops a.tmps) = true then Oper.wp Try.prog o a w K Q else E := by
  have hw : Region.wanted o (yielded ops a.tmps) = true := by simp [Region.wanted, hgd]
  rw [if_pos hw]
  rw [← hD] at h
  exact wp_join s x ho base b2 V VX l m hs hV hx hX hl hm hb h

/-! ### The reference's lists -/
def vcl (F : Nat → Value) : Nat → Nat → List Value
  | 0, _ => []
  | k + 1, i => F i :: vcl F k (i + 1)
theorem vcl_length (F : Nat → Value) (k i : Nat) : (vcl F k i).length = k := by
  induction k generalizing i with
  | zero => rfl
  | succ k ih => simp [vcl, ih]
theorem vcl_at (F : Nat → Value) (k i j : Nat) (hj : j < k) : (vcl F k i)[j]? = some (F (i + j)) := by
  induction k generalizing i j with
  | zero => omega
  | succ k ih =>
    cases j with
    | zero => simp [vcl]
    | succ j =>
      simp only [vcl, List.getElem?_cons_succ]
      rw [ih (i + 1) j (by omega), show i + (j + 1) = i + 1 + j by omega]
def updV (F : Nat → Value) (i : Nat) (v : Value) : Nat → Value := fun j => if j = i then v else F j
theorem vcl_set (F : Nat → Value) (k j : Nat) (v : Value) (hj : j < k) : (vcl F k 0).set j v = vcl (updV F j v) k 0 := by
  apply List.ext_getElem?
  intro n
  rw [List.getElem?_set]
  rcases Nat.lt_or_ge n k with hn | hn
  · rw [vcl_at _ k 0 n hn, Nat.zero_add]
    by_cases e : j = n
    · subst e
      rw [if_pos rfl, if_pos (by rw [vcl_length]; exact hj)]
      rw [vcl_at _ k 0 j hj, Nat.zero_add]
      simp [updV]
    · rw [if_neg e, vcl_at _ k 0 n hn, Nat.zero_add]
      have : n ≠ j := fun h => e h.symm
      simp [updV, this]
  · rw [List.getElem?_eq_none (by rw [vcl_length]; exact hn)]
    by_cases e : j = n
    · omega
    · rw [if_neg e, List.getElem?_eq_none (by rw [vcl_length]; exact hn)]
theorem ns_ne {w : World} {base qb t : Nat} {c : Array Value} {V : Value} {l : List Nat} (h : Ns w base V l) (hq : w.heap[qb]? = some (.cells c t (0, 0))) (ht : t ≠ 3) {g : Nat} (hg : V.ownBlock = some g) : g ≠ qb := by
  obtain ⟨-, cur, hc⟩ := owns_block h.1 hg
  exact fun e => block_ne hq hc ht e.symm
theorem Ns.one (W : World) (x : Nat) : Ns (W.alloc (.cells #[.int .i64 (x : Nat)] 3)) W.heap.size (.slice (some ⟨W.heap.size, 0, none⟩) 1 1) [x] :=
  ⟨⟨rfl, .inr ⟨W.heap.size, 1, _, rfl, Nat.le_refl _, heap_alloc_new W _, Nat.le_refl _, by unfold maxLen; omega, rfl, rfl⟩⟩, by simp⟩
theorem grown_over {W w' : World} {base : Nat} {V : Value} {l : List Nat} (hN : Ns W base V l) (hG : W.grownBy w' V.ownBlock) {w : World} (hk : Kp w W []) (hb : w.heap.size ≤ base) : Kp w w' [] :=
  hk.past (Kp.ofGrown (rows := V.ownBlock.toList) hG (by intro g hg; simp [hg])) (by
    intro g hg hl
    simp at hg
    have := (owns_block hN.1 hg).1
    omega)

theorem filter_step {l : List Nat} {i x T : Nat} (hx : l[i]? = some x) : (l.take (i + 1)).filter (fun y => decide (y ≠ T)) = (l.take i).filter (fun y => decide (y ≠ T)) ++ (if x ≠ T then [x] else []) := by
  rw [List.take_add_one, hx, List.filter_append]
  congr 1
  by_cases e : x = T <;> simp [e]

theorem vcl_congr {F G : Nat → Value} (k i : Nat) (h : ∀ j, j < k → F (i + j) = G (i + j)) : vcl F k i = vcl G k i := by
  induction k generalizing i with
  | zero => rfl
  | succ k ih =>
    have h0 := h 0 (by omega)
    simp only [Nat.add_zero] at h0
    simp only [vcl, h0]
    rw [ih (i + 1) (fun j hj => by have := h (j + 1) (by omega); rwa [show i + (j + 1) = i + 1 + j by omega] at this)]
theorem vcl_put {F G : Nat → Value} {k j : Nat} {v : Value} (hj : j < k) (h : ∀ i, i < k → G i = if i = j then v else F i) : (vcl F k 0).set j v = vcl G k 0 := by
  rw [vcl_set F k j v hj]
  refine vcl_congr k 0 fun i hi => ?_
  rw [Nat.zero_add, h i hi]
  rfl
theorem vcl_cell {w : World} {b k t : Nat} {F : Nat → Value} (h : w.heap[b]? = some (.cells (vcl F k 0).toArray t (0, 0))) (i : Nat) (hi : i < k) : w.cell? ⟨b, i, none⟩ = some (F i) := by
  rw [cell_of_row w b i _ _ _ h]
  have := vcl_at F k 0 i hi
  rw [Nat.zero_add] at this
  simpa using this
theorem vcl_heap {w : World} {b k t j : Nat} {F G : Nat → Value} {v : Value} (h : w.heap[b]? = some (.cells (vcl F k 0).toArray t (0, 0))) (hj : j < k) (hg : ∀ i, i < k → G i = if i = j then v else F i) : (w.setCell ⟨b, j, none⟩ v).heap[b]? = some (.cells (vcl G k 0).toArray t (0, 0)) := by
  rw [heap_setCell_same w b j _ t _ h, List.setIfInBounds_toArray, vcl_put hj hg]
end Go.Proofs.Ytclbphnelfacfaa
