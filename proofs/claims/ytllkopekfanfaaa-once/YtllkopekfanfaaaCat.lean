/- append, of waiters and of numbers. -/
import Derived.Test.YtllkopekfanfaaaNums
namespace Go.Proofs.Ytllkopekfanfaaa
open Go.RowKit Go.Shelf Go.Lib Go.Sort

theorem Try.infoD : (Try.prog.info? 103).map (fun i => (i.zero, i.size, i.bytes)) = some (some (.agg #[.int .i64 0, .int .i64 0]), 2, 16) := by kernel_rfl
theorem Dr.some_of {w : World} {base : Nat} {ad : Addr} {m cap : Nat} {l : List Dl} (h : Dr w base (.slice (some ad) m cap) l) : ∃ g, ad = ⟨g, 0, none⟩ := by
  rcases h.2 with ⟨hv, -⟩ | ⟨g, cap', cur, hv, -⟩
  · cases hv
  · simp only [Value.slice.injEq, Option.some.injEq] at hv
    exact ⟨g, hv.1⟩
theorem Dr.none_of {w : World} {base : Nat} {m cap : Nat} {l : List Dl} (h : Dr w base (.slice none m cap) l) : l = [] ∧ m = 0 ∧ cap = 0 := by
  rcases h.2 with ⟨hv, h0⟩ | ⟨g, cap', cur, hv, -⟩
  · simp only [Value.slice.injEq, true_and] at hv
    exact ⟨List.eq_nil_of_length_eq_zero h0, hv.1, hv.2⟩
  · cases hv
theorem Dr.cells {w : World} {base : Nat} {ad : Addr} {m cap : Nat} {l : List Dl} (h : Dr w base (.slice (some ad) m cap) l) : ∀ (j : Nat) (u : Value), (dcells l)[j]? = some u → w.cell? (ad.add j) = some u := by
  intro j u hu
  rcases h.2 with ⟨hv, -⟩ | ⟨g', cap', cur, hv, hb, h2, h3, h4, h5, h6⟩
  · cases hv
  · simp only [Value.slice.injEq, Option.some.injEq] at hv
    obtain ⟨rfl, rfl, rfl⟩ := hv
    have hj : j < l.length * 2 := by
      have := (List.getElem?_eq_some_iff.1 hu).1
      rw [dcells_length] at this; exact this
    rw [Addr.add_lit]
    simp only [World.cell?, h2, Nat.zero_add, Option.isSome_none, Bool.false_eq_true, if_false]
    rw [← Array.getElem?_toList, ← List.getElem?_take_of_lt hj, h6]
    exact hu
theorem wp_joinD {w : World} {o : Oper} {a : Act} {K : Act → World → Prop} {Q : Exit → Act → World → Prop} (s x : Operand) (ho : o.op = .call { callee := .builtin .append, args := #[s, x], argTypes := #[67, 67] })
    (base b2 : Nat) (V VX : Value) (l m : List Dl) (hs : a.eval s = V) (hV : Dr w base V l) (hx : a.eval x = VX) (hX : Dr w b2 VX m) (hl : l.length ≤ 1000000) (hm : m.length ≤ 1000000) (hb : base ≤ w.heap.size)
    (h : ∀ v' w', Dr w' base v' (l ++ m) → w.grownBy w' V.ownBlock → K (a.put o.dst v') w') : o.wp Try.prog a w K Q := by
  obtain ⟨i0, hi, hz0, hz1, hz2⟩ := info_parts Try.infoD
  obtain ⟨ao, cap, rfl⟩ := hX.slice
  cases ao with
  | none =>
    obtain ⟨rfl, -, rfl⟩ := hX.none_of
    have hrun := run_append_owned_none (P := Try.prog) (w := w) base 67 o.type 103 i0 2 Try.underlying67 hi V l.length (dcells l) hV
    unfold Oper.wp
    simp [execOp, ho, resolve, invoke, builtin, hs, hx, hrun, Result.andThen]
    exact h V w (by rw [List.append_nil]; exact hV) (World.grownBy.refl _ _)
  | some ad =>
    exact wp_append_own w s x 67 ho base 103 i0 (.agg #[.int .i64 0, .int .i64 0]) 2 16 Try.underlying67 hi hz0 hz1 hz2 rfl (by decide) V l.length (dcells l) hs hV ad m.length cap (dcells m) hx (dcells_length m) hX.cells (dcells_one m) (by unfold maxLen; omega) (by omega) hb
        fun v' w' a1 a2 _ => h v' w' (by unfold Dr; rw [List.length_append, dcells_append]; exact a1) a2
theorem wpList_joinD {w : World} {ops : Array Oper} {rest : List Oper} {o : Oper} {a : Act} {Q : Exit → Act → World → Prop} (hgd : o.guard = none) (s x : Operand) (ho : o.op = .call { callee := .builtin .append, args := #[s, x], argTypes := #[67, 67] })
    (base b2 : Nat) (V VX : Value) (l m : List Dl) (hs : a.eval s = V) (hV : Dr w base V l) (hx : a.eval x = VX) (hX : Dr w b2 VX m) (hl : l.length ≤ 1000000) (hm : m.length ≤ 1000000) (hb : base ≤ w.heap.size)
    (h : ∀ v' w', Dr w' base v' (l ++ m) → w.grownBy w' V.ownBlock → wpList Try.prog ops Q rest (a.put o.dst v') w') : wpList Try.prog ops Q (o :: rest) a w :=
  wpList_plain hgd fun _ hK => wp_joinD s x ho base b2 V VX l m hs hV hx hX hl hm hb fun v' w' h1 h2 => hK _ _ (h v' w' h1 h2)
theorem step_joinD {w : World} {ops : Array Oper} {o : Oper} {a : Act} {K : Act → World → Prop} {Q : Exit → Act → World → Prop} {E : Prop} (hgd : o.guard = none) (s x : Operand) (ho : o.op = .call { callee := .builtin .append, args := #[s, x], argTypes := #[67, 67] }) (D : Nat) (hD : o.dst = some D)
    (base b2 : Nat) (V VX : Value) (l m : List Dl) (hs : a.eval s = V) (hV : Dr w base V l) (hx : a.eval x = VX) (hX : Dr w b2 VX m) (hl : l.length ≤ 1000000) (hm : m.length ≤ 1000000) (hb : base ≤ w.heap.size)
    (h : ∀ v' w', Dr w' base v' (l ++ m) → w.grownBy w' V.ownBlock → K (a.put (some D) v') w') :
    if Region.wanted o (yielded ops a.tmps) = true then Oper.wp Try.prog o a w K Q else E := by
  have hw : Region.wanted o (yielded ops a.tmps) = true := by simp [Region.wanted, hgd]
  rw [if_pos hw]
  rw [← hD] at h
  exact wp_joinD s x ho base b2 V VX l m hs hV hx hX hl hm hb h
/-- What lies below a row's base is kept when the row grows. -/
theorem grown_kp {W w' : World} {base : Nat} {V : Value} {l : List Dl} (hN : Dr W base V l) (hG : W.grownBy w' V.ownBlock) {w : World} (hk : Kp w W []) (hb : w.heap.size ≤ base) : Kp w w' [] :=
  hk.past (Kp.ofGrown (rows := V.ownBlock.toList) hG (by intro g hg; simp [hg])) (by
    intro g hg hl
    simp at hg
    have := (owns_block hN hg).1
    omega)
/-- One deadline, in a new row. -/
theorem Dr.one (W : World) (x1 x2 : Int) : Dr (W.alloc (.cells #[.int .i64 x1, .int .i64 x2] 103)) W.heap.size (.slice (some ⟨W.heap.size, 0, none⟩) 1 1) [(x1, x2)] :=
  ⟨rfl, .inr ⟨W.heap.size, 1, _, rfl, Nat.le_refl _, heap_alloc_new W _, Nat.le_refl _, by unfold maxLen; omega, rfl, rfl⟩⟩

theorem Dr.at {w : World} {base : Nat} {ao : Option Addr} {m cap : Nat} {l : List Dl} (h : Dr w base (.slice ao m cap) l) {k : Nat} (hk : k < l.length) {x1 x2 : Int} (e : l[k]! = (x1, x2)) :
    ∃ g, ao = some ⟨g, 0, none⟩ ∧ w.cell? ⟨g, k * 2, none⟩ = some (.int .i64 x1) ∧ w.cell? ⟨g, k * 2 + 1, none⟩ = some (.int .i64 x2) ∧ w.frozen? ⟨g, k * 2, none⟩ = false ∧ w.frozen? ⟨g, k * 2 + 1, none⟩ = false := by
  cases ao with
  | none => obtain ⟨rfl, -⟩ := h.none_of; simp at hk
  | some ad =>
    obtain ⟨g, rfl⟩ := h.some_of
    have := h.hk.1.cells hk
    rw [e] at this
    exact ⟨g, rfl, this⟩

theorem drop_get {X : List Dl} {i : Nat} (h : i < X.length) : X.drop i = X[i]! :: X.drop (i + 1) := by
  rw [getElem!_pos X i h]; exact List.drop_eq_getElem_cons h
theorem take_get {X : List Dl} {i : Nat} (h : i < X.length) : X.take (i + 1) = X.take i ++ [X[i]!] := by
  rw [getElem!_pos X i h]; exact List.take_succ_eq_append_getElem h

/-- append: the row stays where it was, or lies in new memory. -/
theorem Ns.cells {w : World} {base : Nat} {ad : Addr} {m cap : Nat} {l : List Int} (h : Ns w base (.slice (some ad) m cap) l) : ∀ (j : Nat) (u : Value), (icells l)[j]? = some u → w.cell? (ad.add j) = some u := by
  intro j u hu
  obtain ⟨g, rfl⟩ := h.some_of
  have hj : j < l.length := by
    obtain ⟨h1, -⟩ := List.getElem?_eq_some_iff.1 hu
    simpa [icells] using h1
  rw [icells_at l j hj] at hu
  simp only [Option.some.injEq] at hu
  subst hu
  obtain ⟨g', e, hc, -⟩ := h.at hj rfl
  simp only [Option.some.injEq, Addr.mk.injEq, and_true] at e
  subst e
  rw [Addr.add_lit, Nat.zero_add]
  exact hc
theorem push_where {w : World} (ty : TypeId) (V : Value) (l : List Int) (hV : Ns w 0 V l) (ad : Addr) (m : List Int) (cap : Nat) (hX : Ns w 0 (.slice (some ad) m.length cap) m) (hm0 : m ≠ []) (hl : l.length ≤ 1000000) (hm : m.length ≤ 1000000) :
    ∃ v' w', (Builtin.append_ #[54, 54] ty #[V, .slice (some ad) m.length cap]).run Try.prog w = .ok v' w' ∧ Ns w' 0 v' (l ++ m) ∧ w.grownBy w' V.ownBlock ∧ (v'.ownBlock = V.ownBlock ∨ v'.ownBlock = some w.heap.size) := by
  obtain ⟨i0, hi, hz0, hz1, hz2⟩ := info_parts Try.infoI
  have icl : ∀ l : List Int, (icells l).length = l.length * 1 := fun l => by simp [icells]
  obtain ⟨v', w', hr, h2, h3, -⟩ := run_append_own (P := Try.prog) w 0 54 ty 3 i0 (.int .i64 0) 1 8 Try.underlying54 hi hz0 hz1 hz2 rfl (by decide) V l.length (icells l) hV ad m.length cap (icells m) (icl m) hX.cells (icells_one m) (by unfold maxLen; omega) (by omega) (Nat.zero_le _)
  refine ⟨v', w', hr, by unfold Ns; rw [List.length_append, show icells (l ++ m) = icells l ++ icells m by simp [icells]]; exact h2, h3, ?_⟩
  have hmp : 0 < m.length := List.length_pos_iff.2 hm0
  have hlen : (icells m).length = m.length * i0.size := by rw [hz1]; exact icl m
  rcases hV.2 with ⟨rfl, h0⟩ | ⟨g, cp, cur, rfl, hbg, hg, hnc, hcm, hcs, htake⟩
  · have hr2 := run_append_nil (P := Try.prog) w 54 ty 3 i0 (.int .i64 0) Try.underlying54 hi hz0 ad m.length cap (icells m) hlen hX.cells hmp (by omega) (by rw [hz2]; omega)
    have e := hr.symm.trans hr2
    injection e with e1 _
    rw [e1]
    exact .inr rfl
  · by_cases hroom : l.length + m.length ≤ cp
    · have hr2 := run_append_room (P := Try.prog) w 54 ty 3 i0 Try.underlying54 hi g l.length cp cur hg ad m.length cap (icells m) hlen hX.cells (icells_one m) hroom (by rw [hz1, hcs, icl]; omega)
      have e := hr.symm.trans hr2
      injection e with e1 _
      rw [e1]
      exact .inl rfl
    · have hr2 := run_append_grow (P := Try.prog) w 54 ty 3 i0 (.int .i64 0) Try.underlying54 hi hz0 ⟨g, 0, none⟩ l.length cp (icells l) (by rw [hz1]; exact icl l) hV.cells ad m.length cap (icells m) hlen hX.cells (by omega) (by omega) (by rw [hz2]; exact growslice_fits (by omega) (by omega))
      have e := hr.symm.trans hr2
      injection e with e1 _
      rw [e1]
      exact .inr rfl
theorem Ns.one (W : World) (x : Int) : Ns (W.alloc (.cells #[.int .i64 x] 3)) W.heap.size (.slice (some ⟨W.heap.size, 0, none⟩) 1 1) [x] :=
  ⟨rfl, .inr ⟨W.heap.size, 1, _, rfl, Nat.le_refl _, heap_alloc_new W _, Nat.le_refl _, by unfold maxLen; omega, rfl, rfl⟩⟩
theorem wpList_pushW {w : World} {ops : Array Oper} {rest : List Oper} {o : Oper} {a : Act} {Q : Exit → Act → World → Prop} (hgd : o.guard = none) (s x : Operand) (ho : o.op = .call { callee := .builtin .append, args := #[s, x], argTypes := #[54, 54] })
    (V : Value) (l : List Int) (ad : Addr) (m : List Int) (cap : Nat) (hs : a.eval s = V) (hV : Ns w 0 V l) (hx : a.eval x = .slice (some ad) m.length cap) (hX : Ns w 0 (.slice (some ad) m.length cap) m) (hm0 : m ≠ []) (hl : l.length ≤ 1000000) (hm : m.length ≤ 1000000)
    (h : ∀ v' w', Ns w' 0 v' (l ++ m) → w.grownBy w' V.ownBlock → (v'.ownBlock = V.ownBlock ∨ v'.ownBlock = some w.heap.size) → wpList Try.prog ops Q rest (a.put o.dst v') w') : wpList Try.prog ops Q (o :: rest) a w := by
  refine wpList_plain hgd fun _ hK => ?_
  obtain ⟨v', w', hr, h2, h3, h4⟩ := push_where o.type V l hV ad m cap hX hm0 hl hm
  unfold Oper.wp execOp
  simp only [ho, resolve, invoke, builtin, Sem.run_bind, Sem.run_pure, Result.andThen_ok, List.map_toArray, List.map_cons, List.map_nil, hs, hx, hr]
  exact hK _ _ (h v' w' h2 h3 h4)
end Go.Proofs.Ytllkopekfanfaaa
