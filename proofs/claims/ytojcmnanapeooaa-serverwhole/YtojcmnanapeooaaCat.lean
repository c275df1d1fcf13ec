/- Pieces laid behind others. -/
import Derived.Test.YtojcmnanapeooaaOwn
import Derived.Lib.Walk
namespace Go.Proofs.Ytojcmnanapeooaa
open Go.RowKit Go.Shelf
open Go.Lib hiding intOf

theorem Try.infoD : (Try.prog.info? 45).map (fun i => (i.zero, i.size, i.bytes)) = some (some (.agg #[.int .i64 0, .int .i64 0]), 2, 16) := by kernel_rfl
theorem Dr.some_of {w : World} {base : Nat} {ad : Addr} {m cap : Nat} {l : List Dl} (h : Dr w base (.slice (some ad) m cap) l) : ∃ g, ad = ⟨g, 0, none⟩ := by
  rcases h.2 with ⟨hv, -⟩ | ⟨g, cap', cur, hv, -⟩
  · cases hv
  · simp only [Value.slice.injEq, Option.some.injEq] at hv
    exact ⟨g, hv.1⟩
theorem Dr.none_of {w : World} {base : Nat} {m cap : Nat} {l : List Dl} (h : Dr w base (.slice none m cap) l) : l = [] ∧ m = 0 ∧ cap = 0 := by
  rcases h.2 with ⟨hv, h0⟩ | ⟨g, cap', cur, hv, -⟩
  · simp only [Value.slice.injEq, true_and] at hv
    exact ⟨List.eq_nil_of_length_eq_zero h0, hv.1, hv.2⟩
  · cases hv
theorem Dr.cells {w : World} {base : Nat} {ad : Addr} {m cap : Nat} {l : List Dl} (h : Dr w base (.slice (some ad) m cap) l) : ∀ (j : Nat) (u : Value), (dcells l)[j]? = some u → w.cell? (ad.add j) = some u := by
  intro j u hu
  rcases h.2 with ⟨hv, -⟩ | ⟨g', cap', cur, hv, hb, h2, h3, h4, h5, h6⟩
  · cases hv
  · simp only [Value.slice.injEq, Option.some.injEq] at hv
    obtain ⟨rfl, rfl, rfl⟩ := hv
    have hj : j < l.length * 2 := by
      have := (List.getElem?_eq_some_iff.1 hu).1
      rw [dcells_length] at this; exact this
    rw [Addr.add_lit]
    simp only [World.cell?, h2, Nat.zero_add, Option.isSome_none, Bool.false_eq_true, if_false]
    rw [← Array.getElem?_toList, ← List.getElem?_take_of_lt hj, h6]
    exact hu
theorem wp_joinD {w : World} {o : Oper} {a : Act} {K : Act → World → Prop} {Q : Exit → Act → World → Prop} (s x : Operand) (ho : o.op = .call { callee := .builtin .append, args := #[s, x], argTypes := #[42, 42] })
    (base b2 : Nat) (V VX : Value) (l m : List Dl) (hs : a.eval s = V) (hV : Dr w base V l) (hx : a.eval x = VX) (hX : Dr w b2 VX m) (hl : l.length ≤ 1000000) (hm : m.length ≤ 1000000) (hb : base ≤ w.heap.size)
    (h : ∀ v' w', Dr w' base v' (l ++ m) → w.grownBy w' V.ownBlock → K (a.put o.dst v') w') : o.wp Try.prog a w K Q := by
  obtain ⟨i0, hi, hz0, hz1, hz2⟩ := info_parts Try.infoD
  obtain ⟨ao, cap, rfl⟩ := hX.slice
  cases ao with
  | none =>
    obtain ⟨rfl, -, rfl⟩ := hX.none_of
    have hrun := run_append_owned_none (P := Try.prog) (w := w) base 42 o.type 45 i0 2 Try.underlying42 hi V l.length (dcells l) hV
    unfold Oper.wp
    simp [execOp, ho, resolve, invoke, builtin, hs, hx, hrun, Result.andThen]
    exact h V w (by rw [List.append_nil]; exact hV) (World.grownBy.refl _ _)
  | some ad =>
    exact wp_append_own w s x 42 ho base 45 i0 (.agg #[.int .i64 0, .int .i64 0]) 2 16 Try.underlying42 hi hz0 hz1 hz2 rfl (by decide) V l.length (dcells l) hs hV ad m.length cap (dcells m) hx (dcells_length m) hX.cells (dcells_one m) (by unfold maxLen; omega) (by omega) hb
        fun v' w' a1 a2 _ => h v' w' (by unfold Dr; rw [List.length_append, dcells_append]; exact a1) a2
theorem wpList_joinD {w : World} {ops : Array Oper} {rest : List Oper} {o : Oper} {a : Act} {Q : Exit → Act → World → Prop} (hgd : o.guard = none) (s x : Operand) (ho : o.op = .call { callee := .builtin .append, args := #[s, x], argTypes := #[42, 42] })
    (base b2 : Nat) (V VX : Value) (l m : List Dl) (hs : a.eval s = V) (hV : Dr w base V l) (hx : a.eval x = VX) (hX : Dr w b2 VX m) (hl : l.length ≤ 1000000) (hm : m.length ≤ 1000000) (hb : base ≤ w.heap.size)
    (h : ∀ v' w', Dr w' base v' (l ++ m) → w.grownBy w' V.ownBlock → wpList Try.prog ops Q rest (a.put o.dst v') w') : wpList Try.prog ops Q (o :: rest) a w :=
  wpList_plain hgd fun _ hK => wp_joinD s x ho base b2 V VX l m hs hV hx hX hl hm hb fun v' w' h1 h2 => hK _ _ (h v' w' h1 h2)
theorem step_joinD {w : World} {ops : Array Oper} {o : Oper} {a : Act} {K : Act → World → Prop} {Q : Exit → Act → World → Prop} {E : Prop} (hgd : o.guard = none) (s x : Operand) (ho : o.op = .call { callee := .builtin .append, args := #[s, x], argTypes := #[42, 42] }) (D : Nat) (hD : o.dst = some D)
    (base b2 : Nat) (V VX : Value) (l m : List Dl) (hs : a.eval s = V) (hV : Dr w base V l) (hx : a.eval x = VX) (hX : Dr w b2 VX m) (hl : l.length ≤ 1000000) (hm : m.length ≤ 1000000) (hb : base ≤ w.heap.size)
    (h : ∀ v' w', Dr w' base v' (l ++ m) → w.grownBy w' V.ownBlock → K (a.put (some D) v') w') :
    if Region.wanted o (yielded ops a.tmps) = true then Oper.wp Try.prog o a w K Q else E := by
  have hw : Region.wanted o (yielded ops a.tmps) = true := by simp [Region.wanted, hgd]
  rw [if_pos hw]
  rw [← hD] at h
  exact wp_joinD s x ho base b2 V VX l m hs hV hx hX hl hm hb h
/-- What lies below a row's base is kept when the row grows. -/
theorem grown_kp {W w' : World} {base : Nat} {V : Value} {l : List Dl} (hN : Dr W base V l) (hG : W.grownBy w' V.ownBlock) {w : World} (hk : Kp w W []) (hb : w.heap.size ≤ base) : Kp w w' [] :=
  hk.past (Kp.ofGrown (rows := V.ownBlock.toList) hG (by intro g hg; simp [hg])) (by
    intro g hg hl
    simp at hg
    have := (owns_block hN hg).1
    omega)
/-- One deadline, in a new row. -/
theorem Dr.one (W : World) (x1 x2 : Int) : Dr (W.alloc (.cells #[.int .i64 x1, .int .i64 x2] 45)) W.heap.size (.slice (some ⟨W.heap.size, 0, none⟩) 1 1) [(x1, x2)] :=
  ⟨rfl, .inr ⟨W.heap.size, 1, _, rfl, Nat.le_refl _, heap_alloc_new W _, Nat.le_refl _, by unfold maxLen; omega, rfl, rfl⟩⟩

end Go.Proofs.Ytojcmnanapeooaa
