/- Rows of cleanups: in a slice. -/
import Derived.Test.YtjggpchjfglgcaaOwn
namespace Go.Proofs.Ytjggpchjfglgcaa
open Go.RowKit Go.Shelf
attribute [local go_sem] Oper.semAt_some

/-- A message, as cells. -/
def encM (x : Int × Int) : List Value := [.int .i64 x.1, .int .i64 x.2]
abbrev Ml := List (Int × Int)
def mcells (l : Ml) : List Value := l.flatMap encM
theorem mcells_length (l : Ml) : (mcells l).length = l.length * 2 := by
  unfold mcells
  induction l with
  | nil => rfl
  | cons x r ih => rw [List.flatMap_cons, List.length_append, ih, List.length_cons, show (encM x).length = 2 from rfl]; omega
theorem mcells_append (a b : Ml) : mcells (a ++ b) = mcells a ++ mcells b := List.flatMap_append
theorem mcells_at : ∀ (l : Ml) (i : Nat) (x : Int × Int), l[i]? = some x → (mcells l)[i * 2]? = some (.int .i64 x.1) ∧ (mcells l)[i * 2 + 1]? = some (.int .i64 x.2)
  | [], _, _, h => by simp at h
  | y :: r, 0, x, h => by
    simp at h
    subst h
    exact ⟨rfl, rfl⟩
  | y :: r, i + 1, x, h => by
    have ih := mcells_at r i x (by simpa using h)
    have e : mcells (y :: r) = .int .i64 y.1 :: .int .i64 y.2 :: mcells r := rfl
    rw [e, show (i + 1) * 2 = i * 2 + 1 + 1 by omega]
    simpa using ih
theorem mcells_one (l : Ml) : ∀ u ∈ mcells l, u.oneCell' = true := by
  intro u hu
  obtain ⟨x, -, hx⟩ := List.mem_flatMap.1 hu
  simp [encM] at hx
  rcases hx with rfl | rfl <;> rfl
def Mr (W : World) (base : Nat) (v : Value) (l : Ml) : Prop := W.ownsRow base 30 2 v l.length (mcells l)
theorem Mr.nil (W : World) (base : Nat) : Mr W base (.slice none 0 0) [] := ⟨rfl, .inl ⟨rfl, rfl⟩⟩
theorem Mr.kp {w w' : World} {base : Nat} {v : Value} {l : Ml} {rows : List Nat} (h : Mr w base v l) (hk : Kp w w' rows) (hr : ∀ g, v.ownBlock = some g → g ∉ rows) : Mr w' base v l := owns_kp h hk hr
theorem Mr.keep {w w' : World} {base : Nat} {v : Value} {l : Ml} (h : Mr w base v l) (hk : Kp w w' []) : Mr w' base v l := h.kp hk (by simp)
theorem Mr.slice {w : World} {base : Nat} {v : Value} {l : Ml} (h : Mr w base v l) : ∃ ao cap, v = .slice ao l.length cap := owns_shape h
theorem Mr.low {w : World} {base base' : Nat} {v : Value} {l : Ml} (h : Mr w base v l) (hb : base' ≤ base) : Mr w base' v l := owns_low h hb
theorem Mr.some_of {w : World} {base : Nat} {ad : Addr} {m cap : Nat} {l : Ml} (h : Mr w base (.slice (some ad) m cap) l) : ∃ g, ad = ⟨g, 0, none⟩ := by
  rcases h.2 with ⟨hv, -⟩ | ⟨g, cap', cur, hv, -⟩
  · cases hv
  · simp only [Value.slice.injEq, Option.some.injEq] at hv
    exact ⟨g, hv.1⟩
theorem Mr.none_of {w : World} {base : Nat} {m cap : Nat} {l : Ml} (h : Mr w base (.slice none m cap) l) : l = [] ∧ m = 0 ∧ cap = 0 := by
  rcases h.2 with ⟨hv, h0⟩ | ⟨g, cap', cur, hv, -⟩
  · simp only [Value.slice.injEq, true_and] at hv
    exact ⟨List.eq_nil_of_length_eq_zero h0, hv⟩
  · cases hv
theorem Mr.le {w : World} {base : Nat} {ao : Option Addr} {m cap : Nat} {l : Ml} (h : Mr w base (.slice ao m cap) l) : m = l.length ∧ m ≤ cap := by
  rcases h.2 with ⟨hv, h0⟩ | ⟨g, cap', cur, hv, -, -, h3, -⟩
  · simp only [Value.slice.injEq] at hv
    omega
  · simp only [Value.slice.injEq] at hv
    omega
theorem Mr.cells {w : World} {base : Nat} {ad : Addr} {m cap : Nat} {l : Ml} (h : Mr w base (.slice (some ad) m cap) l) : ∀ (j : Nat) (u : Value), (mcells l)[j]? = some u → w.cell? (ad.add j) = some u := by
  intro j u hu
  rcases h.2 with ⟨hv, -⟩ | ⟨g', cap', cur, hv, hb, h2, h3, h4, h5, h6⟩
  · cases hv
  · simp only [Value.slice.injEq, Option.some.injEq] at hv
    obtain ⟨rfl, rfl, rfl⟩ := hv
    have hj : j < l.length * 2 := by
      have := (List.getElem?_eq_some_iff.1 hu).1
      rw [mcells_length] at this; exact this
    rw [Addr.add_lit]
    simp only [World.cell?, h2, Nat.zero_add, Option.isSome_none, Bool.false_eq_true, if_false]
    rw [← Array.getElem?_toList, ← List.getElem?_take_of_lt hj, h6]
    exact hu
theorem Mr.at {w : World} {base : Nat} {ao : Option Addr} {m cap : Nat} {l : Ml} (h : Mr w base (.slice ao m cap) l) {k : Nat} {x : Int × Int} (e : l[k]? = some x) :
    ∃ g, ao = some ⟨g, 0, none⟩ ∧ w.cell? ⟨g, k * 2, none⟩ = some (.int .i64 x.1) ∧ w.cell? ⟨g, k * 2 + 1, none⟩ = some (.int .i64 x.2) := by
  cases ao with
  | none =>
    obtain ⟨rfl, -⟩ := h.none_of
    simp at e
  | some ad =>
    obtain ⟨g, rfl⟩ := h.some_of
    obtain ⟨e1, e2⟩ := mcells_at l k x e
    have a1 := h.cells _ _ e1
    have a2 := h.cells _ _ e2
    rw [Addr.add_lit, Nat.zero_add] at a1 a2
    exact ⟨g, rfl, a1, a2⟩
/-- A view of a row: any address, the cells by a fact. -/
def Wm (w : World) (v : Value) (m : Ml) : Prop := ∃ ao cap, v = .slice ao m.length cap ∧ (∀ ad, ao = some ad → ∀ j u, (mcells m)[j]? = some u → w.cell? (ad.add j) = some u) ∧ (ao = none → m = [] ∧ cap = 0)
theorem Mr.wm {w : World} {base : Nat} {v : Value} {l : Ml} (h : Mr w base v l) : Wm w v l := by
  obtain ⟨ao, cap, rfl⟩ := h.slice
  refine ⟨ao, cap, rfl, fun ad had => ?_, fun e => ?_⟩
  · subst had
    exact h.cells
  · subst e
    exact ⟨h.none_of.1, h.none_of.2.2⟩
theorem wm_one (W : World) (n v : Int) (x : Int × Int) (h1 : n = x.1) (h2 : v = x.2) : Wm (W.alloc (.cells #[.int .i64 n, .int .i64 v] 30)) (.slice (some ⟨W.heap.size, 0, none⟩) 1 1) [x] := by
  subst h1 h2
  have h : Mr (W.alloc (.cells #[.int .i64 x.1, .int .i64 x.2] 30)) W.heap.size (.slice (some ⟨W.heap.size, 0, none⟩) 1 1) [x] :=
    ⟨rfl, .inr ⟨W.heap.size, 1, _, rfl, Nat.le_refl _, heap_alloc_new W _, Nat.le_refl _, by unfold maxLen; omega, rfl, rfl⟩⟩
  exact h.wm
theorem Try.infoM : (Try.prog.info? 30).map (fun i => (i.zero, i.size, i.bytes)) = some (some (.agg #[.int .i64 0, .int .i64 0]), 2, 16) := by kernel_rfl
theorem wp_joinM {w : World} {o : Oper} {a : Act} {K : Act → World → Prop} {Q : Exit → Act → World → Prop} (s x : Operand) (ho : o.op = .call { callee := .builtin .append, args := #[s, x], argTypes := #[39, 39] })
    (base : Nat) (V VX : Value) (l m : Ml) (hs : a.eval s = V) (hV : Mr w base V l) (hx : a.eval x = VX) (hX : Wm w VX m) (hl : l.length ≤ 1000000) (hm : m.length ≤ 1000000) (hb : base ≤ w.heap.size)
    (h : ∀ v' w', Mr w' base v' (l ++ m) → w.grownBy w' V.ownBlock → K (a.put o.dst v') w') : o.wp Try.prog a w K Q := by
  obtain ⟨i0, hi, hz0, hz1, hz2⟩ := info_parts Try.infoM
  obtain ⟨ao, cap, rfl, h1, h2⟩ := hX
  cases ao with
  | none =>
    obtain ⟨rfl, rfl⟩ := h2 rfl
    have hrun := run_append_owned_none (P := Try.prog) (w := w) base 39 o.type 30 i0 2 Try.underlying39 hi V l.length (mcells l) hV
    unfold Oper.wp
    simp [execOp, ho, resolve, invoke, builtin, hs, hx, hrun, Result.andThen]
    exact h V w (by rw [List.append_nil]; exact hV) (World.grownBy.refl _ _)
  | some ad =>
    exact wp_append_own w s x 39 ho base 30 i0 (.agg #[.int .i64 0, .int .i64 0]) 2 16 Try.underlying39 hi hz0 hz1 hz2 rfl (by decide) V l.length (mcells l) hs hV ad m.length cap (mcells m) hx (mcells_length m) (h1 ad rfl) (mcells_one m) (by unfold maxLen; omega) (by omega) hb
        fun v' w' a1 a2 _ => h v' w' (by unfold Mr; rw [List.length_append, mcells_append]; exact a1) a2
theorem wpList_joinM {w : World} {ops : Array Oper} {rest : List Oper} {o : Oper} {a : Act} {Q : Exit → Act → World → Prop} (hgd : o.guard = none) (s x : Operand) (ho : o.op = .call { callee := .builtin .append, args := #[s, x], argTypes := #[39, 39] })
    (base : Nat) (V VX : Value) (l m : Ml) (hs : a.eval s = V) (hV : Mr w base V l) (hx : a.eval x = VX) (hX : Wm w VX m) (hl : l.length ≤ 1000000) (hm : m.length ≤ 1000000) (hb : base ≤ w.heap.size)
    (h : ∀ v' w', Mr w' base v' (l ++ m) → w.grownBy w' V.ownBlock → wpList Try.prog ops Q rest (a.put o.dst v') w') : wpList Try.prog ops Q (o :: rest) a w :=
  wpList_plain hgd fun _ hK => wp_joinM s x ho base V VX l m hs hV hx hX hl hm hb fun v' w' h1 h2 => hK _ _ (h v' w' h1 h2)
theorem grown_mr {W w' : World} {base : Nat} {V : Value} {l : Ml} (hN : Mr W base V l) (hG : W.grownBy w' V.ownBlock) {w : World} (hk : Kp w W []) (hb : w.heap.size ≤ base) : Kp w w' [] := grown_own hN hG hk hb
end Go.Proofs.Ytjggpchjfglgcaa
