/- Bytes in memory, laid one behind the other. -/
import Derived.Test.YtojdahgoapknjaaDoorText
import Derived.Laws.AppendOwn
import Derived.Laws.OwnMore
import Derived.OneCell
import Derived.Deep.MidRow
namespace Go.Proofs.YtojdahgoapknjaaDoor
open Go.RowKit Go.Shelf
set_option linter.unusedVariables false

theorem Tryd.infoB : (Tryd.prog.info? 5).map (fun i => (i.zero, i.size, i.bytes)) = some (some (.int .u8 0), 1, 1) := by kernel_rfl
abbrev ni (l : List Nat) : List Value := l.map fun x => Value.int .u8 (x : Nat)
theorem owns_shape {w : World} {base e s : Nat} {v : Value} {n : Nat} {xs : List Value} (h : w.ownsRow base e s v n xs) : ∃ ao cap, v = .slice ao n cap := by
  rcases h.2 with ⟨rfl, rfl⟩ | ⟨g, cap, cur, rfl, -⟩
  · exact ⟨_, _, rfl⟩
  · exact ⟨_, _, rfl⟩
theorem owns_block {w : World} {base e s : Nat} {v : Value} {n : Nat} {xs : List Value} (h : w.ownsRow base e s v n xs) {g : Nat} (hg : v.ownBlock = some g) : base ≤ g ∧ ∃ cur, w.heap[g]? = some (.cells cur e (0, 0)) := by
  rcases h.2 with ⟨rfl, rfl⟩ | ⟨g', cap, cur, rfl, h1, h2, -⟩
  · simp [Value.ownBlock] at hg
  · simp [Value.ownBlock] at hg
    subst hg
    exact ⟨h1, cur, h2⟩
/-- Kept where its block is. -/
theorem owns_kp {w w' : World} {base e s : Nat} {v : Value} {n : Nat} {xs : List Value} {rows : List Nat} (h : w.ownsRow base e s v n xs) (hk : Kp w w' rows) (hr : ∀ g, v.ownBlock = some g → g ∉ rows) : w'.ownsRow base e s v n xs := by
  refine ⟨h.1, ?_⟩
  rcases h.2 with ⟨rfl, h0⟩ | ⟨g, cap, cur, rfl, h1, h2, h3⟩
  · exact .inl ⟨rfl, h0⟩
  · exact .inr ⟨g, cap, cur, rfl, h1, (hk.block g (lt_of_block h2) (hr g rfl)).trans h2, h3⟩
theorem owns_low {w : World} {base base' e s : Nat} {v : Value} {n : Nat} {xs : List Value} (h : w.ownsRow base e s v n xs) (hb : base' ≤ base) : w.ownsRow base' e s v n xs := by
  refine ⟨h.1, ?_⟩
  rcases h.2 with h0 | ⟨g, cap, cur, rfl, h1, h2, h3⟩
  · exact .inl h0
  · exact .inr ⟨g, cap, cur, rfl, Nat.le_trans hb h1, h2, h3⟩
theorem Kp.ofGrown {w w' : World} {row : Option Nat} (h : w.grownBy w' row) {rows : List Nat} (hr : ∀ g, row = some g → g ∈ rows) : Kp w w' rows :=
  ⟨h.os, h.tape, h.output, h.size, fun k hk hn => h.block k hk (fun e => hn (hr k e.symm))⟩
/-- The slice value V reads as the numbers l; none are nil. -/
def Ns (w : World) (base : Nat) (V : Value) (l : List Nat) : Prop := w.ownsRow base 5 1 V l.length (ni l) ∧ (l = [] → V = .slice none 0 0)
theorem Ns.nil (w : World) (base : Nat) : Ns w base (.slice none 0 0) [] := ⟨⟨rfl, .inl ⟨rfl, rfl⟩⟩, fun _ => rfl⟩
theorem Ns.kp {w w' : World} {base : Nat} {V : Value} {l : List Nat} {rows : List Nat} (h : Ns w base V l) (hk : Kp w w' rows) (hr : ∀ g, V.ownBlock = some g → g ∉ rows) : Ns w' base V l := ⟨owns_kp h.1 hk hr, h.2⟩
theorem Ns.keep {w w' : World} {base : Nat} {V : Value} {l : List Nat} (h : Ns w base V l) (hk : Kp w w' []) : Ns w' base V l := h.kp hk (by simp)
theorem Ns.low {w : World} {base base' : Nat} {V : Value} {l : List Nat} (h : Ns w base V l) (hb : base' ≤ base) : Ns w base' V l := ⟨owns_low h.1 hb, h.2⟩
theorem Ns.slice {w : World} {base : Nat} {V : Value} {l : List Nat} (h : Ns w base V l) : ∃ ao cap, V = .slice ao l.length cap := owns_shape h.1
theorem Ns.at {w : World} {base : Nat} {ao : Option Addr} {m cap : Nat} {l : List Nat} (h : Ns w base (.slice ao m cap) l) {k x : Nat} (hk : l[k]? = some x) :
    ∃ g, ao = some ⟨g, 0, none⟩ ∧ m = l.length ∧ base ≤ g ∧ w.cell? ⟨g, k, none⟩ = some (.int .u8 (x : Nat)) := by
  have hkl : k < l.length := by
    rcases Nat.lt_or_ge k l.length with h' | h'
    · exact h'
    · rw [List.getElem?_eq_none h'] at hk; cases hk
  have h1 := h.1
  rcases h1.2 with ⟨-, h0⟩ | ⟨g, cap', cur, hv, hb, h2, h3⟩
  · omega
  · simp only [Value.slice.injEq] at hv
    obtain ⟨rfl, rfl, rfl⟩ := hv
    refine ⟨g, rfl, rfl, hb, ?_⟩
    rw [h1.cellAt k (by omega)]
    simp [ni, hk]

theorem one_cell {W : World} {x : Nat} : ∀ (j : Nat) (u : Value), [Value.int .u8 (x : Nat)][j]? = some u → (W.alloc (.cells #[.int .u8 (x : Nat)] 5)).cell? ((⟨W.heap.size, 0, none⟩ : Addr).add j) = some u := by
  intro j u hu
  match j with
  | 0 =>
    simp at hu
    subst hu
    rw [Addr.add_mid, cell_of_row _ _ _ _ _ _ (heap_alloc_new W _)]
    rfl
  | j + 1 => simp at hu
theorem Ns.push {W w' : World} {base : Nat} {V v' : Value} {l : List Nat} {x : Nat} (h1 : w'.ownsRow base 5 1 v' (l.length + 1) (ni l ++ [.int .u8 (x : Nat)])) (_ : Ns W base V l) : Ns w' base v' (l ++ [x]) :=
  ⟨by simpa [ni] using h1, by simp⟩

theorem wpList_push {ops : Array Oper} {rest : List Oper} {o : Oper} {a : Act} {W : World} {Q : Exit → Act → World → Prop} (hgd : o.guard = none) (s x : Operand)
    (ho : o.op = .call { callee := .builtin .append, args := #[s, x], argTypes := #[63, 63] }) (base : Nat) (V : Value) (l : List Nat) (h : Nat)
    (hs : a.eval s = V) (hown : Ns W base V l) (hx : a.eval x = .slice (some ⟨W.heap.size, 0, none⟩) 1 1) (hm : l.length ≤ 100000) (hb : base ≤ W.heap.size)
    (K : ∀ v' w', Ns w' base v' (l ++ [h]) → (W.alloc (.cells #[.int .u8 (h : Nat)] 5)).grownBy w' V.ownBlock → wpList Tryd.prog ops Q rest (a.put o.dst v') w') :
    wpList Tryd.prog ops Q (o :: rest) a (W.alloc (.cells #[.int .u8 (h : Nat)] 5)) := by
  obtain ⟨i0, hi, hz0, hz1, hz2⟩ := info_parts Tryd.infoB
  exact wpList_append_own _ hgd s x 63 ho base 5 i0 (.int .u8 0) 1 1 Tryd.underlying63 hi hz0 hz1 hz2 rfl (by decide) V l.length (ni l) hs (owns_kp hown.1 (Kp.alloc W _ []) (by simp)) ⟨W.heap.size, 0, none⟩ 1 1 [.int .u8 (h : Nat)] hx rfl one_cell (by simp; rfl) (by unfold maxLen; omega) (by omega) (by simp; omega) (fun v' w' h1 h2 _ => K v' w' (Ns.push h1 hown) h2)

theorem grown_kp {W w' : World} {base : Nat} {V : Value} {l : List Nat} {o : Obj} (hN : Ns W base V l) (hG : (W.alloc o).grownBy w' V.ownBlock) {w : World} (hk : Kp w W []) (hb : w.heap.size ≤ base) : Kp w w' [] :=
  (hk.trans (Kp.alloc W o [])).past (Kp.ofGrown (rows := V.ownBlock.toList) hG (by intro g hg; simp [hg])) (by
    intro g hg hl
    simp at hg
    have := (owns_block hN.1 hg).1
    omega)
theorem Ns.cells {w : World} {base : Nat} {ad : Addr} {m cap : Nat} {l : List Nat} (h : Ns w base (.slice (some ad) m cap) l) : ∀ (j : Nat) (u : Value), (ni l)[j]? = some u → w.cell? (ad.add j) = some u := by
  intro j u hu
  cases hx : l[j]? with
  | none => simp [ni, hx] at hu
  | some x =>
    obtain ⟨g, e, -, -, hc⟩ := h.at hx
    cases e
    rw [Addr.add_mid]
    simp [ni, hx] at hu
    subst hu
    simpa using hc
theorem ni_one (l : List Nat) : ∀ u ∈ ni l, u.oneCell' = true := by
  intro u hu
  obtain ⟨x, -, rfl⟩ := List.mem_map.1 hu
  rfl
/-- One list laid behind another. -/
theorem wp_join {w : World} {o : Oper} {a : Act} {K : Act → World → Prop} {Q : Exit → Act → World → Prop} (s x : Operand) (ho : o.op = .call { callee := .builtin .append, args := #[s, x], argTypes := #[63, 63] })
    (base b2 : Nat) (V VX : Value) (l m : List Nat) (hs : a.eval s = V) (hV : Ns w base V l) (hx : a.eval x = VX) (hX : Ns w b2 VX m) (hl : l.length ≤ 1000) (hm : m.length ≤ 1000) (hb : base ≤ w.heap.size)
    (h : ∀ v' w', Ns w' base v' (l ++ m) → w.grownBy w' V.ownBlock → K (a.put o.dst v') w') : o.wp Tryd.prog a w K Q := by
  obtain ⟨i0, hi, hz0, hz1, hz2⟩ := info_parts Tryd.infoB
  obtain ⟨ao, cap, rfl⟩ := hX.slice
  by_cases hm0 : m = []
  · have e := hX.2 hm0
    rw [e] at hx
    have hrun := run_append_owned_none (P := Tryd.prog) (w := w) base 63 o.type 5 i0 1 Tryd.underlying63 hi V l.length (ni l) hV.1
    unfold Oper.wp
    simp [execOp, ho, resolve, invoke, builtin, hs, hx, hrun, Result.andThen]
    exact h V w (by rw [hm0, List.append_nil]; exact hV) (World.grownBy.refl _ _)
  · cases ao with
    | none =>
      obtain ⟨y, hy⟩ : ∃ y, m[0]? = some y := by cases m with | nil => exact absurd rfl hm0 | cons y m => exact ⟨y, rfl⟩
      obtain ⟨g, e, -⟩ := hX.at hy
      cases e
    | some ad =>
      exact wp_append_own w s x 63 ho base 5 i0 (.int .u8 0) 1 1 Tryd.underlying63 hi hz0 hz1 hz2 rfl (by decide) V l.length (ni l) hs hV.1 ad m.length cap (ni m) hx (by simp [ni]) hX.cells (ni_one m) (by unfold maxLen; omega) (by omega) hb
        fun v' w' a1 a2 _ => h v' w' ⟨by simpa [ni] using a1, by simp [hm0]⟩ a2
theorem wpList_join {w : World} {ops : Array Oper} {rest : List Oper} {o : Oper} {a : Act} {Q : Exit → Act → World → Prop} (hgd : o.guard = none) (s x : Operand) (ho : o.op = .call { callee := .builtin .append, args := #[s, x], argTypes := #[63, 63] })
    (base b2 : Nat) (V VX : Value) (l m : List Nat) (hs : a.eval s = V) (hV : Ns w base V l) (hx : a.eval x = VX) (hX : Ns w b2 VX m) (hl : l.length ≤ 1000) (hm : m.length ≤ 1000) (hb : base ≤ w.heap.size)
    (h : ∀ v' w', Ns w' base v' (l ++ m) → w.grownBy w' V.ownBlock → wpList Tryd.prog ops Q rest (a.put o.dst v') w') : wpList Tryd.prog ops Q (o :: rest) a w :=
  wpList_plain hgd fun _ hK => wp_join s x ho base b2 V VX l m hs hV hx hX hl hm hb fun v' w' h1 h2 => hK _ _ (h v' w' h1 h2)
theorem Ns.one (W : World) (x : Nat) : Ns (W.alloc (.cells #[.int .u8 (x : Nat)] 5)) W.heap.size (.slice (some ⟨W.heap.size, 0, none⟩) 1 1) [x] :=
  ⟨⟨rfl, .inr ⟨W.heap.size, 1, _, rfl, Nat.le_refl _, heap_alloc_new W _, Nat.le_refl _, by unfold maxLen; omega, rfl, rfl⟩⟩, by simp⟩
theorem grown_over {W w' : World} {base : Nat} {V : Value} {l : List Nat} (hN : Ns W base V l) (hG : W.grownBy w' V.ownBlock) {w : World} (hk : Kp w W []) (hb : w.heap.size ≤ base) : Kp w w' [] :=
  hk.past (Kp.ofGrown (rows := V.ownBlock.toList) hG (by intro g hg; simp [hg])) (by
    intro g hg hl
    simp at hg
    have := (owns_block hN.1 hg).1
    omega)

end Go.Proofs.YtojdahgoapknjaaDoor
