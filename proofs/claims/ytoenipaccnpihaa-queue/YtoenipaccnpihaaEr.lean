/- Rows of what was sent: in a slice. -/
import Derived.Test.YtoenipaccnpihaaVc
import Derived.Test.YtoenipaccnpihaaNums
import Derived.Test.YtoenipaccnpihaaUs
namespace Go.Proofs.Ytoenipaccnpihaa
open Go.RowKit Go.Shelf Go.Sort Go.Maps
open Go.Lib hiding intOf
attribute [local go_sem] Oper.semAt_some

/-- What was sent, as cells. -/
def encS (x : Nat × Nat × Int) : List Value := [.int .i64 (x.1 : Nat), .int .i64 (x.2.1 : Nat), .int .i64 x.2.2]
def ecells (l : El) : List Value := l.flatMap encS
theorem ecells_length (l : El) : (ecells l).length = l.length * 3 := by
  unfold ecells
  induction l with
  | nil => rfl
  | cons x r ih => rw [List.flatMap_cons, List.length_append, ih, List.length_cons, show (encS x).length = 3 from rfl]; omega
theorem ecells_append (a b : El) : ecells (a ++ b) = ecells a ++ ecells b := List.flatMap_append
theorem ecells_at : ∀ (l : El) (i : Nat) (x : Nat × Nat × Int), l[i]? = some x → (ecells l)[i * 3]? = some (.int .i64 (x.1 : Nat)) ∧ (ecells l)[i * 3 + 1]? = some (.int .i64 (x.2.1 : Nat)) ∧ (ecells l)[i * 3 + 2]? = some (.int .i64 x.2.2)
  | [], _, _, h => by simp at h
  | y :: r, 0, x, h => by
    simp at h
    subst h
    exact ⟨rfl, rfl, rfl⟩
  | y :: r, i + 1, x, h => by
    have ih := ecells_at r i x (by simpa using h)
    have e : ecells (y :: r) = .int .i64 (y.1 : Nat) :: .int .i64 (y.2.1 : Nat) :: .int .i64 y.2.2 :: ecells r := rfl
    rw [e, show (i + 1) * 3 = i * 3 + 1 + 1 + 1 by omega]
    simpa using ih
theorem ecells_one (l : El) : ∀ u ∈ ecells l, u.oneCell' = true := by
  intro u hu
  obtain ⟨x, -, hx⟩ := List.mem_flatMap.1 hu
  simp [encS] at hx
  rcases hx with rfl | rfl | rfl <;> rfl
def Er (W : World) (base : Nat) (v : Value) (l : El) : Prop := W.ownsRow base 86 3 v l.length (ecells l)
theorem Er.nil (W : World) (base : Nat) : Er W base (.slice none 0 0) [] := ⟨rfl, .inl ⟨rfl, rfl⟩⟩
theorem Er.kp {w w' : World} {base : Nat} {v : Value} {l : El} {rows : List Nat} (h : Er w base v l) (hk : Kp w w' rows) (hr : ∀ g, v.ownBlock = some g → g ∉ rows) : Er w' base v l := owns_kp h hk hr
theorem Er.keep {w w' : World} {base : Nat} {v : Value} {l : El} (h : Er w base v l) (hk : Kp w w' []) : Er w' base v l := h.kp hk (by simp)
theorem Er.slice {w : World} {base : Nat} {v : Value} {l : El} (h : Er w base v l) : ∃ ao cap, v = .slice ao l.length cap := owns_shape h
theorem Er.low {w : World} {base base' : Nat} {v : Value} {l : El} (h : Er w base v l) (hb : base' ≤ base) : Er w base' v l := owns_low h hb
theorem Er.some_of {w : World} {base : Nat} {ad : Addr} {m cap : Nat} {l : El} (h : Er w base (.slice (some ad) m cap) l) : ∃ g, ad = ⟨g, 0, none⟩ := by
  rcases h.2 with ⟨hv, -⟩ | ⟨g, cap', cur, hv, -⟩
  · cases hv
  · simp only [Value.slice.injEq, Option.some.injEq] at hv
    exact ⟨g, hv.1⟩
theorem Er.none_of {w : World} {base : Nat} {m cap : Nat} {l : El} (h : Er w base (.slice none m cap) l) : l = [] ∧ m = 0 ∧ cap = 0 := by
  rcases h.2 with ⟨hv, h0⟩ | ⟨g, cap', cur, hv, -⟩
  · simp only [Value.slice.injEq, true_and] at hv
    exact ⟨List.eq_nil_of_length_eq_zero h0, hv⟩
  · cases hv
theorem Er.le {w : World} {base : Nat} {ao : Option Addr} {m cap : Nat} {l : El} (h : Er w base (.slice ao m cap) l) : m = l.length ∧ m ≤ cap := by
  rcases h.2 with ⟨hv, h0⟩ | ⟨g, cap', cur, hv, -, -, h3, -⟩
  · simp only [Value.slice.injEq] at hv
    omega
  · simp only [Value.slice.injEq] at hv
    omega
theorem Er.cells {w : World} {base : Nat} {ad : Addr} {m cap : Nat} {l : El} (h : Er w base (.slice (some ad) m cap) l) : ∀ (j : Nat) (u : Value), (ecells l)[j]? = some u → w.cell? (ad.add j) = some u := by
  intro j u hu
  rcases h.2 with ⟨hv, -⟩ | ⟨g', cap', cur, hv, hb, h2, h3, h4, h5, h6⟩
  · cases hv
  · simp only [Value.slice.injEq, Option.some.injEq] at hv
    obtain ⟨rfl, rfl, rfl⟩ := hv
    have hj : j < l.length * 3 := by
      have := (List.getElem?_eq_some_iff.1 hu).1
      rw [ecells_length] at this; exact this
    rw [Addr.add_lit]
    simp only [World.cell?, h2, Nat.zero_add, Option.isSome_none, Bool.false_eq_true, if_false]
    rw [← Array.getElem?_toList, ← List.getElem?_take_of_lt hj, h6]
    exact hu
theorem Er.at {w : World} {base : Nat} {ao : Option Addr} {m cap : Nat} {l : El} (h : Er w base (.slice ao m cap) l) {k : Nat} {x : Nat × Nat × Int} (e : l[k]? = some x) :
    ∃ g, ao = some ⟨g, 0, none⟩ ∧ w.cell? ⟨g, k * 3, none⟩ = some (.int .i64 (x.1 : Nat)) ∧ w.cell? ⟨g, k * 3 + 1, none⟩ = some (.int .i64 (x.2.1 : Nat)) ∧ w.cell? ⟨g, k * 3 + 2, none⟩ = some (.int .i64 x.2.2) := by
  cases ao with
  | none =>
    obtain ⟨rfl, -⟩ := h.none_of
    simp at e
  | some ad =>
    obtain ⟨g, rfl⟩ := h.some_of
    obtain ⟨e1, e2, e3⟩ := ecells_at l k x e
    have a1 := h.cells _ _ e1
    have a2 := h.cells _ _ e2
    have a3 := h.cells _ _ e3
    rw [Addr.add_lit, Nat.zero_add] at a1 a2 a3
    exact ⟨g, rfl, a1, a2, a3⟩
/-- A view of a row: any address, the cells by a fact. -/
def Vi (w : World) (v : Value) (m : El) : Prop := ∃ ao cap, v = .slice ao m.length cap ∧ (∀ ad, ao = some ad → ∀ j u, (ecells m)[j]? = some u → w.cell? (ad.add j) = some u) ∧ (ao = none → m = [] ∧ cap = 0)
theorem ecells_take (l : El) (k : Nat) : (ecells l).take (k * 3) = ecells (l.take k) := by
  have h := ecells_append (l.take k) (l.drop k)
  rw [List.take_append_drop] at h
  rw [h]
  by_cases hk : k ≤ l.length
  · have e : k * 3 = (ecells (l.take k)).length := by rw [ecells_length, List.length_take, Nat.min_eq_left hk]
    rw [e]
    exact List.take_left
  · rw [List.drop_eq_nil_of_le (by omega), show ecells [] = [] from rfl, List.append_nil, List.take_of_length_le (by rw [ecells_length, List.length_take]; omega)]
theorem ecells_drop (l : El) (k : Nat) : ecells (l.drop k) = (ecells l).drop (k * 3) := by
  have h := congrArg (List.drop (k * 3)) (ecells_append (l.take k) (l.drop k))
  rw [List.take_append_drop] at h
  by_cases hk : k ≤ l.length
  · have e0 : (ecells (l.take k)).drop (k * 3) = [] := List.drop_eq_nil_of_le (by rw [ecells_length, List.length_take]; omega)
    rw [h, List.drop_append, e0, ecells_length, List.length_take, Nat.min_eq_left hk, Nat.sub_self]
    simp
  · rw [List.drop_eq_nil_of_le (by omega), List.drop_eq_nil_of_le (by rw [ecells_length]; omega)]
    rfl
theorem Er.vi {w : World} {base : Nat} {v : Value} {l : El} (h : Er w base v l) : Vi w v l := by
  obtain ⟨ao, cap, rfl⟩ := h.slice
  refine ⟨ao, cap, rfl, fun ad had => ?_, fun e => ?_⟩
  · subst had
    exact h.cells
  · subst e
    exact ⟨h.none_of.1, h.none_of.2.2⟩
theorem Er.front {w : World} {base g n cap k : Nat} {l : El} (h : Er w base (.slice (some ⟨g, 0, none⟩) n cap) l) (hk : k ≤ l.length) : Vi w (.slice (some ⟨g, 0, none⟩) k cap) (l.take k) := by
  refine ⟨_, cap, by rw [List.length_take, Nat.min_eq_left hk], fun ad had j u hu => ?_, fun e => by cases e⟩
  obtain rfl : (⟨g, 0, none⟩ : Addr) = ad := by simpa using had
  have hc := h.cells
  refine hc j u ?_
  rw [← ecells_take] at hu
  have hj : j < k * 3 := by
    have := (List.getElem?_eq_some_iff.1 hu).1
    rw [List.length_take] at this
    omega
  rw [List.getElem?_take_of_lt hj] at hu
  exact hu
theorem Er.back {w : World} {base g n cap c k m : Nat} {l : El} (h : Er w base (.slice (some ⟨g, 0, none⟩) n cap) l) (hm : m = l.length - k) : Vi w (.slice (some ⟨g, k * 3, none⟩) m c) (l.drop k) := by
  refine ⟨_, c, by rw [List.length_drop, hm], fun ad had j u hu => ?_, fun e => by cases e⟩
  obtain rfl : (⟨g, k * 3, none⟩ : Addr) = ad := by simpa using had
  have hc := h.cells
  rw [Addr.add_mid]
  have hc' := hc (k * 3 + j) u
  rw [Addr.add_mid, Nat.zero_add] at hc'
  refine hc' ?_
  rw [ecells_drop, List.getElem?_drop] at hu
  exact hu
theorem vi_empty (w : World) (g o c : Nat) : Vi w (.slice (some ⟨g, o, none⟩) 0 c) [] := ⟨_, c, rfl, fun ad _ j u hu => (by simp [ecells] at hu), fun e => (by cases e)⟩
theorem vi_one (W : World) (t n : Nat) (v : Int) : Vi (W.alloc (.cells #[.int .i64 (t : Nat), .int .i64 (n : Nat), .int .i64 v] 86)) (.slice (some ⟨W.heap.size, 0, none⟩) 1 1) [(t, n, v)] := by
  have h : Er (W.alloc (.cells #[.int .i64 (t : Nat), .int .i64 (n : Nat), .int .i64 v] 86)) W.heap.size (.slice (some ⟨W.heap.size, 0, none⟩) 1 1) [(t, n, v)] :=
    ⟨rfl, .inr ⟨W.heap.size, 1, _, rfl, Nat.le_refl _, heap_alloc_new W _, Nat.le_refl _, by unfold maxLen; omega, rfl, rfl⟩⟩
  exact h.vi
theorem Try.infoE : (Try.prog.info? 86).map (fun i => (i.zero, i.size, i.bytes)) = some (some (.agg #[.int .i64 0, .int .i64 0, .int .i64 0]), 3, 24) := by kernel_rfl
theorem wp_joinE {w : World} {o : Oper} {a : Act} {K : Act → World → Prop} {Q : Exit → Act → World → Prop} (s x : Operand) (ho : o.op = .call { callee := .builtin .append, args := #[s, x], argTypes := #[62, 62] })
    (base : Nat) (V VX : Value) (l m : El) (hs : a.eval s = V) (hV : Er w base V l) (hx : a.eval x = VX) (hX : Vi w VX m) (hl : l.length ≤ 1000000) (hm : m.length ≤ 1000000) (hb : base ≤ w.heap.size)
    (h : ∀ v' w', Er w' base v' (l ++ m) → w.grownBy w' V.ownBlock → K (a.put o.dst v') w') : o.wp Try.prog a w K Q := by
  obtain ⟨i0, hi, hz0, hz1, hz2⟩ := info_parts Try.infoE
  obtain ⟨ao, cap, rfl, h1, h2⟩ := hX
  cases ao with
  | none =>
    obtain ⟨rfl, rfl⟩ := h2 rfl
    have hrun := run_append_owned_none (P := Try.prog) (w := w) base 62 o.type 86 i0 3 Try.underlying62 hi V l.length (ecells l) hV
    unfold Oper.wp
    simp [execOp, ho, resolve, invoke, builtin, hs, hx, hrun, Result.andThen]
    exact h V w (by rw [List.append_nil]; exact hV) (World.grownBy.refl _ _)
  | some ad =>
    exact wp_append_own w s x 62 ho base 86 i0 (.agg #[.int .i64 0, .int .i64 0, .int .i64 0]) 3 24 Try.underlying62 hi hz0 hz1 hz2 rfl (by decide) V l.length (ecells l) hs hV ad m.length cap (ecells m) hx (ecells_length m) (h1 ad rfl) (ecells_one m) (by unfold maxLen; omega) (by omega) hb
        fun v' w' a1 a2 _ => h v' w' (by unfold Er; rw [List.length_append, ecells_append]; exact a1) a2
theorem wpList_joinE {w : World} {ops : Array Oper} {rest : List Oper} {o : Oper} {a : Act} {Q : Exit → Act → World → Prop} (hgd : o.guard = none) (s x : Operand) (ho : o.op = .call { callee := .builtin .append, args := #[s, x], argTypes := #[62, 62] })
    (base : Nat) (V VX : Value) (l m : El) (hs : a.eval s = V) (hV : Er w base V l) (hx : a.eval x = VX) (hX : Vi w VX m) (hl : l.length ≤ 1000000) (hm : m.length ≤ 1000000) (hb : base ≤ w.heap.size)
    (h : ∀ v' w', Er w' base v' (l ++ m) → w.grownBy w' V.ownBlock → wpList Try.prog ops Q rest (a.put o.dst v') w') : wpList Try.prog ops Q (o :: rest) a w :=
  wpList_plain hgd fun _ hK => wp_joinE s x ho base V VX l m hs hV hx hX hl hm hb fun v' w' h1 h2 => hK _ _ (h v' w' h1 h2)
theorem grown_er {W w' : World} {base : Nat} {V : Value} {l : El} (hN : Er W base V l) (hG : W.grownBy w' V.ownBlock) {w : World} (hk : Kp w W []) (hb : w.heap.size ≤ base) : Kp w w' [] := grown_own hN hG hk hb
/-- How many there may be. -/
theorem Ok.len {T S : Nat} {L : El} (h : Ok T S L) (ht : T ≤ 16) (hs : S ≤ 32) : L.length ≤ 600 := by
  have all : ∀ (L : El), (∀ x ∈ L, x.1 < 16 ∧ x.2.1 < 32) → L.length = (ks.map fun k => (q L k.1 k.2).length).sum := by
    intro L
    induction L with
    | nil => intro _; rw [sum_zero]; rfl; intro k _; simp [q_nil]
    | cons x L ih =>
      intro hx
      have ih := ih (fun y hy => hx y (by simp [hy]))
      have hx0 := hx x (by simp)
      rw [sum_upd (f := fun k => (q L k.1 k.2).length) (f' := fun k => (q (x :: L) k.1 k.2).length) (k0 := (x.1, x.2.1)) (c := 1) nodup_ks (mem_ks.2 hx0), ← ih]
      · simp
      · intro k _ hne
        rw [q_cons, if_neg (fun (e : x.1 = k.1 ∧ x.2.1 = k.2) => hne (Prod.ext e.1.symm e.2.symm))]
      · simp [q_cons]
  have hin : ∀ x ∈ L, x.1 < 16 ∧ x.2.1 < 32 := fun x hx => by have := h.inn x hx; omega
  have h1 := all L hin
  have h2 := used_sum L hin
  have h3 := h.few
  have h4 : (ks.map fun k => (q L k.1 k.2).length).sum ≤ (ks.map fun k => lenQ L k + 1).sum := sum_le fun k _ => by
    unfold lenQ
    split
    · omega
    · rename_i hn
      have := h.one k.1 k.2 (by omega)
      omega
  have h5 : ∀ l : List (Nat × Nat), (l.map fun k => lenQ L k + 1).sum = (l.map (lenQ L)).sum + l.length := by
    intro l
    induction l with
    | nil => rfl
    | cons k l ih => simp only [List.map_cons, List.sum_cons, List.length_cons, ih]; omega
  rw [h5, ← h2] at h4
  have h6 : ks.length = 512 := by decide +kernel
  omega
end Go.Proofs.Ytoenipaccnpihaa
