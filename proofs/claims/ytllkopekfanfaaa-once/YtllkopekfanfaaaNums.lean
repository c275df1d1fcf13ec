/- Numbers in a slice: reading, appending, cloning, comparing, deleting. -/
import Derived.Test.YtllkopekfanfaaaOwn
namespace Go.Proofs.Ytllkopekfanfaaa
open Go.RowKit Go.Shelf Go.Lib Go.Sort

/-- A list of numbers as a slice. -/
def icells (l : List Int) : List Value := l.map fun x => .int .i64 x
def Ns (w : World) (base : Nat) (v : Value) (l : List Int) : Prop := w.ownsRow base 3 1 v l.length (icells l)
theorem Ns.nil (w : World) (base : Nat) : Ns w base (.slice none 0 0) [] := ⟨rfl, .inl ⟨rfl, rfl⟩⟩
theorem Ns.kp {w w' : World} {base : Nat} {v : Value} {l : List Int} {rows : List Nat} (h : Ns w base v l) (hk : Kp w w' rows) (hr : ∀ g, v.ownBlock = some g → g ∉ rows) : Ns w' base v l := owns_kp h hk hr
theorem Ns.keep {w w' : World} {base : Nat} {v : Value} {l : List Int} (h : Ns w base v l) (hk : Kp w w' []) : Ns w' base v l := owns_kp h hk (by simp)
theorem Ns.low {w : World} {base base' : Nat} {v : Value} {l : List Int} (h : Ns w base v l) (hb : base' ≤ base) : Ns w base' v l := owns_low h hb
theorem Ns.slice {w : World} {base : Nat} {v : Value} {l : List Int} (h : Ns w base v l) : ∃ ao cap, v = .slice ao l.length cap := owns_shape h
theorem Ns.some_of {w : World} {base : Nat} {ad : Addr} {m cap : Nat} {l : List Int} (h : Ns w base (.slice (some ad) m cap) l) : ∃ g, ad = ⟨g, 0, none⟩ := by
  rcases h.2 with ⟨hv, -⟩ | ⟨g, cap', cur, hv, -⟩
  · cases hv
  · simp only [Value.slice.injEq, Option.some.injEq] at hv
    exact ⟨g, hv.1⟩
theorem Ns.none_of {w : World} {base : Nat} {m cap : Nat} {l : List Int} (h : Ns w base (.slice none m cap) l) : l = [] ∧ m = 0 ∧ cap = 0 := by
  rcases h.2 with ⟨hv, h0⟩ | ⟨g, cap', cur, hv, -⟩
  · simp only [Value.slice.injEq, true_and] at hv
    exact ⟨List.eq_nil_of_length_eq_zero h0, hv⟩
  · cases hv
theorem Ns.open {w : World} {base g m cap : Nat} {l : List Int} (h : Ns w base (.slice (some ⟨g, 0, none⟩) m cap) l) : ∃ cur, m = l.length ∧ base ≤ g ∧ w.heap[g]? = some (.cells cur 3 (0, 0)) ∧ l.length ≤ cap ∧ cap ≤ maxLen ∧ cur.size = cap ∧ cur.toList.take l.length = icells l := by
  rcases h.2 with ⟨hv, -⟩ | ⟨g', cap', cur, hv, hb, h2, h3, h4, h5, h6⟩
  · cases hv
  · simp only [Value.slice.injEq, Option.some.injEq, Addr.mk.injEq] at hv
    obtain ⟨⟨rfl, -⟩, rfl, rfl⟩ := hv
    exact ⟨cur, rfl, hb, h2, h3, h4, by omega, by rw [Nat.mul_one] at h6; exact h6⟩
theorem icells_at (l : List Int) (k : Nat) (hk : k < l.length) : (icells l)[k]? = some (.int .i64 l[k]!) := by
  simp [icells, getElem!_pos, hk]
theorem Ns.at {w : World} {base : Nat} {ao : Option Addr} {m cap : Nat} {l : List Int} (h : Ns w base (.slice ao m cap) l) {k : Nat} (hk : k < l.length) {x : Int} (e : l[k]! = x) :
    ∃ g, ao = some ⟨g, 0, none⟩ ∧ w.cell? ⟨g, k, none⟩ = some (.int .i64 x) ∧ w.frozen? ⟨g, k, none⟩ = false := by
  cases ao with
  | none => rw [h.none_of.1] at hk; simp at hk
  | some ad =>
    obtain ⟨g, rfl⟩ := h.some_of
    obtain ⟨cur, -, -, hg, -, -, -, ht⟩ := h.open
    refine ⟨g, rfl, ?_, by simp [World.frozen?, hg]⟩
    have e1 : (cur.toList.take l.length)[k]? = (icells l)[k]? := by rw [ht]
    rw [List.getElem?_take_of_lt hk, icells_at l k hk, e, Array.getElem?_toList] at e1
    simp [World.cell?, hg, e1]
theorem Ns.push {w : World} {base : Nat} {v : Value} {l : List Int} {x : Int} (h : w.ownsRow base 3 1 v (l.length + 1) (icells l ++ [.int .i64 x])) : Ns w base v (l ++ [x]) := by
  unfold Ns icells
  simpa [icells] using h
theorem Try.infoI : (Try.prog.info? 3).map (fun i => (i.zero, i.size, i.bytes)) = some (some (.int .i64 0), 1, 8) := by kernel_rfl
theorem wpList_pushI {ops : Array Oper} {rest : List Oper} {o : Oper} {a : Act} {W : World} {Q : Exit → Act → World → Prop} (hgd : o.guard = none) (s x : Operand)
    (ho : o.op = .call { callee := .builtin .append, args := #[s, x], argTypes := #[54, 54] }) (base : Nat) (V : Value) (l : List Int) (h : Int) (g : Nat)
    (hs : a.eval s = V) (hown : Ns W base V l) (hx : a.eval x = .slice (some ⟨g, 0, none⟩) 1 1) (hc : W.cell? ⟨g, 0, none⟩ = some (.int .i64 h)) (hm : l.length ≤ 100000) (hb : base ≤ W.heap.size)
    (K : ∀ v' w', Ns w' base v' (l ++ [h]) → W.grownBy w' V.ownBlock → wpList Try.prog ops Q rest (a.put o.dst v') w') :
    wpList Try.prog ops Q (o :: rest) a W := by
  obtain ⟨i0, hi, hz0, hz1, hz2⟩ := info_parts Try.infoI
  exact wpList_append_own _ hgd s x 54 ho base 3 i0 (.int .i64 0) 1 8 Try.underlying54 hi hz0 hz1 hz2 rfl (by decide) V l.length (icells l) hs hown ⟨g, 0, none⟩ 1 1 [.int .i64 h] hx rfl (by
      intro j u hu
      match j with
      | 0 =>
        simp at hu
        subst hu
        rw [Addr.add_lit]
        exact hc
      | j + 1 => simp at hu) (by simp; rfl) (by unfold maxLen; omega) (by omega) hb (fun v' w' h1 h2 _ => K v' w' (Ns.push h1) h2)
theorem grown_own {W w' : World} {base e s n : Nat} {V : Value} {xs : List Value} (hN : W.ownsRow base e s V n xs) (hG : W.grownBy w' V.ownBlock) {w : World} (hk : Kp w W []) (hb : w.heap.size ≤ base) : Kp w w' [] :=
  hk.past (Kp.ofGrown (rows := V.ownBlock.toList) hG (by intro g hg; simp [hg])) (by
    intro g hg hl
    simp at hg
    have := (owns_block hN hg).1
    omega)

theorem icells_one (l : List Int) : ∀ u ∈ icells l, u.oneCell' = true := by
  intro u hu
  obtain ⟨x, -, rfl⟩ := List.mem_map.1 hu
  rfl
theorem clone_any (w : World) (v : Value) (l : List Int) (h : Ns w 0 v l) (hl : l.length ≤ 100000) : Calls Try.prog 81 #[v] w fun e w' => ∃ v', e = .returned v' ∧ Ns w' w.heap.size v' l ∧ Kp w w' [] := by
  obtain ⟨ao, cap, rfl⟩ := h.slice
  cases ao with
  | none =>
    obtain ⟨rfl, -, -⟩ := h.none_of
    refine (AnyE.slices_Clone_nil Try.lCl _ _ w).mono ?_
    rintro e w' ⟨rfl, rfl⟩
    exact ⟨_, rfl, Ns.nil _ _, Kp.refl _ _⟩
  | some ad =>
    obtain ⟨g, rfl⟩ := h.some_of
    obtain ⟨i0, hi, hz0, hz1, hz2⟩ := info_parts Try.infoI
    refine (AnyE.slices_Clone Try.lCl i0 (.int .i64 0) 1 8 hi hz0 hz1 hz2 rfl (by decide) (by intro W; kernel_rfl) g 0 l.length cap (icells l) w (by simp [icells]) (by unfold maxLen; omega) (by omega) (fun j u hu => by
      have hj : j < l.length := by
        have := List.getElem?_eq_some_iff.1 hu
        obtain ⟨h1, -⟩ := this
        simpa [icells] using h1
      rw [icells_at l j hj] at hu
      simp only [Option.some.injEq] at hu
      subst hu
      obtain ⟨g', e, hc, -⟩ := h.at hj rfl
      simp only [Option.some.injEq, Addr.mk.injEq, and_true] at e
      subst e
      rw [Nat.zero_add]
      exact hc) (icells_one l)).mono ?_
    rintro e w' ⟨v', rfl, h1, -, h2⟩
    exact ⟨v', rfl, h1, Kp.of_below h2⟩
theorem allEq_int : ∀ (l m : List Int), Lib.allEq (fun x y : Int => x == y) l m = decide (l = m)
  | [], [] => rfl
  | [], y :: m => rfl
  | x :: l, [] => rfl
  | x :: l, y :: m => by
    simp only [Lib.allEq, allEq_int l m]
    by_cases h : x = y <;> simp [h]
/-- slices.Equal, where one is nil. -/
theorem eq_nils {w : World} {v1 v2 : Value} {l m : List Int} (h1 : Ns w 0 v1 l) (h2 : Ns w 0 v2 m) (hn : l = [] ∨ m = []) (hl : l.length ≤ 100000) (hm : m.length ≤ 100000) :
    Calls Try.prog 70 #[v1, v2] w fun e w' => e = .returned (.bool (decide (l = m))) ∧ Kp w w' [] := by
  obtain ⟨a1, c1, rfl⟩ := h1.slice
  obtain ⟨a2, c2, rfl⟩ := h2.slice
  by_cases he : l.length = m.length
  · have e1 : l = [] ∧ m = [] := by
      rcases hn with rfl | rfl
      · exact ⟨rfl, List.eq_nil_of_length_eq_zero he.symm⟩
      · exact ⟨List.eq_nil_of_length_eq_zero he, rfl⟩
    obtain ⟨rfl, rfl⟩ := e1
    clear h1 h2 hn he
    simp only [List.length_nil]
    go_enter Try.func70, Try.ntmps70
    go_wp2_with fail
    go_loopw [13] (fun v wr => v = .int .i64 0 ∧ wr = w) (fun _ _ => 0)
    case atStart => exact ⟨rfl, rfl⟩
    case round =>
      obtain ⟨rfl, rfl⟩ := hrel
      go_wp2
      go_ret
      exact ⟨rfl, Kp.refl _ _⟩
  · have hd : decide (l = m) = false := by
      simp
      rintro rfl
      exact he rfl
    rw [hd]
    obtain ⟨a, ha⟩ : ∃ a, l.length = a := ⟨_, rfl⟩
    obtain ⟨b, hb⟩ : ∃ b, m.length = b := ⟨_, rfl⟩
    rw [ha, hb] at he ⊢
    have hne : ((a : Int) != (b : Int)) = true := by simp; omega
    clear h1 h2 hn hd ha hb
    go_enter Try.func70, Try.ntmps70
    go_wp2
    go_ret
    exact ⟨rfl, Kp.refl _ _⟩
theorem eq_any {w : World} {v1 v2 : Value} {l m : List Int} (h1 : Ns w 0 v1 l) (h2 : Ns w 0 v2 m) (hl : l.length ≤ 100000) (hm : m.length ≤ 100000) :
    Calls Try.prog 70 #[v1, v2] w fun e w' => e = .returned (.bool (decide (l = m))) ∧ Kp w w' [] := by
  obtain ⟨a1, c1, e1⟩ := h1.slice
  obtain ⟨a2, c2, e2⟩ := h2.slice
  by_cases hn : l = [] ∨ m = []
  · exact eq_nils h1 h2 hn hl hm
  · cases a1 with
    | none => rw [e1] at h1; exact (hn (.inl h1.none_of.1)).elim
    | some d1 =>
      cases a2 with
      | none => rw [e2] at h2; exact (hn (.inr h2.none_of.1)).elim
      | some d2 =>
        rw [e1] at h1 ⊢
        rw [e2] at h2 ⊢
        obtain ⟨g1, rfl⟩ := h1.some_of
        obtain ⟨g2, rfl⟩ := h2.some_of
        refine (AnyE.slices_Equal Try.lEq (Value.int .i64) (fun x y => x == y) (NeqAt.int _ _ _) g1 0 l.length c1 g2 0 m.length c2 l m w (Nat.le_refl _) (Nat.le_refl _) (by omega) (by omega) (fun j hj => ?_) (fun j hj => ?_)).mono ?_
        · obtain ⟨g', e, hc, -⟩ := h1.at hj rfl
          simp only [Option.some.injEq, Addr.mk.injEq, and_true] at e
          subst e
          rw [Nat.zero_add]
          exact hc
        · obtain ⟨g', e, hc, -⟩ := h2.at hj rfl
          simp only [Option.some.injEq, Addr.mk.injEq, and_true] at e
          subst e
          rw [Nat.zero_add]
          exact hc
        · rintro e w' ⟨rfl, q, rfl⟩
          rw [List.take_of_length_le (Nat.le_refl _), List.take_of_length_le (Nat.le_refl _), allEq_int]
          exact ⟨rfl, Kp.drewN _ _ _⟩
theorem Ns.holds {w : World} {base g m cap : Nat} {l : List Int} (h : Ns w base (.slice (some ⟨g, 0, none⟩) m cap) l) : Holds (Value.int .i64) w g 0 l.toArray := by
  intro j hj
  have hj' : j < l.length := by simpa using hj
  obtain ⟨g', e, hc, hf⟩ := h.at hj' rfl
  simp only [Option.some.injEq, Addr.mk.injEq, and_true] at e
  subst e
  rw [Nat.zero_add]
  refine ⟨?_, hf⟩
  rw [hc]
  simp
/-- slices.Delete of one: the row loses it. -/
theorem del_any {w : World} {base g m cap i : Nat} {l : List Int} (h : Ns w base (.slice (some ⟨g, 0, none⟩) m cap) l) (hi : i < l.length) :
    Calls Try.prog 86 #[.slice (some ⟨g, 0, none⟩) m cap, .int .i64 i, .int .i64 (i + 1)] w fun e w' => e = .returned (.slice (some ⟨g, 0, none⟩) (m - 1) cap) ∧ Ns w' base (.slice (some ⟨g, 0, none⟩) (m - 1) cap) (l.take i ++ l.drop (i + 1)) ∧ Kp w w' [g] := by
  obtain ⟨cur, rfl, hb, hg, h3, h4, h5, h6⟩ := h.open
  obtain ⟨i0, hi0, hz0, hz1, hz2⟩ := info_parts Try.infoI
  have hc := AnyE.slices_Delete Try.lDel (Value.int .i64) (fun _ => rfl) 0 (Try.zeroValue3) i0 hi0 hz1 g 0 cap i (i + 1) l.toArray w h.holds (by simpa using h3) (by unfold maxLen at h4; omega) (by omega) (by simp; omega)
  simp only [List.size_toArray, show i + 1 - i = 1 by omega] at hc
  rw [show ((i + 1 : Nat) : Int) = (i : Int) + 1 by omega] at hc
  refine hc.mono ?_
  rintro e w' ⟨rfl, q, rfl⟩
  have hlen : (l.take i ++ l.drop (i + 1)).length = l.length - 1 := by simp; omega
  refine ⟨rfl, ?_, ?_⟩
  · unfold Ns
    rw [hlen]
    refine ⟨by simp only [icells, List.length_map, hlen]; omega, .inr ⟨g, cap, putCells (Value.int .i64) 0 (l.toArray.toList.take i ++ l.toArray.toList.drop (i + 1) ++ List.replicate 1 0).toArray cur, rfl, hb, ?_, by omega, h4, by simp [putCells, h5], ?_⟩⟩
    · simp [putRow, mapBlock, Sort.ahead, Array.getElem?_modify, hg, onCells]
    · apply List.ext_getElem?
      intro j
      by_cases hj : j < l.length - 1
      · have hjc : j < cur.size := by omega
        rw [Nat.mul_one, List.getElem?_take_of_lt hj, Array.getElem?_toList, icells_at _ _ (by rw [hlen]; exact hj)]
        simp only [putCells, Array.getElem?_mapIdx, Nat.zero_add, Nat.sub_zero, Nat.zero_le, true_and]
        rw [Array.getElem?_eq_getElem hjc]
        simp only [Option.map_some, Option.some.injEq]
        rw [if_pos (by simp; omega)]
        refine congrArg (Value.int .i64) ?_
        have e2 : (l.take i ++ l.drop (i + 1) ++ List.replicate 1 0).toArray[j]! = (l.take i ++ l.drop (i + 1) ++ List.replicate 1 0)[j]! := by simp
        rw [e2, getElem!_pos _ j (by simp; omega), getElem!_pos _ j (by rw [hlen]; exact hj), List.getElem_append_left (by rw [hlen]; exact hj)]
      · rw [Nat.mul_one, List.getElem?_take_eq_none (by omega), List.getElem?_eq_none (by simp only [icells, List.length_map, hlen]; omega)]
  · refine ⟨rfl, rfl, rfl, by simp [putRow, mapBlock, Sort.ahead], fun k hk hne => ?_⟩
    have hne' : g ≠ k := fun e => hne (by simp [e])
    simp [putRow, mapBlock, Sort.ahead, Array.getElem?_modify, hne']
end Go.Proofs.Ytllkopekfanfaaa
