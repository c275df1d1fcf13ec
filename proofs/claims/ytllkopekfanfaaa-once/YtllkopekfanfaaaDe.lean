/- slices.Delete of the first message; Clone and Equal of messages. -/
import Derived.BigQuiet
import Derived.Deep.RegionHeldLaw
import Derived.Shelf.SlicesE.Clone
import Derived.Test.YtllkopekfanfaaaIw
namespace Go.Proofs.Ytllkopekfanfaaa
open Go.RowKit Go.Shelf Go.Lib Go.Sort Go.Maps
attribute [local go_sem] Oper.semAt_some

theorem neq34 (x1 x2 y1 y2 : Int) (W : World) : (binOp .neq 34 (.agg #[.int .i64 x1, .int .i64 x2]) (.agg #[.int .i64 y1, .int .i64 y2])).run Try.prog W = .ok (.bool (!(x1 == y1 && x2 == y2))) W := by
  cases h1 : (x1 == y1) <;> cases h2 : (x2 == y2) <;> go_simp
theorem take_nx {l : Ml} {k : Nat} {x : Int × Int} (h : l[k]? = some x) : l.take (k + 1) = l.take k ++ [x] := by
  rw [List.take_add_one, h]
  rfl
set_option maxRecDepth 100000 in
set_option maxHeartbeats 2000000 in
/-- Equal. -/
theorem eqm_any (w : World) (b1 b2 : Nat) (v1 v2 : Value) (l1 l2 : Ml) (h1 : Mr w b1 v1 l1) (h2 : Mr w b2 v2 l2) (hl : l1.length ≤ 100000) :
    Calls Try.prog 40 #[v1, v2] w fun e w' => e = .returned (.bool (decide (l1 = l2))) ∧ Kp w w' [] := by
  obtain ⟨ao1, cap1, rfl⟩ := h1.slice
  obtain ⟨ao2, cap2, rfl⟩ := h2.slice
  obtain ⟨N1, hN1⟩ : ∃ N, l1.length = N := ⟨_, rfl⟩
  obtain ⟨N2, hN2⟩ : ∃ N, l2.length = N := ⟨_, rfl⟩
  obtain ⟨B, hB⟩ : ∃ B, decide (l1 = l2) = B := ⟨_, rfl⟩
  rw [hN1] at hl
  rw [hN1, hN2, hB]
  have H := hid (And.intro h1 h2)
  have HN := hid (And.intro hN1 hN2)
  have HB := hid hB
  clear h1 h2 hN1 hN2 hB
  by_cases hn : N1 = N2
  · have hn := hn.symm
    subst hn
    go_enter Try.func40, Try.ntmps40
    go_wp2_with fail
    go_loopw [13] (fun vi wr => ∃ k : Nat, k ≤ N2 ∧ vi = .int .i64 k ∧ Hid (l1.take k = l2.take k ∧ Kp w wr [])) (fun vi _ => N2 - (intOf vi).toNat)
    case atStart => exact ⟨0, by omega, rfl, hid ⟨by simp, Kp.refl _ _⟩⟩
    case round =>
      obtain ⟨k, hk, rfl, hR⟩ := hrel
      by_cases hlt : k < N2
      · have hltI : (k : Int) < N2 := by omega
        have hk1 : k < l1.length := by have := HN.out; omega
        have hk2 : k < l2.length := by have := HN.out; omega
        have hx0 := List.getElem?_eq_getElem hk1
        have hy0 := List.getElem?_eq_getElem hk2
        obtain ⟨x1, x2, hx⟩ : ∃ x1 x2, l1[k] = (x1, x2) := ⟨l1[k].1, l1[k].2, rfl⟩
        obtain ⟨y1, y2, hy⟩ : ∃ y1 y2, l2[k] = (y1, y2) := ⟨l2[k].1, l2[k].2, rfl⟩
        rw [hx] at hx0
        rw [hy] at hy0
        obtain ⟨g1, rfl, c1, c2⟩ := (H.out.1.keep hR.out.2).at hx0
        obtain ⟨g2, rfl, d1, d2⟩ := (H.out.2.keep hR.out.2).at hy0
        have hnq := neq34 x1 x2 y1 y2
        have HXY := hid (And.intro hx0 hy0)
        clear hx hy hx0 hy0 hk1 hk2
        cases hq : (x1 == y1 && x2 == y2) with
        | true =>
          rw [hq] at hnq
          have R2 := hid (show l1.take (k + 1) = l2.take (k + 1) ∧ Kp w wr.drew [] by
            rw [take_nx HXY.out.1, take_nx HXY.out.2, hR.out.1]
            simp at hq
            rw [hq.1, hq.2]
            exact ⟨rfl, hR.out.2.trans (Kp.drew _ _)⟩)
          clear hq hR
          go_wp2_with fail
          go_region_held_law (fun W => W.cell? ⟨g1, k * 2, none⟩ = some (.int .i64 x1) ∧ W.cell? ⟨g1, k * 2 + 1, none⟩ = some (.int .i64 x2) ∧ W.cell? ⟨g2, k * 2, none⟩ = some (.int .i64 y1) ∧ W.cell? ⟨g2, k * 2 + 1, none⟩ = some (.int .i64 y2)) (exact ⟨c1, c2, d1, d2⟩) (fail)
          go_wp2
          go_roundw
          case rel => exact ⟨k + 1, by omega, by simp, R2⟩
          case measure => simp [intOf]; omega
        | false =>
          rw [hq] at hnq
          have hBf : B = false := by
            rw [← HB.out, decide_eq_false_iff_not]
            rintro rfl
            have h1 := Option.some.inj (HXY.out.1.symm.trans HXY.out.2)
            simp only [Prod.mk.injEq] at h1
            simp [h1.1, h1.2] at hq
          subst hBf
          have R2 := hid (hR.out.2.trans (Kp.drew wr []))
          clear hq hR
          go_wp2_with fail
          go_region_held_law (fun W => W.cell? ⟨g1, k * 2, none⟩ = some (.int .i64 x1) ∧ W.cell? ⟨g1, k * 2 + 1, none⟩ = some (.int .i64 x2) ∧ W.cell? ⟨g2, k * 2, none⟩ = some (.int .i64 y1) ∧ W.cell? ⟨g2, k * 2 + 1, none⟩ = some (.int .i64 y2)) (exact ⟨c1, c2, d1, d2⟩) (fail)
          go_wp2
          go_ret
          exact ⟨rfl, R2.out⟩
      · have hltI : ¬ (k : Int) < N2 := by omega
        have hBt : B = true := by
          rw [← HB.out, decide_eq_true_iff]
          have := hR.out.1
          rw [List.take_of_length_le (by have := HN.out; omega), List.take_of_length_le (by have := HN.out; omega)] at this
          exact this
        subst hBt
        go_wp2
        go_ret
        exact ⟨rfl, hR.out.2⟩
  · have hne : ((N1 : Int) == N2) = false := by rw [beq_eq_false_iff_ne]; omega
    have hBf : B = false := by
      rw [← HB.out, decide_eq_false_iff_not]
      rintro rfl
      have := HN.out
      omega
    subst hBf
    go_enter Try.func40, Try.ntmps40
    go_wp2
    go_ret
    exact ⟨rfl, Kp.refl _ _⟩
theorem Wm.keep {w w' : World} {v : Value} {l : Ml} (h : Wm w v l) (hk : Kp w w' []) : Wm w' v l := by
  obtain ⟨ao, cap, e, h1, h2⟩ := h
  refine ⟨ao, cap, e, fun ad had j u hu => ?_, h2⟩
  have h := h1 _ had j u hu
  have hlt : (ad.add j).block < w.heap.size := Decidable.byContradiction fun hn => by
    have h0 : w.heap[(ad.add j).block]? = none := Array.getElem?_eq_none (by omega)
    simp [World.cell?, h0] at h
  unfold World.cell? at h ⊢
  rw [hk.block _ hlt (by simp)]
  exact h
theorem eql60 (w : World) (a : Option Addr) (n c n' c' : Nat) : (binOp .eql 60 (.slice a n c) (.slice none n' c')).run Try.prog w = .ok (.bool a.isNone) w := Lib.run_eql_slice_nil w _ _ a n c n' c' Try.underlying60
set_option maxRecDepth 100000 in
set_option maxHeartbeats 2000000 in
/-- Clone. -/
theorem clm_any (w : World) (v : Value) (l : Ml) (h : Mr w 0 v l) (hl : l.length ≤ 100000) : Calls Try.prog 56 #[v] w fun e w' => ∃ v', e = .returned v' ∧ Mr w' w.heap.size v' l ∧ Kp w w' [] := by
  obtain ⟨ao, cap, rfl⟩ := h.slice
  cases ao with
  | none =>
    obtain ⟨rfl, -, rfl⟩ := h.none_of
    have q := eql60
    clear h
    go_enter Try.func56, Try.ntmps56
    go_wp2
    go_ret
    exact ⟨_, rfl, Mr.nil _ _, Kp.refl _ _⟩
  | some ad =>
    obtain ⟨g, rfl⟩ := h.some_of
    have q := eql60
    have HW := hid h.wm
    have HL := hid hl
    obtain ⟨n, hn⟩ : ∃ n, l.length = n := ⟨_, rfl⟩
    rw [hn]
    have HN := hid hn
    clear h hl hn
    go_enter Try.func56, Try.ntmps56
    go_wp2_with (at_builtin; refine wpList_joinM rfl _ _ rfl w.heap.size (.slice (some ⟨w.heap.size, 0, none⟩) 0 0) (.slice (some ⟨g, 0, none⟩) n cap) [] l rfl ?qa rfl ?qb (by simp) ?qc (by simp) ?_)
    case qa => exact World.ownsRow_made w #[] 0 (Nat.le_refl _) (Nat.zero_le _) (by simp)
    case qb =>
      have h := HW.out
      simp only [HN.out] at h
      exact h.keep (Kp.alloc _ _ _)
    case qc => have := HL.out; omega
    intro v' w1 hown hgrow
    have HO := hid (And.intro hown (Kp.ofGrown hgrow (rows := [w.heap.size]) (fun g hg => by simp [Value.ownBlock] at hg; simp [hg])))
    clear hown hgrow
    go_wp2
    go_ret
    exact ⟨v', rfl, by simpa using HO.out.1, (Kp.alloc w _ []).past HO.out.2 (fun k hk hl => by simp at hk; omega)⟩

theorem step_append_runI {ops : Array Oper} {o : Oper} {a : Act} {w : World} {K : Act → World → Prop} {Q : Exit → Act → World → Prop} {E : Prop}
    (hg : o.guard = none) (d x : Operand) (dT sT : TypeId) (hop : o.op = Op.call { callee := Callee.builtin Builtin.append, args := #[d, x], argTypes := #[dT, sT] })
    (v u : Value) (hd : a.eval d = v) (hx : a.eval x = u) {v' : Value} {w' : World} (hr : (Builtin.append_ #[dT, sT] o.type #[v, u]).run Try.prog w = .ok v' w') (hK : K (a.put o.dst v') w') :
    if Region.wanted o (yielded ops a.tmps) = true then Oper.wp Try.prog o a w K Q else E := by
  have hw : Region.wanted o (yielded ops a.tmps) = true := by simp [Region.wanted, hg]
  rw [if_pos hw]
  unfold Oper.wp
  simp [execOp, hop, resolve, invoke, builtin, hd, hx, hr, Result.andThen]
  exact hK
theorem run_clear_row2 (w : World) (ty : TypeId) (g o c : Nat) (cur : Array Value) (hg : w.heap[g]? = some (.cells cur 34 (0, 0))) (hfit : o + 2 ≤ cur.size) :
    (Builtin.clear_ #[60] ty #[.slice (some ⟨g, o, none⟩) 1 c]).run Try.prog w = .ok (.tuple #[]) (w.setRow g (cur.toList.take o ++ [Value.int .i64 0, Value.int .i64 0] ++ cur.toList.drop (o + 2)).toArray) := by
  have hst := run_storeCells_at Try.prog g o 34 [.int .i64 0, .int .i64 0] 0 cur w hg (by simpa using hfit) (by decide)
  simp only [Nat.add_zero] at hst
  have hz : (Builtin.zeroCells (Value.agg #[.int .i64 0, .int .i64 0]).cells 1).toList = [.int .i64 0, .int .i64 0] := by
    simp [Builtin.zeroCells, Value.cells]
    rfl
  simp [Builtin.clear_, run_underlying Try.underlying60, Try.zeroValue34, hz, hst]
theorem del_cells (cur : List Value) (y : Int × Int) (r : Ml) (hS : (y :: r).length * 2 ≤ cur.length) :
    ∃ c1, c1 = mcells r ++ cur.drop (mcells r).length ∧ c1.length = cur.length ∧
      (c1.take (r.length * 2) ++ [Value.int .i64 0, Value.int .i64 0] ++ c1.drop (r.length * 2 + 2)).length = cur.length ∧ (c1.take (r.length * 2) ++ [Value.int .i64 0, Value.int .i64 0] ++ c1.drop (r.length * 2 + 2)).take (r.length * 2) = mcells r := by
  have hlr := mcells_length r
  simp only [List.length_cons] at hS
  refine ⟨_, rfl, ?_, ?_, ?_⟩
  · simp only [List.length_append, List.length_drop, hlr]
    omega
  · simp only [List.length_append, List.length_take, List.length_drop, hlr, List.length_cons, List.length_nil]
    omega
  · have h1 : (mcells r ++ cur.drop (mcells r).length).take (r.length * 2) = mcells r := by
      rw [List.take_append_of_le_length (by omega), List.take_of_length_le (by omega)]
    rw [h1, List.append_assoc, List.take_append_of_le_length (by omega), List.take_of_length_le (by omega)]
set_option maxHeartbeats 4000000 in
set_option maxRecDepth 100000 in
/-- The first one is deleted. -/
theorem del_row (w : World) (g cap m : Nat) (cur : Array Value) (y : Int × Int) (r : Ml) (hg : w.heap[g]? = some (.cells cur 34 (0, 0))) (hT : cur.toList.take ((y :: r).length * 2) = mcells (y :: r)) (hsz : cur.size = cap * 2) (hm : r.length = m) (hnc : m + 1 ≤ cap) (hcm : cap ≤ 9223372036854775807) :
    Calls Try.prog 77 #[.slice (some ⟨g, 0, none⟩) (m + 1) cap, .int .i64 0, .int .i64 1] w fun e w' => e = .returned (.slice (some ⟨g, 0, none⟩) m cap) ∧ Kp w w' [g] ∧ ∃ c2, w'.heap[g]? = some (.cells c2 34 (0, 0)) ∧ c2.size = cap * 2 ∧ c2.toList.take (m * 2) = mcells r := by
  obtain ⟨c1, hc1, hl1, hl2, ht2⟩ := del_cells cur.toList y r (by simp only [Array.length_toList, List.length_cons]; omega)
  obtain ⟨i0, hi0, hz0, hz1, hz2⟩ := info_parts Try.infoM
  have hlr := mcells_length r
  have hsrc : ∀ j v, (mcells r)[j]? = some v → w.cell? ⟨g, 2 + j, none⟩ = some v := fun j v hj => by
    refine cells_of hg ?_
    have hj' : j < r.length * 2 := by
      have := (List.getElem?_eq_some_iff.1 hj).1
      omega
    rw [← List.getElem?_take_of_lt (j := (y :: r).length * 2) (by simp only [List.length_cons]; omega), hT, show mcells (y :: r) = encM y ++ mcells r from rfl, List.getElem?_append_right (by show 2 ≤ _; omega)]
    rw [show 2 + j - (encM y).length = j by show 2 + j - 2 = j; omega]
    exact hj
  obtain ⟨A, hA, hsrcA⟩ : ∃ A : Addr, (if cap = 1 then some (⟨g, 0, none⟩ : Addr) else some ⟨g, 2, none⟩) = some A ∧ ∀ j v, (mcells r)[j]? = some v → w.drew.cell? (A.add j) = some v := by
    by_cases h : cap = 1
    · refine ⟨⟨g, 0, none⟩, by simp [h], fun j v hj => ?_⟩
      have := (List.getElem?_eq_some_iff.1 hj).1
      omega
    · refine ⟨⟨g, 2, none⟩, by simp [h], fun j v hj => ?_⟩
      rw [Addr.add_lit]
      exact hsrc j v hj
  have hap : ∀ ty, (Builtin.append_ #[60, 60] ty #[.slice (some ⟨g, 0, none⟩) 0 cap, .slice (some A) m (cap - 1)]).run Try.prog w.drew = .ok (.slice (some ⟨g, 0, none⟩) m cap) (w.drew.setRow g c1.toArray) := fun ty => by
    have h := run_append_room (P := Try.prog) w.drew 60 ty 34 i0 Try.underlying60 hi0 g 0 cap cur hg A m (cap - 1) (mcells r) (by rw [hz1, hlr, hm]) hsrcA (mcells_one r) (by omega) (by omega)
    rw [h, hc1, Nat.zero_mul, Nat.zero_add, Nat.zero_add]
    simp
  have hcl : ∀ ty c, (Builtin.clear_ #[60] ty #[.slice (some ⟨g, m * 2, none⟩) 1 c]).run Try.prog (w.drew.setRow g c1.toArray) = .ok (.tuple #[]) ((w.drew.setRow g c1.toArray).setRow g (c1.take (r.length * 2) ++ [Value.int .i64 0, Value.int .i64 0] ++ c1.drop (r.length * 2 + 2)).toArray) := fun ty c => by
    rw [hm]
    exact run_clear_row2 _ ty g (m * 2) c c1.toArray (setRow_heap w.drew g cur _ 34 _ hg) (by rw [List.size_toArray, hl1, Array.length_toList]; omega)
  have hfin : ∀ w', w' = (w.drew.setRow g c1.toArray).setRow g (c1.take (r.length * 2) ++ [Value.int .i64 0, Value.int .i64 0] ++ c1.drop (r.length * 2 + 2)).toArray → Kp w w' [g] ∧ ∃ c2 : Array Value, w'.heap[g]? = some (.cells c2 34 (0, 0)) ∧ c2.size = cap * 2 ∧ c2.toList.take (m * 2) = mcells r := by
    rintro w' rfl
    refine ⟨((Kp.drew w [g]).trans (Kp.setRow w.drew g _)).trans (Kp.setRow _ g _), _, setRow_heap _ g c1.toArray _ 34 _ (setRow_heap w.drew g cur c1.toArray 34 _ hg), ?_, ?_⟩
    · rw [List.size_toArray, hl2, Array.length_toList, hsz]
    · rw [← hm]
      exact ht2
  have HF := hid hfin
  have mixed : Try.prog.follows .mixedOrders = true := by kernel_rfl
  have hb1 : ¬ (cap = m) := by omega
  have hb2 : m ≤ cap := by omega
  have hb3 : 1 ≤ cap := by omega
  have hb4 : (m : Int) ≤ (m : Int) + 1 := by omega
  have hb5 : (0 : Int) ≤ (m : Int) + 1 := by omega
  have hb6 : (1 : Int) ≤ (m : Int) + 1 := by omega
  clear hg hT hsz hm hnc hc1 hl1 hl2 ht2 hi0 hz0 hz1 hz2 hlr hsrc hsrcA hfin
  generalize c1.toArray = C1 at *
  generalize (c1.take (r.length * 2) ++ [Value.int .i64 0, Value.int .i64 0] ++ c1.drop (r.length * 2 + 2)).toArray = C2 at *
  go_enter Try.func77, Try.ntmps77
  go_wp2_with fail
  go_region_law_o (refine step_append_runI rfl _ _ 60 60 rfl (.slice (some ⟨g, 0, none⟩) 0 cap) (.slice (some A) m (cap - 1)) (by simp [Act.eval, Act.put]) (by simp [Act.eval, Act.put]) (hap 60) ?_)
  go_wp2
  go_ret
  exact ⟨rfl, HF.out _ rfl⟩
/-- The first one is deleted. -/
theorem delM_any (w : World) (V : Value) (y : Int × Int) (r : Ml) (hV : Mr w 0 V (y :: r)) :
    Calls Try.prog 77 #[V, .int .i64 0, .int .i64 1] w fun e w' => ∃ V', e = .returned V' ∧ Mr w' 0 V' r ∧ Kp w w' V.ownBlock.toList ∧ V'.ownBlock = V.ownBlock := by
  rcases hV.2 with ⟨-, h0⟩ | ⟨g, cap, cur, rfl, -, hg, hnc, hcm, hcs, hT⟩
  · simp at h0
  · rw [List.length_cons] at hnc
    refine (del_row w g cap r.length cur y r hg hT hcs rfl hnc (by unfold maxLen at hcm; omega)).mono ?_
    rintro e w' ⟨rfl, hk, c2, h1, h2, h3⟩
    exact ⟨_, rfl, ⟨mcells_length _, .inr ⟨g, cap, c2, rfl, Nat.zero_le _, h1, by omega, hcm, h2, h3⟩⟩, hk, rfl⟩
end Go.Proofs.Ytllkopekfanfaaa
