/- Appends of many bytes: past 2^47 bytes a row still fits, for it grows by a quarter. -/
import Derived.Test.YtnnjfhgdimcieaaReadsWalk
namespace Go.Proofs.Ytnnjfhgdimcieaa
open Go.RowKit
set_option linter.unusedVariables false
set_option linter.unusedSimpArgs false

theorem next_le {need old : Nat} (h : old < need) : Builtin.nextslicecap need old ≤ need + need / 4 + 256 := by
  unfold Builtin.nextslicecap
  split
  · omega
  · split
    · omega
    · rw [growBy_four]
      repeat' split
      all_goals omega

/-- What an append that grows leaves, is owned. -/
theorem fresh_owns (w : World) (base k old : Nat) (zs : List Value) (z : Value) (hz : z.cells.size = 1) (hl : zs.length = k) (hk : k ≤ maxLen) (hb : base ≤ w.heap.size) (row : Option Nat) :
    (w.drew.alloc (.cells (zs.toArray ++ Builtin.zeroCells z.cells (grownCap w k old 5 - k)) 5)).ownsRow base 5 1 (.slice (some ⟨w.heap.size, 0, none⟩) k (grownCap w k old 5)) k zs ∧
    w.grownBy (w.drew.alloc (.cells (zs.toArray ++ Builtin.zeroCells z.cells (grownCap w k old 5 - k)) 5)) row := by
  have h1 := grownCap_ge w k old 5
  refine ⟨⟨by omega, .inr ⟨w.heap.size, _, _, rfl, hb, heap_alloc_new w.drew _, h1, grownCap_le_maxLen w k old 5 hk, ?_, ?_⟩⟩, ⟨rfl, rfl, rfl, by simp, fun j hj _ => (World.grownBy_alloc w.drew _ none).block j hj (by simp)⟩⟩
  · rw [Array.size_append, size_zeroCells, hz]
    simp
    omega
  · rw [Array.toList_append, Nat.mul_one, ← hl]
    exact List.take_left

theorem run_append_big (w : World) (base : Nat) (ty : TypeId) (v : Value) (n : Nat) (xs : List Value) (hown : w.ownsRow base 5 1 v n xs)
    (a : Addr) (m c : Nat) (news : List Value) (hl : news.length = m) (hnews : ∀ j u, news[j]? = some u → w.cell? (a.add j) = some u) (h1 : ∀ u ∈ news, u.oneCell' = true)
    (hm : n + m ≤ 200000000000000) (hbase : base ≤ w.heap.size) :
    ∃ v' w', (Builtin.append_ #[23, 23] ty #[v, .slice (some a) m c]).run Try.prog w = .ok v' w' ∧ w'.ownsRow base 5 1 v' (n + m) (xs ++ news) ∧ w.grownBy w' v.ownBlock := by
  obtain ⟨i0, hi, hz0, hz1, hz2⟩ := info_parts Try.info5
  by_cases hs : n + m ≤ 140737488355328
  · obtain ⟨v', w', r1, r2, r3, -⟩ := run_append_own (P := Try.prog) w base 23 ty 5 i0 (.int .u8 0) 1 1 Try.underlying23 hi hz0 hz1 hz2 rfl (by decide) v n xs hown a m c news (by omega) hnews h1 (by unfold maxLen; omega) (by omega) hbase
    exact ⟨v', w', r1, r2, r3⟩
  have hsz : i0.size = 1 := hz1
  have hbt : i0.bytes = 1 := hz2
  rcases hown.2 with ⟨rfl, rfl⟩ | ⟨g, cap, cur, rfl, hbg, hg, hnc, hcm, hcs, htake⟩
  · obtain rfl : xs = [] := List.eq_nil_of_length_eq_zero (by simpa using hown.1)
    have hr := run_append_nil (P := Try.prog) w 23 ty 5 i0 (.int .u8 0) Try.underlying23 hi hz0 a m c news (by rw [hsz]; omega) hnews (by omega) (by omega) (by rw [hbt]; omega)
    have hf := fresh_owns w base m 0 news (.int .u8 0) rfl hl (by unfold maxLen; omega) hbase (Value.ownBlock (.slice none 0 0))
    refine ⟨_, _, hr, ?_, hf.2⟩
    rw [Nat.zero_add, List.nil_append]
    exact hf.1
  · have hxl : xs.length = n := by simpa using hown.1
    by_cases hroom : n + m ≤ cap
    · have hr := run_append_room (P := Try.prog) w 23 ty 5 i0 Try.underlying23 hi g n cap cur hg a m c news (by rw [hsz]; omega) hnews h1 hroom (by rw [hsz, hcs]; omega)
      rw [hsz] at hr
      refine ⟨_, _, hr, ⟨by simp; omega, .inr ⟨g, cap, _, rfl, hbg, setRow_heap w g cur _ 5 _ hg, hroom, hcm, ?_, ?_⟩⟩, ⟨rfl, rfl, rfl, by simp, fun k _ hk => setRow_other w g k _ (fun e => hk (by simp [Value.ownBlock, e]))⟩⟩
      · simp
        omega
      · rw [htake, show (n + m) * 1 = (xs ++ news).length by simp; omega]
        exact List.take_left
    · have hr := run_append_grow (P := Try.prog) w 23 ty 5 i0 (.int .u8 0) Try.underlying23 hi hz0 ⟨g, 0, none⟩ n cap xs (by rw [hsz]; omega) (hown.cells (g := g) rfl) a m c news (by rw [hsz]; omega) hnews (by omega) (by omega) (by have := next_le (need := n + m) (old := cap) (by omega); rw [hbt]; omega)
      have hf := fresh_owns w base (n + m) cap (xs ++ news) (.int .u8 0) rfl (by simp; omega) (by unfold maxLen; omega) hbase (Value.ownBlock (.slice (some ⟨g, 0, none⟩) n cap))
      refine ⟨_, _, hr, ?_, ?_⟩
      · have h := hf.1
        rw [show (xs ++ news).toArray = xs.toArray ++ news.toArray by simp] at h
        exact h
      · have h := hf.2
        rw [show (xs ++ news).toArray = xs.toArray ++ news.toArray by simp] at h
        exact h

/-- The append's step: as wp_append_own, for bytes, to 2·10^14. -/
theorem wp_append_big {w : World} {o : Oper} {a : Act} {K : Act → World → Prop} {Q : Exit → Act → World → Prop} (s x : Operand)
    (ho : o.op = .call { callee := .builtin .append, args := #[s, x], argTypes := #[23, 23] })
    (base : Nat) (v : Value) (n : Nat) (xs : List Value) (hs : a.eval s = v) (hown : w.ownsRow base 5 1 v n xs)
    (vx : Value) (l : List Int) (hx : a.eval x = vx) (hb : Bs w vx l) (hm : n + l.length ≤ 200000000000000) (hbase : base ≤ w.heap.size)
    (h : ∀ v' w', w'.ownsRow base 5 1 v' (n + l.length) (xs ++ ub l) → w.grownBy w' v.ownBlock → K (a.put o.dst v') w') : o.wp Try.prog a w K Q := by
  obtain ⟨i0, hi, hz0, hz1, hz2⟩ := info_parts Try.info5
  have hb' := hb
  obtain ⟨ao, cap, rfl, hl, hn, -⟩ := hb
  cases ao with
  | none =>
    obtain rfl : cap = 0 := hn rfl
    obtain rfl : l = [] := List.eq_nil_of_length_eq_zero (by omega)
    have hrun := run_append_owned_none (P := Try.prog) (w := w) base 23 o.type 5 i0 1 Try.underlying23 hi v n xs hown
    unfold Oper.wp
    simp only [List.length_nil] at hx
    simp [execOp, ho, resolve, invoke, builtin, hs, hx, hrun, Result.andThen]
    exact h v w (by simpa [ub] using hown) (World.grownBy.refl _ _)
  | some ad =>
    obtain ⟨v', w', hr, r2, r3⟩ := run_append_big w base o.type v n xs hown ad l.length cap (ub l) (by simp [ub]) (hb'.cells rfl fun _ _ => rfl) (ub_one l) hm hbase
    unfold Oper.wp
    simp [execOp, ho, resolve, invoke, builtin, hs, hx, hr, Result.andThen]
    exact h v' w' r2 r3

theorem step_append_big {w : World} {ops : Array Oper} {o : Oper} {a : Act} {K : Act → World → Prop} {Q : Exit → Act → World → Prop} {E : Prop} (hgd : o.guard = none) (s x : Operand)
    (ho : o.op = .call { callee := .builtin .append, args := #[s, x], argTypes := #[23, 23] }) (D : Nat) (hD : o.dst = some D)
    (base : Nat) (v : Value) (n : Nat) (xs : List Value) (hs : a.eval s = v) (hown : w.ownsRow base 5 1 v n xs)
    (vx : Value) (l : List Int) (hx : a.eval x = vx) (hb : Bs w vx l) (hm : n + l.length ≤ 200000000000000) (hbase : base ≤ w.heap.size)
    (h : ∀ v' w', w'.ownsRow base 5 1 v' (n + l.length) (xs ++ ub l) → w.grownBy w' v.ownBlock → K (a.put (some D) v') w') :
    if Region.wanted o (yielded ops a.tmps) = true then Oper.wp Try.prog o a w K Q else E := by
  have hw : Region.wanted o (yielded ops a.tmps) = true := by simp [Region.wanted, hgd]
  rw [if_pos hw]
  rw [← hD] at h
  exact wp_append_big s x ho base v n xs hs hown vx l hx hb hm hbase h
theorem wpList_append_big {w : World} {ops : Array Oper} {rest : List Oper} {o : Oper} {a : Act} {Q : Exit → Act → World → Prop} (hgd : o.guard = none) (s x : Operand)
    (ho : o.op = .call { callee := .builtin .append, args := #[s, x], argTypes := #[23, 23] })
    (base : Nat) (v : Value) (n : Nat) (xs : List Value) (hs : a.eval s = v) (hown : w.ownsRow base 5 1 v n xs)
    (vx : Value) (l : List Int) (hx : a.eval x = vx) (hb : Bs w vx l) (hm : n + l.length ≤ 200000000000000) (hbase : base ≤ w.heap.size)
    (h : ∀ v' w', w'.ownsRow base 5 1 v' (n + l.length) (xs ++ ub l) → w.grownBy w' v.ownBlock → wpList Try.prog ops Q rest (a.put o.dst v') w') : wpList Try.prog ops Q (o :: rest) a w :=
  wpList_plain hgd fun _ hK => wp_append_big s x ho base v n xs hs hown vx l hx hb hm hbase fun v' w' h2 h3 => hK _ _ (h v' w' h2 h3)

set_option maxRecDepth 100000 in
set_option maxHeartbeats 400000 in
theorem clone_big (w : World) (v : Value) (l : List Int) (h : Bs w v l) (hm : l.length ≤ 200000000000000) :
    Calls Try.prog 38 #[v] w fun e w' => ∃ v', e = .returned v' ∧ w'.ownsRow w.heap.size 5 1 v' l.length (ub l) ∧ w.grownBy w' none := by
  have H := hid h
  have Hm := hid hm
  obtain ⟨ao, cap, rfl, hl, hn, -⟩ := h
  clear hm
  cases ao with
  | none =>
    obtain rfl : cap = 0 := hn rfl
    obtain rfl : l = [] := List.eq_nil_of_length_eq_zero (by omega)
    exact clone_any w _ [] H.out (by simp)
  | some a =>
    have hnil := fun w : World => Lib.run_eql_slice_nil (P := Try.prog) w 23 5 (some a) l.length cap 0 0 Try.underlying23
    clear hl hn
    go_enter Try.func38, Try.ntmps38
    go_wp2_with (at_builtin; refine wpList_append_big rfl _ _ rfl w.heap.size _ 0 [] rfl (World.ownsRow_lit w #[] 0 (Nat.le_refl _) (by unfold maxLen; omega) rfl) _ l rfl (H.out.grown (World.grownBy_alloc _ _ none)) (by have := Hm.out; omega) (by simp) ?_)
    intro v' w1 hown' hgrow
    have HO := hid (show w1.ownsRow w.heap.size 5 1 v' l.length (ub l) by simpa using hown')
    have hg' := hid (grown_new hgrow (by simp [Value.ownBlock]))
    clear hown' hgrow
    go_wp2
    go_ret
    exact ⟨_, rfl, HO.out, hg'.out⟩

set_option maxRecDepth 100000 in
set_option maxHeartbeats 400000 in
theorem open_big (w : World) (v : Value) (l : List Int) (h : Bs w v l) (hm : l.length ≤ 200000000000000) :
    Calls Try.prog 19 #[v] w fun e w' => ∃ rb v', e = .returned (.pointer (some ⟨rb, 0, none⟩)) ∧ Rd w' rb v' l ∧ w.heap.size ≤ rb ∧ (∀ k, v'.ownBlock = some k → w.heap.size ≤ k ∧ k < w'.heap.size) ∧ w.grownBy w' none := by
  have H := hid h
  have Hm := hid hm
  obtain ⟨ao, cap, rfl, -, -, -⟩ := h
  clear hm
  go_enter Try.func19, Try.ntmps19
  go_wp2_with fail
  refine (clone_big w _ l H.out Hm.out).mono ?_
  rintro e w1 ⟨v', rfl, hown, hg⟩
  obtain ⟨ao', cap', rfl⟩ := owns_shape hown
  have HO := hid hown
  have HG := hid hg
  clear hown hg
  go_wp2
  go_ret
  exact ⟨_, _, rfl, rd_made HO.out, HG.out.size, (fun k hk => ⟨(HO.out.lt k hk).1, by have := (HO.out.lt k hk).2; simp; omega⟩), grownBy_trans HG.out (World.grownBy_alloc _ _ _)⟩
end Go.Proofs.Ytnnjfhgdimcieaa
