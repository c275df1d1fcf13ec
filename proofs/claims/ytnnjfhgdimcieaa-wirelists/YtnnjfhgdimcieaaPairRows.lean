/- Rows of pairs; arrays of two compared. -/
import Derived.Test.YtnnjfhgdimcieaaPut
import Derived.Test.YtnnjfhgdimcieaaPairTake
import Derived.ChangeKeysEq
namespace Go.Proofs.Ytnnjfhgdimcieaa
open Go.RowKit
set_option linter.unusedVariables false
set_option linter.unusedSimpArgs false

theorem part_at (w : World) (a b : Value) : (part 22 #[a, b] 0).run Try.prog w = .ok a w ∧ (part 22 #[a, b] 1).run Try.prog w = .ok b w := ⟨by kernel_rfl, by kernel_rfl⟩
theorem arr_items (a b : Int) (w : World) : (Op.eqItems 9999 22 1 #[.int .u64 a, .int .u64 b] #[.int .u64 a, .int .u64 b] (List.range 2)).run Try.prog w = .ok true w := by
  have h0 := fun w => (part_at w (.int .u64 a) (.int .u64 b)).1
  have h1 := fun w => (part_at w (.int .u64 a) (.int .u64 b)).2
  have e0 : ∀ w, (Op.equalIn 9999 22 (.int .u64 a) (.int .u64 a)).run Try.prog w = .ok true w := fun w => by rw [run_equalIn_int (P := Try.prog) w 9998 22 .u64 .u64 a a Try.underlying22]; simp
  have e1 : ∀ w, (Op.equalIn 9999 22 (.int .u64 b) (.int .u64 b)).run Try.prog w = .ok true w := fun w => by rw [run_equalIn_int (P := Try.prog) w 9998 22 .u64 .u64 b b Try.underlying22]; simp
  rw [show List.range 2 = [0, 1] from rfl]
  simp [Op.eqItems, Sem.run_bind, h0, h1, e0, e1]
theorem arr_eq (a b : Int) (w : World) : (Op.equalIn 10000 59 (.agg #[.int .u64 a, .int .u64 b]) (.agg #[.int .u64 a, .int .u64 b])).run Try.prog w = .ok true w := by
  obtain ⟨i0, hi, hz0, hz1, hz2⟩ := info_parts Try.info22
  have hc : Try.prog.cellsOf 22 = 1 := by kernel_rfl
  have h := run_equalIn_array (P := Try.prog) w 9999 #[.int .u64 a, .int .u64 b] #[.int .u64 a, .int .u64 b] Try.underlying59 hi
  rw [hc] at h
  rw [arr_items] at h
  exact h
theorem arr_neq (a b : Int) (w : World) : (binOp .neq 59 (.agg #[.int .u64 a, .int .u64 b]) (.agg #[.int .u64 a, .int .u64 b])).run Try.prog w = .ok (.bool false) w := by
  rw [run_neq_struct, arr_eq]
  rfl

theorem up_getD {ps : List (Nat × Nat)} {i : Nat} (hi : i < ps.length) : (up ps)[i * 2]? = some (.int .u64 ((ps.getD i (0, 0)).1 : Int)) ∧ (up ps)[i * 2 + 1]? = some (.int .u64 ((ps.getD i (0, 0)).2 : Int)) := by
  induction ps generalizing i with
  | nil => simp at hi
  | cons p ps ih =>
    cases i with
    | zero => simp [up]
    | succ i =>
      have := ih (i := i) (by simpa using hi)
      have e : up (p :: ps) = [.int .u64 (p.1 : Int), .int .u64 (p.2 : Int)] ++ up ps := by simp [up]
      rw [e]
      refine ⟨?_, ?_⟩
      · rw [List.getElem?_append_right (by simp; omega)]
        rw [show (i + 1) * 2 - [Value.int .u64 (p.1 : Int), .int .u64 (p.2 : Int)].length = i * 2 by simp; omega]
        simpa using this.1
      · rw [List.getElem?_append_right (by simp; omega)]
        rw [show (i + 1) * 2 + 1 - [Value.int .u64 (p.1 : Int), .int .u64 (p.2 : Int)].length = i * 2 + 1 by simp; omega]
        simpa using this.2
theorem up_len (ps : List (Nat × Nat)) : (up ps).length = ps.length * 2 := by
  induction ps with
  | nil => rfl
  | cons p ps ih => simp [up] at ih ⊢; omega

/-- What the call owns reads as pairs. -/
theorem Ps.of_owns {w : World} {base n : Nat} {v : Value} {ps : List (Nat × Nat)} (h : w.ownsRow base 59 2 v n (up ps)) (hn : n = ps.length) : Ps w v ps := by
  subst hn
  rcases h.2 with ⟨rfl, h0⟩ | ⟨g, cap, cur, rfl, hb, hg, hnc, hcm, hcs, htake⟩
  · exact ⟨none, 0, by rw [h0], by omega, fun _ => rfl, fun hp => by omega⟩
  · refine ⟨some ⟨g, 0, none⟩, cap, rfl, hnc, fun h => by simp at h, fun hp => ⟨g, 0, rfl, fun i hi => ?_⟩⟩
    have hget : ∀ j, j < ps.length * 2 → cur[j]? = (up ps)[j]? := by
      intro j hj
      rw [← htake, List.getElem?_take_of_lt hj]
      simp
    have hu := up_getD hi
    constructor
    · simp [World.cell?, hg, hget (i * 2) (by omega), hu.1]
    · simp [World.cell?, hg, hget (i * 2 + 1) (by omega), hu.2]

theorem Ps.cells {w : World} {ao : Option Addr} {n cap : Nat} {ps : List (Nat × Nat)} {a : Addr} (h : Ps w (.slice ao n cap) ps) (ha : ao = some a) (hn : n = ps.length) : ∀ j u, (up ps)[j]? = some u → w.cell? (a.add j) = some u := by
  intro j u hu
  have hj : j < ps.length * 2 := by have := (List.getElem?_eq_some_iff.1 hu).1; rw [up_len] at this; exact this
  obtain ⟨b, off, hao, -, -, c0, c1⟩ := h.at (i := j / 2) (by omega)
  rw [ha] at hao
  cases hao
  rw [Addr.add_lit]
  have hu2 := up_getD (ps := ps) (i := j / 2) (by omega)
  rcases Nat.mod_two_eq_zero_or_one j with e | e
  · have ej : j = j / 2 * 2 := by omega
    rw [ej] at hu ⊢
    rw [hu2.1] at hu
    rw [c0]
    exact hu
  · have ej : j = j / 2 * 2 + 1 := by omega
    rw [ej] at hu ⊢
    rw [hu2.2] at hu
    rw [← Nat.add_assoc, c1]
    exact hu
theorem up_one (ps : List (Nat × Nat)) : ∀ u ∈ up ps, u.oneCell' = true := by
  intro u hu
  simp only [up, List.mem_flatMap] at hu
  obtain ⟨p, -, hp⟩ := hu
  simp at hp
  rcases hp with rfl | rfl <;> rfl

/-- An append of pairs that are read, wherever they lie, onto nothing. -/
theorem wpList_append_pairs {w : World} {ops : Array Oper} {rest : List Oper} {o : Oper} {a : Act} {Q : Exit → Act → World → Prop} (hgd : o.guard = none) (s x : Operand)
    (ho : o.op = .call { callee := .builtin .append, args := #[s, x], argTypes := #[58, 58] })
    (base : Nat) (v : Value) (n : Nat) (xs : List Value) (hs : a.eval s = v) (hown : w.ownsRow base 59 2 v n xs)
    (vx : Value) (ps : List (Nat × Nat)) (hx : a.eval x = vx) (hb : Ps w vx ps) (hm : (n + ps.length) * 16 ≤ 140737488355328) (hbase : base ≤ w.heap.size)
    (h : ∀ v' w', w'.ownsRow base 59 2 v' (n + ps.length) (xs ++ up ps) → w.grownBy w' v.ownBlock → wpList Try.prog ops Q rest (a.put o.dst v') w') : wpList Try.prog ops Q (o :: rest) a w := by
  obtain ⟨i0, hi, hz0, hz1, hz2⟩ := info_parts Try.info59
  have hb' := hb
  obtain ⟨ao, cap, rfl, hl, hn, -⟩ := hb
  cases ao with
  | none =>
    obtain rfl : cap = 0 := hn rfl
    have hl0 : ps = [] := List.eq_nil_of_length_eq_zero (by omega)
    subst hl0
    refine wpList_append_own_none hgd s x 58 ho base 59 i0 2 Try.underlying58 hi v n xs hs hown hx ?_
    exact h v w (by simpa [up] using hown) (World.grownBy.refl _ _)
  | some ad =>
    exact wpList_append_own w hgd s x 58 ho base 59 i0 (.agg #[.int .u64 0, .int .u64 0]) 2 16 Try.underlying58 hi hz0 hz1 hz2 rfl (by decide) v n xs hs hown ad ps.length cap (up ps) hx (by rw [up_len]) (hb'.cells rfl rfl) (up_one ps) (by unfold maxLen; omega) hm hbase fun v' w' a1 a2 _ => h v' w' a1 a2
end Go.Proofs.Ytnnjfhgdimcieaa
