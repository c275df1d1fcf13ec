/- slices.Insert of one message into messages that are owned. -/
import Derived.Shelf.Spec.SlicesInsertGrow
import Derived.Laws.CopyRow
import Derived.Test.YtllkopekfanfaaaMm
namespace Go.Proofs.Ytllkopekfanfaaa
open Go.RowKit Go.Shelf Go.Lib Go.Sort Go.Maps
attribute [local go_sem] Oper.semAt_some

theorem push_whereM {w : World} (ty : TypeId) (V : Value) (l : Ml) (hV : Mr w 0 V l) (ad : Addr) (m : Ml) (cap : Nat) (hX : Mr w 0 (.slice (some ad) m.length cap) m) (hm0 : m ≠ []) (hl : l.length ≤ 1000000) (hm : m.length ≤ 1000000) :
    ∃ v' w', (Builtin.append_ #[60, 60] ty #[V, .slice (some ad) m.length cap]).run Try.prog w = .ok v' w' ∧ Mr w' 0 v' (l ++ m) ∧ w.grownBy w' V.ownBlock ∧ (v'.ownBlock = V.ownBlock ∨ v'.ownBlock = some w.heap.size) := by
  obtain ⟨i0, hi, hz0, hz1, hz2⟩ := info_parts Try.infoM
  obtain ⟨v', w', hr, h2, h3, -⟩ := run_append_own (P := Try.prog) w 0 60 ty 34 i0 (.agg #[.int .i64 0, .int .i64 0]) 2 16 Try.underlying60 hi hz0 hz1 hz2 rfl (by decide) V l.length (mcells l) hV ad m.length cap (mcells m) (mcells_length m) hX.cells (mcells_one m) (by unfold maxLen; omega) (by omega) (Nat.zero_le _)
  refine ⟨v', w', hr, by unfold Mr; rw [List.length_append, mcells_append]; exact h2, h3, ?_⟩
  have hmp : 0 < m.length := List.length_pos_iff.2 hm0
  have hlen : (mcells m).length = m.length * i0.size := by rw [hz1]; exact mcells_length m
  rcases hV.2 with ⟨rfl, h0⟩ | ⟨g, cp, cur, rfl, hbg, hg, hnc, hcm, hcs, htake⟩
  · have hr2 := run_append_nil (P := Try.prog) w 60 ty 34 i0 (.agg #[.int .i64 0, .int .i64 0]) Try.underlying60 hi hz0 ad m.length cap (mcells m) hlen hX.cells hmp (by omega) (by rw [hz2]; omega)
    have e := hr.symm.trans hr2
    injection e with e1 _
    rw [e1]
    exact .inr rfl
  · by_cases hroom : l.length + m.length ≤ cp
    · have hr2 := run_append_room (P := Try.prog) w 60 ty 34 i0 Try.underlying60 hi g l.length cp cur hg ad m.length cap (mcells m) hlen hX.cells (mcells_one m) hroom (by rw [hz1, hcs, mcells_length]; omega)
      have e := hr.symm.trans hr2
      injection e with e1 _
      rw [e1]
      exact .inl rfl
    · have hr2 := run_append_grow (P := Try.prog) w 60 ty 34 i0 (.agg #[.int .i64 0, .int .i64 0]) Try.underlying60 hi hz0 ⟨g, 0, none⟩ l.length cp (mcells l) (by rw [hz1]; exact mcells_length l) hV.cells ad m.length cap (mcells m) hlen hX.cells (by omega) (by omega) (by rw [hz2]; exact growslice_fits (by omega) (by omega))
      have e := hr.symm.trans hr2
      injection e with e1 _
      rw [e1]
      exact .inr rfl
theorem run_copy_row2 (w : World) (ty : TypeId) (g o dLen dCap : Nat) (a : Addr) (sLen sCap : Nat) (cur : Array Value) (t : TypeId) (cs : List Value) (n : Nat)
    (hg : w.heap[g]? = some (.cells cur t (0, 0))) (hn : Nat.min sLen dLen = n) (hc : cs.length = n * 2)
    (hsrc : ∀ j v, cs[j]? = some v → w.cell? (a.add j) = some v) (hfit : o + cs.length ≤ cur.size) (h1 : ∀ v ∈ cs, v.oneCell' = true) :
    (Builtin.copy_ #[60, 60] ty #[.slice (some ⟨g, o, none⟩) dLen dCap, .slice (some a) sLen sCap]).run Try.prog w =
      .ok (.int .i64 n) (w.setRow g (cur.toList.take o ++ cs ++ cur.toList.drop (o + cs.length)).toArray) := by
  have hl := run_loadCells_list (P := Try.prog) w a cs hsrc
  have hst := run_storeCells_at Try.prog g o t cs 0 cur w hg (by simpa using hfit) h1
  obtain ⟨i0, hi, hz0, hz1, hz2⟩ := info_parts Try.infoM
  simp [Builtin.copy_, run_underlying Try.underlying60, Builtin.lenOf, Builtin.firstCells, sizeOf, typeInfo, hi, hz1, hn, ← hc, hl, hst, goInt]
theorem Kp.setRow (w : World) (g : Nat) (c : Array Value) : Kp w (w.setRow g c) [g] := ⟨rfl, rfl, rfl, by simp [World.setRow], fun k hk hn => by simp at hn; simp [World.setRow, Array.getElem?_modify, Ne.symm hn]⟩
/-- Two copies put a message in where there is room: the cells. -/
theorem shift_cells (cur : List Value) (A B : Ml) (x : Int × Int) (n : Nat) (hn : n = A.length) (hT : cur.take ((A ++ B).length * 2) = mcells (A ++ B)) (hS : (A ++ B).length * 2 + 2 ≤ cur.length) :
    ∃ c1, c1 = cur.take ((n + 1) * 2) ++ mcells B ++ cur.drop ((n + 1) * 2 + (mcells B).length) ∧ c1.length = cur.length ∧
      (c1.take (n * 2) ++ encM x ++ c1.drop (n * 2 + (encM x).length)).length = cur.length ∧ (c1.take (n * 2) ++ encM x ++ c1.drop (n * 2 + (encM x).length)).take ((A ++ x :: B).length * 2) = mcells (A ++ x :: B) := by
  subst hn
  have hlA := mcells_length A
  have hlB := mcells_length B
  have he : (encM x).length = 2 := rfl
  have hcur : cur = mcells A ++ mcells B ++ cur.drop ((A ++ B).length * 2) := by
    conv => lhs; rw [← List.take_append_drop ((A ++ B).length * 2) cur, hT, mcells_append]
  have hrest : 2 ≤ (cur.drop ((A ++ B).length * 2)).length := by rw [List.length_drop]; omega
  generalize hR : cur.drop ((A ++ B).length * 2) = R at hcur hrest
  refine ⟨_, rfl, ?_, ?_, ?_⟩
  · simp only [List.length_append, List.length_take, List.length_drop, hlB] at hS ⊢
    omega
  · simp only [List.length_append, List.length_take, List.length_drop, hlB, he] at hS ⊢
    omega
  · have hc1 : (cur.take ((A.length + 1) * 2) ++ mcells B ++ cur.drop ((A.length + 1) * 2 + (mcells B).length)).take (A.length * 2) = mcells A := by
      rw [List.append_assoc, List.take_append_of_le_length (by rw [List.length_take]; simp only [List.length_append] at hS; omega), List.take_take, Nat.min_eq_left (by omega), hcur, List.append_assoc, List.take_append_of_le_length (by omega), List.take_of_length_le (by omega)]
    have hc2 : (cur.take ((A.length + 1) * 2) ++ mcells B ++ cur.drop ((A.length + 1) * 2 + (mcells B).length)).drop (A.length * 2 + 2) = mcells B ++ cur.drop ((A.length + 1) * 2 + (mcells B).length) := by
      rw [List.append_assoc, show A.length * 2 + 2 = (cur.take ((A.length + 1) * 2)).length by rw [List.length_take]; simp only [List.length_append] at hS; omega, List.drop_left]
    rw [he, hc1, hc2, mcells_append, show mcells (x :: B) = encM x ++ mcells B from rfl]
    rw [show mcells A ++ encM x ++ (mcells B ++ cur.drop ((A.length + 1) * 2 + (mcells B).length)) = (mcells A ++ (encM x ++ mcells B)) ++ cur.drop ((A.length + 1) * 2 + (mcells B).length) by simp only [List.append_assoc]]
    rw [List.take_append_of_le_length (by simp only [List.length_append, List.length_cons, hlA, hlB, he]; omega), List.take_of_length_le (by simp only [List.length_append, List.length_cons, hlA, hlB, he]; omega)]
end Go.Proofs.Ytllkopekfanfaaa
