/- What Same says, and the reference: the same. -/
import Derived.Test.YtoenipaccnpihaaRz
namespace Go.Proofs.Ytoenipaccnpihaa
open Go.RowKit Go.Shelf Go.Sort Go.Maps
open Go.Lib hiding intOf
attribute [local go_sem] Oper.semAt_some

theorem allV_nat {T t : Nat} (L : El) (h : t < T) : allV T L (t : Nat) = allP L t := by
  unfold allV
  rw [inT_nat, decide_eq_true h, if_pos rfl, Int.toNat_natCast]
theorem same_q {T1 S1 T2 S2 : Nat} {L1 L2 : El} (o1 : Ok T1 S1 L1) (o2 : Ok T2 S2 L2) (hT : T1 ≤ 16) (hT2 : T1 = T2) : (eqM (pend L1) (pend L2) && eqQ L1 L2) = (List.range T1).all fun t => decide (allV T1 L1 (t : Nat) = allV T2 L2 (t : Nat)) := by
  subst hT2
  rw [Bool.eq_iff_iff, Bool.and_eq_true, eqM_iff, List.all_eq_true]
  constructor
  · rintro ⟨hp, hq⟩ t ht
    have ht := List.mem_range.1 ht
    refine decide_eq_true ?_
    rw [allV_nat _ ht, allV_nat _ ht, allP_eq]
    intro n h1 h2
    by_cases hn : n < 16
    · have := congrArg (fun x => x.testBit n) (hp t (by omega))
      simp only [pend_bit] at this
      by_cases h : q L1 t n = []
      · rw [h] at this
        simp at this
        rw [h, this]
      · have h' : q L2 t n ≠ [] := by
          intro e
          rw [e] at this
          simp at this
          exact h this
        rw [o1.plain hn h, o2.plain hn h']
    · have := (List.all_eq_true.1 hq) (t, n) (mem_ks.2 ⟨by omega, by omega⟩)
      simpa [hn] using this
  · intro h
    have hq : ∀ t n, q L1 t n = q L2 t n := fun t n => by
      by_cases hb : t < T1 ∧ 1 ≤ n ∧ n ≤ 31
      · have := of_decide_eq_true (h t (List.mem_range.2 hb.1))
        rw [allV_nat _ hb.1, allV_nat _ hb.1, allP_eq] at this
        exact this n hb.2.1 hb.2.2
      · rw [o1.qno hb, o2.qno hb]
    refine ⟨fun t _ => Nat.eq_of_testBit_eq fun n => by rw [pend_bit, pend_bit, hq], List.all_eq_true.2 fun k _ => by simp [hq]⟩
theorem same_eq {T1 S1 T2 S2 : Nat} {M1 M2 : Nat → Nat} {L1 L2 : El} (o1 : Ok T1 S1 L1) (o2 : Ok T2 S2 L2) (hT : T1 ≤ 16) : sameS T1 S1 M1 L1 T2 S2 M2 L2 = rsameS T1 S1 M1 L1 T2 S2 M2 L2 := by
  unfold sameS rsameS
  by_cases h : T1 = T2
  · rw [same_q o1 o2 hT h]
  · rw [decide_eq_false h, Bool.false_and, Bool.false_and]
end Go.Proofs.Ytoenipaccnpihaa
