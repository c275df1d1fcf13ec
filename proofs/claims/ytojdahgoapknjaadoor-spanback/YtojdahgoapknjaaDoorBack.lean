/- SpanBack: the plain facts, and all ways together. -/
import Derived.Test.YtojdahgoapknjaaDoorBackW
namespace Go.Proofs.YtojdahgoapknjaaDoor
open Go.RowKit Go.Shelf
set_option linter.unusedVariables false

theorem may_mk {s n : Int} (h1 : 0 ≤ s) (h2 : s ≤ 2147483647) (h3 : 0 ≤ n) (h4 : n < 1000000000) : may s n = true := may_iff.2 ⟨h1, h2, h3, h4⟩
/-- Ticks of Of is the number. -/
theorem of_back {n : Int} (h0 : 0 ≤ n) (h1 : n ≤ 1099511627776) : ticksP (n / 1000) (n % 1000 * 1000000) = (n, 0) := by
  have m : may (n / 1000) (n % 1000 * 1000000) = true := may_mk (by omega) (by omega) (by omega) (by omega)
  have e : (tot (n / 1000) (n % 1000 * 1000000) + 999999) / 1000000 = n := by unfold tot; omega
  rw [ticksP_ok m (by omega), e]
/-- Sub of Add is the other one. -/
theorem add_back {a b c d u v : Int} (h : addP a b c d = (u, v, 0)) : subP u v c d = (a, b, 0) := by
  unfold addP at h
  split at h
  · rename_i m
    rw [Bool.and_eq_true] at m
    obtain ⟨m1, m2⟩ := m
    obtain ⟨a1, a2, b1, b2⟩ := may_iff.1 m1
    obtain ⟨c1, c2, d1, d2⟩ := may_iff.1 m2
    unfold ofN at h
    split at h
    · simp at h
    · rename_i hb
      simp only [Prod.mk.injEq, and_true] at h
      obtain ⟨rfl, rfl⟩ := h
      unfold tot at hb ⊢
      have m3 : may ((a * 1000000000 + b + (c * 1000000000 + d)) / 1000000000) ((a * 1000000000 + b + (c * 1000000000 + d)) % 1000000000) = true := may_mk (by omega) (by omega) (by omega) (by omega)
      have e : tot ((a * 1000000000 + b + (c * 1000000000 + d)) / 1000000000) ((a * 1000000000 + b + (c * 1000000000 + d)) % 1000000000) = tot a b + tot c d := by unfold tot; omega
      unfold subP
      rw [e, m3, m2]
      have e2 : decide (tot c d ≤ tot a b + tot c d) = true := by unfold tot; simp; omega
      rw [e2]
      simp only [Bool.and_self, if_true]
      have e3 : tot a b + tot c d - tot c d = a * 1000000000 + b := by unfold tot; omega
      rw [e3, ofN_ok (by omega)]
      simp only [Prod.mk.injEq, and_true]
      omega
  · simp at h
theorem ticks_err (a b : Int) : 0 ≤ (ticksP a b).2 ∧ (ticksP a b).2 ≤ 5 := by
  unfold ticksP
  split
  · split <;> simp
  · simp
theorem ticks_zero {a b x : Int} (h : ticksP a b = (x, 0)) : may a b = true ∧ x = (tot a b + 999999) / 1000000 ∧ x ≤ 1099511627776 := by
  unfold ticksP at h
  split at h
  · rename_i m
    split at h
    · simp at h
    · simp only [Prod.mk.injEq, and_true] at h
      exact ⟨m, h.symm, by omega⟩
  · simp at h
theorem ticks_mono {a b c d x y : Int} (h1 : ticksP a b = (x, 0)) (h2 : ticksP c d = (y, 0)) (h : cmpP a b c d < 0) : x ≤ y := by
  obtain ⟨m1, e1, -⟩ := ticks_zero h1
  obtain ⟨m2, e2, -⟩ := ticks_zero h2
  obtain ⟨a1, a2, b1, b2⟩ := may_iff.1 m1
  obtain ⟨c1, c2, d1, d2⟩ := may_iff.1 m2
  have : tot a b < tot c d := by
    rcases Int.lt_or_le (tot a b) (tot c d) with h' | h'
    · exact h'
    · have := cmp_le m1 m2 h'; omega
  omega
/-- Of of Ticks is no shorter, and longer by less than a tick. -/
theorem ticks_back {a b x : Int} (h : ticksP a b = (x, 0)) : ∃ p q r, ofP x = (p, q, 0) ∧ subP p q a b = (0, r, 0) ∧ r < 1000000 := by
  obtain ⟨m, e, hx⟩ := ticks_zero h
  obtain ⟨a1, a2, b1, b2⟩ := may_iff.1 m
  have h0 : 0 ≤ x := by unfold tot at e; omega
  have m2 : may (x / 1000) (x % 1000 * 1000000) = true := may_mk (by omega) (by omega) (by omega) (by omega)
  have t2 : tot (x / 1000) (x % 1000 * 1000000) = x * 1000000 := by unfold tot; omega
  refine ⟨x / 1000, x % 1000 * 1000000, x * 1000000 - tot a b, ofP_ok h0 hx, ?_, by unfold tot at e ⊢; omega⟩
  unfold subP
  have e2 : decide (tot a b ≤ x * 1000000) = true := by unfold tot at e ⊢; simp; omega
  rw [m2, m, t2, e2]
  simp only [Bool.and_self, if_true]
  have hb : 0 ≤ x * 1000000 - tot a b ∧ x * 1000000 - tot a b < 1000000 := by unfold tot at e ⊢; omega
  rw [ofN_ok (by omega)]
  simp only [Prod.mk.injEq, and_true]
  omega

theorem spanBack_walk (kn : KnownOk) (w : World) (a b c d n : Int) (h : Wd w) : Calls Tryd.prog 6 #[sp a b, sp c d, .int .i64 n] w fun e w' => e = .returned (.bool true) ∧ Kp w w' [] := by
  obtain ⟨q1, q2, q3, hA⟩ : ∃ q1 q2 q3, ofP n = (q1, q2, q3) := ⟨_, _, _, rfl⟩
  obtain ⟨u, v, g, hB⟩ : ∃ u v g, addP a b c d = (u, v, g) := ⟨_, _, _, rfl⟩
  obtain ⟨x, e1, hC1⟩ : ∃ x e1, ticksP a b = (x, e1) := ⟨_, _, rfl⟩
  obtain ⟨y, e2, hC2⟩ : ∃ y e2, ticksP c d = (y, e2) := ⟨_, _, rfl⟩
  have s1 : 0 ≤ e1 ∧ e1 ≤ 5 := by have := ticks_err a b; rw [hC1] at this; exact this
  have s2 : 0 ≤ e2 ∧ e2 ≤ 5 := by have := ticks_err c d; rw [hC2] at this; exact this
  have hA2 : q3 = 0 → ticksP q1 q2 = (n, 0) := by
    intro hq
    by_cases hn : 0 ≤ n ∧ n ≤ 1099511627776
    · rw [ofP_ok hn.1 hn.2] at hA
      simp only [Prod.mk.injEq] at hA
      obtain ⟨rfl, rfl, -⟩ := hA
      exact of_back hn.1 hn.2
    · rw [ofP_no (by omega)] at hA
      simp only [Prod.mk.injEq] at hA
      omega
  have hB2 : g = 0 → subP u v c d = (a, b, 0) := by
    intro hg
    subst hg
    exact add_back hB
  by_cases hs : e1 + e2 = 0
  · have z1 : e1 = 0 := by omega
    have z2 : e2 = 0 := by omega
    obtain ⟨p, q, r, hE, hE2, hr⟩ := ticks_back (z1 ▸ hC1)
    by_cases hz : cmpP a b c d < 0
    · have hxy := ticks_mono (z1 ▸ hC1) (z2 ▸ hC2) hz
      by_cases hq : q3 = 0
      · by_cases hg : g = 0
        · exact back_ok_ok_lt kn w h a b c d n q1 q2 q3 hA hq (hA2 hq) u v g hB hg (hB2 hg) x y e1 e2 hC1 hC2 s1 s2 hs _ rfl hz hxy p q r hE hE2 hr
        · exact back_ok_no_lt kn w h a b c d n q1 q2 q3 hA hq (hA2 hq) u v g hB hg x y e1 e2 hC1 hC2 s1 s2 hs _ rfl hz hxy p q r hE hE2 hr
      · by_cases hg : g = 0
        · exact back_no_ok_lt kn w h a b c d n q1 q2 q3 hA hq u v g hB hg (hB2 hg) x y e1 e2 hC1 hC2 s1 s2 hs _ rfl hz hxy p q r hE hE2 hr
        · exact back_no_no_lt kn w h a b c d n q1 q2 q3 hA hq u v g hB hg x y e1 e2 hC1 hC2 s1 s2 hs _ rfl hz hxy p q r hE hE2 hr
    · have hz' : 0 ≤ cmpP a b c d := by omega
      by_cases hq : q3 = 0
      · by_cases hg : g = 0
        · exact back_ok_ok_ge kn w h a b c d n q1 q2 q3 hA hq (hA2 hq) u v g hB hg (hB2 hg) x y e1 e2 hC1 hC2 s1 s2 hs _ rfl hz' p q r hE hE2 hr
        · exact back_ok_no_ge kn w h a b c d n q1 q2 q3 hA hq (hA2 hq) u v g hB hg x y e1 e2 hC1 hC2 s1 s2 hs _ rfl hz' p q r hE hE2 hr
      · by_cases hg : g = 0
        · exact back_no_ok_ge kn w h a b c d n q1 q2 q3 hA hq u v g hB hg (hB2 hg) x y e1 e2 hC1 hC2 s1 s2 hs _ rfl hz' p q r hE hE2 hr
        · exact back_no_no_ge kn w h a b c d n q1 q2 q3 hA hq u v g hB hg x y e1 e2 hC1 hC2 s1 s2 hs _ rfl hz' p q r hE hE2 hr
  · by_cases hq : q3 = 0
    · by_cases hg : g = 0
      · exact back_ok_ok_no kn w h a b c d n q1 q2 q3 hA hq (hA2 hq) u v g hB hg (hB2 hg) x y e1 e2 hC1 hC2 s1 s2 hs
      · exact back_ok_no_no kn w h a b c d n q1 q2 q3 hA hq (hA2 hq) u v g hB hg x y e1 e2 hC1 hC2 s1 s2 hs
    · by_cases hg : g = 0
      · exact back_no_ok_no kn w h a b c d n q1 q2 q3 hA hq u v g hB hg (hB2 hg) x y e1 e2 hC1 hC2 s1 s2 hs
      · exact back_no_no_no kn w h a b c d n q1 q2 q3 hA hq u v g hB hg x y e1 e2 hC1 hC2 s1 s2 hs
end Go.Proofs.YtojdahgoapknjaaDoor
