/- SpanAdds: the plain facts, and all ways together. -/
import Derived.Test.YtojdahgoapknjaaDoorAddsW
import Derived.Test.YtojdahgoapknjaaDoorAddsL
namespace Go.Proofs.YtojdahgoapknjaaDoor
open Go.RowKit Go.Shelf
set_option linter.unusedVariables false

theorem add_comm6 (a b c d : Int) : addP c d a b = addP a b c d := by
  unfold addP
  rw [Bool.and_comm, Int.add_comm (tot c d)]
theorem add_err (a b c d : Int) : 0 ≤ (addP a b c d).2.2 ∧ (addP a b c d).2.2 ≤ 5 := by
  unfold addP ofN
  split
  · split <;> simp
  · simp
theorem add_zero6 {a b c d u v : Int} (h : addP a b c d = (u, v, 0)) : may a b = true ∧ may c d = true ∧ may u v = true ∧ tot u v = tot a b + tot c d ∧ tot a b + tot c d ≤ 2147483647999999999 := by
  unfold addP at h
  split at h
  · rename_i m
    rw [Bool.and_eq_true] at m
    have t1 := tot_bds m.1
    have t2 := tot_bds m.2
    unfold ofN at h
    split at h
    · simp at h
    · rename_i hb
      simp only [Prod.mk.injEq, and_true] at h
      obtain ⟨rfl, rfl⟩ := h
      have t0 : 0 ≤ tot a b + tot c d := by omega
      generalize tot a b + tot c d = t at *
      refine ⟨m.1, m.2, may_iff.2 ⟨by omega, by omega, by omega, by omega⟩, by unfold tot; omega, by omega⟩
  · simp at h
theorem add_ok6 {a b c d : Int} (m1 : may a b = true) (m2 : may c d = true) (h : tot a b + tot c d ≤ 2147483647999999999) : addP a b c d = ((tot a b + tot c d) / 1000000000, (tot a b + tot c d) % 1000000000, 0) := by
  unfold addP
  rw [m1, m2]
  simp only [Bool.and_self, if_true]
  rw [ofN_ok (by omega)]

theorem spanAdds_walk (kn : KnownOk) (w : World) (a b c d e f n : Int) (h : Wd w) : Calls Tryd.prog 7 #[l6 a b c d e f, .int .i64 n] w fun x w' => x = .returned (.bool true) ∧ Kp w w' [] := by
  obtain ⟨u1, u2, g1, h1⟩ : ∃ u1 u2 g1, addP a b c d = (u1, u2, g1) := ⟨_, _, _, rfl⟩
  obtain ⟨u3, u4, g2, h2⟩ : ∃ u3 u4 g2, addP u1 u2 e f = (u3, u4, g2) := ⟨_, _, _, rfl⟩
  obtain ⟨u5, u6, g3, h3⟩ : ∃ u5 u6 g3, addP c d e f = (u5, u6, g3) := ⟨_, _, _, rfl⟩
  obtain ⟨u7, u8, g4, h4⟩ : ∃ u7 u8 g4, addP a b u5 u6 = (u7, u8, g4) := ⟨_, _, _, rfl⟩
  have h1s : addP c d a b = (u1, u2, g1) := by rw [add_comm6, h1]
  have s1 : 0 ≤ g1 ∧ g1 ≤ 5 := by have := add_err a b c d; rw [h1] at this; exact this
  have s2 : 0 ≤ g2 ∧ g2 ≤ 5 := by have := add_err u1 u2 e f; rw [h2] at this; exact this
  have s3 : 0 ≤ g3 ∧ g3 ≤ 5 := by have := add_err c d e f; rw [h3] at this; exact this
  have s4 : 0 ≤ g4 ∧ g4 ≤ 5 := by have := add_err a b u5 u6; rw [h4] at this; exact this
  by_cases hs : g1 + g2 = 0
  · have z1 : g1 = 0 := by omega
    have z2 : g2 = 0 := by omega
    subst z1 z2
    obtain ⟨ma, mc, mu, tu, -⟩ := add_zero6 h1
    obtain ⟨-, me, mv, tv, tl⟩ := add_zero6 h2
    have ba := tot_bds ma
    have bc := tot_bds mc
    have be := tot_bds me
    have k3 := add_ok6 mc me (by omega)
    rw [h3] at k3
    have z3 : g3 = 0 := by simp only [Prod.mk.injEq] at k3; exact k3.2.2
    subst z3
    obtain ⟨-, -, m5, t5, -⟩ := add_zero6 h3
    have k4 := add_ok6 ma m5 (by omega)
    rw [h4] at k4
    have z4 : g4 = 0 := by simp only [Prod.mk.injEq] at k4; exact k4.2.2
    subst z4
    have k2 := add_ok6 mu me (by omega)
    rw [h2] at k2
    simp only [Prod.mk.injEq, and_true] at k2 k4
    have e1 : u3 = u7 := by omega
    have e2 : u4 = u8 := by omega
    have c1 := cmp_le (a := u7) (b := u8) (c := u1) (d := u2) (e1 ▸ e2 ▸ mv) mu (by rw [← e1, ← e2]; omega)
    have c2 := cmp_le mu ma (by omega)
    rcases (show n < 0 ∨ 60 < n ∨ (0 ≤ n ∧ n ≤ 60) by omega) with hn | hn | hn
    · exact adds_x_lo kn w h a b c d e f n u1 u2 0 u3 u4 0 u5 u6 0 u7 u8 0 h1 h1s h2 h3 h4 s1 s2 s3 s4 ⟨rfl, rfl, rfl, rfl⟩ e1 e2 _ _ rfl rfl c1 c2 hn
    · exact adds_x_hi kn w h a b c d e f n u1 u2 0 u3 u4 0 u5 u6 0 u7 u8 0 h1 h1s h2 h3 h4 s1 s2 s3 s4 ⟨rfl, rfl, rfl, rfl⟩ e1 e2 _ _ rfl rfl c1 c2 hn
    · exact adds_x_loop kn w h a b c d e f n u1 u2 0 u3 u4 0 u5 u6 0 u7 u8 0 h1 h1s h2 h3 h4 s1 s2 s3 s4 ⟨rfl, rfl, rfl, rfl⟩ e1 e2 _ _ rfl rfl c1 c2 hn.1 hn.2 ma
  · rcases (show n < 0 ∨ 60 < n ∨ (0 ≤ n ∧ n ≤ 60) by omega) with hn | hn | hn
    · exact adds_z_lo kn w h a b c d e f n u1 u2 g1 u3 u4 g2 u5 u6 g3 u7 u8 g4 h1 h1s h2 h3 h4 s1 s2 s3 s4 hs hn
    · exact adds_z_hi kn w h a b c d e f n u1 u2 g1 u3 u4 g2 u5 u6 g3 u7 u8 g4 h1 h1s h2 h3 h4 s1 s2 s3 s4 hs hn
    · cases hm : may a b with
      | true => exact adds_z_loop kn w h a b c d e f n u1 u2 g1 u3 u4 g2 u5 u6 g3 u7 u8 g4 h1 h1s h2 h3 h4 s1 s2 s3 s4 hs hn.1 hn.2 hm
      | false => exact adds_z_may kn w h a b c d e f n u1 u2 g1 u3 u4 g2 u5 u6 g3 u7 u8 g4 h1 h1s h2 h3 h4 s1 s2 s3 s4 hs hn.1 hn.2 hm
end Go.Proofs.YtojdahgoapknjaaDoor
