/- Sub, Times. -/
import Derived.Test.YtojdahgoapknjaaDoorCmp
namespace Go.Proofs.YtojdahgoapknjaaDoor
open Go.RowKit

theorem cmp_le {a b c d : Int} (h1 : may a b = true) (h2 : may c d = true) (h : tot c d ≤ tot a b) : 0 ≤ cmpP a b c d := by
  obtain ⟨a1, a2, b1, b2⟩ := may_iff.1 h1
  obtain ⟨c1, c2, d1, d2⟩ := may_iff.1 h2
  unfold tot at h
  unfold cmpP
  rw [if_neg (by omega)]
  split <;> omega
theorem cmp_gt {a b c d : Int} (h1 : may a b = true) (h2 : may c d = true) (h : tot a b < tot c d) : cmpP a b c d = -1 := by
  obtain ⟨a1, a2, b1, b2⟩ := may_iff.1 h1
  obtain ⟨c1, c2, d1, d2⟩ := may_iff.1 h2
  unfold tot at h
  unfold cmpP
  rw [if_pos (by omega)]

set_option maxRecDepth 100000 in
theorem sub_any (w : World) (a b c d : Int) : Calls Tryd.prog 11 #[sp a b, sp c d] w fun x w' => x = .returned (spE (subP a b c d)) ∧ Kp w w' [] := by
  by_cases m1 : may a b = true
  · by_cases m2 : may c d = true
    · by_cases m3 : tot c d ≤ tot a b
      · have hc := cmp_le m1 m2 m3
        obtain ⟨a1, a2, b1, b2⟩ := may_iff.1 m1
        obtain ⟨c1, c2, d1, d2⟩ := may_iff.1 m2
        rw [show subP a b c d = ofN (tot a b - tot c d) by unfold subP; simp [m1, m2, m3]]
        obtain ⟨t, ht⟩ : ∃ t, tot a b - tot c d = t := ⟨_, rfl⟩
        have cr := fun w => carried_any w (a - c) (b - d) ⟨by omega, by omega⟩ ⟨by omega, by omega⟩
        have ht2 : t = (a - c) * 1000000000 + (b - d) := by rw [← ht]; unfold tot; omega
        have ht3 : 0 ≤ t := by omega
        rw [carP_eq ht2 (by omega)] at cr
        rw [ht, ofN_ok (by omega)]
        obtain ⟨u, hu⟩ : ∃ u, t / 1000000000 = u := ⟨_, rfl⟩
        obtain ⟨v, hv⟩ : ∃ v, t % 1000000000 = v := ⟨_, rfl⟩
        rw [hu, hv]
        simp only [hu, hv] at cr
        obtain ⟨q, hq⟩ : ∃ q, cmpP a b c d = q := ⟨_, rfl⟩
        have cq := fun w => cmp_any w a b c d
        rw [hq] at hc
        simp only [hq] at cq
        clear ht ht2 hu hv m3 hq ht3
        go_enter Tryd.func11, Tryd.ntmps11
        go_wp2_with fail
        obtain ⟨p1, p2, p3, k⟩ := bx3 w a b c d 0 0
        refine (may_any _ a b).mono ?_
        rintro e w1 ⟨rfl, k1⟩
        rw [m1]
        have K1 := hid (k.trans k1)
        have P1 := hid (p1.keep k1)
        have Q1 := hid (p2.keep k1)
        have R1 := hid (p3.keep k1)
        clear p1 p2 p3 k k1
        have x0 := Q1.out.c0
        have x1 := Q1.out.c1
        go_wp2_with fail
        refine (may_any _ c d).mono ?_
        rintro e w2 ⟨rfl, k1⟩
        rw [m2]
        have K2 := hid (K1.out.trans k1)
        have P2 := hid (P1.out.keep k1)
        have Q2 := hid (Q1.out.keep k1)
        have R2 := hid (R1.out.keep k1)
        clear P1 Q1 R1 K1 k1 x0 x1
        have x0 := P2.out.c0
        have x1 := P2.out.c1
        have x2 := Q2.out.c0
        have x3 := Q2.out.c1
        go_wp2_with fail
        refine (cq _).mono ?_
        rintro e w3 ⟨rfl, k1⟩
        have K3 := hid (K2.out.trans k1)
        have P3 := hid (P2.out.keep k1)
        have Q3 := hid (Q2.out.keep k1)
        have R3 := hid (R2.out.keep k1)
        clear P2 Q2 R2 K2 k1 x0 x1 x2 x3
        have x0 := P3.out.c0
        have x1 := P3.out.c1
        have x2 := Q3.out.c0
        have x3 := Q3.out.c1
        go_wp2_with fail
        refine (cr _).mono ?_
        rintro e w4 ⟨rfl, k1⟩
        have K4 := hid (K3.out.trans k1)
        have P4 := hid (P3.out.keep k1)
        have Q4 := hid (Q3.out.keep k1)
        have R4 := hid (R3.out.keep k1)
        clear P3 Q3 R3 K3 k1 x0 x1 x2 x3
        have x0 := R4.out.c0
        have x1 := R4.out.c1
        have x2 := R4.out.f0
        have x3 := R4.out.f1
        go_wp2_with fail
        exact bodyPost_ret (v := spE (u, v, 0)) (by simp [results, Tryd.results11, go_sem, (R4.out.set u  v).c0, (R4.out.set u  v).c1]) rfl ⟨rfl, K4.out.store2 (by omega) _ _⟩
      · have m3' : tot a b < tot c d := by omega
        have cq := fun w => cmp_any w a b c d
        simp only [cmp_gt m1 m2 m3'] at cq
        rw [show subP a b c d = (0, 0, 2) by unfold subP; simp [m1, m2]; omega]
        clear m3 m3'
        go_enter Tryd.func11, Tryd.ntmps11
        go_wp2_with fail
        obtain ⟨p1, p2, p3, k⟩ := bx3 w a b c d 0 0
        refine (may_any _ a b).mono ?_
        rintro e w1 ⟨rfl, k1⟩
        rw [m1]
        have K1 := hid (k.trans k1)
        have P1 := hid (p1.keep k1)
        have Q1 := hid (p2.keep k1)
        have R1 := hid (p3.keep k1)
        clear p1 p2 p3 k k1
        have x0 := Q1.out.c0
        have x1 := Q1.out.c1
        go_wp2_with fail
        refine (may_any _ c d).mono ?_
        rintro e w2 ⟨rfl, k1⟩
        rw [m2]
        have K2 := hid (K1.out.trans k1)
        have P2 := hid (P1.out.keep k1)
        have Q2 := hid (Q1.out.keep k1)
        have R2 := hid (R1.out.keep k1)
        clear P1 Q1 R1 K1 k1 x0 x1
        have x0 := P2.out.c0
        have x1 := P2.out.c1
        have x2 := Q2.out.c0
        have x3 := Q2.out.c1
        go_wp2_with fail
        refine (cq _).mono ?_
        rintro e w3 ⟨rfl, k1⟩
        have K3 := hid (K2.out.trans k1)
        have P3 := hid (P2.out.keep k1)
        have Q3 := hid (Q2.out.keep k1)
        have R3 := hid (R2.out.keep k1)
        clear P2 Q2 R2 K2 k1 x0 x1 x2 x3
        have x0 := R3.out.c0
        have x1 := R3.out.c1
        have x2 := R3.out.f0
        have x3 := R3.out.f1
        go_wp2_with fail
        exact bodyPost_ret (v := spE (0, 0, 2)) (by simp [results, Tryd.results11, go_sem, (R3.out.set 0  0).c0, (R3.out.set 0  0).c1]) rfl ⟨rfl, K3.out.store2 (by omega) _ _⟩
    · have m2' : may c d = false := by simpa using m2
      rw [show subP a b c d = (0, 0, 2) by unfold subP; simp [m2']]
      clear m2
      go_enter Tryd.func11, Tryd.ntmps11
      go_wp2_with fail
      obtain ⟨p1, p2, p3, k⟩ := bx3 w a b c d 0 0
      refine (may_any _ a b).mono ?_
      rintro e w1 ⟨rfl, k1⟩
      rw [m1]
      have K1 := hid (k.trans k1)
      have P1 := hid (p1.keep k1)
      have Q1 := hid (p2.keep k1)
      have R1 := hid (p3.keep k1)
      clear p1 p2 p3 k k1
      have x0 := Q1.out.c0
      have x1 := Q1.out.c1
      go_wp2_with fail
      refine (may_any _ c d).mono ?_
      rintro e w2 ⟨rfl, k1⟩
      rw [m2']
      have K2 := hid (K1.out.trans k1)
      have P2 := hid (P1.out.keep k1)
      have Q2 := hid (Q1.out.keep k1)
      have R2 := hid (R1.out.keep k1)
      clear P1 Q1 R1 K1 k1 x0 x1
      have x0 := R2.out.c0
      have x1 := R2.out.c1
      have x2 := R2.out.f0
      have x3 := R2.out.f1
      go_wp2_with fail
      exact bodyPost_ret (v := spE (0, 0, 2)) (by simp [results, Tryd.results11, go_sem, (R2.out.set 0  0).c0, (R2.out.set 0  0).c1]) rfl ⟨rfl, K2.out.store2 (by omega) _ _⟩
  · have m1' : may a b = false := by simpa using m1
    rw [show subP a b c d = (0, 0, 2) by unfold subP; simp [m1']]
    clear m1
    go_enter Tryd.func11, Tryd.ntmps11
    go_wp2_with fail
    obtain ⟨p1, p2, p3, k⟩ := bx3 w a b c d 0 0
    refine (may_any _ a b).mono ?_
    rintro e w1 ⟨rfl, k1⟩
    rw [m1']
    have K1 := hid (k.trans k1)
    have P1 := hid (p1.keep k1)
    have Q1 := hid (p2.keep k1)
    have R1 := hid (p3.keep k1)
    clear p1 p2 p3 k k1
    have x0 := R1.out.c0
    have x1 := R1.out.c1
    have x2 := R1.out.f0
    have x3 := R1.out.f1
    go_wp2_with fail
    exact bodyPost_ret (v := spE (0, 0, 2)) (by simp [results, Tryd.results11, go_sem, (R1.out.set 0  0).c0, (R1.out.set 0  0).c1]) rfl ⟨rfl, K1.out.store2 (by omega) _ _⟩
end Go.Proofs.YtojdahgoapknjaaDoor
