/- The reference: Times. -/
import Derived.Test.YtojdahgoapknjaaDoorRadd
import Derived.Test.YtojdahgoapknjaaDoorTimes
namespace Go.Proofs.YtojdahgoapknjaaDoor
open Go.RowKit
set_option linter.unusedVariables false

set_option maxRecDepth 100000 in
set_option maxHeartbeats 4000000 in
theorem rtimes_any (w : World) (a b n : Int) (hn : I64 n) : Calls Tryd.prog 14 #[sp a b, .int .i64 n] w fun x w' => x = .returned (spE (timesP a b n)) ∧ Kp w w' [] := by
  obtain ⟨n0, n1⟩ := hn
  by_cases m1 : may a b = true
  · by_cases h0 : 0 ≤ n
    · have ca := fun w => all_any w a b m1
      have hT := tot_bds m1
      rw [show timesP a b n = ofN (tot a b * n) by unfold timesP; simp [m1, h0]]
      obtain ⟨T, ht⟩ : ∃ T, tot a b = T := ⟨_, rfl⟩
      simp only [ht] at ca hT ⊢
      clear ht
      rcases (show n = 0 ∨ 0 < n by omega) with hz | hz
      · subst hz
        rw [Int.mul_zero]
        have co := fun w => of_any w 0 (by omega) (by omega)
        obtain ⟨r, hr⟩ : ∃ r, ofN 0 = r := ⟨_, rfl⟩
        simp only [hr] at co ⊢
        clear hr
        obtain ⟨u, v, g⟩ := r
        go_enter Tryd.func14, Tryd.ntmps14
        go_wp2_with fail
        obtain ⟨p1, p2, k⟩ := bx2 w a b 0 0
        refine (rmay_any _ a b).mono ?_
        rintro e w1 ⟨rfl, k1⟩
        rw [m1]
        have K1 := hid (k.trans k1)
        have P1 := hid (p1.keep k1)
        have R1 := hid (p2.keep k1)
        clear p1 p2 k k1
        have x0 := P1.out.c0
        have x1 := P1.out.c1
        go_wp2_with fail
        go_region
        all_goals (
          have K2 := hid (K1.out.trans (Kp.drew w1 []))
          have P2 := hid P1.out.drew
          have R2 := hid R1.out.drew
          go_wp2_with fail
          refine (ca _).mono ?_
          rintro e v2 ⟨rfl, k1⟩
          have K5 := hid (K2.out.trans k1)
          have R5 := hid (R2.out.keep k1)
          clear k1
          go_wp2_with fail
          refine (co _).mono ?_
          rintro e v3 ⟨rfl, k1⟩
          have K6 := hid (K5.out.trans k1)
          have R6 := hid (R5.out.keep k1)
          clear k1
          have q0 := R6.out.c0
          have q1 := R6.out.c1
          have q2 := R6.out.f0
          have q3 := R6.out.f1
          go_wp2_with fail
          exact bodyPost_ret (v := spE (u, v, g)) (by simp [results, Tryd.results14, go_sem, (R6.out.set u  v).c0, (R6.out.set u  v).c1]) rfl ⟨rfl, K6.out.store2 (by omega) _ _⟩)
      · rcases (show T = 0 ∨ 0 < T by omega) with ht | ht
        · have co := fun w => of_any w 0 (by omega) (by omega)
          have W3 : IntKind.i64.wrap (T * n) = 0 := by rw [ht, Int.zero_mul]; rfl
          rw [show T * n = 0 by rw [ht, Int.zero_mul]]
          obtain ⟨r, hr⟩ : ∃ r, ofN 0 = r := ⟨_, rfl⟩
          simp only [hr] at co ⊢
          clear hr
          obtain ⟨u, v, g⟩ := r
          have hq1 : (decide (0 < n)) = true := by simp; omega
          have hq2 : (decide (0 < T)) = false := by simp; omega
          clear ht
          go_enter Tryd.func14, Tryd.ntmps14
          go_wp2_with fail
          obtain ⟨p1, p2, k⟩ := bx2 w a b 0 0
          refine (rmay_any _ a b).mono ?_
          rintro e w1 ⟨rfl, k1⟩
          rw [m1]
          have K1 := hid (k.trans k1)
          have P1 := hid (p1.keep k1)
          have R1 := hid (p2.keep k1)
          clear p1 p2 k k1
          have x0 := P1.out.c0
          have x1 := P1.out.c1
          go_wp2_with fail
          first
            | go_region_with (go_at_call 31; refine (ca _).mono ?_; rintro e y1 ⟨rfl, h1⟩; have a1 := (P1.out.drew.keep h1).c0; have a2 := (P1.out.drew.keep h1).c1)
            | fail
          all_goals (
            have K2 := hid (K1.out.trans ((Kp.drew w1 []).trans h1))
            have P2 := hid (P1.out.drew.keep h1)
            have R2 := hid (R1.out.drew.keep h1)
            go_wp2_with fail
            refine (ca _).mono ?_
            rintro e v2 ⟨rfl, k1⟩
            have K5 := hid (K2.out.trans k1)
            have R5 := hid (R2.out.keep k1)
            clear k1
            go_wp2_with fail
            refine (co _).mono ?_
            rintro e v3 ⟨rfl, k1⟩
            have K6 := hid (K5.out.trans k1)
            have R6 := hid (R5.out.keep k1)
            clear k1
            have q0 := R6.out.c0
            have q1 := R6.out.c1
            have q2 := R6.out.f0
            have q3 := R6.out.f1
            go_wp2_with fail
            exact bodyPost_ret (v := spE (u, v, g)) (by simp [results, Tryd.results14, go_sem, (R6.out.set u  v).c0, (R6.out.set u  v).c1]) rfl ⟨rfl, K6.out.store2 (by omega) _ _⟩)
        · have hb := times_big (T := n) (n := T) hz (by omega)
          rw [Int.mul_comm n T] at hb
          have D1 : (2147483647999999999 : Int).tdiv n = 2147483647999999999 / n := Int.tdiv_eq_ediv_of_nonneg (by omega)
          have D2 : IntKind.i64.wrap (2147483647999999999 / n) = 2147483647999999999 / n := by
            have e1 := Int.ediv_nonneg (a := 2147483647999999999) (b := n) (by omega) (by omega)
            have e2 := Int.ediv_le_self (b := n) (a := 2147483647999999999) (by omega)
            exact wrap_id ⟨by omega, by omega⟩
          have hn0 : (n == 0) = false := by simp; omega
          have hn1 : n ≠ 0 := by omega
          have hq1 : (decide (0 < n)) = true := by simp; omega
          have hq2 : (decide (0 < T)) = true := by simp; omega
          by_cases hf : 2147483647 < T * n / 1000000000
          · have hf' : 2147483647999999999 / n < T := hb.2 hf
            rw [ofN_big hf]
            clear hb hf
            go_enter Tryd.func14, Tryd.ntmps14
            go_wp2_with fail
            obtain ⟨p1, p2, k⟩ := bx2 w a b 0 0
            refine (rmay_any _ a b).mono ?_
            rintro e w1 ⟨rfl, k1⟩
            rw [m1]
            have K1 := hid (k.trans k1)
            have P1 := hid (p1.keep k1)
            have R1 := hid (p2.keep k1)
            clear p1 p2 k k1
            have x0 := P1.out.c0
            have x1 := P1.out.c1
            go_wp2_with fail
            go_region_with (first
              | (go_at_call 31; have _hh := h1; refine (ca _).mono ?_; rintro e y2 ⟨rfl, h2⟩; have b1 := (P1.out.drew.keep (h1.trans h2)).c0; have b2 := (P1.out.drew.keep (h1.trans h2)).c1)
              | (go_at_call 31; refine (ca _).mono ?_; rintro e y1 ⟨rfl, h1⟩; have a1 := (P1.out.drew.keep h1).c0; have a2 := (P1.out.drew.keep h1).c1))
            all_goals (
              have K2 := hid (K1.out.trans (((Kp.drew w1 []).trans h1).trans h2))
              have R2 := hid ((R1.out.drew.keep h1).keep h2)
              have q0 := R2.out.c0
              have q1 := R2.out.c1
              have q2 := R2.out.f0
              have q3 := R2.out.f1
              go_wp2_with fail
              exact bodyPost_ret (v := spE (0, 0, 5)) (by simp [results, Tryd.results14, go_sem, (R2.out.set 0  0).c0, (R2.out.set 0  0).c1]) rfl ⟨rfl, K2.out.store2 (by omega) _ _⟩)
          · have hf' : T ≤ 2147483647999999999 / n := by
              rcases Int.lt_or_le (2147483647999999999 / n) T with h | h
              · exact absurd (hb.1 h) hf
              · exact h
            have hp : 0 ≤ T * n := Int.mul_nonneg (by omega) h0
            have co := fun w => of_any w (T * n) (by omega) (by omega)
            have W3 : IntKind.i64.wrap (T * n) = T * n := wrap_id ⟨by omega, by omega⟩
            obtain ⟨r, hr⟩ : ∃ r, ofN (T * n) = r := ⟨_, rfl⟩
            simp only [hr] at co ⊢
            clear hr
            obtain ⟨u, v, g⟩ := r
            clear hb hf hp
            go_enter Tryd.func14, Tryd.ntmps14
            go_wp2_with fail
            obtain ⟨p1, p2, k⟩ := bx2 w a b 0 0
            refine (rmay_any _ a b).mono ?_
            rintro e w1 ⟨rfl, k1⟩
            rw [m1]
            have K1 := hid (k.trans k1)
            have P1 := hid (p1.keep k1)
            have R1 := hid (p2.keep k1)
            clear p1 p2 k k1
            have x0 := P1.out.c0
            have x1 := P1.out.c1
            go_wp2_with fail
            go_region_with (first
              | (go_at_call 31; have _hh := h1; refine (ca _).mono ?_; rintro e y2 ⟨rfl, h2⟩; have b1 := (P1.out.drew.keep (h1.trans h2)).c0; have b2 := (P1.out.drew.keep (h1.trans h2)).c1)
              | (go_at_call 31; refine (ca _).mono ?_; rintro e y1 ⟨rfl, h1⟩; have a1 := (P1.out.drew.keep h1).c0; have a2 := (P1.out.drew.keep h1).c1))
            all_goals (
              have K2 := hid (K1.out.trans (((Kp.drew w1 []).trans h1).trans h2))
              have P2 := hid ((P1.out.drew.keep h1).keep h2)
              have R2 := hid ((R1.out.drew.keep h1).keep h2)
              go_wp2_with fail
              refine (ca _).mono ?_
              rintro e v2 ⟨rfl, k1⟩
              have K5 := hid (K2.out.trans k1)
              have R5 := hid (R2.out.keep k1)
              clear k1
              go_wp2_with fail
              refine (co _).mono ?_
              rintro e v3 ⟨rfl, k1⟩
              have K6 := hid (K5.out.trans k1)
              have R6 := hid (R5.out.keep k1)
              clear k1
              have q0 := R6.out.c0
              have q1 := R6.out.c1
              have q2 := R6.out.f0
              have q3 := R6.out.f1
              go_wp2_with fail
              exact bodyPost_ret (v := spE (u, v, g)) (by simp [results, Tryd.results14, go_sem, (R6.out.set u  v).c0, (R6.out.set u  v).c1]) rfl ⟨rfl, K6.out.store2 (by omega) _ _⟩)
    · have h0' : n < 0 := by omega
      rw [show timesP a b n = (0, 0, 2) by unfold timesP; simp [h0]]
      go_enter Tryd.func14, Tryd.ntmps14
      go_wp2_with fail
      obtain ⟨p1, p2, k⟩ := bx2 w a b 0 0
      refine (rmay_any _ a b).mono ?_
      rintro e w1 ⟨rfl, k1⟩
      rw [m1]
      have K1 := hid (k.trans k1)
      have P1 := hid (p1.keep k1)
      have R1 := hid (p2.keep k1)
      clear p1 p2 k k1
      have x0 := R1.out.c0
      have x1 := R1.out.c1
      have x2 := R1.out.f0
      have x3 := R1.out.f1
      go_wp2_with fail
      exact bodyPost_ret (v := spE (0, 0, 2)) (by simp [results, Tryd.results14, go_sem, (R1.out.set 0  0).c0, (R1.out.set 0  0).c1]) rfl ⟨rfl, K1.out.store2 (by omega) _ _⟩
  · have m1' : may a b = false := by simpa using m1
    rw [show timesP a b n = (0, 0, 2) by unfold timesP; simp [m1']]
    clear m1
    go_enter Tryd.func14, Tryd.ntmps14
    go_wp2_with fail
    obtain ⟨p1, p2, k⟩ := bx2 w a b 0 0
    refine (rmay_any _ a b).mono ?_
    rintro e w1 ⟨rfl, k1⟩
    rw [m1']
    have K1 := hid (k.trans k1)
    have P1 := hid (p1.keep k1)
    have R1 := hid (p2.keep k1)
    clear p1 p2 k k1
    have x0 := R1.out.c0
    have x1 := R1.out.c1
    have x2 := R1.out.f0
    have x3 := R1.out.f1
    go_wp2_with fail
    exact bodyPost_ret (v := spE (0, 0, 2)) (by simp [results, Tryd.results14, go_sem, (R1.out.set 0  0).c0, (R1.out.set 0  0).c1]) rfl ⟨rfl, K1.out.store2 (by omega) _ _⟩
end Go.Proofs.YtojdahgoapknjaaDoor
