/- Times, Ticks, Of; the reference's Ticks, Of. -/
import Derived.Test.YtojdahgoapknjaaDoorSub
namespace Go.Proofs.YtojdahgoapknjaaDoor
open Go.RowKit
set_option linter.unusedVariables false

theorem tot_bds {a b : Int} (h : may a b = true) : 0 ≤ tot a b ∧ tot a b ≤ 2147483647999999999 := by
  obtain ⟨a1, a2, b1, b2⟩ := may_iff.1 h
  unfold tot
  omega
/-- So many times is too much just if dividing says so. -/
theorem times_big {T n : Int} (h0 : 0 < T) (hn : 0 ≤ n) : (2147483647999999999 / T < n) ↔ 2147483647 < T * n / 1000000000 := by
  have h1 : (2147483647999999999 / T < n) ↔ 2147483647999999999 < n * T := Int.ediv_lt_iff_lt_mul h0
  rw [h1, Int.mul_comm n T]
  generalize T * n = x
  omega
theorem bx21 (w : World) (a b e f : Int) : Bx ((w.alloc (ob a b)).alloc (ob e f)) w.heap.size a b ∧ Bx ((w.alloc (ob a b)).alloc (ob e f)) (w.heap.size + 1) e f ∧ Kp w ((w.alloc (ob a b)).alloc (ob e f)) [] := bx2 w a b e f

set_option maxRecDepth 100000 in
theorem times_any (w : World) (a b n : Int) (hn : I64 n) : Calls Tryd.prog 13 #[sp a b, .int .i64 n] w fun x w' => x = .returned (spE (timesP a b n)) ∧ Kp w w' [] := by
  obtain ⟨n0, n1⟩ := hn
  by_cases m1 : may a b = true
  · by_cases h0 : 0 ≤ n
    · obtain ⟨a1, a2, b1, b2⟩ := may_iff.1 m1
      have hT := tot_bds m1
      rw [show timesP a b n = ofN (tot a b * n) by unfold timesP; simp [m1, h0]]
      obtain ⟨T, ht⟩ : ∃ T, tot a b = T := ⟨_, rfl⟩
      have ht2 : a * 1000000000 + b = T := ht
      rw [ht] at hT ⊢
      clear ht
      have HT := hid ht2
      have W1 : IntKind.i64.wrap (a * 1000000000 + b) = T := by rw [ht2]; exact wrap_id ⟨by omega, by omega⟩
      have W2 : IntKind.i64.wrap (a * 1000000000) = a * 1000000000 := wrap_id ⟨by omega, by omega⟩
      clear ht2
      by_cases hz : 0 < T
      · have hb := times_big (n := n) hz h0
        have D1 : (2147483647999999999 : Int).tdiv T = 2147483647999999999 / T := Int.tdiv_eq_ediv_of_nonneg (by omega)
        have D2 : IntKind.i64.wrap (2147483647999999999 / T) = 2147483647999999999 / T := by
          have e1 := Int.ediv_nonneg (a := 2147483647999999999) (b := T) (by omega) (by omega)
          have e2 := Int.ediv_le_self (b := T) (a := 2147483647999999999) (by omega)
          exact wrap_id ⟨by omega, by omega⟩
        by_cases hf : 2147483647 < T * n / 1000000000
        · have hf' : 2147483647999999999 / T < n := hb.2 hf
          rw [ofN_big hf]
          clear hb hf
          go_enter Tryd.func13, Tryd.ntmps13
          go_wp2_with fail
          obtain ⟨p1, p2, k⟩ := bx2 w a b 0 0
          refine (may_any _ a b).mono ?_
          rintro e w1 ⟨rfl, k1⟩
          rw [m1]
          have K1 := hid (k.trans k1)
          have P1 := hid (p1.keep k1)
          have R1 := hid (p2.keep k1)
          clear p1 p2 k k1
          have x0 := P1.out.c0
          have x1 := P1.out.c1
          have x2 := R1.out.c0
          have x3 := R1.out.c1
          have x4 := R1.out.f0
          have x5 := R1.out.f1
          go_wp2_with fail
          exact bodyPost_ret (v := spE (0, 0, 5)) (by simp [results, Tryd.results13, go_sem, (R1.out.set 0 0).c0, (R1.out.set 0 0).c1]) rfl ⟨rfl, K1.out.store2 (by omega) _ _⟩
        · have hf' : n ≤ 2147483647999999999 / T := by
            rcases Int.lt_or_le (2147483647999999999 / T) n with h | h
            · exact absurd (hb.1 h) hf
            · exact h
          have hp : 0 ≤ T * n := Int.mul_nonneg (by omega) h0
          rw [ofN_ok (by omega)]
          have cr := fun w => carried_any w 0 (T * n) ⟨by omega, by omega⟩ ⟨by omega, by omega⟩
          simp only [carP_eq (t := T * n) (s := 0) (n := T * n) (by omega) (by omega)] at cr
          have W3 : IntKind.i64.wrap (T * n) = T * n := wrap_id ⟨by omega, by omega⟩
          obtain ⟨u, hu⟩ : ∃ u, T * n / 1000000000 = u := ⟨_, rfl⟩
          obtain ⟨v, hv⟩ : ∃ v, T * n % 1000000000 = v := ⟨_, rfl⟩
          rw [hu, hv]
          simp only [hu, hv] at cr
          clear hb hf hu hv hp
          go_enter Tryd.func13, Tryd.ntmps13
          go_wp2_with fail
          obtain ⟨p1, p2, k⟩ := bx2 w a b 0 0
          refine (may_any _ a b).mono ?_
          rintro e w1 ⟨rfl, k1⟩
          rw [m1]
          have K1 := hid (k.trans k1)
          have P1 := hid (p1.keep k1)
          have R1 := hid (p2.keep k1)
          clear p1 p2 k k1
          have x0 := P1.out.c0
          have x1 := P1.out.c1
          go_wp2_with fail
          refine (cr _).mono ?_
          rintro e w2 ⟨rfl, k1⟩
          have K2 := hid (K1.out.trans k1)
          have R2 := hid (R1.out.keep k1)
          clear K1 P1 R1 k1 x0 x1
          have x2 := R2.out.c0
          have x3 := R2.out.c1
          have x4 := R2.out.f0
          have x5 := R2.out.f1
          go_wp2_with fail
          exact bodyPost_ret (v := spE (u, v, 0)) (by simp [results, Tryd.results13, go_sem, (R2.out.set u v).c0, (R2.out.set u v).c1]) rfl ⟨rfl, K2.out.store2 (by omega) _ _⟩
      · have hz' : T = 0 := by omega
        subst hz'
        rw [Int.zero_mul, show ofN 0 = (0, 0, 0) from rfl]
        have cr := fun w => carried_any w 0 0 ⟨by omega, by omega⟩ ⟨by omega, by omega⟩
        simp only [show carP 0 0 = (0, 0) from rfl] at cr
        clear hz hT
        go_enter Tryd.func13, Tryd.ntmps13
        go_wp2_with fail
        obtain ⟨p1, p2, k⟩ := bx2 w a b 0 0
        refine (may_any _ a b).mono ?_
        rintro e w1 ⟨rfl, k1⟩
        rw [m1]
        have K1 := hid (k.trans k1)
        have P1 := hid (p1.keep k1)
        have R1 := hid (p2.keep k1)
        clear p1 p2 k k1
        have x0 := P1.out.c0
        have x1 := P1.out.c1
        go_wp2_with fail
        refine (cr _).mono ?_
        rintro e w2 ⟨rfl, k1⟩
        have K2 := hid (K1.out.trans k1)
        have R2 := hid (R1.out.keep k1)
        clear K1 P1 R1 k1 x0 x1
        have x2 := R2.out.c0
        have x3 := R2.out.c1
        have x4 := R2.out.f0
        have x5 := R2.out.f1
        go_wp2_with fail
        exact bodyPost_ret (v := spE (0, 0, 0)) (by simp [results, Tryd.results13, go_sem, (R2.out.set 0 0).c0, (R2.out.set 0 0).c1]) rfl ⟨rfl, K2.out.store2 (by omega) _ _⟩
    · have h0' : n < 0 := by omega
      rw [show timesP a b n = (0, 0, 2) by unfold timesP; simp [h0]]
      go_enter Tryd.func13, Tryd.ntmps13
      go_wp2_with fail
      obtain ⟨p1, p2, k⟩ := bx2 w a b 0 0
      refine (may_any _ a b).mono ?_
      rintro e w1 ⟨rfl, k1⟩
      rw [m1]
      have K1 := hid (k.trans k1)
      have R1 := hid (p2.keep k1)
      clear p1 p2 k k1
      have x2 := R1.out.c0
      have x3 := R1.out.c1
      have x4 := R1.out.f0
      have x5 := R1.out.f1
      go_wp2_with fail
      exact bodyPost_ret (v := spE (0, 0, 2)) (by simp [results, Tryd.results13, go_sem, (R1.out.set 0 0).c0, (R1.out.set 0 0).c1]) rfl ⟨rfl, K1.out.store2 (by omega) _ _⟩
  · have m1' : may a b = false := by simpa using m1
    rw [show timesP a b n = (0, 0, 2) by unfold timesP; simp [m1']]
    clear m1
    go_enter Tryd.func13, Tryd.ntmps13
    go_wp2_with fail
    obtain ⟨p1, p2, k⟩ := bx2 w a b 0 0
    refine (may_any _ a b).mono ?_
    rintro e w1 ⟨rfl, k1⟩
    rw [m1']
    have K1 := hid (k.trans k1)
    have R1 := hid (p2.keep k1)
    clear p1 p2 k k1
    have x2 := R1.out.c0
    have x3 := R1.out.c1
    have x4 := R1.out.f0
    have x5 := R1.out.f1
    go_wp2_with fail
    exact bodyPost_ret (v := spE (0, 0, 2)) (by simp [results, Tryd.results13, go_sem, (R1.out.set 0 0).c0, (R1.out.set 0 0).c1]) rfl ⟨rfl, K1.out.store2 (by omega) _ _⟩
end Go.Proofs.YtojdahgoapknjaaDoor
