/- Ticks, Of; the reference's. -/
import Derived.Test.YtojdahgoapknjaaDoorTimes
namespace Go.Proofs.YtojdahgoapknjaaDoor
open Go.RowKit
set_option linter.unusedVariables false

abbrev tkE (r : Int × Int) : Value := .tuple #[.int .i64 r.1, .int .i64 r.2]
theorem ticksP_big {a b : Int} (m : may a b = true) (h : 1099511627776 < (tot a b + 999999) / 1000000) : ticksP a b = (0, 5) := by unfold ticksP; rw [if_pos m, if_pos (by omega)]
theorem ticksP_ok {a b : Int} (m : may a b = true) (h : (tot a b + 999999) / 1000000 ≤ 1099511627776) : ticksP a b = ((tot a b + 999999) / 1000000, 0) := by unfold ticksP; rw [if_pos m, if_neg (by omega)]

set_option maxRecDepth 100000 in
theorem ticks_any (w : World) (a b : Int) : Calls Tryd.prog 21 #[sp a b] w fun x w' => x = .returned (tkE (ticksP a b)) ∧ Kp w w' [] := by
  by_cases m1 : may a b = true
  · obtain ⟨a1, a2, b1, b2⟩ := may_iff.1 m1
    obtain ⟨t, ht⟩ : ∃ t, (tot a b + 999999) / 1000000 = t := ⟨_, rfl⟩
    have hE : a * 1000 + (b + 1000000 - 1) / 1000000 = t := by rw [← ht]; unfold tot; omega
    have D0 : b + 1000000 - 1 = b + 999999 := by omega
    have D1 : (b + 1000000 - 1).tdiv 1000000 = (b + 1000000 - 1) / 1000000 := Int.tdiv_eq_ediv_of_nonneg (by omega)
    have D2 : IntKind.i64.wrap ((b + 1000000 - 1) / 1000000) = (b + 1000000 - 1) / 1000000 := wrap_id ⟨by omega, by omega⟩
    have D3 : IntKind.i64.wrap (a * 1000 + (b + 1000000 - 1) / 1000000) = t := by rw [wrap_id ⟨by omega, by omega⟩, hE]
    rw [D0] at D1 D2 D3
    have D4 : IntKind.i64.wrap (b + 1000000 - 1) = b + 1000000 - 1 := wrap_id ⟨by omega, by omega⟩
    have D5 := D4
    rw [D0] at D5
    clear hE
    by_cases hf : 1099511627776 < t
    · rw [ticksP_big m1 (by omega)]
      clear ht
      go_enter Tryd.func21, Tryd.ntmps21
      go_wp2_with fail
      have p1 := bx_new w a b
      refine (may_any _ a b).mono ?_
      rintro e w1 ⟨rfl, k1⟩
      rw [m1]
      have K1 := hid ((Kp.alloc w (ob a b) []).trans k1)
      have P1 := hid (p1.keep k1)
      clear p1 k1
      have x0 := P1.out.c0
      have x1 := P1.out.c1
      go_wp2_with fail
      exact bodyPost_ret (v := tkE (0, 5)) (by simp [results, Tryd.results21, go_sem]) rfl ⟨rfl, K1.out⟩
    · have hf' : t ≤ 1099511627776 := by omega
      rw [ticksP_ok m1 (by omega), ht]
      clear ht
      go_enter Tryd.func21, Tryd.ntmps21
      go_wp2_with fail
      have p1 := bx_new w a b
      refine (may_any _ a b).mono ?_
      rintro e w1 ⟨rfl, k1⟩
      rw [m1]
      have K1 := hid ((Kp.alloc w (ob a b) []).trans k1)
      have P1 := hid (p1.keep k1)
      clear p1 k1
      have x0 := P1.out.c0
      have x1 := P1.out.c1
      go_wp2_with fail
      exact bodyPost_ret (v := tkE (t, 0)) (by simp [results, Tryd.results21, go_sem]) rfl ⟨rfl, K1.out⟩
  · have m1' : may a b = false := by simpa using m1
    rw [show ticksP a b = (0, 2) by unfold ticksP; simp [m1']]
    clear m1
    go_enter Tryd.func21, Tryd.ntmps21
    go_wp2_with fail
    refine (may_any _ a b).mono ?_
    rintro e w1 ⟨rfl, k1⟩
    rw [m1']
    have K1 := hid ((Kp.alloc w (ob a b) []).trans k1)
    clear k1
    go_wp2_with fail
    exact bodyPost_ret (v := tkE (0, 2)) (by simp [results, Tryd.results21, go_sem]) rfl ⟨rfl, K1.out⟩

set_option maxRecDepth 100000 in
theorem rticks_any (w : World) (a b : Int) : Calls Tryd.prog 22 #[sp a b] w fun x w' => x = .returned (tkE (ticksP a b)) ∧ Kp w w' [] := by
  by_cases m1 : may a b = true
  · have hT := tot_bds m1
    have ca := fun w => all_any w a b m1
    have L1 := @ticksP_big a b m1
    have L2 := @ticksP_ok a b m1
    obtain ⟨T, hT2⟩ : ∃ T, tot a b = T := ⟨_, rfl⟩
    simp only [hT2] at hT ca L1 L2
    obtain ⟨t, ht⟩ : ∃ t, (T + 999999) / 1000000 = t := ⟨_, rfl⟩
    have D1 : (T + 999999).tdiv 1000000 = (T + 999999) / 1000000 := Int.tdiv_eq_ediv_of_nonneg (by omega)
    rw [ht] at D1
    have D2 : IntKind.i64.wrap t = t := wrap_id ⟨by omega, by omega⟩
    simp only [ht] at L1 L2
    have D3 := hid ht
    clear hT2 ht
    by_cases hf : 1099511627776 < t
    · rw [L1 hf]
      clear L1 L2
      go_enter Tryd.func22, Tryd.ntmps22
      go_wp2_with fail
      have p1 := bx_new w a b
      refine (rmay_any _ a b).mono ?_
      rintro e w1 ⟨rfl, k1⟩
      rw [m1]
      have K1 := hid ((Kp.alloc w (ob a b) []).trans k1)
      have P1 := hid (p1.keep k1)
      clear p1 k1
      have x0 := P1.out.c0
      have x1 := P1.out.c1
      go_wp2_with fail
      refine (ca _).mono ?_
      rintro e w2 ⟨rfl, k1⟩
      have K2 := hid (K1.out.trans k1)
      clear k1 K1 P1 x0 x1
      have D4 := D3.out
      go_wp2_with fail
      exact bodyPost_ret (v := tkE (0, 5)) (by simp [results, Tryd.results22, go_sem]) rfl ⟨rfl, K2.out⟩
    · have hf' : t ≤ 1099511627776 := by omega
      rw [L2 hf']
      clear L1 L2
      go_enter Tryd.func22, Tryd.ntmps22
      go_wp2_with fail
      have p1 := bx_new w a b
      refine (rmay_any _ a b).mono ?_
      rintro e w1 ⟨rfl, k1⟩
      rw [m1]
      have K1 := hid ((Kp.alloc w (ob a b) []).trans k1)
      have P1 := hid (p1.keep k1)
      clear p1 k1
      have x0 := P1.out.c0
      have x1 := P1.out.c1
      go_wp2_with fail
      refine (ca _).mono ?_
      rintro e w2 ⟨rfl, k1⟩
      have K2 := hid (K1.out.trans k1)
      clear k1 K1 P1 x0 x1
      have D4 := D3.out
      go_wp2_with fail
      exact bodyPost_ret (v := tkE (t, 0)) (by simp [results, Tryd.results22, go_sem]) rfl ⟨rfl, K2.out⟩
  · have m1' : may a b = false := by simpa using m1
    rw [show ticksP a b = (0, 2) by unfold ticksP; simp [m1']]
    clear m1
    go_enter Tryd.func22, Tryd.ntmps22
    go_wp2_with fail
    refine (rmay_any _ a b).mono ?_
    rintro e w1 ⟨rfl, k1⟩
    rw [m1']
    have K1 := hid ((Kp.alloc w (ob a b) []).trans k1)
    clear k1
    go_wp2_with fail
    exact bodyPost_ret (v := tkE (0, 2)) (by simp [results, Tryd.results22, go_sem]) rfl ⟨rfl, K1.out⟩

theorem ofP_no {n : Int} (h : n < 0 ∨ 1099511627776 < n) : ofP n = (0, 0, 2) := by unfold ofP; rw [if_neg (by omega)]
theorem ofP_ok {n : Int} (h : 0 ≤ n) (h' : n ≤ 1099511627776) : ofP n = (n / 1000, n % 1000 * 1000000, 0) := by unfold ofP; rw [if_pos ⟨h, h'⟩]
set_option maxRecDepth 100000 in
theorem of6_any (w : World) (n : Int) : Calls Tryd.prog 23 #[.int .i64 n] w fun x w' => x = .returned (spE (ofP n)) ∧ Kp w w' [] := by
  by_cases h0 : 0 ≤ n
  · by_cases h1 : n ≤ 1099511627776
    · rw [ofP_ok h0 h1]
      have cr := fun w => carried_any w 0 (n * 1000000) ⟨by omega, by omega⟩ ⟨by omega, by omega⟩
      simp only [carP_eq (t := n * 1000000) (s := 0) (n := n * 1000000) (by omega) (by omega), show n * 1000000 / 1000000000 = n / 1000 by omega, show n * 1000000 % 1000000000 = n % 1000 * 1000000 by omega] at cr
      obtain ⟨u, hu⟩ : ∃ u, n / 1000 = u := ⟨_, rfl⟩
      obtain ⟨v, hv⟩ : ∃ v, n % 1000 * 1000000 = v := ⟨_, rfl⟩
      simp only [hu, hv] at cr ⊢
      clear hu hv
      go_enter Tryd.func23, Tryd.ntmps23
      go_wp2_with fail
      have p1 := bx_new w 0 0
      refine (cr _).mono ?_
      rintro e w1 ⟨rfl, k1⟩
      have K1 := hid ((Kp.alloc w (ob 0 0) []).trans k1)
      have R1 := hid (p1.keep k1)
      clear p1 k1 cr
      have x0 := R1.out.c0
      have x1 := R1.out.c1
      have x2 := R1.out.f0
      have x3 := R1.out.f1
      go_wp2_with fail
      exact bodyPost_ret (v := spE (u, v, 0)) (by simp [results, Tryd.results23, go_sem, (R1.out.set u v).c0, (R1.out.set u v).c1]) rfl ⟨rfl, K1.out.store2 (by omega) _ _⟩
    · have h1' : 1099511627776 < n := by omega
      rw [ofP_no (Or.inr h1')]
      go_enter Tryd.func23, Tryd.ntmps23
      go_wp2
      exact bodyPost_ret (v := spE (0, 0, 2)) (by simp [results, Tryd.results23, go_sem]) rfl ⟨rfl, Kp.alloc _ _ _⟩
  · have h0' : n < 0 := by omega
    rw [ofP_no (Or.inl h0')]
    go_enter Tryd.func23, Tryd.ntmps23
    go_wp2
    exact bodyPost_ret (v := spE (0, 0, 2)) (by simp [results, Tryd.results23, go_sem]) rfl ⟨rfl, Kp.alloc _ _ _⟩
set_option maxRecDepth 100000 in
theorem rof6_any (w : World) (n : Int) : Calls Tryd.prog 24 #[.int .i64 n] w fun x w' => x = .returned (spE (ofP n)) ∧ Kp w w' [] := by
  by_cases h0 : 0 ≤ n
  · by_cases h1 : n ≤ 1099511627776
    · rw [ofP_ok h0 h1]
      have d1 : n.tdiv 1000 = n / 1000 := Int.tdiv_eq_ediv_of_nonneg (by omega)
      have d2 : n.tmod 1000 = n % 1000 := Int.tmod_eq_emod_of_nonneg (by omega)
      have d3 : IntKind.i64.wrap (n / 1000) = n / 1000 := wrap_id ⟨by omega, by omega⟩
      have d4 : IntKind.i64.wrap (n % 1000) = n % 1000 := wrap_id ⟨by omega, by omega⟩
      have d5 : IntKind.i64.wrap (n % 1000 * 1000000) = n % 1000 * 1000000 := wrap_id ⟨by omega, by omega⟩
      go_enter Tryd.func24, Tryd.ntmps24
      go_wp2
      exact bodyPost_ret (v := spE (n / 1000, n % 1000 * 1000000, 0)) (by simp [results, Tryd.results24, go_sem]) rfl ⟨rfl, Kp.alloc _ _ _⟩
    · have h1' : 1099511627776 < n := by omega
      rw [ofP_no (Or.inr h1')]
      go_enter Tryd.func24, Tryd.ntmps24
      go_wp2
      exact bodyPost_ret (v := spE (0, 0, 2)) (by simp [results, Tryd.results24, go_sem]) rfl ⟨rfl, Kp.alloc _ _ _⟩
  · have h0' : n < 0 := by omega
    rw [ofP_no (Or.inl h0')]
    go_enter Tryd.func24, Tryd.ntmps24
    go_wp2
    exact bodyPost_ret (v := spE (0, 0, 2)) (by simp [results, Tryd.results24, go_sem]) rfl ⟨rfl, Kp.alloc _ _ _⟩
end Go.Proofs.YtojdahgoapknjaaDoor
