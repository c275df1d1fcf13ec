/- TableSteps' walk. -/
import Derived.Test.YtaofpijcjohnhaaStands
import Derived.Test.YtaofpijcjohnhaaKnown
namespace Go.Proofs.Ytaofpijcjohnhaa
open Go.RowKit

set_option maxRecDepth 100000 in
set_option maxHeartbeats 1000000 in
theorem steps_bad (w : World) (V : Value) (n leave : Int) (h : ¬ (1 ≤ n ∧ n ≤ 16)) : Calls Try.prog 3 #[.int .i64 n, V, .int .i64 leave] w fun e w' => e = .returned (.bool true) ∧ Kp w w' [] := by
  go_enter Try.func3, Try.ntmps3
  go_wp2_with fail
  refine (new_no w n h).mono ?_
  rintro e w' ⟨rfl, rfl⟩
  go_wp2_with fail
  refine (rnew_no w' n h).mono ?_
  rintro e w ⟨rfl, rfl⟩
  go_wp2_with (go_at_call 9; go_in)
  refine (known_any w).mono ?_
  rintro e w2 ⟨rfl, k2⟩
  have K2 := hid k2
  clear k2
  go_wp2
  go_ret
  exact ⟨rfl, K2.out⟩

set_option maxRecDepth 100000 in
set_option maxHeartbeats 4000000 in
theorem steps_good (w : World) (V : Value) (N : Nat) (S : Nat → St) (hV : Sc w V N S) (leave : Int) (n : Nat) (h1 : 1 ≤ n) (h2 : n ≤ 16) :
    Calls Try.prog 3 #[.int .i64 n, V, .int .i64 leave] w fun e w' => e = .returned (.bool true) ∧ Kp w w' [] := by
  obtain ⟨so, sc, rfl⟩ := hV.shape
  have HV := hid hV
  clear hV
  go_enter Try.func3, Try.ntmps3
  go_wp2_with fail
  refine (new_ok w n (by omega) (by omega)).mono ?_
  rintro e w1 ⟨rfl, rfl⟩
  have T1 := hid (show Tt _ w.heap.size n T0 from heap_alloc_new w (.cells (tcs n T0) 55))
  have K1 := hid (Kp.alloc w (.cells (tcs n T0) 55) [])
  obtain ⟨W1, hW1⟩ : ∃ W1, w.alloc (.cells (tcs n T0) 55) = W1 := ⟨_, rfl⟩
  obtain ⟨tb0, htb0⟩ : ∃ tb0, w.heap.size = tb0 := ⟨_, rfl⟩
  rw [hW1] at T1 K1 ⊢
  rw [htb0] at T1 ⊢
  have NT := hid (show w.heap.size ≤ tb0 by omega)
  clear hW1 htb0
  go_wp2_with fail
  refine (rnew_ok W1 n h1 h2).mono ?_
  rintro e W2 ⟨rb, mb, rfl, r2, hrb, hmb, k2⟩
  have D0 := hid (show Dv w W2 tb0 rb mb n ((0 : Nat) : Int) T0 [] none 0 0 from ⟨T1.out.keep k2 (by simp), r2, fun _ _ => rfl, fun _ _ => ⟨Int.le_refl 0, Int.le_refl 0⟩, rfl, ⟨rfl, .inl ⟨rfl, rfl⟩⟩, by have := NT.out; have := K1.out.size; omega, K1.out.trans k2⟩)
  clear T1 K1 NT r2 hrb hmb k2
  go_wp2_with fail
  refine (num_any W2 0).mono ?_
  rintro e w' ⟨rfl, rfl⟩
  go_wp2_with fail
  go_loopw [7, 9, 10, 11] (fun vt vr vl vi W => ∃ (i m cp tb : Nat) (ao : Option Addr), i ≤ 150 ∧ vi = .int .i64 i ∧ vt = .pointer (some ⟨tb, 0, none⟩) ∧ vr = .pointer (some ⟨rb, 0, none⟩) ∧ vl = .slice ao m cp ∧ m ≤ i ∧ Hid (∃ T l, Dv w W tb rb mb n (i : Nat) T l ao cp m)) (fun _ _ _ vi _ => 150 - (intOf vi).toNat)
  case atStart => exact ⟨0, 0, 0, tb0, none, by omega, rfl, rfl, rfl, rfl, by omega, _, _, D0.out⟩
  case round =>
    obtain ⟨i, m, cp, tb, ao, hi, rfl, rfl, rfl, rfl, hmi, hD⟩ := hrel
    obtain ⟨T, l, hD'⟩ := hD.out
    have D1 := hid hD'
    clear hD hD' D0
    by_cases hlt : i < N ∧ i < 150
    · obtain ⟨hi1, hi2⟩ := hlt
      obtain ⟨b, off, rfl, y0, y1, y2, y3, hfit⟩ := (HV.out.keep D1.out.kp).at hi1
      have hi1' : (i : Int) < N := by omega
      have hi2' : (i : Int) < 150 := by omega
      go_wp2_with fail
      refine (do_any w wr tb rb mb n i T l ao cp m (S i) D1.out (by omega) h1 h2 (by omega)).mono ?_
      rintro e W3 ⟨tb2, T2, l2, ao2, cp2, m2, rfl, d2, hm2, -, -⟩
      have D2 := hid d2
      obtain ⟨b', off', e', -, -, -, z3, -⟩ := (HV.out.keep d2.kp).at hi1
      obtain ⟨rfl, rfl⟩ : b = b' ∧ off = off' := by simpa using e'
      clear d2 y0 y1 y2 y3 D1 e'
      obtain ⟨X, hX⟩ : ∃ X, (S i).h = X := ⟨_, rfl⟩
      rw [hX] at z3
      clear hX
      go_wp2_with fail
      refine (at_any W3 tb2 n T2 X D2.out.tt (D2.out.gd' (by omega)) (by omega) (by omega)).mono ?_
      rintro e W4 ⟨rfl, k4⟩
      have D4 := hid (D2.out.keep k4)
      have z4 := k4.cell z3 (by simp)
      clear k4 D2 z3
      obtain ⟨bv, hbv⟩ : ∃ bv, atB T2 n X = bv := ⟨_, rfl⟩
      have cr := rat_any W4 rb mb n T2 X D4.out.rt (D4.out.gd' (by omega)) h2
      rw [hbv] at cr ⊢
      clear hbv
      go_wp2_with fail
      refine cr.mono ?_
      rintro e W5 ⟨rfl, rfl⟩
      go_wp2_with fail
      refine (stands_any w _ tb2 rb mb n ((i : Int) + 1) T2 l2 ao2 cp2 m2 leave D4.out (by omega) h1 h2 (by omega)).mono ?_
      rintro e W6 ⟨rfl, k6⟩
      have D6 := hid (D4.out.keep k6)
      clear k6 D4 cr z4
      go_wp2
      go_roundw
      case rel => exact ⟨i + 1, m2, cp2, tb2, ao2, by omega, by simp, rfl, rfl, rfl, by omega, T2, l2, by simpa using D6.out⟩
      case measure => simp [intOf]; omega
    · have KD := hid D1.out.kp
      clear D1
      by_cases hi1 : i < N
      case' pos =>
        have hi1' : (i : Int) < N := by omega
        have hi2' : ¬ (i : Int) < 150 := by omega
        go_wp2_with fail
      case' neg =>
        have hi1' : ¬ (i : Int) < N := by omega
        go_wp2_with fail
      all_goals
        refine (known_any _).mono ?_
        rintro e W7 ⟨rfl, k7⟩
        have K7 := hid (KD.out.trans k7)
        clear k7
        go_wp2
        go_ret
        exact ⟨rfl, K7.out⟩
end Go.Proofs.Ytaofpijcjohnhaa
