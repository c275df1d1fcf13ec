/- ClockSteps' walk. -/
import Derived.Test.YtdkdjbicnaaafaaStands
import Derived.Test.YtdkdjbicnaaafaaArgs
namespace Go.Proofs.Ytdkdjbicnaaafaa
open Go.RowKit

set_option maxRecDepth 100000 in
set_option maxHeartbeats 1000000 in
theorem steps_bad (w : World) (V : Value) (n : Int) (h : ¬ (0 ≤ n ∧ n ≤ 1099511627776)) : Calls Try.prog 3 #[.int .i64 n, V] w fun e w' => e = .returned (.bool true) ∧ Kp w w' [] := by
  go_enter Try.func3, Try.ntmps3
  go_wp2_with fail
  refine (new_no w n h).mono ?_
  rintro e w' ⟨rfl, rfl⟩
  go_wp2_with fail
  refine (rnew_no _ n h).mono ?_
  rintro e w' ⟨rfl, rfl⟩
  go_wp2_with (go_at_call 9; go_in)
  refine (known_any _).mono ?_
  rintro e w2 ⟨rfl, k2⟩
  have K2 := hid k2
  clear k2
  go_wp2
  go_ret
  exact ⟨rfl, K2.out⟩

set_option maxRecDepth 100000 in
set_option maxHeartbeats 4000000 in
theorem steps_good (w : World) (V : Value) (N : Nat) (S : Nat → St) (hV : Sc w V N S) (n : Int) (h : 0 ≤ n ∧ n ≤ 1099511627776) :
    Calls Try.prog 3 #[.int .i64 n, V] w fun e w' => e = .returned (.bool true) ∧ Kp w w' [] := by
  obtain ⟨so, sc, rfl⟩ := hV.shape
  have HV := hid hV
  have HM := hid h
  clear hV h
  go_enter Try.func3, Try.ntmps3
  go_wp2_with fail
  refine (new_ok w n HM.out).mono ?_
  rintro e w1 ⟨rfl, rfl⟩
  have T1 := hid (show Ck _ w.heap.size n 0 from heap_alloc_new w (.cells #[.int .i64 n, .int .i64 0, .bool true] 51))
  have K1 := hid (Kp.alloc w (.cells #[.int .i64 n, .int .i64 0, .bool true] 51) [])
  obtain ⟨W1, hW1⟩ : ∃ W1, w.alloc (.cells #[.int .i64 n, .int .i64 0, .bool true] 51) = W1 := ⟨_, rfl⟩
  obtain ⟨b0, hb0⟩ : ∃ b0, w.heap.size = b0 := ⟨_, rfl⟩
  rw [hW1] at T1 K1 ⊢
  rw [hb0] at T1 ⊢
  have NT := hid (show w.heap.size ≤ b0 by omega)
  clear hW1 hb0
  go_wp2_with fail
  refine (rnew_ok W1 n HM.out.1 HM.out.2).mono ?_
  rintro e w2 ⟨rfl, rfl⟩
  have kr := Kp.alloc W1 (.cells #[.int .i64 n, .int .i64 0] 54) []
  have D0 := hid (show Bo _ b0 W1.heap.size n 0 from ⟨T1.out.keep kr (by simp), heap_alloc_new W1 (.cells #[.int .i64 n, .int .i64 0] 54), HM.out, by unfold may; decide⟩)
  have K2 := hid (K1.out.trans kr)
  have NR := hid (show w.heap.size ≤ W1.heap.size from K1.out.size)
  obtain ⟨W2, hW2⟩ : ∃ W2, W1.alloc (.cells #[.int .i64 n, .int .i64 0] 54) = W2 := ⟨_, rfl⟩
  obtain ⟨c, hc⟩ : ∃ c, W1.heap.size = c := ⟨_, rfl⟩
  rw [hW2] at D0 K2 ⊢
  rw [hc] at D0 NR ⊢
  clear hW2 hc kr T1 K1
  go_wp2_with (go_at_call 9; refine (num_any _ _).mono ?_; rintro e z ⟨rfl, rfl⟩)
  go_loopw [5, 7, 8] (fun vt vr vi W => ∃ (i b : Nat), i ≤ 300 ∧ vi = .int .i64 i ∧ vt = .pointer (some ⟨b, 0, none⟩) ∧ vr = .pointer (some ⟨c, 0, none⟩) ∧ Hid (∃ x y, Bo W b c x y ∧ Kp w W [] ∧ w.heap.size ≤ b)) (fun _ _ vi _ => 300 - (intOf vi).toNat)
  case atStart => exact ⟨0, b0, by omega, rfl, rfl, rfl, n, 0, D0.out, K2.out, NT.out⟩
  case round =>
    obtain ⟨i, b, hi, rfl, rfl, rfl, hD⟩ := hrel
    obtain ⟨x, y, hB, hK, hb⟩ := hD.out
    have D1 := hid hB
    have KD := hid hK
    have NB := hid hb
    clear hD hB hK hb D0
    by_cases hlt : i < N ∧ i < 300
    · obtain ⟨hi1, hi2⟩ := hlt
      obtain ⟨sb, off, rfl, y0, y1, y2, hfit⟩ := (HV.out.keep KD.out).at hi1
      have hi1' : (i : Int) < N := by omega
      have hi2' : (i : Int) < 300 := by omega
      go_wp2_with fail
      refine (do_any wr b c x y (S i).k (S i).c (S i).n D1.out).mono ?_
      rintro e W3 ⟨b2, x2, y2', rfl, d2, k2, hb2⟩
      have K3 := hid (KD.out.past k2 (by intro k hk hl; have := NB.out; have := NR.out; simp at hk; omega))
      have NB2 := hid (show w.heap.size ≤ b2 by have := NB.out; have := KD.out.size; omega)
      have D2 := hid d2
      obtain ⟨sb', off', e', z0, z1, z2, -⟩ := (HV.out.keep K3.out).at hi1
      obtain ⟨rfl, rfl⟩ : sb = sb' ∧ off = off' := by simpa using e'
      have FT := hid hfit
      clear d2 y0 y1 y2 D1 e' k2 hb2 hfit KD NB
      go_wp2_with fail
      refine (stands_any _ b2 c x2 y2' (S i).k (S i).c (S i).n D2.out FT.out.2.2).mono ?_
      rintro e W6 ⟨rfl, k6⟩
      have D6 := hid (D2.out.keep k6 (by simp) (by simp))
      have K6 := hid (K3.out.trans k6)
      clear k6 D2 K3 z0 z1 z2
      go_wp2
      go_roundw
      case rel => exact ⟨i + 1, b2, by omega, by simp, rfl, rfl, x2, y2', D6.out, K6.out, NB2.out⟩
      case measure => simp [intOf]; omega
    · clear D1
      by_cases hi1 : i < N
      case' pos =>
        have hi1' : (i : Int) < N := by omega
        have hi2' : ¬ (i : Int) < 300 := by omega
        go_wp2_with fail
      case' neg =>
        have hi1' : ¬ (i : Int) < N := by omega
        go_wp2_with fail
      all_goals
        refine (known_any _).mono ?_
        rintro e W7 ⟨rfl, k7⟩
        have K7 := hid (KD.out.trans k7)
        clear k7
        go_wp2
        go_ret
        exact ⟨rfl, K7.out⟩
end Go.Proofs.Ytdkdjbicnaaafaa
