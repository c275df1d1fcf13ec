/- ClockDue's walk. -/
import Derived.Test.YtdkdjbicnaaafaaKnown
namespace Go.Proofs.Ytdkdjbicnaaafaa
open Go.RowKit

theorem nowV_tk (X Y k : Int) (hk : k = 0 ∨ k = 1) : nowV (tk X) (tk Y) k = tk (nowV X Y k) := by
  rcases hk with rfl | rfl <;> rfl

set_option maxRecDepth 100000 in
set_option maxHeartbeats 4000000 in
theorem due_bad (w : World) (n t : Int) (m : Bool) (h : ¬ (0 ≤ n ∧ n ≤ 1099511627776)) :
    Calls Try.prog 5 #[.int .i64 n, .int .i64 t, .bool m] w fun e w' => e = .returned (.bool true) ∧ Kp w w' [] := by
  go_enter Try.func5, Try.ntmps5
  go_wp2_with fail
  refine (known_any _).mono ?_
  rintro e w1 ⟨rfl, k1⟩
  have K1 := hid k1
  clear k1
  go_wp2_with fail
  refine (new_no _ n h).mono ?_
  rintro e w' ⟨rfl, rfl⟩
  go_wp2_with (go_at_call 9; go_in)
  go_ret
  exact ⟨rfl, K1.out⟩

set_option maxRecDepth 100000 in
set_option maxHeartbeats 4000000 in
theorem due_out (w : World) (n t : Int) (m : Bool) (h : 0 ≤ n ∧ n ≤ 1099511627776) (ht : t < 1 ∨ 2000 < t) :
    Calls Try.prog 5 #[.int .i64 n, .int .i64 t, .bool m] w fun e w' => e = .returned (.bool true) ∧ Kp w w' [] := by
  have HM := hid h
  clear h
  go_enter Try.func5, Try.ntmps5
  go_wp2_with fail
  refine (known_any _).mono ?_
  rintro e w1 ⟨rfl, k1⟩
  have K1 := hid k1
  clear k1
  go_wp2_with fail
  refine (new_ok _ n HM.out).mono ?_
  rintro e w' ⟨rfl, rfl⟩
  have K2 := hid (K1.out.trans (Kp.alloc w1 (.cells #[.int .i64 n, .int .i64 0, .bool true] 51) []))
  by_cases h1 : t < 1
  · clear ht
    go_wp2_with (go_at_call 9; go_in)
    go_ret
    exact ⟨rfl, K2.out⟩
  · have h2 : 2000 < t := by omega
    clear ht
    go_wp2_with (go_at_call 9; go_in)
    go_ret
    exact ⟨rfl, K2.out⟩

set_option maxRecDepth 100000 in
set_option maxHeartbeats 4000000 in
theorem due_real (w : World) (n : Int) (t : Nat) (h : 0 ≤ n ∧ n ≤ 1099511627776) (ht1 : (1 : Int) ≤ t) (ht2 : (t : Int) ≤ 2000) :
    Calls Try.prog 5 #[.int .i64 n, .int .i64 t, .bool false] w fun e w' => e = .returned (.bool true) ∧ Kp w w' [] := by
  have HM := hid h
  clear h
  go_enter Try.func5, Try.ntmps5
  go_wp2_with fail
  refine (known_any _).mono ?_
  rintro e w1 ⟨rfl, k1⟩
  have K1 := hid k1
  clear k1
  go_wp2_with fail
  refine (new_ok _ n HM.out).mono ?_
  rintro e w' ⟨rfl, rfl⟩
  have T1 := hid (show Ck _ w1.heap.size n 0 from heap_alloc_new w1 (.cells #[.int .i64 n, .int .i64 0, .bool true] 51))
  have K2 := hid (K1.out.trans (Kp.alloc w1 (.cells #[.int .i64 n, .int .i64 0, .bool true] 51) []))
  have NT0 := hid K1.out.size
  obtain ⟨W1, hW1⟩ : ∃ W1, w1.alloc (.cells #[.int .i64 n, .int .i64 0, .bool true] 51) = W1 := ⟨_, rfl⟩
  obtain ⟨b, hb0⟩ : ∃ b, w1.heap.size = b := ⟨_, rfl⟩
  rw [hW1] at T1 K2 ⊢
  rw [hb0] at T1 NT0 ⊢
  clear hW1 hb0 K1
  go_wp2_with (go_at_call 9; refine (num_any _ _).mono ?_; rintro e z ⟨rfl, rfl⟩)
  refine (now_any _ b n 0 0 T1.out).mono ?_
  rintro e z ⟨rfl, rfl⟩
  rw [show nowE 0 = 0 from rfl]
  obtain ⟨v0, hv0⟩ : ∃ v0, nowV n 0 0 = v0 := ⟨_, rfl⟩
  rw [hv0]
  have HV := hid (show 0 ≤ v0 ∧ v0 ≤ 1099511627776 by rw [← hv0]; exact nowV_may HM.out ⟨by decide, by decide⟩)
  have EQ := hid hv0
  clear hv0
  go_wp2_with fail
  refine (in_any _ b n 0 0 t T1.out HM.out ⟨by decide, by decide⟩ (by omega)).mono ?_
  rintro e z ⟨rfl, rfl⟩
  obtain ⟨E, hE⟩ : ∃ E, inV n 0 0 t = E := ⟨_, rfl⟩
  have HE := hid (show E = min (v0 + t) 1099511627776 by
    rw [← hE, ← EQ.out]
    unfold inV
    rw [if_pos ⟨by decide, by omega⟩])
  rw [hE, show inE 0 (t : Int) = 0 by unfold inE; rw [if_pos ⟨by decide, by omega⟩]]
  clear hE
  go_wp2_with (go_at_call 9; refine (num_any _ _).mono ?_; rintro e z ⟨rfl, rfl⟩)
  have hv1 := HV.out.1
  have hv2 := HV.out.2
  go_loopw [14] (fun vi W => ∃ i : Nat, i ≤ t ∧ vi = .int .i64 i ∧ Hid (∃ X Y, Ck W b X Y ∧ may X ∧ may Y ∧ nowV X Y 0 = min (v0 + i) 1099511627776 ∧ Kp w W [])) (fun vi _ => t - (intOf vi).toNat)
  case atStart => exact ⟨0, by omega, rfl, n, 0, T1.out, HM.out, ⟨by decide, by decide⟩, by rw [EQ.out]; have := HV.out; simp; omega, K2.out⟩
  case round =>
    obtain ⟨i, hi, rfl, hD⟩ := hrel
    obtain ⟨X, Y, hC, hX, hY, hnow, hK⟩ := hD.out
    have C1 := hid hC
    have MX := hid hX
    have MY := hid hY
    have NW := hid hnow
    have KD := hid hK
    clear hD hC hX hY hnow hK T1 K2
    by_cases hlt : (i : Int) < t
    · have EB := hid (show -9223372036854775808 ≤ E ∧ E ≤ 9223372036854775807 by have := HE.out; have := HV.out; omega)
      by_cases hM : 1099511627776 ≤ v0 + (i : Int)
      case' pos =>
        have L0 := hid (show leftV X Y 0 E = 0 by
          unfold leftV
          rw [if_pos (by decide), NW.out]
          have := HE.out
          omega)
        have B0 := hid (show dueB X Y 0 E = true by
          unfold dueB
          rw [NW.out]
          simp only [Bool.and_eq_true, Bool.or_eq_true, decide_eq_true_eq]
          exact ⟨by decide, .inr (by omega)⟩)
        go_wp2_with fail
        refine (left_any _ b X Y 0 E C1.out MX.out MY.out EB.out).mono ?_
        rintro e z ⟨rfl, rfl⟩
        rw [L0.out, show nowE 0 = 0 from rfl]
        go_wp2_with (go_at_call 9; refine (num_any _ _).mono ?_; rintro e z ⟨rfl, rfl⟩)
        refine (due_any _ b X Y 0 E C1.out).mono ?_
        rintro e z ⟨rfl, rfl⟩
        rw [B0.out]
        go_wp2_with fail
      case' neg =>
        have L0 := hid (show leftV X Y 0 E = E - v0 - i by
          unfold leftV
          rw [if_pos (by decide), NW.out]
          have := HE.out
          omega)
        have B0 := hid (show dueB X Y 0 E = false by
          unfold dueB
          rw [NW.out]
          have := HE.out
          have h1 : ¬ E ≤ min (v0 + (i : Int)) 1099511627776 := by omega
          have h2 : ¬ min (v0 + (i : Int)) 1099511627776 = 1099511627776 := by omega
          rw [decide_eq_false h1, decide_eq_false h2]
          rfl)
        have hE0 : 0 ≤ E := by have := HE.out; omega
        have hE1 : E ≤ 1099511627776 := by have := HE.out; omega
        have q : (E - v0 - (i : Int) != E - v0 - (i : Int)) = false := by simp
        go_wp2_with fail
        refine (left_any _ b X Y 0 E C1.out MX.out MY.out EB.out).mono ?_
        rintro e z ⟨rfl, rfl⟩
        rw [L0.out, show nowE 0 = 0 from rfl]
        go_wp2_with (go_at_call 9; refine (num_any _ _).mono ?_; rintro e z ⟨rfl, rfl⟩)
        refine (due_any _ b X Y 0 E C1.out).mono ?_
        rintro e z ⟨rfl, rfl⟩
        rw [B0.out]
        go_wp2_with fail
      all_goals
        refine (tick_any _ b X Y C1.out MX.out MY.out).mono ?_
        rintro e W3 ⟨rfl, t3, k3⟩
        have T3 := hid t3
        have K3 := hid (KD.out.past k3 (by intro k hk hl; have := NT0.out; simp at hk; omega))
        clear t3 k3
        go_wp2
        go_roundw
        case rel => exact ⟨i + 1, by omega, by simp, tk X, tk Y, T3.out, tk_may MX.out, tk_may MY.out, by rw [nowV_tk X Y 0 (by decide), NW.out]; unfold tk; push_cast; omega, K3.out⟩
        case measure => simp [intOf]; omega
    · have hit : (i : Int) = t := by omega
      have B0 := hid (show dueB X Y 0 E = true by
        unfold dueB
        rw [NW.out]
        have := HE.out
        simp only [Bool.and_eq_true, Bool.or_eq_true, decide_eq_true_eq]
        exact ⟨by decide, .inl (by omega)⟩)
      clear hit
      go_wp2_with fail
      refine (due_any _ b X Y 0 E C1.out).mono ?_
      rintro e z ⟨rfl, rfl⟩
      rw [B0.out]
      go_wp2
      go_ret
      exact ⟨rfl, KD.out⟩

set_option maxRecDepth 100000 in
set_option maxHeartbeats 4000000 in
theorem due_mono (w : World) (n : Int) (t : Nat) (h : 0 ≤ n ∧ n ≤ 1099511627776) (ht1 : (1 : Int) ≤ t) (ht2 : (t : Int) ≤ 2000) :
    Calls Try.prog 5 #[.int .i64 n, .int .i64 t, .bool true] w fun e w' => e = .returned (.bool true) ∧ Kp w w' [] := by
  have HM := hid h
  clear h
  go_enter Try.func5, Try.ntmps5
  go_wp2_with fail
  refine (known_any _).mono ?_
  rintro e w1 ⟨rfl, k1⟩
  have K1 := hid k1
  clear k1
  go_wp2_with fail
  refine (new_ok _ n HM.out).mono ?_
  rintro e w' ⟨rfl, rfl⟩
  have T1 := hid (show Ck _ w1.heap.size n 0 from heap_alloc_new w1 (.cells #[.int .i64 n, .int .i64 0, .bool true] 51))
  have K2 := hid (K1.out.trans (Kp.alloc w1 (.cells #[.int .i64 n, .int .i64 0, .bool true] 51) []))
  have NT0 := hid K1.out.size
  obtain ⟨W1, hW1⟩ : ∃ W1, w1.alloc (.cells #[.int .i64 n, .int .i64 0, .bool true] 51) = W1 := ⟨_, rfl⟩
  obtain ⟨b, hb0⟩ : ∃ b, w1.heap.size = b := ⟨_, rfl⟩
  rw [hW1] at T1 K2 ⊢
  rw [hb0] at T1 NT0 ⊢
  clear hW1 hb0 K1
  go_wp2_with (go_at_call 9; refine (num_any _ _).mono ?_; rintro e z ⟨rfl, rfl⟩)
  refine (now_any _ b n 0 1 T1.out).mono ?_
  rintro e z ⟨rfl, rfl⟩
  rw [show nowE 1 = 0 from rfl]
  obtain ⟨v0, hv0⟩ : ∃ v0, nowV n 0 1 = v0 := ⟨_, rfl⟩
  rw [hv0]
  have HV := hid (show 0 ≤ v0 ∧ v0 ≤ 1099511627776 by rw [← hv0]; exact nowV_may HM.out ⟨by decide, by decide⟩)
  have EQ := hid hv0
  clear hv0
  go_wp2_with fail
  refine (in_any _ b n 0 1 t T1.out HM.out ⟨by decide, by decide⟩ (by omega)).mono ?_
  rintro e z ⟨rfl, rfl⟩
  obtain ⟨E, hE⟩ : ∃ E, inV n 0 1 t = E := ⟨_, rfl⟩
  have HE := hid (show E = min (v0 + t) 1099511627776 by
    rw [← hE, ← EQ.out]
    unfold inV
    rw [if_pos ⟨by decide, by omega⟩])
  rw [hE, show inE 1 (t : Int) = 0 by unfold inE; rw [if_pos ⟨by decide, by omega⟩]]
  clear hE
  go_wp2_with (go_at_call 9; refine (num_any _ _).mono ?_; rintro e z ⟨rfl, rfl⟩)
  have hv1 := HV.out.1
  have hv2 := HV.out.2
  go_loopw [14] (fun vi W => ∃ i : Nat, i ≤ t ∧ vi = .int .i64 i ∧ Hid (∃ X Y, Ck W b X Y ∧ may X ∧ may Y ∧ nowV X Y 1 = min (v0 + i) 1099511627776 ∧ Kp w W [])) (fun vi _ => t - (intOf vi).toNat)
  case atStart => exact ⟨0, by omega, rfl, n, 0, T1.out, HM.out, ⟨by decide, by decide⟩, by rw [EQ.out]; have := HV.out; simp; omega, K2.out⟩
  case round =>
    obtain ⟨i, hi, rfl, hD⟩ := hrel
    obtain ⟨X, Y, hC, hX, hY, hnow, hK⟩ := hD.out
    have C1 := hid hC
    have MX := hid hX
    have MY := hid hY
    have NW := hid hnow
    have KD := hid hK
    clear hD hC hX hY hnow hK T1 K2
    by_cases hlt : (i : Int) < t
    · have EB := hid (show -9223372036854775808 ≤ E ∧ E ≤ 9223372036854775807 by have := HE.out; have := HV.out; omega)
      by_cases hM : 1099511627776 ≤ v0 + (i : Int)
      case' pos =>
        have L0 := hid (show leftV X Y 1 E = 0 by
          unfold leftV
          rw [if_pos (by decide), NW.out]
          have := HE.out
          omega)
        have B0 := hid (show dueB X Y 1 E = true by
          unfold dueB
          rw [NW.out]
          simp only [Bool.and_eq_true, Bool.or_eq_true, decide_eq_true_eq]
          exact ⟨by decide, .inr (by omega)⟩)
        go_wp2_with fail
        refine (left_any _ b X Y 1 E C1.out MX.out MY.out EB.out).mono ?_
        rintro e z ⟨rfl, rfl⟩
        rw [L0.out, show nowE 1 = 0 from rfl]
        go_wp2_with (go_at_call 9; refine (num_any _ _).mono ?_; rintro e z ⟨rfl, rfl⟩)
        refine (due_any _ b X Y 1 E C1.out).mono ?_
        rintro e z ⟨rfl, rfl⟩
        rw [B0.out]
        go_wp2_with fail
      case' neg =>
        have L0 := hid (show leftV X Y 1 E = E - v0 - i by
          unfold leftV
          rw [if_pos (by decide), NW.out]
          have := HE.out
          omega)
        have B0 := hid (show dueB X Y 1 E = false by
          unfold dueB
          rw [NW.out]
          have := HE.out
          have h1 : ¬ E ≤ min (v0 + (i : Int)) 1099511627776 := by omega
          have h2 : ¬ min (v0 + (i : Int)) 1099511627776 = 1099511627776 := by omega
          rw [decide_eq_false h1, decide_eq_false h2]
          rfl)
        have hE0 : 0 ≤ E := by have := HE.out; omega
        have hE1 : E ≤ 1099511627776 := by have := HE.out; omega
        have q : (E - v0 - (i : Int) != E - v0 - (i : Int)) = false := by simp
        go_wp2_with fail
        refine (left_any _ b X Y 1 E C1.out MX.out MY.out EB.out).mono ?_
        rintro e z ⟨rfl, rfl⟩
        rw [L0.out, show nowE 1 = 0 from rfl]
        go_wp2_with (go_at_call 9; refine (num_any _ _).mono ?_; rintro e z ⟨rfl, rfl⟩)
        refine (due_any _ b X Y 1 E C1.out).mono ?_
        rintro e z ⟨rfl, rfl⟩
        rw [B0.out]
        go_wp2_with fail
      all_goals
        refine (tick_any _ b X Y C1.out MX.out MY.out).mono ?_
        rintro e W3 ⟨rfl, t3, k3⟩
        have T3 := hid t3
        have K3 := hid (KD.out.past k3 (by intro k hk hl; have := NT0.out; simp at hk; omega))
        clear t3 k3
        go_wp2
        go_roundw
        case rel => exact ⟨i + 1, by omega, by simp, tk X, tk Y, T3.out, tk_may MX.out, tk_may MY.out, by rw [nowV_tk X Y 1 (by decide), NW.out]; unfold tk; push_cast; omega, K3.out⟩
        case measure => simp [intOf]; omega
    · have hit : (i : Int) = t := by omega
      have B0 := hid (show dueB X Y 1 E = true by
        unfold dueB
        rw [NW.out]
        have := HE.out
        simp only [Bool.and_eq_true, Bool.or_eq_true, decide_eq_true_eq]
        exact ⟨by decide, .inl (by omega)⟩)
      clear hit
      go_wp2_with fail
      refine (due_any _ b X Y 1 E C1.out).mono ?_
      rintro e z ⟨rfl, rfl⟩
      rw [B0.out]
      go_wp2
      go_ret
      exact ⟨rfl, KD.out⟩

end Go.Proofs.Ytdkdjbicnaaafaa
