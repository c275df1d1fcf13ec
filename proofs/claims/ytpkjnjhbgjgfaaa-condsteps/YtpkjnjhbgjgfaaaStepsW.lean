/- CondSteps' walk. -/
import Derived.Test.YtpkjnjhbgjgfaaaOs
namespace Go.Proofs.Ytpkjnjhbgjgfaaa
open Go.RowKit Go.Shelf Go.Lib Go.Sort Go.Maps
attribute [local go_sem] Oper.semAt_some

set_option maxRecDepth 100000 in
set_option maxHeartbeats 4000000 in
theorem steps_walk (w : World) (V : Value) (N : Nat) (S : Nat → Sp) (hV : Sc w V N S) : Calls Try.prog 3 #[V] w fun e w' => e = .returned (.bool true) ∧ Kp w w' [] := by
  obtain ⟨so, sc, rfl⟩ := hV.shape
  have HV := hid hV
  clear hV
  go_enter Try.func3, Try.ntmps3
  go_wp2_with fail
  refine (cnew w).mono ?_
  rintro e w1 ⟨xb, R1, rfl, hx, hx1, hx2⟩
  have X1 := hid (And.intro hx (And.intro hx1 hx2))
  clear hx hx1 hx2
  go_wp2_with fail
  refine (rnew w1).mono ?_
  rintro e w2 ⟨r, rfl, q, hr, hr1, hr2, hr3⟩
  have D0 := hid (Oc.new X1.out.1 X1.out.2.1 X1.out.2.2 hr hr1 hr2 hr3)
  clear hr hr1 hr2 hr3 X1
  go_wp2
  go_loopw [3, 4, 5] (fun vx vp vi W => ∃ (i b : Nat), i ≤ 200 ∧ vi = .int .i64 i ∧ vx = .pointer (some ⟨b, 0, none⟩) ∧ vp = .pointer (some ⟨r, 0, none⟩) ∧ Hid (Oc w W b r)) (fun _ _ vi _ => 200 - (intOf vi).toNat)
  case atStart => exact ⟨0, xb, by omega, rfl, rfl, rfl, D0.out⟩
  case round =>
    obtain ⟨i, b, hi, rfl, rfl, rfl, hT⟩ := hrel
    clear D0
    by_cases hin : i < N ∧ i < 200
    · have h1 : (i : Int) < N := by omega
      have h2 : (i : Int) < 200 := by omega
      obtain ⟨sb, off, rfl, y0, y1, y2, y3⟩ := (HV.out.keep hT.out.kp).at hin.1
      go_wp2_with fail
      refine (hT.out.step (S i).k (S i).t (S i).p (S i).m).mono ?_
      rintro e W3 ⟨b', rfl, hT2⟩
      have T2 := hid hT2
      clear hT hT2 y0 y1 y2 y3
      go_wp2_with fail
      refine (stands_any W3 b' r _ _ _ T2.out.choose_spec.choose_spec.choose_spec.1).mono ?_
      rintro e W4 ⟨rfl, hk⟩
      have T3 := hid (T2.out.same hk)
      clear hk T2
      go_wp2
      go_roundw
      case rel => exact ⟨i + 1, b', by omega, by simp, rfl, rfl, T3.out⟩
      case measure => simp [intOf]; omega
    · have hx : ¬ (i : Int) < N ∨ ((i : Int) < N ∧ ¬ (i : Int) < 200) := by omega
      clear hin
      have K6 := hid hT.out.kp
      clear hT
      rcases hx with h1 | ⟨h1, h2⟩
      all_goals go_wp2_with fail
      all_goals
        refine (known_any _).mono ?_
        rintro e W7 ⟨rfl, k7⟩
        have K7 := hid (K6.out.trans k7)
        clear k7 K6
        go_wp2
        go_ret
        exact ⟨rfl, K7.out⟩
end Go.Proofs.Ytpkjnjhbgjgfaaa
