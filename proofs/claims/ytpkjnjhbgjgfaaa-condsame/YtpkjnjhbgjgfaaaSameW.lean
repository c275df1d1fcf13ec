/- CondSame's walk. -/
import Derived.Test.YtpkjnjhbgjgfaaaOs
namespace Go.Proofs.Ytpkjnjhbgjgfaaa
open Go.RowKit Go.Shelf Go.Lib Go.Sort Go.Maps
attribute [local go_sem] Oper.semAt_some

set_option maxRecDepth 100000 in
set_option maxHeartbeats 8000000 in
theorem same_walk (w : World) (V V' : Value) (N M : Nat) (S S' : Nat → Sp) (hV : Sc w V N S) (hV' : Sc w V' M S') : Calls Try.prog 4 #[V, V'] w fun e w' => e = .returned (.bool true) ∧ Kp w w' [] := by
  obtain ⟨so, sc, rfl⟩ := hV.shape
  obtain ⟨so', sc', rfl⟩ := hV'.shape
  have HV := hid hV
  have HV' := hid hV'
  clear hV hV'
  go_enter Try.func4, Try.ntmps4
  go_wp2_with fail
  refine (cnew w).mono ?_
  rintro e w1 ⟨xb, R1, rfl, hx, hx1, hx2⟩
  have X1 := hid (And.intro hx (And.intro hx1 hx2))
  clear hx hx1 hx2
  go_wp2_with fail
  refine (cnew w1).mono ?_
  rintro e w2 ⟨yb, R2, rfl, hx, hx1, hx2⟩
  have X2 := hid (And.intro hx (And.intro hx1 hx2))
  clear hx hx1 hx2
  go_wp2_with fail
  refine (rnew w2).mono ?_
  rintro e w3 ⟨p, rfl, q1, hr, hr1, hr2, hr3⟩
  have X3 := hid (And.intro hr (And.intro hr1 (And.intro hr2 hr3)))
  clear hr hr1 hr2 hr3
  go_wp2_with fail
  refine (rnew w3).mono ?_
  rintro e w4 ⟨q, rfl, q2, hr, hr1, hr2, hr3⟩
  have D0 := hid (o2_new X1.out.1 X1.out.2.1 X1.out.2.2 X2.out.1 X2.out.2.1 X2.out.2.2 X3.out.1 X3.out.2.1 X3.out.2.2.1 X3.out.2.2.2 hr hr1 hr2 hr3)
  clear hr hr1 hr2 hr3 X1 X2 X3
  go_wp2
  go_loopw [5, 7, 9, 10] (fun vx vp vo vi W => ∃ (i b : Nat), i ≤ 60 ∧ vi = .int .i64 i ∧ vo = .bool true ∧ vx = .pointer (some ⟨b, 0, none⟩) ∧ vp = .pointer (some ⟨p, 0, none⟩) ∧ Hid (O2 w W b p yb q)) (fun _ _ _ vi _ => 60 - (intOf vi).toNat)
  case atStart => exact ⟨0, xb, by omega, rfl, rfl, rfl, rfl, D0.out⟩
  case round =>
    obtain ⟨i, b, hi, rfl, rfl, rfl, rfl, hT⟩ := hrel
    clear D0
    by_cases hin : i < N ∧ i < 60
    · have h1 : (i : Int) < N := by omega
      have h2 : (i : Int) < 60 := by omega
      obtain ⟨sb, off, rfl, y0, y1, y2, y3⟩ := (HV.out.keep hT.out.kp).at hin.1
      go_wp2_with fail
      refine (hT.out.step (S i).k (S i).t (S i).p (S i).m).mono ?_
      rintro e W3 ⟨b', rfl, hT2⟩
      have T2 := hid hT2
      clear hT hT2 y0 y1 y2 y3
      go_wp2
      go_roundw
      case rel => exact ⟨i + 1, b', by omega, by simp, rfl, rfl, rfl, T2.out⟩
      case measure => simp [intOf]; omega
    · have hx : ¬ (i : Int) < N ∨ ((i : Int) < N ∧ ¬ (i : Int) < 60) := by omega
      clear hin
      have T1 := hid hT.out
      clear hT
      rcases hx with h1 | ⟨h1, h2⟩
      all_goals go_wp2
      all_goals
        go_loopw [6, 8, 9, 11] (fun vx vp vo vi W => ∃ (j c : Nat), j ≤ 60 ∧ vi = .int .i64 j ∧ vo = .bool true ∧ vx = .pointer (some ⟨c, 0, none⟩) ∧ vp = .pointer (some ⟨q, 0, none⟩) ∧ Hid (O2 w W b p c q)) (fun _ _ _ vi _ => 60 - (intOf vi).toNat)
        case atStart => exact ⟨0, yb, by omega, rfl, rfl, rfl, rfl, T1.out⟩
        case round =>
          obtain ⟨j, c, hj, rfl, rfl, rfl, rfl, hU⟩ := hrel
          clear T1
          by_cases hjn : j < M ∧ j < 60
          · have h3 : (j : Int) < M := by omega
            have h4 : (j : Int) < 60 := by omega
            obtain ⟨sb, off, rfl, y0, y1, y2, y3⟩ := (HV'.out.keep hU.out.kp).at hjn.1
            go_wp2_with fail
            refine (hU.out.swap.step (S' j).k (S' j).t (S' j).p (S' j).m).mono ?_
            rintro e W3 ⟨c', rfl, hU2⟩
            have U2 := hid hU2.swap
            clear hU hU2 y0 y1 y2 y3
            go_wp2
            go_roundw
            case rel => exact ⟨j + 1, c', by omega, by simp, rfl, rfl, rfl, U2.out⟩
            case measure => simp [intOf]; omega
          · have hx : ¬ (j : Int) < M ∨ ((j : Int) < M ∧ ¬ (j : Int) < 60) := by omega
            clear hjn
            obtain ⟨B, hs1, hs2⟩ := hU.out.eq
            have S1 := hid hs1
            have S2 := hid hs2
            have S3 := hid (fun (z : World) (hk : Kp wr z []) => (hU.out.same hk).self)
            have U1 := hid hU.out.kp
            clear hs1 hs2 hU
            have hbb := fun w => run_equal_bool (P := Try.prog) w 4 B B Try.underlying4
            rcases hx with h3 | ⟨h3, h4⟩
            all_goals go_wp2_with fail
            all_goals
              refine S1.out.mono ?_
              rintro e z1 ⟨rfl, hk⟩
              have K1 := hid hk
              clear hk
            all_goals go_wp2_with fail
            all_goals
              refine (S2.out z1 K1.out).mono ?_
              rintro e z2 ⟨rfl, hk⟩
              have K2 := hid (K1.out.trans hk)
              clear hk
            all_goals go_wp2_with fail
            all_goals
              refine (S3.out z2 K2.out).mono ?_
              rintro e z3 ⟨rfl, hk⟩
              have K3 := hid (K2.out.trans hk)
              clear hk
            all_goals go_wp2_with fail
            all_goals
              refine (known_any z3).mono ?_
              rintro e z4 ⟨rfl, hk⟩
              have K4 := hid ((U1.out.trans K3.out).trans hk)
              clear hk
            all_goals go_wp2
            all_goals
              go_ret
              exact ⟨rfl, K4.out⟩
end Go.Proofs.Ytpkjnjhbgjgfaaa
