/- LockSteps' walk. -/
import Derived.Test.YtcfjlmkeomiiaaaOs
import Derived.Test.YtcfjlmkeomiiaaaSt
import Derived.Test.YtcfjlmkeomiiaaaKn
import Derived.Test.YtcfjlmkeomiiaaaArgs
namespace Go.Proofs.Ytcfjlmkeomiiaaa
open Go.RowKit Go.Shelf Go.Lib Go.Sort Go.Maps
attribute [local go_sem] Oper.semAt_some

theorem Sid.stands {w0 W : World} {lb rb : Nat} (h : Sid w0 W lb rb) : Calls Try.prog 10 #[.pointer (some ⟨lb, 0, none⟩), .pointer (some ⟨rb, 0, none⟩)] W fun e w' => e = .returned (.bool true) ∧ Kp W w' [] := by
  obtain ⟨R, M, h1, h2, -⟩ := h
  exact stands_any W lb rb R M h1 h2
set_option maxRecDepth 100000 in
set_option maxHeartbeats 4000000 in
theorem steps_walk (w : World) (V : Value) (N : Nat) (S : Nat → Sp) (hV : Sc w V N S) : Calls Try.prog 3 #[V] w fun e w' => e = .returned (.bool true) ∧ Kp w w' [] := by
  obtain ⟨so, sc, rfl⟩ := hV.shape
  have HV := hid hV
  clear hV
  go_enter Try.func3, Try.ntmps3
  go_wp2_with fail
  refine (lnew w).mono ?_
  rintro e w1 ⟨xb, R1, rfl, hx, hx1, hx2⟩
  have X1 := hid (And.intro hx (And.intro hx1 hx2))
  clear hx hx1 hx2
  go_wp2_with fail
  refine (rnew w1).mono ?_
  rintro e w2 ⟨r, a, b, rfl, hr, f1, f2, f3, hk⟩
  have D0 := hid (show Sid w w2 xb r from ⟨_, newL, (pa_new X1.out.1 X1.out.2.1 X1.out.2.2 hr f1 f2 f3 hk).1, lok_new, (pa_new X1.out.1 X1.out.2.1 X1.out.2.2 hr f1 f2 f3 hk).2, X1.out.2.2.trans hk⟩)
  clear hr f1 f2 f3 hk X1
  go_wp2_with fail
  go_loopw [3, 4, 5] (fun vx vp vi W => ∃ (i b : Nat), i ≤ 200 ∧ vi = .int .i64 i ∧ vx = .pointer (some ⟨b, 0, none⟩) ∧ vp = .pointer (some ⟨r, 0, none⟩) ∧ Hid (Sid w W b r)) (fun _ _ vi _ => 200 - (intOf vi).toNat)
  case atStart => exact ⟨0, xb, by omega, rfl, rfl, rfl, D0⟩
  case round =>
    obtain ⟨i, b, hi, rfl, rfl, rfl, hT⟩ := hrel
    clear D0
    by_cases hin : i < N ∧ i < 200
    · have h1 : (i : Int) < N := by omega
      have h2 : (i : Int) < 200 := by omega
      obtain ⟨sb, off, rfl, y0, y1, y2⟩ := (HV.out.keep hT.out.kp).at hin.1
      have HI := hid (HV.out.i64 hin.1)
      go_wp2_with fail
      refine (hT.out.step (S i).k (S i).t (S i).p HI.out).mono ?_
      rintro e W3 ⟨b', rfl, hT2⟩
      have T2 := hid hT2
      clear hT y0 y1 y2 hT2
      go_wp2_with fail
      refine T2.out.stands.mono ?_
      rintro e W4 ⟨rfl, hk⟩
      have T3 := hid (T2.out.same hk)
      clear hk T2
      go_wp2
      go_roundw
      case rel => exact ⟨i + 1, b', by omega, by simp, rfl, rfl, T3⟩
      case measure => simp [intOf]; omega
    · have hx : ¬ (i : Int) < N ∨ ((i : Int) < N ∧ ¬ (i : Int) < 200) := by omega
      clear hin
      have K6 := hid hT.out.kp
      clear hT
      rcases hx with h1 | ⟨h1, h2⟩
      all_goals go_wp2_with fail
      all_goals
        refine (known_any _).mono ?_
        rintro e W7 ⟨rfl, k7⟩
        have K7 := hid (K6.out.trans k7)
        clear k7 K6
        go_wp2
        go_ret
        exact ⟨rfl, K7.out⟩
end Go.Proofs.Ytcfjlmkeomiiaaa
