/- CancelSteps' walk. -/
import Derived.Test.YtjggpchjfglgcaaOs
namespace Go.Proofs.Ytjggpchjfglgcaa
open Go.RowKit Go.Shelf
attribute [local go_sem] Oper.semAt_some

set_option maxRecDepth 100000 in
set_option maxHeartbeats 4000000 in
theorem steps_walk (w : World) (V : Value) (N : Nat) (F : Nat → Stp) (leave : Int) (hV : Scr w V N F) : Calls Try.prog 3 #[V, .int .i64 leave] w fun e w' => e = .returned (.bool true) ∧ Kp w w' [] := by
  obtain ⟨so, sc, rfl⟩ := hV.shape
  have HV := hid hV
  clear hV
  go_enter Try.func3, Try.ntmps3
  go_wp2_with fail
  refine (new_any w).mono ?_
  rintro e w1 ⟨rfl, h1, hk1⟩
  have X1 := hid (And.intro h1 hk1)
  clear h1 hk1
  go_wp2_with fail
  refine (rnew_any w1).mono ?_
  rintro e w2 ⟨rfl, h2, hk2⟩
  have D1 := hid (Oc.new X1.out.1 (Nat.le_refl _) X1.out.2 (Kp.refl _ _) h2 (Nat.le_refl _) hk2)
  clear h2 hk2 X1
  generalize w.heap.size = cb at D1 ⊢
  generalize w1.heap.size = rb at D1 ⊢
  go_wp2_with fail
  go_loopw [5, 6, 7] (fun vx vp vi W => ∃ (i b : Nat), i ≤ 200 ∧ vi = .int .i64 i ∧ vx = .pointer (some ⟨b, 0, none⟩) ∧ vp = .pointer (some ⟨rb, 0, none⟩) ∧ Hid (Oc w W b rb)) (fun _ _ vi _ => 200 - (intOf vi).toNat)
  case atStart => exact ⟨0, cb, by omega, rfl, rfl, rfl, D1⟩
  case round =>
    obtain ⟨i, b, hi, rfl, rfl, rfl, hT⟩ := hrel
    clear D1
    by_cases hin : i < N ∧ i < 200
    · have h1 : (i : Int) < N := by omega
      have h2 : (i : Int) < 200 := by omega
      obtain ⟨gb, off, rfl, y0, y1, y2, y3⟩ := (HV.out.keep hT.out.kp).at hin.1
      go_wp2_with fail
      refine (hT.out.step (F i)).mono ?_
      rintro e W3 ⟨b', rfl, hT2⟩
      have T2 := hid hT2
      clear hT hT2 y0 y1 y2 y3
      go_wp2_with fail
      refine (T2.out.stands leave).mono ?_
      rintro e W4 ⟨rfl, hk⟩
      have T3 := hid (T2.out.same hk)
      clear hk T2
      go_wp2
      go_roundw
      case rel => exact ⟨i + 1, b', by omega, by simp, rfl, rfl, T3⟩
      case measure => simp [intOf]; omega
    · have hx : ¬ (i : Int) < N ∨ ((i : Int) < N ∧ ¬ (i : Int) < 200) := by omega
      clear hin
      have K6 := hid hT.out.kp
      clear hT
      rcases hx with h1 | ⟨h1, h2⟩
      all_goals go_wp2_with fail
      all_goals
        refine (known_any _).mono ?_
        rintro e W7 ⟨rfl, k7⟩
        have K7 := hid (K6.out.trans k7)
        clear k7 K6
        go_wp2
        go_ret
        exact ⟨rfl, K7.out⟩
end Go.Proofs.Ytjggpchjfglgcaa
