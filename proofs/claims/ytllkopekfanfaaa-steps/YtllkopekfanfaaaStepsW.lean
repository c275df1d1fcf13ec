/- QueueSteps' walk. -/
import Derived.Test.YtllkopekfanfaaaOs
namespace Go.Proofs.Ytllkopekfanfaaa
open Go.RowKit Go.Shelf Go.Lib Go.Sort Go.Maps
attribute [local go_sem] Oper.semAt_some

set_option maxRecDepth 100000 in
set_option maxHeartbeats 4000000 in
theorem steps_walk (w : World) (room : Int) (V : Value) (N : Nat) (F : Nat → Stp) (leave : Int) (hV : Scr w V N F) : Calls Try.prog 3 #[.int .i64 room, V, .int .i64 leave] w fun e w' => e = .returned (.bool true) ∧ Kp w w' [] := by
  obtain ⟨so, sc, rfl⟩ := hV.shape
  have HV := hid hV
  clear hV
  by_cases hn : 1 ≤ room ∧ room ≤ 32
  · have HN := hid hn
    clear hn
    go_enter Try.func3, Try.ntmps3
    go_wp2_with fail
    refine (new_ok w room HN.out.1 HN.out.2).mono ?_
    rintro e w1 ⟨⟨qb, R1, rfl, hx, hx1⟩, hx2⟩
    have X1 := hid (And.intro hx (And.intro hx1 hx2))
    clear hx hx1 hx2
    go_wp2_with fail
    refine (rnew_ok w1 room HN.out.1 HN.out.2).mono ?_
    rintro e w2 ⟨⟨rb, sb, tb, rfl, hr, hr1, hr2, hr3⟩, hr4⟩
    have D1 := hid (Oc.new (Qok.new HN.out.1 HN.out.2) X1.out.1 X1.out.2.1 X1.out.2.2 hr hr1 hr2 hr3 hr4)
    clear hr hr1 hr2 hr3 hr4 X1
    go_wp2_with fail
    refine (num_any _ _).mono ?_
    rintro e _ ⟨rfl, rfl⟩
    go_wp2_with fail
    go_loopw [7, 9, 10] (fun vx vp vi W => ∃ (i b : Nat), i ≤ 200 ∧ vi = .int .i64 i ∧ vx = .pointer (some ⟨b, 0, none⟩) ∧ vp = .pointer (some ⟨rb, 0, none⟩) ∧ Hid (Oc w W b rb)) (fun _ _ vi _ => 200 - (intOf vi).toNat)
    case atStart => exact ⟨0, qb, by omega, rfl, rfl, rfl, D1.out⟩
    case round =>
      obtain ⟨i, b, hi, rfl, rfl, rfl, hT⟩ := hrel
      clear D1
      by_cases hin : i < N ∧ i < 200
      · have h1 : (i : Int) < N := by omega
        have h2 : (i : Int) < 200 := by omega
        obtain ⟨gb, off, rfl, y0, y1, y2, y3, y4⟩ := (HV.out.keep hT.out.kp).at hin.1
        have HU := hid (HV.out.i64t hin.1)
        go_wp2_with fail
        refine (hT.out.step (F i).k (F i).t (F i).n (F i).v (F i).x HU.out).mono ?_
        rintro e W3 ⟨b', rfl, hT2⟩
        have T2 := hid hT2
        clear hT hT2 y0 y1 y2 y3 y4
        go_wp2_with fail
        refine (T2.out.stands leave).mono ?_
        rintro e W4 ⟨rfl, hk⟩
        have T3 := hid (T2.out.same hk)
        clear hk T2
        go_wp2
        go_roundw
        case rel => exact ⟨i + 1, b', by omega, by simp, rfl, rfl, T3.out⟩
        case measure => simp [intOf]; omega
      · have hx : ¬ (i : Int) < N ∨ ((i : Int) < N ∧ ¬ (i : Int) < 200) := by omega
        clear hin
        have K6 := hid hT.out.kp
        clear hT
        rcases hx with h1 | ⟨h1, h2⟩
        all_goals go_wp2_with fail
        all_goals
          refine (known_any _).mono ?_
          rintro e W7 ⟨rfl, k7⟩
          have K7 := hid (K6.out.trans k7)
          clear k7 K6
          go_wp2
          go_ret
          exact ⟨rfl, K7.out⟩
  · have HN := hid hn
    clear hn
    go_enter Try.func3, Try.ntmps3
    go_wp2_with fail
    refine (new_bad w room HN.out).mono ?_
    rintro e w1 ⟨rfl, k1⟩
    have K1 := hid k1
    clear k1
    go_wp2_with fail
    refine (rnew_bad w1 room HN.out).mono ?_
    rintro e w2 ⟨rfl, k2⟩
    have K2 := hid (K1.out.trans k2)
    clear k2 K1
    go_wp2_with fail
    refine (num_any _ _).mono ?_
    rintro e _ ⟨rfl, rfl⟩
    go_wp2_with fail
    refine (known_any _).mono ?_
    rintro e w3 ⟨rfl, k3⟩
    have K3 := hid (K2.out.trans k3)
    clear k3 K2
    go_wp2
    go_ret
    exact ⟨rfl, K3.out⟩
end Go.Proofs.Ytllkopekfanfaaa
