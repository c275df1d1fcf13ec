/- SignalsSteps' walk. -/
import Derived.Test.YtoenipaccnpihaaOs
import Derived.Test.YtoenipaccnpihaaArgs
namespace Go.Proofs.Ytoenipaccnpihaa
open Go.RowKit Go.Shelf Go.Sort Go.Maps
open Go.Lib hiding intOf
attribute [local go_sem] Oper.semAt_some

theorem new_or (a b : Int) : (¬ ((1 ≤ a ∧ a ≤ 16) ∧ 1 ≤ b ∧ b ≤ 32)) ∨ ∃ T S : Nat, a = T ∧ b = S ∧ (1 ≤ T ∧ T ≤ 16) ∧ 1 ≤ S ∧ S ≤ 32 := by
  by_cases h : (1 ≤ a ∧ a ≤ 16) ∧ 1 ≤ b ∧ b ≤ 32
  · exact .inr ⟨a.toNat, b.toNat, by omega, by omega, by omega, by omega⟩
  · exact .inl h
set_option maxRecDepth 100000 in
set_option maxHeartbeats 4000000 in
theorem steps_walk (PC : ClearOk) (PS : StandsOk) (w : World) (a b : Int) (V : Value) (N : Nat) (F : Nat → Stp) (leave : Int) (hV : Scr w V N F) : Calls Try.prog 3 #[.agg #[.int .i64 a, .int .i64 b], V, .int .i64 leave] w fun e w' => e = .returned (.bool true) ∧ Kp w w' [] := by
  obtain ⟨so, sc, rfl⟩ := hV.shape
  have HV := hid hV
  have HP := hid (And.intro PC PS)
  clear hV PC PS
  obtain ⟨W0, hW0⟩ : ∃ W0, w.alloc (.cells #[.int .i64 a, .int .i64 b] 22) = W0 := ⟨_, rfl⟩
  have c0 : W0.cell? ⟨w.heap.size, 0, none⟩ = some (.int .i64 a) := by rw [← hW0]; simp
  have c1 : W0.cell? ⟨w.heap.size, 1, none⟩ = some (.int .i64 b) := by rw [← hW0]; simp
  have K0 := hid (show Kp w W0 [] from by rw [← hW0]; exact Kp.alloc _ _ _)
  rcases new_or a b with hno | ⟨T, S, rfl, rfl, hT, hS⟩
  · have HN := hid hno
    clear hno
    go_enter Try.func3, Try.ntmps3
    go_wp2_with fail
    refine (new_no W0 a b HN.out).mono ?_
    rintro e w1 ⟨rfl, k1⟩
    have K1 := hid (K0.out.trans k1)
    replace c0 := k1.cell c0 (by simp)
    replace c1 := k1.cell c1 (by simp)
    clear k1
    go_wp2_with fail
    refine (rnew_no w1 a b HN.out).mono ?_
    rintro e w2 ⟨rfl, k2⟩
    have K2 := hid (K1.out.trans k2)
    clear k2 K1 c0 c1
    go_wp2_with fail
    refine (num_any _ _).mono ?_
    rintro e _ ⟨rfl, rfl⟩
    go_wp2_with fail
    refine (known_any HP.out.1 _).mono ?_
    rintro e w3 ⟨rfl, k3⟩
    have K3 := hid (K2.out.trans k3)
    clear k3 K2
    go_wp2
    go_ret
    exact ⟨rfl, K3.out⟩
  · have HB := hid (And.intro hT hS)
    clear hT hS
    go_enter Try.func3, Try.ntmps3
    go_wp2_with fail
    refine (new_yes W0 T S HB.out.1.1 HB.out.1.2 HB.out.2.1 HB.out.2.2).mono ?_
    rintro e w1 ⟨sb, R1, rfl, hx, hx1, hx2⟩
    have X1 := hid (And.intro hx (And.intro hx1 hx2))
    replace c0 := hx2.cell c0 (by simp)
    replace c1 := hx2.cell c1 (by simp)
    clear hx hx1 hx2
    go_wp2_with fail
    refine (rnew_yes w1 T S HB.out.1.1 HB.out.1.2 HB.out.2.1 HB.out.2.2).mono ?_
    rintro e w2 ⟨rb, rfl, hr, hr1, hr2⟩
    have D1 := hid (Oc.new X1.out.1 X1.out.2.1 X1.out.2.2 hr hr1 hr2)
    clear hr hr1 hr2 X1 c0 c1
    go_wp2_with fail
    refine (num_any _ _).mono ?_
    rintro e _ ⟨rfl, rfl⟩
    go_wp2_with fail
    go_loopw [7, 9, 10] (fun vx vp vi W => ∃ (i b : Nat), i ≤ 120 ∧ vi = .int .i64 i ∧ vx = .pointer (some ⟨b, 0, none⟩) ∧ vp = .pointer (some ⟨rb, 0, none⟩) ∧ Hid (Oc W0 W b rb i)) (fun _ _ vi _ => 120 - (intOf vi).toNat)
    case atStart => exact ⟨0, sb, by omega, rfl, rfl, rfl, D1.out⟩
    case round =>
      obtain ⟨i, b, hi, rfl, rfl, rfl, hT⟩ := hrel
      clear D1
      by_cases hin : i < N ∧ i < 120
      · have h1 : (i : Int) < N := by omega
        have h2 : (i : Int) < 120 := by omega
        obtain ⟨gb, off, rfl, y0, y1, y2, y3, y4⟩ := (HV.out.keep (K0.out.trans hT.out.kp)).at hin.1
        have HU := hid (HV.out.u32 hin.1)
        go_wp2_with fail
        refine (hT.out.step HP.out.1 (by omega) (F i).k (F i).t (F i).n (F i).v (F i).x HU.out).mono ?_
        rintro e W3 ⟨b', rfl, hT2⟩
        have T2 := hid hT2
        clear hT hT2 y0 y1 y2 y3 y4
        obtain ⟨gb', off', hgb, y0, y1, y2, y3, y4⟩ := (HV.out.keep (K0.out.trans T2.out.kp)).at hin.1
        simp only [Option.some.injEq, Addr.mk.injEq, and_true] at hgb
        obtain ⟨rfl, rfl⟩ := hgb
        go_wp2_with fail
        refine (T2.out.stands HP.out.2 (by omega) (F i).k (F i).t (F i).n (F i).v (F i).x leave HU.out).mono ?_
        rintro e W4 ⟨rfl, hk⟩
        have T3 := hid (T2.out.same hk)
        clear hk T2 y0 y1 y2 y3 y4
        go_wp2
        go_roundw
        case rel => exact ⟨i + 1, b', by omega, by simp, rfl, rfl, T3.out⟩
        case measure => simp [intOf]; omega
      · have hx : ¬ (i : Int) < N ∨ ((i : Int) < N ∧ ¬ (i : Int) < 120) := by omega
        clear hin
        have K6 := hid (K0.out.trans hT.out.kp)
        clear hT
        rcases hx with h1 | ⟨h1, h2⟩
        all_goals go_wp2_with fail
        all_goals
          refine (known_any HP.out.1 _).mono ?_
          rintro e W7 ⟨rfl, k7⟩
          have K7 := hid (K6.out.trans k7)
          clear k7 K6
          go_wp2
          go_ret
          exact ⟨rfl, K7.out⟩
end Go.Proofs.Ytoenipaccnpihaa
