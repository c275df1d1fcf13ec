/- ServerPlays's walk. -/
import Derived.Test.YtojcmnanapeooaaPl
import Derived.Test.YtojcmnanapeooaaArgs
namespace Go.Proofs.Ytojcmnanapeooaa
open Go.RowKit Go.Shelf

set_option maxRecDepth 100000 in
set_option maxHeartbeats 4000000 in
theorem plays_walk (hat : AtSame) (w : World) (b p m : Int) (V : Value) (N : Nat) (S : Nat → Sp) (hV : Sc2 w V N S) : Calls Try.prog 3 #[.int .i64 b, .int .i64 p, .int .i64 m, V] w fun e w' => e = .returned (.bool true) ∧ Kp w w' [] := by
  obtain ⟨so, sc, rfl⟩ := hV.shape
  have HV := hid hV
  have HAT := hid hat
  clear hV hat
  cases hn : mayN b p m with
  | false =>
    have cn := new_no w b p m hn
    have cr := rnew_no w b p m hn
    clear hn
    go_enter Try.func3, Try.ntmps3
    go_wp2_with fail
    refine cn.mono ?_
    rintro e w1 ⟨rfl, rfl⟩
    go_wp2_with fail
    refine cr.mono ?_
    rintro e w2 ⟨rfl, rfl⟩
    clear cn cr
    go_wp2_with fail
    refine (known_any _).mono ?_
    rintro e w3 ⟨rfl, hk⟩
    have K3 := hid hk
    clear hk
    go_wp2
    go_ret
    exact ⟨rfl, K3.out⟩
  | true =>
    have HN := hid hn
    clear hn
    by_cases hN : (200 : Int) < N
    · go_enter Try.func3, Try.ntmps3
      go_wp2_with fail
      refine (kn_new w b p m HN.out).mono ?_
      rintro e w1 ⟨rfl, hl⟩
      have H1 := hid hl
      clear hl
      go_wp2_with fail
      refine (pl_new w _ _ b p m HN.out H1.out).mono ?_
      rintro e w2 ⟨rfl, -, hk⟩
      have K2 := hid (H1.out.kp.trans hk)
      clear hk H1
      go_wp2_with fail
      refine (known_any _).mono ?_
      rintro e w3 ⟨rfl, hk⟩
      have K3 := hid (K2.out.trans hk)
      clear hk
      go_wp2
      go_ret
      exact ⟨rfl, K3.out⟩
    · have hN2 : N ≤ 200 := by omega
      go_enter Try.func3, Try.ntmps3
      go_wp2_with fail
      refine (kn_new w b p m HN.out).mono ?_
      rintro e w1 ⟨rfl, hl⟩
      have H1 := hid hl
      clear hl
      go_wp2_with fail
      refine (pl_new w _ _ b p m HN.out H1.out).mono ?_
      rintro e w2 ⟨rfl, ⟨rs, hP, -⟩, -⟩
      have P2 := hid hP
      clear hP H1
      obtain ⟨sb, hsb⟩ : ∃ sb, w.heap.size = sb := ⟨_, rfl⟩
      obtain ⟨rb, hrb⟩ : ∃ rb, w1.heap.size = rb := ⟨_, rfl⟩
      rw [hsb, hrb] at P2 ⊢
      clear hsb hrb
      go_wp2_with fail
      go_loopw [12] (fun v wr => ∃ i : Nat, i ≤ N ∧ v = .int .i64 i ∧ Hid (∃ rs s, Pl w wr sb rb rs s)) (fun v _ => N - (intOf v).toNat)
      case atStart => exact ⟨0, by omega, rfl, _, _, P2.out⟩
      case round =>
        obtain ⟨i, hi, rfl, hT⟩ := hrel
        clear P2
        obtain ⟨rs, s, hP⟩ := hT.out
        have HP := hid hP
        clear hT hP
        by_cases hlt : i < N
        · have h1 : (i : Int) < N := by omega
          obtain ⟨xb, off, rfl, y0, y1⟩ := (HV.out.keep HP.out.kp).at hlt
          go_wp2_with fail
          refine (HP.out.step HAT.out (S i).k (S i).t).mono ?_
          rintro e W3 ⟨rfl, rs', hP2, -⟩
          have P3 := hid hP2
          clear hP2 HP y0 y1
          go_wp2_with fail
          refine P3.out.stands.mono ?_
          rintro e W4 ⟨rfl, hP4, -⟩
          have P4 := hid (show ∃ rs s, Pl w W4 sb rb rs s from ⟨_, _, hP4⟩)
          clear hP4 P3
          go_wp2
          go_roundw
          case rel => exact ⟨i + 1, by omega, by simp, P4⟩
          case measure => simp [intOf]; omega
        · have h1 : ¬ (i : Int) < N := by omega
          have K6 := hid HP.out.kp
          clear HP
          go_wp2_with fail
          refine (known_any _).mono ?_
          rintro e W7 ⟨rfl, k7⟩
          have K7 := hid (K6.out.trans k7)
          clear k7 K6
          go_wp2
          go_ret
          exact ⟨rfl, K7.out⟩
end Go.Proofs.Ytojcmnanapeooaa
