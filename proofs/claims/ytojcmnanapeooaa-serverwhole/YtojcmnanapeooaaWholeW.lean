/- ServerWhole's walk. -/
import Derived.Test.YtojcmnanapeooaaKeepsW
namespace Go.Proofs.Ytojcmnanapeooaa
open Go.RowKit Go.Shelf

set_option maxRecDepth 100000 in
set_option maxHeartbeats 4000000 in
theorem whole_walk (w : World) (b p m : Int) (V : Value) (N : Nat) (S : Nat → Sp) (hV : Sc2 w V N S) : Calls Try.prog 6 #[.int .i64 b, .int .i64 p, .int .i64 m, V] w fun e w' => e = .returned (.bool true) ∧ Kp w w' [] := by
  obtain ⟨so, sc, rfl⟩ := hV.shape
  have HV := hid hV
  clear hV
  cases hn : mayN b p m with
  | false =>
    have cn := new_no w b p m hn
    clear hn
    go_enter Try.func6, Try.ntmps6
    go_wp2_with fail
    refine cn.mono ?_
    rintro e w1 ⟨rfl, rfl⟩
    clear cn
    go_wp2_with fail
    refine (known_any _).mono ?_
    rintro e w3 ⟨rfl, hk⟩
    have K3 := hid hk
    clear hk
    go_wp2
    go_ret
    exact ⟨rfl, K3.out⟩
  | true =>
    have cn := hid (kn_new w b p m hn)
    clear hn
    by_cases hN : (100 : Int) < N
    · go_enter Try.func6, Try.ntmps6
      go_wp2_with fail
      refine cn.out.mono ?_
      rintro e w1 ⟨rfl, hl⟩
      have K1 := hid hl.kp
      clear cn hl
      go_wp2_with fail
      refine (known_any _).mono ?_
      rintro e w3 ⟨rfl, hk⟩
      have K3 := hid (K1.out.trans hk)
      clear hk
      go_wp2
      go_ret
      exact ⟨rfl, K3.out⟩
    · have hN2 : N ≤ 100 := by omega
      go_enter Try.func6, Try.ntmps6
      go_wp2_with fail
      refine cn.out.mono ?_
      rintro e w1 ⟨rfl, hl⟩
      have P2 := hid hl
      clear cn hl
      obtain ⟨sb, hsb⟩ : ∃ sb, w.heap.size = sb := ⟨_, rfl⟩
      rw [hsb] at P2 ⊢
      clear hsb
      go_wp2_with fail
      go_loopw [11] (fun v wr => ∃ i : Nat, i ≤ N ∧ v = .int .i64 i ∧ Hid (∃ s, Kn w wr sb s ∧ s.bud = b)) (fun v _ => N - (intOf v).toNat)
      case atStart => exact ⟨0, by omega, rfl, _, P2.out, rfl⟩
      case round =>
        obtain ⟨i, hi, rfl, hT⟩ := hrel
        clear P2
        obtain ⟨s, hP, hb⟩ := hT.out
        have HP := hid hP
        have HB := hid hb
        clear hT hP hb
        by_cases hlt : i < N
        · have h1 : (i : Int) < N := by omega
          go_wp2_with fail
          refine HP.out.pieces.mono ?_
          rintro e W5 ⟨v5, rfl, hd, hP5, -⟩
          have hok := hP5.ok
          have HA := hid (fun x hx => (hok.am x hx).1)
          have HSM := hid (show sumA s.pcs ≤ 1099511627776 by
            have := hok.sum
            have := hok.bp
            have := hok.pm
            omega)
          have hPl := hid hok.plen
          obtain ⟨a5, c5, hv5⟩ := hd.slice
          obtain ⟨M, hM⟩ : ∃ M, s.pcs.length = M := ⟨_, rfl⟩
          rw [hM] at hv5
          subst hv5
          have HM := hid hM
          have HP := hid hP5
          have HD := hid hd
          have hMl : M ≤ 1000 := by have := hPl.out; omega
          clear hd hP5 hM hok
          obtain ⟨xb, off, rfl, y0, y1⟩ := (HV.out.keep HP.out.kp).at hlt
          have hNI : (N : Int) ≤ 100 := by omega
          obtain ⟨k, hk⟩ : ∃ k, (S i).k = k := ⟨_, rfl⟩
          obtain ⟨t, ht⟩ : ∃ t, (S i).t = t := ⟨_, rfl⟩
          rw [hk] at y0
          rw [ht] at y1
          clear hk ht
          rcases (show k = 1 ∨ k = 2 ∨ k = 3 ∨ k = 4 ∨ (k ≠ 1 ∧ k ≠ 2 ∧ k ≠ 3 ∧ k ≠ 4) by omega) with hk | hk | hk | hk | hk
          ·
            have kt : (k == 1) = true := by simp [hk]
            clear hk
            go_wp2_with fail
            refine (HP.out.start t).mono ?_
            rintro e W2 ⟨rfl, hP2⟩
            have P3 := hid (show ∃ s, Kn w W2 sb s ∧ s.bud = b from ⟨_, hP2, by
              have := step_bud s 1 t
              rw [HB.out] at this
              simpa [stepS] using this⟩)
            clear hP2 HP y0 y1
            go_wp2_with fail
            go_roundw
            case rel => exact ⟨i + 1, by omega, by simp, P3⟩
            case measure => simp [intOf]; omega
          ·
            have kt : (k == 2) = true := by simp [hk]
            have kf1 : (k == 1) = false := by rw [hk]; rfl
            clear hk
            go_wp2_with fail
            refine (HP.out.use).mono ?_
            rintro e W2 ⟨rfl, hP2⟩
            have P3 := hid (show ∃ s, Kn w W2 sb s ∧ s.bud = b from ⟨_, hP2, by
              have := step_bud s 2 t
              rw [HB.out] at this
              simpa [stepS] using this⟩)
            clear hP2 HP y0 y1
            go_wp2_with fail
            go_roundw
            case rel => exact ⟨i + 1, by omega, by simp, P3⟩
            case measure => simp [intOf]; omega
          ·
            have kt : (k == 3) = true := by simp [hk]
            have kf1 : (k == 1) = false := by rw [hk]; rfl
            have kf2 : (k == 2) = false := by rw [hk]; rfl
            clear hk
            go_wp2_with fail
            refine (HP.out.stop t).mono ?_
            rintro e W2 ⟨rfl, hP2⟩
            have P3 := hid (show ∃ s, Kn w W2 sb s ∧ s.bud = b from ⟨_, hP2, by
              have := step_bud s 3 t
              rw [HB.out] at this
              simpa [stepS] using this⟩)
            clear hP2 HP y0 y1
            go_wp2_with fail
            go_roundw
            case rel => exact ⟨i + 1, by omega, by simp, P3⟩
            case measure => simp [intOf]; omega
          ·
            have kt : (k == 4) = true := by simp [hk]
            have kf1 : (k == 1) = false := by rw [hk]; rfl
            have kf2 : (k == 2) = false := by rw [hk]; rfl
            have kf3 : (k == 3) = false := by rw [hk]; rfl
            clear hk
            have HY := hid (And.intro y0 y1)
            clear y0 y1
            have y0 := HY.out.1
            go_wp2_with fail
            clear y0
            go_loopw [13, 14] (fun vn vk wx => ∃ (j : Nat) (n : Int), j ≤ M ∧ vk = .int .i64 j ∧ vn = .int .i64 n ∧ Hid (n = sumA (dueL (s.pcs.take j) t) ∧ Kp W5 wx [])) (fun _ vk _ => M - (intOf vk).toNat)
            case atStart => exact ⟨0, 0, by omega, rfl, rfl, hid ⟨by simp [dueL, sumA], Kp.refl _ _⟩⟩
            case round =>
              obtain ⟨j, n, hj, rfl, rfl, hn⟩ := hrel
              have y1 := hn.out.2.cell HY.out.2 (by simp)
              by_cases hjl : j < M
              · have hjI : (j : Int) < M := by omega
                have hjP : j < s.pcs.length := by have := HM.out; omega
                obtain ⟨x1, x2, hx⟩ : ∃ x1 x2, s.pcs[j]! = (x1, x2) := ⟨s.pcs[j]!.1, s.pcs[j]!.2, rfl⟩
                obtain ⟨gg, hgg, d1, d2, -, -⟩ := (HD.out.keep hn.out.2).at hjP hx
                subst hgg
                have HT := hid (show sumA (dueL (s.pcs.take (j + 1)) t) = n + (if x1 ≤ t then x2 else 0) ∧ 0 ≤ sumA (dueL (s.pcs.take (j + 1)) t) ∧ sumA (dueL (s.pcs.take (j + 1)) t) ≤ 1099511627776 by
                  have h1 := sum_take s.pcs t (j + 1) HA.out
                  have h2 := HSM.out
                  refine ⟨?_, h1.1, by omega⟩
                  rw [take_get hjP, hx, due_snoc, hn.out.1])
                clear hx hjP
                by_cases hq : x1 ≤ t
                · have hT := HT.out
                  rw [if_pos hq] at hT
                  have hw : IntKind.i64.wrap (n + x2) = n + x2 := by rw [IntKind.wrap_i64]; omega
                  have HT1 := hid hT.1
                  have HKn := hid hn.out.2
                  clear hT hn
                  go_wp2_with fail
                  go_quiet (fail)
                  go_wp2_with fail
                  go_roundw
                  case rel => exact ⟨j + 1, n + x2, by omega, by simp, rfl, hid ⟨HT1.out.symm, HKn.out.trans (Kp.drewN _ _ _)⟩⟩
                  case measure => simp [intOf]; omega
                · have HT1 := hid (show n = sumA (dueL (s.pcs.take (j + 1)) t) by have hT := HT.out.1; rw [if_neg (by omega)] at hT; omega)
                  have HKn := hid hn.out.2
                  have hd1 : decide (x1 ≤ t) = false := decide_eq_false (by omega)
                  clear hn
                  go_wp2_with fail
                  go_quiet (fail)
                  go_wp2_with fail
                  go_roundw
                  case rel => exact ⟨j + 1, n, by omega, by simp, rfl, hid ⟨HT1.out, HKn.out.trans (Kp.drewN _ _ _)⟩⟩
                  case measure => simp [intOf]; omega
              · have hjI : ¬ (j : Int) < M := by omega
                have hnD : dueN s t = n := by
                  have h1 := hn.out.1
                  rw [take_len s.pcs j (by have := HM.out; omega)] at h1
                  exact h1.symm
                have HP6 := hid (HP.out.same hn.out.2)
                clear hn HD
                go_wp2_with fail
                refine (HP6.out.due t).mono ?_
                rintro e W2 ⟨rfl, hP2⟩
                rw [hnD]
                have P3 := hid (show ∃ s, Kn w W2 sb s ∧ s.bud = b from ⟨_, hP2, HB.out⟩)
                have hne : (n != n) = false := by simp
                clear hP2 HP HP6 y1 hnD
                go_wp2_with fail
                go_roundw
                case rel => exact ⟨i + 1, by omega, by simp, P3⟩
                case measure => simp [intOf]; omega
          ·
            have kf1 : (k == 1) = false := by simp [hk.1]
            have kf2 : (k == 2) = false := by simp [hk.2.1]
            have kf3 : (k == 3) = false := by simp [hk.2.2.1]
            have kf4 : (k == 4) = false := by simp [hk.2.2.2]
            clear hk
            go_wp2_with fail
            go_roundw
            case rel => exact ⟨i + 1, by omega, by simp, _, HP.out, HB.out⟩
            case measure => simp [intOf]; omega
        · have h1 : ¬ (i : Int) < N := by omega
          have hwh := whole HP.out.ok
          rw [HB.out] at hwh
          have hok2 := ok_due (ok_stop HP.out.ok 1099511627776) 2199023255553
          obtain ⟨s2, hs2⟩ : ∃ s2, dueS (stopS s 1099511627776) 2199023255553 = s2 := ⟨_, rfl⟩
          rw [hs2] at hwh hok2
          have HW := hid (show s2.left = b ∧ s2.pcs = [] ∧ highB s2 = true by
            refine ⟨hwh.1, hwh.2.1, high_iff.2 ⟨?_, ?_⟩⟩
            · have h3 := HP.out.ok.b1
              rw [HB.out] at h3
              have := hwh.1
              omega
            · rw [hwh.2.1]
              have := hok2.m1
              simp
              omega)
          have HS2 := hid hs2
          clear hwh hok2 hs2
          go_wp2_with fail
          refine (HP.out.stop 1099511627776).mono ?_
          rintro e W2 ⟨rfl, hP2⟩
          have P3 := hid hP2
          clear hP2 HP
          go_wp2_with fail
          refine (P3.out.due 2199023255553).mono ?_
          rintro e W3 ⟨rfl, hP3⟩
          rw [HS2.out] at hP3
          have P4 := hid hP3
          clear hP3 P3
          go_wp2_with fail
          refine P4.out.left.mono ?_
          rintro e W4 ⟨rfl, hW4⟩
          subst hW4
          rw [HW.out.1]
          have hbb : (b == b) = true := by simp
          go_wp2_with fail
          refine P4.out.high.mono ?_
          rintro e W5 ⟨rfl, hP5, -⟩
          rw [HW.out.2.2]
          have P5 := hid hP5
          clear hP5 P4
          go_wp2_with fail
          refine P5.out.pieces.mono ?_
          rintro e W6 ⟨v6, rfl, hd, hP6, -⟩
          rw [HW.out.2.1] at hd
          obtain ⟨a6, c6, hv6⟩ := hd.slice
          have hv6 : v6 = .slice a6 0 c6 := hv6
          subst hv6
          have K6 := hid hP6.kp
          clear hP6 hd P5
          go_wp2_with fail
          refine (known_any _).mono ?_
          rintro e W7 ⟨rfl, k7⟩
          have K7 := hid (K6.out.trans k7)
          clear k7 K6
          go_wp2
          go_ret
          exact ⟨rfl, K7.out⟩
end Go.Proofs.Ytojcmnanapeooaa
