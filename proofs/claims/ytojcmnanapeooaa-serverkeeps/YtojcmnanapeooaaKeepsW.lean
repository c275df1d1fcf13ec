/- ServerKeeps's walk. -/
import Derived.Test.YtojcmnanapeooaaKnown
import Derived.Test.YtojcmnanapeooaaArgs
namespace Go.Proofs.Ytojcmnanapeooaa
open Go.RowKit Go.Shelf

theorem step_bud (s : Sv) (k at1 : Int) : (stepS s k at1).bud = s.bud := by
  unfold stepS
  split
  · unfold startS; split <;> rfl
  · split
    · unfold useS; split
      · split <;> rfl
      · rfl
    · split
      · unfold stopS; split <;> rfl
      · split <;> rfl
theorem take_len {α : Type} (l : List α) (n : Nat) (h : l.length ≤ n) : l.take n = l := List.take_of_length_le h
theorem sum_take_le (l : List Dl) (i : Nat) (h : ∀ x ∈ l, 1 ≤ x.2) : 0 ≤ sumA (l.take i) ∧ sumA (l.take i) ≤ sumA l := by
  have h2 := sumA_app (l.take i) (l.drop i)
  rw [List.take_append_drop] at h2
  have h3 := (sum_nonneg (l.drop i) fun x hx => h x (List.mem_of_mem_drop hx)).1
  have h5 := (sum_nonneg (l.take i) fun x hx => h x (List.mem_of_mem_take hx)).1
  omega
theorem sum_take_get {l : List Dl} {i : Nat} (h : i < l.length) : sumA (l.take (i + 1)) = sumA (l.take i) + l[i]!.2 := by
  rw [take_get h, sumA_app]
  simp [sumA]
set_option maxRecDepth 100000 in
set_option maxHeartbeats 4000000 in
theorem keeps_walk (w : World) (b p m : Int) (V : Value) (N : Nat) (S : Nat → Sp) (hV : Sc2 w V N S) : Calls Try.prog 4 #[.int .i64 b, .int .i64 p, .int .i64 m, V] w fun e w' => e = .returned (.bool true) ∧ Kp w w' [] := by
  obtain ⟨so, sc, rfl⟩ := hV.shape
  have HV := hid hV
  clear hV
  cases hn : mayN b p m with
  | false =>
    have cn := new_no w b p m hn
    clear hn
    go_enter Try.func4, Try.ntmps4
    go_wp2_with fail
    refine cn.mono ?_
    rintro e w1 ⟨rfl, rfl⟩
    clear cn
    go_wp2_with fail
    refine (known_any _).mono ?_
    rintro e w3 ⟨rfl, hk⟩
    have K3 := hid hk
    clear hk
    go_wp2
    go_ret
    exact ⟨rfl, K3.out⟩
  | true =>
    have cn := hid (kn_new w b p m hn)
    clear hn
    by_cases hN : (200 : Int) < N
    · go_enter Try.func4, Try.ntmps4
      go_wp2_with fail
      refine cn.out.mono ?_
      rintro e w1 ⟨rfl, hl⟩
      have K1 := hid hl.kp
      clear cn hl
      go_wp2_with fail
      refine (known_any _).mono ?_
      rintro e w3 ⟨rfl, hk⟩
      have K3 := hid (K1.out.trans hk)
      clear hk
      go_wp2
      go_ret
      exact ⟨rfl, K3.out⟩
    · have hN2 : N ≤ 200 := by omega
      go_enter Try.func4, Try.ntmps4
      go_wp2_with fail
      refine cn.out.mono ?_
      rintro e w1 ⟨rfl, hl⟩
      have P2 := hid hl
      clear cn hl
      obtain ⟨sb, hsb⟩ : ∃ sb, w.heap.size = sb := ⟨_, rfl⟩
      rw [hsb] at P2 ⊢
      clear hsb
      go_wp2_with fail
      go_loopw [11] (fun v wr => ∃ i : Nat, i ≤ N ∧ v = .int .i64 i ∧ Hid (∃ s, Kn w wr sb s ∧ s.bud = b)) (fun v _ => N - (intOf v).toNat)
      case atStart => exact ⟨0, by omega, rfl, _, P2.out, rfl⟩
      case round =>
        obtain ⟨i, hi, rfl, hT⟩ := hrel
        clear P2
        obtain ⟨s, hP, hb⟩ := hT.out
        have HP := hid hP
        have HB := hid hb
        clear hT hP hb
        by_cases hlt : i < N
        · have h1 : (i : Int) < N := by omega
          obtain ⟨xb, off, rfl, y0, y1⟩ := (HV.out.keep HP.out.kp).at hlt
          obtain ⟨k, hk⟩ : ∃ k, (S i).k = k := ⟨_, rfl⟩
          obtain ⟨t, ht⟩ : ∃ t, (S i).t = t := ⟨_, rfl⟩
          rw [hk] at y0
          rw [ht] at y1
          clear hk ht
          rcases (show k = 1 ∨ k = 2 ∨ k = 3 ∨ k = 4 ∨ (k ≠ 1 ∧ k ≠ 2 ∧ k ≠ 3 ∧ k ≠ 4) by omega) with hk | hk | hk | hk | hk
          case' inl =>
            have kt : (k == 1) = true := by simp [hk]
            have eS := hid (show startS s t = stepS s k t by simp [stepS, hk])
            clear hk
            go_wp2_with fail
            refine (HP.out.start t).mono ?_
            rintro e W2 ⟨rfl, hP2⟩
            rw [eS.out] at hP2
            have P3 := hid hP2
            clear hP2 HP eS y0 y1
            go_wp2_with fail
          case' inr.inl =>
            have kt : (k == 2) = true := by simp [hk]
            have kf1 : (k == 1) = false := by rw [hk]; rfl
            have eS := hid (show useS s = stepS s k t by simp [stepS, hk])
            clear hk
            go_wp2_with fail
            refine (HP.out.use).mono ?_
            rintro e W2 ⟨rfl, hP2⟩
            rw [eS.out] at hP2
            have P3 := hid hP2
            clear hP2 HP eS y0 y1
            go_wp2_with fail
          case' inr.inr.inl =>
            have kt : (k == 3) = true := by simp [hk]
            have kf1 : (k == 1) = false := by rw [hk]; rfl
            have kf2 : (k == 2) = false := by rw [hk]; rfl
            have eS := hid (show stopS s t = stepS s k t by simp [stepS, hk])
            clear hk
            go_wp2_with fail
            refine (HP.out.stop t).mono ?_
            rintro e W2 ⟨rfl, hP2⟩
            rw [eS.out] at hP2
            have P3 := hid hP2
            clear hP2 HP eS y0 y1
            go_wp2_with fail
          case' inr.inr.inr.inl =>
            have kt : (k == 4) = true := by simp [hk]
            have kf1 : (k == 1) = false := by rw [hk]; rfl
            have kf2 : (k == 2) = false := by rw [hk]; rfl
            have kf3 : (k == 3) = false := by rw [hk]; rfl
            have eS := hid (show dueS s t = stepS s k t by simp [stepS, hk])
            clear hk
            go_wp2_with fail
            refine (HP.out.due t).mono ?_
            rintro e W2 ⟨rfl, hP2⟩
            rw [eS.out] at hP2
            have P3 := hid hP2
            clear hP2 HP eS y0 y1
            go_wp2_with fail
          case' inr.inr.inr.inr =>
            have kf1 : (k == 1) = false := by simp [hk.1]
            have kf2 : (k == 2) = false := by simp [hk.2.1]
            have kf3 : (k == 3) = false := by simp [hk.2.2.1]
            have kf4 : (k == 4) = false := by simp [hk.2.2.2]
            have P3 := hid (show Kn w wr sb (stepS s k t) by
              have e : stepS s k t = s := by simp [stepS, hk.1, hk.2.1, hk.2.2.1, hk.2.2.2]
              rw [e]; exact HP.out)
            clear hk HP
            go_wp2_with fail
          all_goals (
            obtain ⟨s', hs'⟩ : ∃ s', stepS s k t = s' := ⟨_, rfl⟩
            rw [hs'] at P3
            have HB2 := hid (show s'.bud = b by rw [← hs', step_bud]; exact HB.out)
            have hok := P3.out.ok
            have HA := hid (fun x hx => (hok.am x hx).1)
            have hall := hok.all
            have hsum := hok.sum
            have hl0 := hok.l0
            have hu0 := hok.u0
            have hbb : s'.bud ≤ 1099511627776 := by have := hok.bp; have := hok.pm; omega
            have hhi := fun q => (high_iff (s := s')).1 q
            rw [HB2.out] at hall hbb hsum
            obtain ⟨u, hu⟩ : ∃ u, s'.used = u := ⟨_, rfl⟩
            obtain ⟨l, hl⟩ : ∃ l, s'.left = l := ⟨_, rfl⟩
            obtain ⟨P, hP⟩ : ∃ P, s'.pcs = P := ⟨_, rfl⟩
            rw [hu] at hall hu0
            rw [hl] at hall hl0 hhi
            rw [hP] at HA hall hsum hhi
            have HALL := hid (And.intro hall (And.intro hsum (And.intro hbb hhi)))
            have HU := hid (And.intro hu (And.intro hl hP))
            have hwr : IntKind.i64.wrap (u + l) = u + l := by rw [IntKind.wrap_i64]; omega
            have hPl := hid (show P.length ≤ 1000 by rw [← hP]; exact hok.plen)
            clear hs' hok hall hsum hbb hhi hu hl hP
            refine P3.out.active.mono ?_
            rintro e W3 ⟨rfl, hP4, -⟩
            rw [HU.out.1]
            have P4 := hid hP4
            clear hP4 P3
            go_wp2_with fail
            refine P4.out.left.mono ?_
            rintro e W4 ⟨rfl, hW4⟩
            subst hW4
            rw [HU.out.2.1]
            go_wp2_with fail
            refine P4.out.pieces.mono ?_
            rintro e W5 ⟨v5, rfl, hd, hP5, -⟩
            rw [HU.out.2.2] at hd
            obtain ⟨a5, c5, hv5⟩ := hd.slice
            obtain ⟨M, hM⟩ : ∃ M, P.length = M := ⟨_, rfl⟩
            rw [hM] at hv5
            subst hv5
            have HM := hid hM
            have P5 := hid hP5
            have HD := hid hd
            have hMl : M ≤ 1000 := by have := hPl.out; omega
            clear hd hP5 P4 hM hwr
            go_wp2_with fail
            go_loopw [13, 16] (fun vn vk wx => ∃ (j : Nat) (n : Int), j ≤ M ∧ vk = .int .i64 j ∧ vn = .int .i64 n ∧ Hid (n = u + l + sumA (P.take j)) ∧ wx = W5) (fun _ vk _ => M - (intOf vk).toNat)
            case atStart => exact ⟨0, u + l, by omega, rfl, rfl, hid (by simp [sumA]), rfl⟩
            case round =>
              obtain ⟨j, n, hj, rfl, rfl, hn, hwx⟩ := hrel
              have hwx := hwx.symm
              subst hwx
              by_cases hjl : j < M
              · have hjI : (j : Int) < M := by omega
                have hjP : j < P.length := by have := HM.out; omega
                obtain ⟨x1, x2, hx⟩ : ∃ x1 x2, P[j]! = (x1, x2) := ⟨P[j]!.1, P[j]!.2, rfl⟩
                obtain ⟨gg, hgg, d1, d2, -, -⟩ := HD.out.at hjP hx
                subst hgg
                have hx2 : 1 ≤ x2 := by
                  have := HA.out P[j]! (by rw [getElem!_pos P j hjP]; exact List.getElem_mem hjP)
                  rw [hx] at this
                  exact this
                have HS := hid (show n + x2 = u + l + sumA (P.take (j + 1)) by
                  have := sum_take_get hjP
                  rw [hx] at this
                  have := hn.out
                  omega)
                have hw : IntKind.i64.wrap (n + x2) = n + x2 := by
                  have h3 := sum_take_le P (j + 1) HA.out
                  have h4 := HS.out
                  have h5 := HALL.out
                  rw [IntKind.wrap_i64]; omega
                have hd1 : decide (x2 < 1) = false := decide_eq_false (by omega)
                clear hx hjP
                go_wp2_with fail
                go_roundw
                case rel => exact ⟨j + 1, n + x2, by omega, by simp, rfl, HS, trivial⟩
                case measure => simp [intOf]; omega
              · have hjI : ¬ (j : Int) < M := by omega
                have hnb : n = b := by
                  have h1 := hn.out
                  rw [take_len P j (by have := HM.out; omega)] at h1
                  have h2 := HALL.out.1
                  omega
                have hne : (n != b) = false := by simp [hnb]
                have hd0 : decide (l < 0) = false := decide_eq_false (by omega)
                clear hnb hn HD
                go_wp2_with fail
                refine P5.out.left.mono ?_
                rintro e W6 ⟨rfl, hW6⟩
                subst hW6
                rw [HU.out.2.1]
                go_wp2_with fail
                refine P5.out.high.mono ?_
                rintro e W7 ⟨rfl, hP7, -⟩
                have P7 := hid hP7
                clear hP7 P5
                cases hh : highB s' with
                | false =>
                  clear hh
                  go_wp2_with fail
                  go_roundw
                  case rel => exact ⟨i + 1, by omega, by simp, _, P7.out, HB2.out⟩
                  case measure => simp [intOf]; omega
                | true =>
                  have hl1 : (l == 0) = false := by
                    have := (HALL.out.2.2.2 hh).1
                    rw [beq_eq_false_iff_ne]; omega
                  clear hh
                  go_wp2_with fail
                  refine P7.out.left.mono ?_
                  rintro e W8 ⟨rfl, hW8⟩
                  subst hW8
                  rw [HU.out.2.1]
                  go_wp2_with fail
                  go_roundw
                  case rel => exact ⟨i + 1, by omega, by simp, _, P7.out, HB2.out⟩
                  case measure => simp [intOf]; omega)
        · have h1 : ¬ (i : Int) < N := by omega
          have K6 := hid HP.out.kp
          clear HP
          go_wp2_with fail
          refine (known_any _).mono ?_
          rintro e W7 ⟨rfl, k7⟩
          have K7 := hid (K6.out.trans k7)
          clear k7 K6
          go_wp2
          go_ret
          exact ⟨rfl, K7.out⟩
end Go.Proofs.Ytojcmnanapeooaa
