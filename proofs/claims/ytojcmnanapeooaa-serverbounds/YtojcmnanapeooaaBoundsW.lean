/- ServerBounds's walk. -/
import Derived.Test.YtojcmnanapeooaaBt
import Derived.Deep.Cut
import Derived.Deep.CutRange
import Derived.Deep.Light
namespace Go.Proofs.Ytojcmnanapeooaa
open Go.RowKit Go.Shelf

set_option maxRecDepth 100000 in
set_option maxHeartbeats 8000000 in
theorem bounds_walk (w : World) (b p m : Int) (V : Value) (N : Nat) (G : Nat → Bool) (hV : Gb w V N G) : Calls Try.prog 5 #[.int .i64 b, .int .i64 p, .int .i64 m, V] w fun e w' => e = .returned (.bool true) ∧ Kp w w' [] := by
  obtain ⟨so, sc, rfl⟩ := hV.shape
  have HV := hid hV
  clear hV
  cases hn : mayN b p m with
  | false =>
    have cn := new_no w b p m hn
    clear hn
    go_enter Try.func5, Try.ntmps5
    go_wp2_with fail
    refine cn.mono ?_
    rintro e w1 ⟨rfl, rfl⟩
    clear cn
    go_wp2_with fail
    refine (known_any _).mono ?_
    rintro e w3 ⟨rfl, hk⟩
    have K3 := hid hk
    clear hk
    go_wp2
    go_ret
    exact ⟨rfl, K3.out⟩
  | true =>
    have cn := hid (kn_new w b p m hn)
    have HN := hid hn
    have hbp : 1 ≤ b ∧ b ≤ p := by
      have := ok_new hn
      exact ⟨this.b1, this.bp⟩
    clear hn
    by_cases hN : (1000 : Int) < N
    · go_enter Try.func5, Try.ntmps5
      go_wp2_with fail
      refine cn.out.mono ?_
      rintro e w1 ⟨rfl, hl⟩
      have K1 := hid hl.kp
      clear cn hl
      go_wp2_with fail
      refine (known_any _).mono ?_
      rintro e w3 ⟨rfl, hk⟩
      have K3 := hid (K1.out.trans hk)
      clear hk
      go_wp2
      go_ret
      exact ⟨rfl, K3.out⟩
    · by_cases hp : 1000 < p
      · go_enter Try.func5, Try.ntmps5
        go_wp2_with fail
        refine cn.out.mono ?_
        rintro e w1 ⟨rfl, hl⟩
        have K1 := hid hl.kp
        clear cn hl
        go_wp2_with fail
        refine (known_any _).mono ?_
        rintro e w3 ⟨rfl, hk⟩
        have K3 := hid (K1.out.trans hk)
        clear hk
        go_wp2
        go_ret
        exact ⟨rfl, K3.out⟩
      · have hN2 : N ≤ 1000 := by omega
        have hp2 : p ≤ 1000 := by omega
        go_enter Try.func5, Try.ntmps5
        go_wp2_with fail
        refine cn.out.mono ?_
        rintro e w1 ⟨rfl, hl⟩
        have P2 := hid (tb_new hl HN.out)
        clear cn hl
        obtain ⟨sb, hsb⟩ : ∃ sb, w.heap.size = sb := ⟨_, rfl⟩
        rw [hsb] at P2 ⊢
        clear hsb
        go_wp2_with fail
        go_loopw [11, 12] (fun vu vi wr => ∃ (i cap : Nat) (ao : Option Addr), i ≤ N ∧ vi = .int .i64 i ∧ vu = .slice ao i cap ∧ Hid (∃ s u σ, Tb w wr sb (.slice ao i cap) i b p s u σ)) (fun _ vi _ => N - (intOf vi).toNat)
        case atStart => exact ⟨0, 0, none, by omega, rfl, rfl, _, _, _, P2.out⟩
        case round =>
          obtain ⟨i, cap, ao, hi, rfl, rfl, hT⟩ := hrel
          clear P2
          obtain ⟨s, u, σ, hB⟩ := hT.out
          have HB := hid hB
          clear hT hB
          by_cases hlt : i < N
          · have h1 : (i : Int) < N := by omega
            have hmay := hid (show mayT (i : Int) = true from mayT_iff.2 ⟨by omega, by omega⟩)
            have hMM := hid (show (i : Int) + p ≤ 1099511627776 by omega)
            go_wp2_with fail
            refine HB.out.due.mono ?_
            rintro e W1 ⟨rfl, hM1⟩
            obtain ⟨s1, hs1⟩ : ∃ s1, dueS s i = s1 := ⟨_, rfl⟩
            rw [hs1] at hM1
            have M1 := hid hM1
            clear hM1 hs1 HB
            go_wp2_with fail
            refine M1.out.active.mono ?_
            rintro e W2 ⟨rfl, hM2⟩
            have M2 := hid hM2
            clear hM2 M1
            obtain ⟨xb, off, hso, y0⟩ := (HV.out.keep M2.out.kn.kp).at hlt
            subst hso
            obtain ⟨g, hg⟩ : ∃ g, G i = g := ⟨_, rfl⟩
            obtain ⟨a1, ha1⟩ : ∃ a1, s1.act = a1 := ⟨_, rfl⟩
            rw [hg] at y0
            rw [ha1]
            have HG := hid hg
            have HA1 := hid ha1
            clear hg ha1
            go_upto_region 10 with fail
            go_cut [64] from 43 to 137 (fun s64 wx => s64 = .bool (g && a1) ∧ W2 = wx)
            case first =>
              cases g <;> (
                go_wp2_with fail
                go_meet
                exact ⟨rfl, rfl⟩)
            case rest =>
            obtain ⟨rfl, rfl⟩ := hcut
            go_upto_if 64 with fail
            go_cut [] from 43 to 137 (fun wx => Hid (∃ s2, Tm w wx sb (.slice ao i cap) i b p s2 u σ ∧ (g = false → s2 = s1)))
            case first =>
              cases hga : (g && a1) with
              | true =>
                have HGA := hid hga
                clear hga
                go_wp2_with fail
                refine (M2.out.stop hMM.out hmay.out).mono ?_
                rintro e W3 ⟨rfl, hM3⟩
                have M3 := hid hM3
                clear hM3
                go_wp2_with fail
                go_meet
                exact ⟨_, M3.out, fun q => by rw [q] at HGA; cases HGA.out⟩
              | false =>
                clear hga
                go_wp2_with fail
                go_meet
                exact ⟨s1, M2.out, fun _ => rfl⟩
            case rest =>
            obtain ⟨s2, hM3, hs2⟩ := hcut.out
            have M3 := hid hM3
            have HS2 := hid hs2
            clear hM3 hs2 hcut M2 y0
            obtain ⟨xb2, off2, hx2, y0⟩ := (HV.out.keep M3.out.kn.kp).at hlt
            cases hx2
            rw [HG.out] at y0
            obtain ⟨h2, hh2⟩ : ∃ h2, highB s2 = h2 := ⟨_, rfl⟩
            have HH2 := hid hh2
            clear hh2
            go_upto_region 12 with fail
            go_cut [80] from 43 to 137 (fun s80 wx => s80 = .bool (!g && !a1 && h2) ∧ Hid (Tm w wx sb (.slice ao i cap) i b p s2 u σ))
            case first =>
              cases g with
              | true =>
                go_wp2_with fail
                go_meet
                exact ⟨rfl, M3⟩
              | false =>
                cases a1 with
                | true =>
                  go_wp2_with fail
                  go_meet
                  exact ⟨rfl, M3⟩
                | false =>
                  go_wp2_with fail
                  refine M3.out.high.mono ?_
                  rintro e W4 ⟨rfl, hM4⟩
                  rw [HH2.out]
                  have M4 := hid hM4
                  clear hM4
                  go_wp2_with fail
                  go_meet
                  exact ⟨rfl, M4⟩
            case rest =>
            obtain ⟨hs80, M4⟩ := hcut
            subst hs80
            clear M3 y0
            go_upto_if 80 with fail
            go_cut [] from 43 to 137 (fun wx => Hid (∃ s3, Tm w wx sb (.slice ao i cap) i b p s3 u σ))
            case first =>
              cases hga : (!g && !a1 && h2) with
              | true =>
                have HA2 := hid (show s2.act = false by
                  simp at hga
                  rw [HS2.out hga.1.1, HA1.out]
                  exact hga.1.2)
                clear hga
                go_wp2_with fail
                refine (M4.out.start HA2.out hmay.out).mono ?_
                rintro e W5 ⟨rfl, hM5⟩
                have M5 := hid hM5
                clear hM5
                go_wp2_with fail
                go_meet
                exact ⟨_, M5.out⟩
              | false =>
                clear hga
                go_wp2_with fail
                go_meet
                exact ⟨_, M4.out⟩
            case rest =>
            obtain ⟨s3, hM5⟩ := hcut.out
            have M5 := hid hM5
            clear hM5 hcut M4 HS2 HH2 HA1 HG
            go_wp2_with fail
            refine M5.out.active.mono ?_
            rintro e W6 ⟨rfl, hM6⟩
            have M6 := hid hM6
            clear hM6 M5
            obtain ⟨a3, ha3⟩ : ∃ a3, s3.act = a3 := ⟨_, rfl⟩
            obtain ⟨h3, hh3⟩ : ∃ h3, highB s3 = h3 := ⟨_, rfl⟩
            rw [ha3]
            have HA3 := hid ha3
            have HH3 := hid hh3
            clear ha3 hh3
            go_upto_region 16 with fail
            go_cut [94] from 43 to 137 (fun s94 wx => s94 = .bool (a3 && h3) ∧ Hid (Tm w wx sb (.slice ao i cap) i b p s3 u σ))
            case first =>
              cases a3 with
              | false =>
                go_wp2_with fail
                go_meet
                exact ⟨rfl, M6⟩
              | true =>
                go_wp2_with fail
                refine M6.out.high.mono ?_
                rintro e W7 ⟨rfl, hM7⟩
                rw [HH3.out]
                have M7 := hid hM7
                clear hM7
                go_wp2_with fail
                go_meet
                exact ⟨rfl, M7⟩
            case rest =>
            obtain ⟨hs94, M7⟩ := hcut
            subst hs94
            clear M6
            go_upto_if 94 with fail
            go_cut [16, 20, 21] from 43 to 137 (fun s16 _ _ wx => ∃ x : Int, s16 = .int .i64 x ∧ Hid (∃ s' u' σ', Tu w wx sb (.slice ao i cap) i b p s' u' σ' ∧ x = (if u' i then 1 else 0)))
            case first =>
              cases hga : (a3 && h3) with
              | true =>
                have HAH := hid (show s3.act = true ∧ highB s3 = true by
                  simp at hga
                  rw [HA3.out, HH3.out]
                  exact hga)
                clear hga
                go_wp2_with fail
                refine (M7.out.use hMM.out HAH.out.1 HAH.out.2).mono ?_
                rintro e W8 ⟨rfl, hU⟩
                have U8 := hid hU
                clear hU
                go_wp2_with fail
                go_meet
                exact ⟨1, rfl, _, _, _, U8.out, by rw [updB_at]; rfl⟩
              | false =>
                have HAH := hid (show (s3.act && highB s3) = false by rw [HA3.out, HH3.out]; exact hga)
                clear hga
                go_wp2_with fail
                go_meet
                exact ⟨0, rfl, _, _, _, M7.out.skip HAH.out, by rw [updB_at]; rfl⟩
            case rest =>
            obtain ⟨x, rfl, U7⟩ := hcut
            clear M7 HA3 HH3
            obtain ⟨s', u', σ', hU, hX⟩ := U7.out
            have HU := hid hU
            have HX := hid hX
            have hal := Kp.alloc wc (.cells #[.int .i64 x] 2) []
            have HN8 := hid (hU.ns.keep (Kt.of hal))
            have HS8 := hid (show w.heap.size ≤ (wc.alloc (.cells #[.int .i64 x] 2)).heap.size by
              have h2 := hU.kn.kp.size
              have h3 := hal.size
              omega)
            have HU8 := hid (hU.same hal)
            clear U7 hU hX hal
            go_wp2_with (refine wpList_pushI rfl (.tmp 102) (.tmp 104) rfl w.heap.size (.slice ao i cap) (fl u' i) x _ rfl HN8.out rfl (by simp) (by rw [fl_length]; omega) HS8.out ?_; intro v9 W9 hN9 hG9; have T9 := hid (HU8.out.push hG9 HX.out hN9); obtain ⟨a9, c9, hv9⟩ := hN9.slice; have e9 : (fl u' i ++ [(x : Int)]).length = i + 1 := (by simp [fl_length]); rw [e9] at hv9; subst hv9; clear hN9 hG9)
            clear HN8 HS8 HU8 HU HX
            have hbnd := fun (K : Nat) hK q1 q2 => window (K := K) T9.out.bi hK q1 q2
            rw [T9.out.eb, T9.out.ep] at hbnd
            have HBD := hid hbnd
            clear hbnd
            have hip : IntKind.i64.wrap ((i : Int) - p) = (i : Int) - p := by rw [IntKind.wrap_i64]; omega
            have h2b : IntKind.i64.wrap (2 * b) = 2 * b := by rw [IntKind.wrap_i64]; omega
            go_loopw [22, 23] (fun vs vk wx => ∃ (K : Nat) (kk sm : Int), K ≤ i + 1 ∧ kk = (K : Int) - 1 ∧ vk = .int .i64 kk ∧ vs = .int .i64 sm ∧ Hid (sm = (cnt u' (i + 1) : Int) - cnt u' K ∧ (i : Int) - p + 1 ≤ K) ∧ wx = W9) (fun _ vk _ => (intOf vk + 1).toNat)
            case atStart => exact ⟨i + 1, i, 0, by omega, by omega, by simp, rfl, hid ⟨by omega, by omega⟩, rfl⟩
            case round =>
              obtain ⟨K, kk, sm, hK, hkk, rfl, rfl, hS, hwx⟩ := hrel
              have hwx := hwx.symm
              subst hwx
              have hsm : 0 ≤ sm ∧ sm ≤ 1001 := by
                have q1 := hS.out.1
                have q2 := cnt_le u' (i + 1)
                have q3 := cnt_up u' hK
                omega
              by_cases hgo : 1 ≤ K ∧ (i : Int) - p < kk
              · obtain ⟨K', rfl⟩ : ∃ K', K = K' + 1 := ⟨K - 1, by omega⟩
                obtain rfl : kk = (K' : Int) := by omega
                obtain ⟨gg, hgg, d1⟩ := T9.out.ns.at (k := K') (by rw [fl_length]; omega)
                subst hgg
                rw [fl_get u' (i + 1) K' (by omega)] at d1
                obtain ⟨y, hy⟩ : ∃ y : Int, (if u' K' then 1 else 0) = y := ⟨_, rfl⟩
                rw [hy] at d1
                have hy01 : 0 ≤ y ∧ y ≤ 1 := by rw [← hy]; split <;> omega
                have HS2 := hid (show sm + y = (cnt u' (i + 1) : Int) - cnt u' K' ∧ (i : Int) - p + 1 ≤ K' by
                  have q1 := hS.out.1
                  have q2 : cnt u' (K' + 1) = cnt u' K' + (if u' K' then 1 else 0) := rfl
                  have q3 : ((if u' K' then 1 else 0 : Nat) : Int) = y := by rw [← hy]; split <;> rfl
                  refine ⟨by omega, by omega⟩)
                have hw : IntKind.i64.wrap (sm + y) = sm + y := by rw [IntKind.wrap_i64]; omega
                have hw2 : IntKind.i64.wrap ((K' : Int) - 1) = (K' : Int) - 1 := by rw [IntKind.wrap_i64]; omega
                have e1 : decide (0 ≤ (K' : Int)) = true := decide_eq_true (by omega)
                have e2 : (i : Int) - p < (K' : Int) := hgo.2
                have hKi : (K' : Int) < (i : Int) + 1 := by omega
                clear hy hS hgo hkk
                go_wp2_with fail
                go_roundw
                case rel => exact ⟨K', (K' : Int) - 1, sm + y, by omega, rfl, by simp, by simp, HS2, by simp⟩
                case measure => simp [intOf] <;> omega
              · have hb := HBD.out K hK hS.out.2 (by omega)
                rw [← hS.out.1] at hb
                have e1 : decide (2 * b < sm) = false := decide_eq_false (by omega)
                have P10 := hid (show ∃ s u σ, Tb w W9 sb (.slice a9 (i + 1) c9) (i + 1) b p s u σ from ⟨_, _, _, T9.out⟩)
                by_cases hip2 : (i : Int) < p
                · have e3 : decide (b < sm) = false := decide_eq_false (by have := hb.2 hip2; omega)
                  by_cases hk0 : 0 ≤ kk
                  · have e4 : decide ((i : Int) - p < kk) = false := decide_eq_false (by omega)
                    clear hS hb hgo hkk
                    go_wp2_with fail
                    go_roundw
                    case rel => exact ⟨i + 1, c9, a9, by omega, by simp, by simp, P10⟩
                    case measure => simp [intOf]; omega
                  · have e4 : decide (0 ≤ kk) = false := decide_eq_false hk0
                    clear hS hb hgo hkk
                    go_wp2_with fail
                    go_roundw
                    case rel => exact ⟨i + 1, c9, a9, by omega, by simp, by simp, P10⟩
                    case measure => simp [intOf]; omega
                · have e3 : decide ((i : Int) < p) = false := decide_eq_false hip2
                  by_cases hk0 : 0 ≤ kk
                  · have e4 : decide ((i : Int) - p < kk) = false := decide_eq_false (by omega)
                    clear hS hb hgo hkk
                    go_wp2_with fail
                    go_roundw
                    case rel => exact ⟨i + 1, c9, a9, by omega, by simp, by simp, P10⟩
                    case measure => simp [intOf]; omega
                  · have e4 : decide (0 ≤ kk) = false := decide_eq_false hk0
                    clear hS hb hgo hkk
                    go_wp2_with fail
                    go_roundw
                    case rel => exact ⟨i + 1, c9, a9, by omega, by simp, by simp, P10⟩
                    case measure => simp [intOf]; omega
          · have h1 : ¬ (i : Int) < N := by omega
            have K6 := hid HB.out.kn.kp
            clear HB
            go_wp2_with fail
            refine (known_any _).mono ?_
            rintro e W7 ⟨rfl, k7⟩
            have K7 := hid (K6.out.trans k7)
            clear k7 K6
            go_wp2
            go_ret
            exact ⟨rfl, K7.out⟩
end Go.Proofs.Ytojcmnanapeooaa
