/- TlsfSteps' walk. -/
import Derived.Test.YtgefmnnkpffpcaaGreatDoorSdo6J
import Derived.Test.YtgefmnnkpffpcaaGreatDoorHknownJ
namespace Go.Proofs.YtgefmnnkpffpcaaGreatDoor
open Go.RowKit Go.Maps Go.Shelf

set_option maxRecDepth 100000 in
theorem steps_bad (w : World) (ht : Tb w) (V : Value) (n leave : Int) (h : ¬ Good n) : Calls Tryz.prog 3 #[.int .i64 n, V, .int .i64 leave] w fun e w' => e = .returned (.bool true) ∧ Kp w w' [] := by
  have HT := hid ht
  have HG := hid h
  clear ht h
  go_enter Tryz.func3, Tryz.ntmps3
  go_wp2_with fail
  refine (made_no w n HG.out).mono ?_
  rintro e w1 ⟨rfl, hE⟩
  rw [hE]
  clear hE
  by_cases h1 : n < 256
  · go_wp2_with fail
    refine (known_yes w HT.out).mono ?_
    rintro e w2 ⟨rfl, hK⟩
    have K2 := hid hK
    clear hK
    go_wp2
    go_ret
    exact ⟨rfl, K2.out⟩
  · by_cases h2 : 65536 < n
    · go_wp2_with fail
      refine (known_yes w HT.out).mono ?_
      rintro e w2 ⟨rfl, hK⟩
      have K2 := hid hK
      clear hK
      go_wp2
      go_ret
      exact ⟨rfl, K2.out⟩
    · have h3 : ¬ n % 8 = 0 := fun q => HG.out ⟨by omega, by omega, q⟩
      have h4 : n.tmod 8 = n % 8 := Int.tmod_eq_emod_of_nonneg (by omega)
      have h5 : (n % 8 != 0) = true := by simp [h3]
      go_wp2_with fail
      refine (known_yes w HT.out).mono ?_
      rintro e w2 ⟨rfl, hK⟩
      have K2 := hid hK
      clear hK
      go_wp2
      go_ret
      exact ⟨rfl, K2.out⟩
set_option maxRecDepth 100000 in
set_option maxHeartbeats 8000000 in
theorem steps_walk (w : World) (ht : Tb w) (V : Value) (N : Nat) (S : Nat → St) (hV : Sc w V N S) (n : Nat) (hg : Good n) (leave : Int) :
    Calls Tryz.prog 3 #[.int .i64 n, V, .int .i64 leave] w fun e w' => e = .returned (.bool true) ∧ Kp w w' [] := by
  obtain ⟨ao, cap, rfl⟩ := hV.shape
  have HV := hid hV
  have HG := hid hg
  have HT := hid ht
  have hn : 256 ≤ (n : Int) ∧ (n : Int) ≤ 65536 := ⟨hg.1, hg.2.1⟩
  clear hV hg ht
  go_enter Tryz.func3, Tryz.ntmps3
  go_wp2_with fail
  refine (made_ok w n HG.out HT.out).mono ?_
  rintro e w1 ⟨hb, rb, mb, pb, rfl, ⟨c1, hc1, hd1, hH, hK⟩, hn1, hn2, hn3, hn4⟩
  have K1 := hid hK
  have H1 := hid hH
  have NB := hid (show w.heap.size ≤ hb ∧ w.heap.size ≤ rb ∧ w.heap.size ≤ mb ∧ w.heap.size ≤ pb from ⟨hn1, hn2, hn3, hn4⟩)
  have hn65 : ¬ (65536 : Int) < n := by omega
  clear hH hK hn1 hn2 hn3 hn4
  go_wp2_with fail
  refine (rnew_any w1 n (by omega) (by omega)).mono ?_
  rintro e w2 ⟨xb, eb, VB, G, rfl, hR, hM, h1, h2, h3, hK2⟩
  have B2 := hid (bo_first HG.out HT.out H1.out K1.out NB.out hR hM h1 h2 h3 hK2)
  clear hR hM h1 h2 h3 hK2
  go_wp2_with fail
  obtain ⟨qb, hqb⟩ : ∃ qb, w2.heap.size = qb := ⟨_, rfl⟩
  rw [hqb] at B2 ⊢
  generalize w2.alloc (.cells #[.pointer (some ⟨hb, 0, none⟩), .pointer (some ⟨xb, 0, none⟩), .slice none 0 0] 31) = w3 at B2 ⊢
  go_loopw [9] (fun vi wr => ∃ i : Nat, i ≤ 120 ∧ vi = .int .i64 i ∧ Hid (∃ c ls, c ≤ 10 + 700000 * (i : Int) ∧ ls.length ≤ i ∧ Pr w wr qb n c ls)) (fun vi _ => 120 - (intOf vi).toNat)
  case atStart => exact ⟨0, by omega, rfl, c1, [], by omega, by simp, _, _, _, _, _, _, _, _, _, _, _, _, _, B2.out⟩
  case round =>
    obtain ⟨i, hi, rfl, hP⟩ := hrel
    clear B2
    by_cases hlt : i < N ∧ i < 120
    · obtain ⟨hi1, hi2⟩ := hlt
      obtain ⟨c, ls, hc, hls, hb', rb', mb', pb', xb', eb', g, L, F, V', G', f, lv, hB⟩ := hP.out
      have HB := hid hB
      obtain ⟨b, off, rfl, ⟨y0, y1, y2, y3, y4, y5⟩, hfit⟩ := (HV.out.keep hB.bh.kp).at hi1
      have FIT := hid hfit
      have hi1' : (i : Int) < N := by omega
      have hi2' : (i : Int) < 120 := by omega
      clear hB hfit
      go_wp2_with fail
      refine (do_any HB.out (S i) FIT.out (by omega) (by omega)).mono ?_
      rintro e w4 ⟨rfl, c4, ls4, u4, m4, hb4, rb4, mb4, pb4, xb4, eb4, g4, L4, F4, V4, G4, f4, lv4, hB4⟩
      have B4 := hid hB4
      clear hB4 HB y0 y1 y2 y3 y4 y5
      go_wp2_with fail
      refine (stands_any B4.out leave (by omega)).mono ?_
      rintro e w5 ⟨rfl, c5, u5, hP5⟩
      have P5 := hid hP5
      clear hP5 B4
      go_wp2
      go_roundw
      case rel => exact ⟨i + 1, by omega, by simp, c5, ls4, by simp; omega, by omega, P5.out⟩
      case measure => simp [intOf]; omega
    · obtain ⟨c, ls, hc, hls, hb', rb', mb', pb', xb', eb', g, L, F, V', G', f, lv, hB⟩ := hP.out
      have HB := hid hB
      clear hB
      refine (Classical.em (i < N)).elim (fun hq => ?atCap) (fun hq => ?atEnd)
      case' atCap =>
        have hq1 : (i : Int) < N := by omega
        have hq2 : ¬ (i : Int) < 120 := by omega
        go_wp2_with fail
      case' atEnd =>
        have hq1 : ¬ (i : Int) < N := by omega
        go_wp2_with fail
      all_goals (
        refine (known_yes _ HB.out.hp.tb).mono ?_
        rintro e w4 ⟨rfl, hK⟩
        have K4 := hid (HB.out.bh.kp.trans hK)
        clear hK HB
        go_wp2
        go_ret
        exact ⟨rfl, K4.out⟩)
end Go.Proofs.YtgefmnnkpffpcaaGreatDoor
