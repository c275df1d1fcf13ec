/- TableNever's walk. -/
import Derived.Test.YtaofpijcjohnhaaKnown
import Derived.Test.YtaofpijcjohnhaaPush
import Derived.Test.YtaofpijcjohnhaaArgs
import Derived.Deep.RegionHeldLaw
namespace Go.Proofs.Ytaofpijcjohnhaa
open Go.RowKit

theorem lv0 {w w1 : World} {tb : Nat} (n : Nat) (ht : Tt w1 tb n T0) (hk : Kp w w1 []) (hb : w.heap.size ≤ tb) : Lv w w1 tb n 0 T0 [] [] none none 0 0 0 :=
  ⟨ht, inv0 n, rfl, ⟨rfl, .inl ⟨rfl, rfl⟩⟩, ⟨rfl, .inl ⟨rfl, rfl⟩⟩, hb, hk⟩

theorem count_step {B : List Bool} {j : Nat} (hj : j < B.length) : (B.take (j + 1)).count false = (B.take j).count false + if B.getD j false then 0 else 1 := by
  rw [List.take_succ_eq_append_getElem hj, List.count_append]
  have : B.getD j false = B[j] := by simp [List.getD_eq_getElem?_getD, hj]
  rw [this]
  cases B[j] <;> simp

set_option maxRecDepth 100000 in
set_option maxHeartbeats 4000000 in
theorem never_ok (w : World) (V : Value) (N : Nat) (S : Nat → St) (hV : Sc w V N S) (n : Nat) (h1 : 1 ≤ n) (h2 : n ≤ 16) :
    Calls Try.prog 5 #[.int .i64 n, V] w fun e w' => e = .returned (.bool true) ∧ Kp w w' [] := by
  obtain ⟨ao, cap, rfl⟩ := hV.shape
  have HV := hid hV
  clear hV
  go_enter Try.func5, Try.ntmps5
  go_wp2_with fail
  refine (known_any w).mono ?_
  rintro e w0 ⟨rfl, k0'⟩
  have k0 := hid k0'
  clear k0'
  go_wp2_with fail
  refine (new_ok w0 n (by omega) (by omega)).mono ?_
  rintro e w1 ⟨rfl, rfl⟩
  have L1 := hid (lv0 n (show Tt _ w0.heap.size n T0 from heap_alloc_new w0 (.cells (tcs n T0) 55)) (k0.out.trans (Kp.alloc w0 (.cells (tcs n T0) 55) [])) k0.out.size)
  obtain ⟨w1, hw1⟩ : ∃ w1, w0.alloc (.cells (tcs n T0) 55) = w1 := ⟨_, rfl⟩
  obtain ⟨tb, htb⟩ : ∃ tb, w0.heap.size = tb := ⟨_, rfl⟩
  rw [hw1, htb] at L1
  rw [hw1, htb]
  clear hw1 htb k0
  go_wp2_with fail
  refine (num_any w1 0).mono ?_
  rintro e w' ⟨rfl, rfl⟩
  go_wp2_with fail
  go_loopw [7, 8, 9] (fun vg vb vi wr => ∃ (i m cg cb : Nat) (ag ab : Option Addr), i ≤ 300 ∧ vi = .int .i64 i ∧ vg = .slice ag m cg ∧ vb = .slice ab m cb ∧ m ≤ i ∧ Hid (∃ T G B, Lv w wr tb n i T G B ag ab cg cb m))
    (fun _ _ vi _ => 300 - (intOf vi).toNat)
  case atStart => exact ⟨0, 0, 0, 0, none, none, by omega, rfl, rfl, rfl, by omega, _, _, _, L1.out⟩
  case round =>
    obtain ⟨i, m, cg, cb, ag, ab, hi, rfl, rfl, rfl, hmi, hL⟩ := hrel
    by_cases hlt : i < N ∧ i < 300
    · obtain ⟨hi1, hi2⟩ := hlt
      obtain ⟨T, G, B, hL⟩ := hL.out
      have HL := hid hL
      obtain ⟨b, off, rfl, y0, y1, y2, y3, hfit⟩ := (HV.out.keep hL.kp).at hi1
      clear hL
      have hi1' : (i : Int) < N := by omega
      have hi2' : (i : Int) < 300 := by omega
      refine (Classical.em ((S i).k = 1)).elim (fun hk => ?isAdd) (fun hk => ?notAdd)
      case' isAdd =>
        rw [hk] at y0
        have hgd := hid (HL.out.inv.gd' (by omega))
        refine (Classical.em (low T n 0 = n)).elim (fun hfull => ?isFull) (fun hfull => ?notFull)
        case' isFull =>
          go_wp2_with fail
          refine (add_full _ tb n T HL.out.tt h1 h2 hfull).mono ?_
          rintro e w2 ⟨rfl, k2⟩
          have HC := hid (show ∃ T G B, Lv w w2 tb n ((i + 1 : Nat) : Int) T G B ag ab cg cb m from ⟨_, _, _, (HL.out.keep k2).mono (by omega)⟩)
          have hm := hid (show m ≤ i + 1 by omega)
          clear k2 HL
          go_wp2_with (go_at_call 9; go_in)
        case' notFull =>
          obtain ⟨k, hk'⟩ : ∃ k, low T n 0 = k := ⟨_, rfl⟩
          have hlw := low_le T n 0
          have hkn : k < n := by omega
          have hfr := hid (low_free hk' (by omega))
          have HFR := hid (fun j (hj : j < G.length) => HL.out.inv.fresh h2 hkn j hj)
          go_wp2_with fail
          refine (add_ok _ tb n k T HL.out.tt hgd.out (by have := HL.out.inv.gd k (by omega); omega) h1 h2 hk' hkn).mono ?_
          rintro e w2 ⟨rfl, t2, k2⟩
          have HL2 := hid (show Lv2 w w2 tb n (i : Int) T k G B ag ab cg cb m from ⟨t2, HL.out.inv, HL.out.len, owns_tb HL.out.og HL.out.tt (by decide) k2, owns_tb HL.out.ob HL.out.tt (by decide) k2, HL.out.nb, HL.out.kp.past k2 (by intro k hk' hl; have := HL.out.nb; simp at hk'; omega)⟩)
          obtain ⟨h, hh⟩ : ∃ h : Int, (k : Int) + 16 * ((T k).2 + 1) = h := ⟨_, rfl⟩
          rw [hh]
          have HH := hid hh
          clear hh t2 k2 HL hlw hk'
          go_wp2_with (go_at_call 9; go_in)
          go_loopw [12] (fun vj wx => ∃ j : Nat, j ≤ m ∧ vj = .int .i64 j ∧ wx = w2) (fun vj _ => m - (intOf vj).toNat)
          case' atStart => exact ⟨0, Nat.zero_le _, rfl, rfl⟩
          case' round =>
            obtain ⟨j, hj, rfl, rfl⟩ := hrel
            refine (Classical.em (j < m)).elim (fun hjm => ?isIn) (fun hjm => ?notIn)
            case' isIn =>
              obtain ⟨g, rfl, -, cgj, -⟩ := own_at HL2.out.og hjm
              rw [gi_at (by rw [HL2.out.len]; exact hjm)] at cgj
              have hne := HFR.out j (by rw [HL2.out.len]; exact hjm)
              rw [HH.out] at hne
              have hne' : (G.getD j 0 == h) = false := beq_eq_false_iff_ne.2 hne
              obtain ⟨x, hx⟩ : ∃ x, G.getD j 0 = x := ⟨_, rfl⟩
              rw [hx] at cgj hne'
              clear hx hne
              have hjI : (j : Int) < m := by omega
              go_wp2
              go_roundw
              case' rel => exact ⟨j + 1, by omega, by simp⟩
              case' measure => simp [intOf]; omega
            case' notIn =>
              have hjI : ¬ (j : Int) < m := by omega
              go_wp2_with (first | (refine wpList_push_i rfl (.tmp 64) (.tmp 66) rfl w.heap.size _ m (gi G) h rfl HL2.out.og rfl (by omega) HL2.out.kp.size ?_; intro v1 W1 o1 g1) | (refine wpList_push_b rfl (.tmp 68) (.tmp 69) rfl w.heap.size _ m (gb B) false rfl (HL2.out.ob1 g1) rfl (by omega) (Nat.le_trans HL2.out.kp.size (Nat.le_trans (by simp) g1.size)) ?_; intro v2 W2 o2 g2))
              obtain ⟨ag, cg, ab, cb, rfl, rfl, T', G', B', hL'⟩ := HL2.out.push h2 hkn hfr.out HH.out o1 g1 o2 g2
              obtain ⟨m, hm'⟩ : ∃ m', m + 1 = m' := ⟨_, rfl⟩
              rw [hm'] at hL' ⊢
              have HC := hid (show ∃ T G B, Lv w W2 tb n ((i + 1 : Nat) : Int) T G B ag ab cg cb m from ⟨_, _, _, hL'.mono (by omega)⟩)
              have hm := hid (show m ≤ i + 1 by omega)
              clear hL' hm' o1 o2 g1 g2 HL2 HFR HH
      case' notAdd =>
        refine (Classical.em (0 < m ∧ 0 ≤ (S i).n)).elim (fun hN0 => ?isDrop) (fun hN0 => ?notDrop)
        case' notDrop =>
          have HC := hid (show ∃ T G B, Lv w wr tb n ((i + 1 : Nat) : Int) T G B ag ab cg cb m from ⟨_, _, _, HL.out.mono (by omega)⟩)
          have hm := hid (show m ≤ i + 1 by omega)
          clear HL
          refine (Classical.em (0 < m)).elim (fun hm0 => ?isSome) (fun hm0 => ?isNone)
          case' isSome =>
            have hN1 : (S i).n < 0 := by omega
            have hm0' : (0 : Int) < m := by omega
            go_wp2_with fail
          case' isNone =>
            have hm0' : ¬ (0 : Int) < m := by omega
            go_wp2_with fail
        case' isDrop =>
          obtain ⟨hm0, hn0⟩ := hN0
          have hm0' : (0 : Int) < m := by omega
          obtain ⟨k, hk'⟩ : ∃ k : Nat, ((S i).n).tmod m = k := ⟨(((S i).n).tmod m).toNat, (Int.toNat_of_nonneg (Int.tmod_nonneg _ hn0)).symm⟩
          have hkm : k < m := by
            have := Int.tmod_lt_of_pos (S i).n hm0'
            omega
          have hkb : 0 ≤ (k : Int) ∧ (k : Int) < m := by omega
          obtain ⟨gG, rfl, hgG, cG, -⟩ := own_at HL.out.og hkm
          obtain ⟨gB, rfl, hgB, cB, fB⟩ := own_at HL.out.ob hkm
          rw [gi_at (by rw [HL.out.len]; exact hkm)] at cG
          rw [gb_at (by rw [HL.out.lenB]; exact hkm)] at cB
          obtain ⟨x, hx⟩ : ∃ x, G.getD k 0 = x := ⟨_, rfl⟩
          obtain ⟨gone, hgone⟩ : ∃ gone, B.getD k false = gone := ⟨_, rfl⟩
          rw [hx] at cG
          rw [hgone] at cB
          have hm2 : ¬ (m : Int) = 0 := by omega
          have HX := hid hx
          have HG := hid hgone
          have HT := hid (show gG ≠ tb ∧ gB ≠ tb from ⟨fun e => by
            obtain ⟨-, cur, hc⟩ := owns_block HL.out.og (g := gG) rfl
            exact block_ne HL.out.tt hc (by decide) e.symm, fun e => by
            obtain ⟨-, cur, hc⟩ := owns_block HL.out.ob (g := gB) rfl
            exact block_ne HL.out.tt hc (by decide) e.symm⟩)
          clear hx hgone
          go_wp2_with fail
          go_region_held_law (fun w' => w'.cell? ⟨gG, k, none⟩ = some (.int .i64 x) ∧ w'.cell? ⟨gB, k, none⟩ = some (.bool gone))
            (first
              | exact ⟨hy.cell (by simpa using cG) (by have := HT.out; simpa using this.1), hy.cell (by simpa using cB) (by have := HT.out; simpa using this.2)⟩
              | exact ⟨by simpa using cG, by simpa using cB⟩)
            (first
              | (go_at_call 18; refine ((HL.out.keep (Kp.drew _ _)).dropAt (by omega) h1 h2 hkm HX.out HG.out).mono ?_; rintro e y ⟨⟨r, rfl, hr⟩, ⟨T', hL3⟩, hy⟩)
              | (go_at_call 9; refine (num_any _ _).mono ?_; rintro e y' ⟨rfl, rfl⟩))
          have HL3 := hid hL3
          obtain ⟨gB', eB, -, cB', fB'⟩ := own_at hL3.ob hkm
          obtain rfl : gB = gB' := by simpa using eB
          rw [gb_at (by rw [HL.out.lenB]; exact hkm), HG.out] at cB'
          have HC := hid (show ∃ T G B, Lv w _ tb n ((i + 1 : Nat) : Int) T G B (some ⟨gG, 0, none⟩) (some ⟨gB, 0, none⟩) cg cb m from ⟨_, _, _, hL3.mark.mono (by omega)⟩)
          have hm := hid (show m ≤ i + 1 by omega)
          clear hL3 hy HL eB cG cB fB
          go_wp2_with fail
          generalize (some (⟨gG, 0, none⟩ : Addr)) = ag at HC ⊢
          generalize (some (⟨gB, 0, none⟩ : Addr)) = ab at HC ⊢
      all_goals
        obtain ⟨T3, G3, B3, hL3⟩ := HC.out
        have L3 := hid hL3
        clear hL3 HC
        go_loopw [14, 15] (fun vn vj wx => ∃ j : Nat, j ≤ m ∧ vj = .int .i64 j ∧ vn = .int .i64 ((B3.take j).count false : Nat) ∧ Hid (Lv w wx tb n ((i + 1 : Nat) : Int) T3 G3 B3 ag ab cg cb m)) (fun _ vj _ => m - (intOf vj).toNat)
        case atStart => exact ⟨0, Nat.zero_le _, rfl, rfl, L3.out⟩
        case round =>
          obtain ⟨j, hj, rfl, rfl, hLj⟩ := hrel
          have hmi' := hm.out
          by_cases hjm : j < m
          · obtain ⟨gG, rfl, -, cG, -⟩ := own_at hLj.out.og hjm
            obtain ⟨gB, rfl, -, cB, -⟩ := own_at hLj.out.ob hjm
            have hjl : j < G3.length := by rw [hLj.out.len]; exact hjm
            have hjb : j < B3.length := by rw [hLj.out.lenB]; exact hjm
            rw [gi_at hjl] at cG
            rw [gb_at hjb] at cB
            obtain ⟨l1, l2⟩ := hLj.out.inv.look h2 j hjl
            have hct := count_step hjb
            have hcb : (B3.take j).count false ≤ j := Nat.le_trans List.count_le_length (by simp; omega)
            obtain ⟨x, hx⟩ : ∃ x, G3.getD j 0 = x := ⟨_, rfl⟩
            obtain ⟨gone, hgone⟩ : ∃ gone, B3.getD j false = gone := ⟨_, rfl⟩
            obtain ⟨c, hc⟩ : ∃ c : Nat, (B3.take j).count false = c := ⟨_, rfl⟩
            rw [hx] at cG l1 l2
            rw [hgone] at cB l1 l2 hct
            rw [hc] at hct hcb ⊢
            have hjI : (j : Int) < m := by omega
            have L2 := hid l2
            have CT := hid hct
            clear hx hgone hc l2 hct
            go_wp2_with fail
            refine (at_any _ tb n T3 x hLj.out.tt (hLj.out.inv.gd' (by omega)) (by omega) (by omega)).mono ?_
            rintro e y ⟨rfl, ky⟩
            have Ly := hid (hLj.out.keep ky)
            have cB' := ky.cell cB (by simp)
            have cG' := ky.cell cG (by simp)
            clear ky cB cG hLj
            cases gone with
            | true =>
              rw [l1]
              simp only [Bool.not_true] at l1 ⊢
              go_wp2
              go_roundw
              case rel => exact ⟨j + 1, by omega, by simp, by rw [CT.out]; simp, Ly.out⟩
              case measure => simp [intOf]; omega
            | false =>
              obtain ⟨p, hp, hv, hmod, -⟩ := L2.out rfl
              rw [l1, hv]
              simp only [Bool.not_false] at l1 ⊢
              have hp0 : ¬ (p : Int) < 0 := by omega
              have hpn : ¬ (n : Int) ≤ p := by omega
              go_wp2
              go_roundw
              case rel => exact ⟨j + 1, by omega, by simp, by rw [CT.out]; simp, Ly.out⟩
              case measure => simp [intOf]; omega
          · have hjI : ¬ (j : Int) < m := by omega
            obtain rfl : j = m := by omega
            have hcnt := hLj.out.inv.cnt
            rw [List.take_of_length_le (by rw [hLj.out.lenB]; exact Nat.le_refl _), hcnt]
            have ht16 := tkp_length T3 16
            clear hcnt
            go_wp2_with fail
            refine (len_ok _ tb n T3 hLj.out.tt (hLj.out.inv.gd' (by omega)) (by omega)).mono ?_
            rintro e y ⟨rfl, ky⟩
            have Ly := hid (hLj.out.keep ky)
            clear ky hLj
            go_wp2
            go_roundw
            case rel => exact ⟨i + 1, j, cg, cb, ag, ab, by omega, by simp, rfl, rfl, by omega, _, _, _, Ly.out⟩
            case measure => simp [intOf]; omega
    · obtain ⟨T, G, B, hL⟩ := hL.out
      have KL := hid hL.kp
      clear hL
      by_cases hi1 : i < N
      · have hi1' : (i : Int) < N := by omega
        have hi2' : ¬ (i : Int) < 300 := by omega
        go_wp2
        go_ret
        exact ⟨rfl, KL.out⟩
      · have hi1' : ¬ (i : Int) < N := by omega
        go_wp2
        go_ret
        exact ⟨rfl, KL.out⟩

set_option maxRecDepth 100000 in
theorem never_bad (w : World) (V : Value) (n : Int) (h : ¬ (1 ≤ n ∧ n ≤ 16)) : Calls Try.prog 5 #[.int .i64 n, V] w fun e w' => e = .returned (.bool true) ∧ Kp w w' [] := by
  go_enter Try.func5, Try.ntmps5
  go_wp2_with fail
  refine (known_any w).mono ?_
  rintro e w0 ⟨rfl, k0'⟩
  have k0 := hid k0'
  clear k0'
  go_wp2_with fail
  refine (new_no w0 n h).mono ?_
  rintro e w1 ⟨rfl, rfl⟩
  go_wp2_with (go_at_call 9; go_in)
  go_ret
  exact ⟨rfl, k0.out⟩
end Go.Proofs.Ytaofpijcjohnhaa
