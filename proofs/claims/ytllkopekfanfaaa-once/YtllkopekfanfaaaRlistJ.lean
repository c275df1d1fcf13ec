/- The reference: List, First, Take, Clear, Same. -/
import Derived.Test.YtllkopekfanfaaaRord
import Derived.BigQuiet
namespace Go.Proofs.Ytllkopekfanfaaa
open Go.RowKit Go.Shelf Go.Lib Go.Sort Go.Maps

set_option maxRecDepth 100000 in
set_option maxHeartbeats 1000000 in
theorem rlist_any (w : World) (rb : Nat) (L : List Dl) (h : Rf w rb L) (hok : okL L) :
    Calls Try.prog 35 #[.pointer (some ⟨rb, 0, none⟩)] w fun e w' => ∃ v, e = .returned v ∧ Ns w' w.heap.size v ((ordL L).map (·.1)) ∧ Kp w w' [] := by
  have HO := hid (rorder_any w rb L h hok)
  have hlen : (ordL L).length ≤ 16 := by rw [ord_len hok]; exact hok.len
  generalize ordL L = Z at HO hlen ⊢
  clear h hok
  go_enter Try.func35, Try.ntmps35
  go_wp2_with fail
  refine HO.out.mono ?_
  rintro e w1 ⟨v, rfl, hd, hk⟩
  obtain ⟨ao, cap, hv⟩ := hd.slice
  obtain ⟨N, hN⟩ : ∃ N, Z.length = N := ⟨_, rfl⟩
  rw [hN] at hv hlen
  subst hv
  have HN := hid hN
  have H1 := hid (And.intro hd hk)
  clear hd hk hN
  go_wp2_with fail
  go_loopw [4, 5] (fun vd vi wr => ∃ (i m cp : Nat) (a1 : Option Addr), i ≤ N ∧ vi = .int .i64 i ∧ vd = .slice a1 m cp ∧ Hid (Ns wr w1.heap.size (.slice a1 m cp) ((Z.take i).map (·.1)) ∧ Kp w1 wr [])) (fun _ vi _ => N - (intOf vi).toNat)
  case atStart => exact ⟨0, 0, 0, none, by omega, rfl, rfl, hid ⟨by simpa using Ns.nil _ _, Kp.refl _ _⟩⟩
  case round =>
    obtain ⟨i, m1, cp1, a1, hi, rfl, rfl, hR⟩ := hrel
    by_cases hlt : i < N
    · have hltI : (i : Int) < N := by omega
      have hil : i < Z.length := by have := HN.out; omega
      obtain ⟨x1, x2, hx⟩ : ∃ x1 x2, Z[i]! = (x1, x2) := ⟨Z[i]!.1, Z[i]!.2, rfl⟩
      obtain ⟨g, rfl, c1, c2, -, -⟩ := (H1.out.1.keep hR.out.2).at hil hx
      have kk := Kp.alloc wr (.cells #[.int .i64 x1] 3) []
      have R1 := hid (And.intro (hR.out.1.keep kk) (hR.out.2.trans kk))
      have HT := hid (show (Z.take (i + 1)).map (·.1) = (Z.take i).map (·.1) ++ [x1] by rw [take_get hil, hx, List.map_append]; rfl)
      have HB := hid (show ((Z.take i).map (·.1)).length ≤ 100000 by simp; omega)
      clear kk hx hR
      go_wp2_with (refine wpList_pushI rfl (.tmp 14) (.tmp 20) rfl w1.heap.size (.slice a1 m1 cp1) ((Z.take i).map (·.1)) x1 _ rfl R1.out.1 rfl (by simp) HB.out R1.out.2.size ?_; intro v3 w3 hN3 hG3; obtain ⟨a3, c3, hv3⟩ := hN3.slice; have K3 := hid (And.intro hN3 (grown_own R1.out.1 hG3 R1.out.2 (Nat.le_refl _))); obtain ⟨m3, hm3⟩ : ∃ m3, ((Z.take i).map (·.1) ++ [x1]).length = m3 := ⟨_, rfl⟩; rw [hm3] at hv3; subst hv3; clear hN3 hG3 hm3)
      go_roundw
      case rel =>
        refine ⟨i + 1, m3, c3, a3, by omega, by simp, rfl, hid ?_⟩
        rw [HT.out]
        exact K3.out
      case measure => simp [intOf]; omega
    · have hltI : ¬ (i : Int) < N := by omega
      have HF := hid (show Ns wr w.heap.size (.slice a1 m1 cp1) (Z.map (·.1)) ∧ Kp w wr [] by
        have h1 := hR.out
        rw [List.take_of_length_le (by have := HN.out; omega)] at h1
        exact ⟨h1.1.low H1.out.2.size, H1.out.2.trans h1.2⟩)
      clear hR
      go_wp2
      go_ret
      exact ⟨_, rfl, HF.out.1, HF.out.2⟩
set_option maxRecDepth 100000 in
theorem rfirst_any (w : World) (rb : Nat) (L : List Dl) (h : Rf w rb L) (hok : okL L) :
    Calls Try.prog 82 #[.pointer (some ⟨rb, 0, none⟩)] w fun e w' => e = .returned (.tuple #[.int .i64 (fstT L), .bool (fstB L)]) ∧ Kp w w' [] := by
  have HO := hid (rorder_any w rb L h hok)
  unfold fstT fstB
  generalize ordL L = Z at HO ⊢
  clear h hok
  go_enter Try.func82, Try.ntmps82
  go_wp2_with fail
  refine HO.out.mono ?_
  rintro e w1 ⟨v, rfl, hd, hk⟩
  obtain ⟨ao, cap, hv⟩ := hd.slice
  have HK := hid hk
  cases Z with
  | nil =>
    rw [show ([] : List Dl).length = 0 from rfl] at hv
    subst hv
    clear hd hk
    go_wp2
    go_ret2
    exact ⟨rfl, HK.out⟩
  | cons x r =>
    obtain ⟨N, hN⟩ : ∃ N, (x :: r).length = N := ⟨_, rfl⟩
    rw [hN] at hv
    subst hv
    have hpos : 0 < N := by rw [← hN]; simp
    have hposI : (0 : Int) < N := by omega
    have hz : ((N : Int) == 0) = false := by simp; omega
    obtain ⟨x1, x2⟩ := x
    obtain ⟨g, rfl, c1, c2, -, -⟩ := hd.at (k := 0) (x1 := x1) (x2 := x2) (by simp) rfl
    clear hd hk hN
    go_wp2
    go_ret2
    exact ⟨rfl, HK.out⟩
set_option maxRecDepth 100000 in
theorem rtake_any (w : World) (rb : Nat) (L : List Dl) (h : Rf w rb L) (hok : okL L) :
    Calls Try.prog 60 #[.pointer (some ⟨rb, 0, none⟩)] w fun e w' => e = .returned (.tuple #[.int .i64 (fstT L), .bool (fstB L)]) ∧ Rt w w' rb (takeL L) := by
  have H := hid h
  have HOK := hid hok
  have HF := hid (rfirst_any w rb L h hok)
  have HH := hid (fst_has hok)
  unfold takeL
  obtain ⟨t, ht⟩ : ∃ t, fstT L = t := ⟨_, rfl⟩
  rw [ht] at HF HH ⊢
  clear h hok ht
  cases hB : fstB L with
  | false =>
    rw [hB] at HF
    clear hB HH
    simp only [Bool.false_eq_true, if_false]
    go_enter Try.func60, Try.ntmps60
    go_wp2_with fail
    refine HF.out.mono ?_
    rintro e w1 ⟨rfl, hk⟩
    have HK := hid hk
    clear hk
    go_wp2
    go_ret2
    exact ⟨rfl, H.out.keep HK.out, HK.out.nil⟩
  | true =>
    rw [hB] at HF
    have HB := hid (HH.out hB)
    have HT := hid (show mayT t = true by
      obtain ⟨x, hx, e⟩ := mem_has.1 HB.out
      have := (HOK.out.rng x hx).1
      unfold mayT
      simp
      omega)
    clear hB HH
    simp only [if_true]
    go_enter Try.func60, Try.ntmps60
    go_wp2_with fail
    refine HF.out.mono ?_
    rintro e w1 ⟨rfl, hk⟩
    have HK := hid hk
    clear hk
    go_wp2_with fail
    refine (rlv_any w1 rb L t (H.out.keep HK.out) HOK.out).mono ?_
    rintro e w2 ⟨rfl, hR⟩
    have hl : lvL L t = delP L t := by unfold lvL; rw [HT.out, if_pos rfl]
    rw [hl] at hR
    have R2 := hid (show Rt w w2 rb (delP L t) from ⟨hR.1, HK.out.nil.trans hR.2⟩)
    clear hR hl
    go_wp2
    go_ret2
    exact ⟨rfl, R2.out⟩
end Go.Proofs.Ytllkopekfanfaaa

/- The reference: Same. -/
namespace Go.Proofs.Ytllkopekfanfaaa
open Go.RowKit Go.Shelf Go.Lib Go.Sort Go.Maps

theorem neq66 (x1 x2 y1 y2 : Int) (W : World) : (binOp .neq 103 (.agg #[.int .i64 x1, .int .i64 x2]) (.agg #[.int .i64 y1, .int .i64 y2])).run Try.prog W = .ok (.bool (!(x1 == y1 && x2 == y2))) W := by
  cases h1 : (x1 == y1) <;> cases h2 : (x2 == y2) <;> go_simp
set_option maxRecDepth 100000 in
set_option maxHeartbeats 2000000 in
theorem rsame_any (w : World) (rb rb2 : Nat) (L M : List Dl) (h1 : Rf w rb L) (h2 : Rf w rb2 M) (hl : L.length ≤ 16) (hm : M.length ≤ 16) :
    Calls Try.prog 43 #[.pointer (some ⟨rb, 0, none⟩), .pointer (some ⟨rb2, 0, none⟩)] w fun e w' => e = .returned (.bool (decide (L = M))) ∧ Kp w w' [] := by
  obtain ⟨v1, hb1, hd1⟩ := h1
  obtain ⟨v2, hb2, hd2⟩ := h2
  obtain ⟨a1, cp1, rfl⟩ := hd1.slice
  obtain ⟨a2, cp2, rfl⟩ := hd2.slice
  obtain ⟨N1, hN1⟩ : ∃ N, L.length = N := ⟨_, rfl⟩
  obtain ⟨N2, hN2⟩ : ∃ N, M.length = N := ⟨_, rfl⟩
  obtain ⟨B, hB⟩ : ∃ B, decide (L = M) = B := ⟨_, rfl⟩
  rw [hN1] at hl hb1
  rw [hN2] at hm hb2
  rw [hB]
  have HD1 := hid hd1
  have HD2 := hid hd2
  rw [hN1] at HD1
  rw [hN2] at HD2
  have c1 := cell_one hb1
  have c2 := cell_one hb2
  have HC := hid (show ∀ W, Kp w W [] → W.cell? ⟨rb, 0, none⟩ = some (.slice a1 N1 cp1) ∧ W.cell? ⟨rb2, 0, none⟩ = some (.slice a2 N2 cp2) from fun W hk => ⟨hk.cell c1 (by simp), hk.cell c2 (by simp)⟩)
  have HN := hid (And.intro hN1 hN2)
  have HB := hid hB
  have hgd := fun (w : World) (p q : Operand) (xs ys : Array Value) => run_eqGuard_agg (P := Try.prog) w .neq 103 p q xs ys (by kernel_rfl)
  clear hd1 hd2 hN1 hN2 hB hb1 hb2
  by_cases hn : N1 = N2
  · have hn := hn.symm
    subst hn
    have qn : ((N2 : Int) != N2) = false := by simp
    go_enter Try.func43, Try.ntmps43
    go_wp2_with fail
    go_quiet (fail)
    have HK := hid (Kp.drewN w nq [])
    clear c1 c2
    go_wp2_with fail
    go_loopw [5] (fun vi wr => ∃ k : Nat, k ≤ N2 ∧ vi = .int .i64 k ∧ Hid (L.take k = M.take k ∧ Kp w wr [])) (fun vi _ => N2 - (intOf vi).toNat)
    case atStart => exact ⟨0, by omega, rfl, hid ⟨by simp, HK.out⟩⟩
    case round =>
      obtain ⟨k, hk, rfl, hR⟩ := hrel
      obtain ⟨c1, c2⟩ := HC.out _ hR.out.2
      by_cases hlt : k < N2
      · have hltI : (k : Int) < N2 := by omega
        have hk1 : k < L.length := by have := HN.out; omega
        have hk2 : k < M.length := by have := HN.out; omega
        obtain ⟨x1, x2, hx⟩ : ∃ x1 x2, L[k]! = (x1, x2) := ⟨L[k]!.1, L[k]!.2, rfl⟩
        obtain ⟨y1, y2, hy⟩ : ∃ y1 y2, M[k]! = (y1, y2) := ⟨M[k]!.1, M[k]!.2, rfl⟩
        obtain ⟨g1, rfl, d1, d2, -, -⟩ := (HD1.out.keep hR.out.2).at hk1 hx
        obtain ⟨g2, rfl, e1, e2, -, -⟩ := (HD2.out.keep hR.out.2).at hk2 hy
        have HXY := hid (And.intro hx hy)
        have HKK := hid (And.intro hk1 hk2)
        have hnq := neq66 x1 x2 y1 y2
        clear hx hy hk1 hk2
        by_cases hq : (x1, x2) = (y1, y2)
        · have hqq : (x1 == y1 && x2 == y2) = true := by simp at hq; simp [hq]
          rw [hqq] at hnq
          have R2 := hid (show ∀ m, L.take (k + 1) = M.take (k + 1) ∧ Kp w (wr.drewN m) [] by
            intro m
            rw [take_get HKK.out.1, take_get HKK.out.2, HXY.out.1, HXY.out.2, hR.out.1, hq]
            exact ⟨rfl, hR.out.2.trans (Kp.drewN _ _ _)⟩)
          clear hq hqq hR
          go_wp2_with fail
          go_quiet (fail)
          go_wp2
          go_roundw
          case rel => exact ⟨k + 1, by omega, by simp, hid (R2.out _)⟩
          case measure => simp [intOf]; omega
        · have hqq : (x1 == y1 && x2 == y2) = false := by
            rw [Bool.eq_false_iff]
            intro h
            simp at h
            exact hq (by rw [h.1, h.2])
          rw [hqq] at hnq
          have hBf : B = false := by
            rw [← HB.out, decide_eq_false_iff_not]
            rintro rfl
            exact hq (HXY.out.1.symm.trans HXY.out.2)
          subst hBf
          have R2 := hid hR.out.2
          clear hq hqq hR
          go_wp2_with fail
          go_quiet (fail)
          go_wp2
          go_ret
          exact ⟨rfl, R2.out.trans (Kp.drewN _ _ _)⟩
      · have hltI : ¬ (k : Int) < N2 := by omega
        have hBt : B = true := by
          rw [← HB.out, decide_eq_true_iff]
          have h1 := hR.out.1
          rw [List.take_of_length_le (by have := HN.out; omega), List.take_of_length_le (by have := HN.out; omega)] at h1
          exact h1
        subst hBt
        have R2 := hid hR.out.2
        clear hR
        go_wp2
        go_ret
        exact ⟨rfl, R2.out⟩
  · have qn : ((N1 : Int) != N2) = true := by simp; omega
    have hBf : B = false := by
      rw [← HB.out, decide_eq_false_iff_not]
      rintro rfl
      exact hn (by rw [← HN.out.1, ← HN.out.2])
    subst hBf
    go_enter Try.func43, Try.ntmps43
    go_wp2_with fail
    go_quiet (fail)
    go_wp2
    go_ret
    exact ⟨rfl, Kp.drewN _ _ _⟩
end Go.Proofs.Ytllkopekfanfaaa
