/- The law's same: are two slices of numbers the same? -/
import Derived.Test.YtomdnppnabncaaaPlain
import Derived.Deep.RegionLaw
namespace Go.Proofs.Ytomdnppnabncaaa
open Go.RowKit Go.Shelf
open Go.Lib hiding intOf

theorem take_get {l : List Int} {k : Nat} (h : k < l.length) : l.take (k + 1) = l.take k ++ [l[k]!] := by
  rw [getElem!_pos l k h]
  simp
set_option maxRecDepth 100000 in
set_option maxHeartbeats 2000000 in
theorem ints_any (w : World) (b1 b2 : Nat) (v1 v2 : Value) (l1 l2 : List Int) (h1 : Ns w b1 v1 l1) (h2 : Ns w b2 v2 l2) (hl : l1.length ≤ 100000) :
    Calls Try.prog 22 #[v1, v2] w fun e w' => e = .returned (.bool (decide (l1 = l2))) ∧ ∃ k, w' = w.drewN k := by
  obtain ⟨ao1, cap1, rfl⟩ := h1.slice
  obtain ⟨ao2, cap2, rfl⟩ := h2.slice
  obtain ⟨N1, hN1⟩ : ∃ N, l1.length = N := ⟨_, rfl⟩
  obtain ⟨N2, hN2⟩ : ∃ N, l2.length = N := ⟨_, rfl⟩
  obtain ⟨B, hB⟩ : ∃ B, decide (l1 = l2) = B := ⟨_, rfl⟩
  rw [hN1] at hl
  rw [hN1, hN2, hB]
  have H := hid (And.intro h1 h2)
  have HN := hid (And.intro hN1 hN2)
  have HB := hid hB
  clear h1 h2 hN1 hN2 hB
  by_cases hn : N1 = N2
  · have hn := hn.symm
    subst hn
    go_enter Try.func22, Try.ntmps22
    go_wp2_with fail
    go_loopw [5] (fun vi wr => ∃ k : Nat, k ≤ N2 ∧ vi = .int .i64 k ∧ Hid (l1.take k = l2.take k ∧ ∃ n, wr = w.drewN n)) (fun vi _ => N2 - (intOf vi).toNat)
    case atStart => exact ⟨0, by omega, rfl, hid ⟨by simp, 0, rfl⟩⟩
    case round =>
      obtain ⟨k, hk, rfl, hR⟩ := hrel
      have hKw : Kp w wr [] := by obtain ⟨n, q⟩ := hR.out.2; rw [q]; exact Kp.drewN _ _ _
      have HKw := hid hKw
      clear hKw
      by_cases hlt : k < N2
      · have hltI : (k : Int) < N2 := by omega
        have hk1 : k < l1.length := by have := HN.out; omega
        have hk2 : k < l2.length := by have := HN.out; omega
        obtain ⟨x, hx⟩ : ∃ x, l1[k]! = x := ⟨_, rfl⟩
        obtain ⟨y, hy⟩ : ∃ y, l2[k]! = y := ⟨_, rfl⟩
        obtain ⟨g1, rfl, c1, -⟩ := (H.out.1.keep HKw.out).at hk1 hx
        obtain ⟨g2, rfl, d1, -⟩ := (H.out.2.keep HKw.out).at hk2 hy
        have HXY := hid (And.intro hx hy)
        have HKK := hid (And.intro hk1 hk2)
        clear hx hy hk1 hk2
        by_cases hq : x = y
        · have hne : (x != y) = false := by simp [hq]
          have R2 := hid (show l1.take (k + 1) = l2.take (k + 1) ∧ ∃ n, wr.drew = w.drewN n by
            rw [take_get HKK.out.1, take_get HKK.out.2, HXY.out.1, HXY.out.2, hR.out.1, hq]
            obtain ⟨n, q⟩ := hR.out.2
            exact ⟨rfl, n + 1, by rw [q]; rfl⟩)
          clear hq hR
          go_wp2_with fail
          go_region_held_law (fun W => W.cell? ⟨g1, k, none⟩ = some (.int .i64 x) ∧ W.cell? ⟨g2, k, none⟩ = some (.int .i64 y)) (exact ⟨c1, d1⟩) (fail)
          go_wp2
          go_roundw
          case rel => exact ⟨k + 1, by omega, by simp, R2⟩
          case measure => simp [intOf]; omega
        · have hne : (x != y) = true := by simp [hq]
          have hBf : B = false := by
            rw [← HB.out, decide_eq_false_iff_not]
            rintro rfl
            exact hq (HXY.out.1.symm.trans HXY.out.2)
          subst hBf
          have R2 := hid (show ∃ n, wr.drew = w.drewN n by obtain ⟨n, q⟩ := hR.out.2; exact ⟨n + 1, by rw [q]; rfl⟩)
          clear hq hR
          go_wp2_with fail
          go_region_held_law (fun W => W.cell? ⟨g1, k, none⟩ = some (.int .i64 x) ∧ W.cell? ⟨g2, k, none⟩ = some (.int .i64 y)) (exact ⟨c1, d1⟩) (fail)
          go_wp2
          go_ret
          exact ⟨rfl, R2.out⟩
      · have hltI : ¬ (k : Int) < N2 := by omega
        have hBt : B = true := by
          rw [← HB.out, decide_eq_true_iff]
          have e1 := hR.out.1
          have e2 := HN.out
          rw [List.take_of_length_le (by omega), List.take_of_length_le (by omega)] at e1
          exact e1
        subst hBt
        have R2 := hid hR.out.2
        clear hR
        go_wp2_with fail
        go_ret
        exact ⟨rfl, R2.out⟩
  · have hnI : ((N1 : Int) != (N2 : Int)) = true := by simp; omega
    have hBf : B = false := by
      rw [← HB.out, decide_eq_false_iff_not]
      rintro rfl
      have := HN.out
      omega
    subst hBf
    go_enter Try.func22, Try.ntmps22
    go_wp2_with fail
    go_ret
    exact ⟨rfl, 0, rfl⟩
end Go.Proofs.Ytomdnppnabncaaa
