/- Equal. -/
import Derived.Test.YtojcmnanapeooaaCat
import Derived.Test.YtojcmnanapeooaaDel
namespace Go.Proofs.Ytojcmnanapeooaa
open Go.RowKit Go.Shelf
open Go.Lib hiding intOf

theorem neq45 (x1 x2 y1 y2 : Int) (W : World) : (binOp .neq 45 (.agg #[.int .i64 x1, .int .i64 x2]) (.agg #[.int .i64 y1, .int .i64 y2])).run Try.prog W = .ok (.bool (!(x1 == y1 && x2 == y2))) W := by
  cases h1 : (x1 == y1) <;> cases h2 : (x2 == y2) <;> go_simp
set_option maxRecDepth 100000 in
set_option maxHeartbeats 2000000 in
theorem eq_any (w : World) (b1 b2 : Nat) (v1 v2 : Value) (l1 l2 : List Dl) (h1 : Dr w b1 v1 l1) (h2 : Dr w b2 v2 l2) (hl : l1.length ≤ 100000) :
    Calls Try.prog 36 #[v1, v2] w fun e w' => e = .returned (.bool (decide (l1 = l2))) ∧ ∃ k, w' = w.drewN k := by
  obtain ⟨ao1, cap1, rfl⟩ := h1.slice
  obtain ⟨ao2, cap2, rfl⟩ := h2.slice
  obtain ⟨N1, hN1⟩ : ∃ N, l1.length = N := ⟨_, rfl⟩
  obtain ⟨N2, hN2⟩ : ∃ N, l2.length = N := ⟨_, rfl⟩
  obtain ⟨B, hB⟩ : ∃ B, decide (l1 = l2) = B := ⟨_, rfl⟩
  rw [hN1] at hl
  rw [hN1, hN2, hB]
  have H := hid (And.intro h1 h2)
  have HN := hid (And.intro hN1 hN2)
  have HB := hid hB
  clear h1 h2 hN1 hN2 hB
  by_cases hn : N1 = N2
  · have hn := hn.symm
    subst hn
    go_enter Try.func36, Try.ntmps36
    go_wp2_with fail
    go_loopw [13] (fun vi wr => ∃ k : Nat, k ≤ N2 ∧ vi = .int .i64 k ∧ Hid (l1.take k = l2.take k ∧ ∃ n, wr = w.drewN n)) (fun vi _ => N2 - (intOf vi).toNat)
    case atStart => exact ⟨0, by omega, rfl, hid ⟨by simp, 0, rfl⟩⟩
    case round =>
      obtain ⟨k, hk, rfl, hR⟩ := hrel
      have hKw : Kp w wr [] := by obtain ⟨n, q⟩ := hR.out.2; rw [q]; exact Kp.drewN _ _ _
      have HKw := hid hKw
      clear hKw
      by_cases hlt : k < N2
      · have hltI : (k : Int) < N2 := by omega
        have hk1 : k < l1.length := by have := HN.out; omega
        have hk2 : k < l2.length := by have := HN.out; omega
        obtain ⟨x1, x2, hx⟩ : ∃ x1 x2, l1[k]! = (x1, x2) := ⟨l1[k]!.1, l1[k]!.2, rfl⟩
        obtain ⟨y1, y2, hy⟩ : ∃ y1 y2, l2[k]! = (y1, y2) := ⟨l2[k]!.1, l2[k]!.2, rfl⟩
        obtain ⟨g1, rfl, c1, c2, -, -⟩ := (H.out.1.keep HKw.out).at hk1 hx
        obtain ⟨g2, rfl, d1, d2, -, -⟩ := (H.out.2.keep HKw.out).at hk2 hy
        have hnq := neq45 x1 x2 y1 y2
        have HXY := hid (And.intro hx hy)
        have HKK := hid (And.intro hk1 hk2)
        clear hx hy hk1 hk2
        cases hq : (x1 == y1 && x2 == y2) with
        | true =>
          rw [hq] at hnq
          have R2 := hid (show l1.take (k + 1) = l2.take (k + 1) ∧ ∃ n, wr.drew = w.drewN n by
            rw [take_get HKK.out.1, take_get HKK.out.2, HXY.out.1, HXY.out.2, hR.out.1]
            simp at hq
            rw [hq.1, hq.2]
            obtain ⟨n, q⟩ := hR.out.2
            exact ⟨rfl, n + 1, by rw [q]; rfl⟩)
          clear hq hR
          go_wp2_with fail
          go_region_held_law (fun W => W.cell? ⟨g1, k * 2, none⟩ = some (.int .i64 x1) ∧ W.cell? ⟨g1, k * 2 + 1, none⟩ = some (.int .i64 x2) ∧ W.cell? ⟨g2, k * 2, none⟩ = some (.int .i64 y1) ∧ W.cell? ⟨g2, k * 2 + 1, none⟩ = some (.int .i64 y2)) (exact ⟨c1, c2, d1, d2⟩) (fail)
          go_wp2
          go_roundw
          case rel => exact ⟨k + 1, by omega, by simp, R2⟩
          case measure => simp [intOf]; omega
        | false =>
          rw [hq] at hnq
          have hBf : B = false := by
            rw [← HB.out, decide_eq_false_iff_not]
            rintro rfl
            have h1 := HXY.out.1.symm.trans HXY.out.2
            simp only [Prod.mk.injEq] at h1
            simp [h1.1, h1.2] at hq
          subst hBf
          have R2 := hid (show ∃ n, wr.drew = w.drewN n by obtain ⟨n, q⟩ := hR.out.2; exact ⟨n + 1, by rw [q]; rfl⟩)
          clear hq hR
          go_wp2_with fail
          go_region_held_law (fun W => W.cell? ⟨g1, k * 2, none⟩ = some (.int .i64 x1) ∧ W.cell? ⟨g1, k * 2 + 1, none⟩ = some (.int .i64 x2) ∧ W.cell? ⟨g2, k * 2, none⟩ = some (.int .i64 y1) ∧ W.cell? ⟨g2, k * 2 + 1, none⟩ = some (.int .i64 y2)) (exact ⟨c1, c2, d1, d2⟩) (fail)
          go_wp2
          go_ret
          exact ⟨rfl, R2.out⟩
      · have hltI : ¬ (k : Int) < N2 := by omega
        have hBt : B = true := by
          rw [← HB.out, decide_eq_true_iff]
          have := hR.out.1
          rw [List.take_of_length_le (by have := HN.out; omega), List.take_of_length_le (by have := HN.out; omega)] at this
          exact this
        subst hBt
        go_wp2
        go_ret
        exact ⟨rfl, hR.out.2⟩
  · have hne : ((N1 : Int) == N2) = false := by rw [beq_eq_false_iff_ne]; omega
    have hBf : B = false := by
      rw [← HB.out, decide_eq_false_iff_not]
      rintro rfl
      have := HN.out
      omega
    subst hBf
    go_enter Try.func36, Try.ntmps36
    go_wp2
    go_ret
    exact ⟨rfl, 0, rfl⟩
end Go.Proofs.Ytojcmnanapeooaa
