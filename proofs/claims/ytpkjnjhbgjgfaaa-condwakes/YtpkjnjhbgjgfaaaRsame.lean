/- The reference: Same. -/
import Derived.Test.YtpkjnjhbgjgfaaaRlist
namespace Go.Proofs.Ytpkjnjhbgjgfaaa
open Go.RowKit Go.Shelf Go.Lib Go.Sort Go.Maps

theorem neq66 (x1 x2 y1 y2 : Int) (W : World) : (binOp .neq 77 (.agg #[.int .i64 x1, .int .i64 x2]) (.agg #[.int .i64 y1, .int .i64 y2])).run Try.prog W = .ok (.bool (!(x1 == y1 && x2 == y2))) W := by
  cases h1 : (x1 == y1) <;> cases h2 : (x2 == y2) <;> go_simp
set_option maxRecDepth 100000 in
set_option maxHeartbeats 2000000 in
theorem rsame_any (w : World) (rb rb2 : Nat) (L M : List Dl) (h1 : Rf w rb L) (h2 : Rf w rb2 M) (hl : L.length ≤ 16) (hm : M.length ≤ 16) :
    Calls Try.prog 38 #[.pointer (some ⟨rb, 0, none⟩), .pointer (some ⟨rb2, 0, none⟩)] w fun e w' => e = .returned (.bool (decide (L = M))) ∧ Kp w w' [] := by
  obtain ⟨v1, hb1, hd1⟩ := h1
  obtain ⟨v2, hb2, hd2⟩ := h2
  obtain ⟨a1, cp1, rfl⟩ := hd1.slice
  obtain ⟨a2, cp2, rfl⟩ := hd2.slice
  obtain ⟨N1, hN1⟩ : ∃ N, L.length = N := ⟨_, rfl⟩
  obtain ⟨N2, hN2⟩ : ∃ N, M.length = N := ⟨_, rfl⟩
  obtain ⟨B, hB⟩ : ∃ B, decide (L = M) = B := ⟨_, rfl⟩
  rw [hN1] at hl hb1
  rw [hN2] at hm hb2
  rw [hB]
  have HD1 := hid hd1
  have HD2 := hid hd2
  rw [hN1] at HD1
  rw [hN2] at HD2
  have c1 := cell_one hb1
  have c2 := cell_one hb2
  have HC := hid (show ∀ W, Kp w W [] → W.cell? ⟨rb, 0, none⟩ = some (.slice a1 N1 cp1) ∧ W.cell? ⟨rb2, 0, none⟩ = some (.slice a2 N2 cp2) from fun W hk => ⟨hk.cell c1 (by simp), hk.cell c2 (by simp)⟩)
  have HN := hid (And.intro hN1 hN2)
  have HB := hid hB
  have hgd := fun (w : World) (p q : Operand) (xs ys : Array Value) => run_eqGuard_agg (P := Try.prog) w .neq 77 p q xs ys (by kernel_rfl)
  clear hd1 hd2 hN1 hN2 hB hb1 hb2
  by_cases hn : N1 = N2
  · have hn := hn.symm
    subst hn
    have qn : ((N2 : Int) != N2) = false := by simp
    go_enter Try.func38, Try.ntmps38
    go_wp2_with fail
    go_quiet (fail)
    have HK := hid (Kp.drewN w nq [])
    clear c1 c2
    go_wp2_with fail
    go_loopw [5] (fun vi wr => ∃ k : Nat, k ≤ N2 ∧ vi = .int .i64 k ∧ Hid (L.take k = M.take k ∧ Kp w wr [])) (fun vi _ => N2 - (intOf vi).toNat)
    case atStart => exact ⟨0, by omega, rfl, hid ⟨by simp, HK.out⟩⟩
    case round =>
      obtain ⟨k, hk, rfl, hR⟩ := hrel
      obtain ⟨c1, c2⟩ := HC.out _ hR.out.2
      by_cases hlt : k < N2
      · have hltI : (k : Int) < N2 := by omega
        have hk1 : k < L.length := by have := HN.out; omega
        have hk2 : k < M.length := by have := HN.out; omega
        obtain ⟨x1, x2, hx⟩ : ∃ x1 x2, L[k]! = (x1, x2) := ⟨L[k]!.1, L[k]!.2, rfl⟩
        obtain ⟨y1, y2, hy⟩ : ∃ y1 y2, M[k]! = (y1, y2) := ⟨M[k]!.1, M[k]!.2, rfl⟩
        obtain ⟨g1, rfl, d1, d2, -, -⟩ := (HD1.out.keep hR.out.2).at hk1 hx
        obtain ⟨g2, rfl, e1, e2, -, -⟩ := (HD2.out.keep hR.out.2).at hk2 hy
        have HXY := hid (And.intro hx hy)
        have HKK := hid (And.intro hk1 hk2)
        have hnq := neq66 x1 x2 y1 y2
        clear hx hy hk1 hk2
        by_cases hq : (x1, x2) = (y1, y2)
        · have hqq : (x1 == y1 && x2 == y2) = true := by simp at hq; simp [hq]
          rw [hqq] at hnq
          have R2 := hid (show ∀ m, L.take (k + 1) = M.take (k + 1) ∧ Kp w (wr.drewN m) [] by
            intro m
            rw [take_get HKK.out.1, take_get HKK.out.2, HXY.out.1, HXY.out.2, hR.out.1, hq]
            exact ⟨rfl, hR.out.2.trans (Kp.drewN _ _ _)⟩)
          clear hq hqq hR
          go_wp2_with fail
          go_quiet (fail)
          go_wp2
          go_roundw
          case rel => exact ⟨k + 1, by omega, by simp, hid (R2.out _)⟩
          case measure => simp [intOf]; omega
        · have hqq : (x1 == y1 && x2 == y2) = false := by
            rw [Bool.eq_false_iff]
            intro h
            simp at h
            exact hq (by rw [h.1, h.2])
          rw [hqq] at hnq
          have hBf : B = false := by
            rw [← HB.out, decide_eq_false_iff_not]
            rintro rfl
            exact hq (HXY.out.1.symm.trans HXY.out.2)
          subst hBf
          have R2 := hid hR.out.2
          clear hq hqq hR
          go_wp2_with fail
          go_quiet (fail)
          go_wp2
          go_ret
          exact ⟨rfl, R2.out.trans (Kp.drewN _ _ _)⟩
      · have hltI : ¬ (k : Int) < N2 := by omega
        have hBt : B = true := by
          rw [← HB.out, decide_eq_true_iff]
          have h1 := hR.out.1
          rw [List.take_of_length_le (by have := HN.out; omega), List.take_of_length_le (by have := HN.out; omega)] at h1
          exact h1
        subst hBt
        have R2 := hid hR.out.2
        clear hR
        go_wp2
        go_ret
        exact ⟨rfl, R2.out⟩
  · have qn : ((N1 : Int) != N2) = true := by simp; omega
    have hBf : B = false := by
      rw [← HB.out, decide_eq_false_iff_not]
      rintro rfl
      exact hn (by rw [← HN.out.1, ← HN.out.2])
    subst hBf
    go_enter Try.func38, Try.ntmps38
    go_wp2_with fail
    go_quiet (fail)
    go_wp2
    go_ret
    exact ⟨rfl, Kp.drewN _ _ _⟩
end Go.Proofs.Ytpkjnjhbgjgfaaa
