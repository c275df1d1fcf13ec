/- same: two lists of numbers. -/
import Derived.Test.YtoaceeddcnijoaaWl
namespace Go.Proofs.Ytoaceeddcnijoaa
open Go.RowKit Go.Shelf Go.Lib Go.Sort

theorem icells_at (l : List Int) (i : Nat) (hi : i < l.length) : (icells l)[i]? = some (.int .i64 l[i]!) := by
  unfold icells
  rw [List.getElem?_map, List.getElem?_eq_getElem hi]
  simp [hi]
theorem Ns.at {w : World} {base : Nat} {l : List Int} {ao : Option Addr} {N cap : Nat} (h : Ns w base (.slice ao N cap) l) {i : Nat} (hi : i < l.length) : ∃ g, ao = some ⟨g, 0, none⟩ ∧ w.cell? ⟨g, i, none⟩ = some (.int .i64 l[i]!) := by
  rcases h.2 with ⟨hv, h0⟩ | ⟨g, cp, cur, hv, hb, hg, hnc, hcm, hcs, htk⟩
  · simp only [Value.slice.injEq] at hv
    omega
  · simp only [Value.slice.injEq] at hv
    obtain ⟨rfl, rfl, rfl⟩ := hv
    refine ⟨g, rfl, ?_⟩
    have := h.cellAt i (by omega)
    rw [this, icells_at l i hi]
theorem Ns.low {w : World} {base base' : Nat} {v : Value} {l : List Int} (h : Ns w base v l) (hb : base' ≤ base) : Ns w base' v l := owns_low h hb
theorem take_int {l : List Int} {k : Nat} (hk : k < l.length) : l.take (k + 1) = l.take k ++ [l[k]!] := by
  rw [List.take_add_one, List.getElem?_eq_getElem hk]
  simp [hk]
theorem ns_lit (w : World) (a b c : Int) : Ns (w.alloc (.cells #[.int .i64 a, .int .i64 b, .int .i64 c] 3)) w.heap.size (.slice (some ⟨w.heap.size, 0, none⟩) 3 3) [a, b, c] :=
  ⟨rfl, .inr ⟨w.heap.size, 3, _, rfl, Nat.le_refl _, heap_alloc_new w _, Nat.le_refl _, by unfold maxLen; omega, rfl, rfl⟩⟩

set_option maxRecDepth 100000 in
set_option maxHeartbeats 1000000 in
theorem ints_any (w : World) (b1 b2 : Nat) (v1 v2 : Value) (l1 l2 : List Int) (h1 : Ns w b1 v1 l1) (h2 : Ns w b2 v2 l2) (hl : l1.length ≤ 100000) :
    Calls Try.prog 20 #[v1, v2] w fun e w' => e = .returned (.bool (decide (l1 = l2))) ∧ Kp w w' [] := by
  obtain ⟨ao1, cap1, rfl⟩ := h1.slice
  obtain ⟨ao2, cap2, rfl⟩ := h2.slice
  obtain ⟨N1, hN1⟩ : ∃ N, l1.length = N := ⟨_, rfl⟩
  obtain ⟨N2, hN2⟩ : ∃ N, l2.length = N := ⟨_, rfl⟩
  obtain ⟨B, hB⟩ : ∃ B, decide (l1 = l2) = B := ⟨_, rfl⟩
  rw [hN1] at hl
  rw [hN1, hN2, hB]
  rw [hN1] at h1
  rw [hN2] at h2
  have H := hid (And.intro h1 h2)
  have HN := hid (And.intro hN1 hN2)
  have HB := hid hB
  clear h1 h2 hN1 hN2 hB
  by_cases hn : N1 = N2
  · have hn := hn.symm
    subst hn
    have qn : ((N2 : Int) != N2) = false := by simp
    go_enter Try.func20, Try.ntmps20
    go_wp2_with fail
    go_loopw [5] (fun vi wr => ∃ k : Nat, k ≤ N2 ∧ vi = .int .i64 k ∧ Hid (l1.take k = l2.take k ∧ Kp w wr [])) (fun vi _ => N2 - (intOf vi).toNat)
    case atStart => exact ⟨0, by omega, rfl, hid ⟨by simp, Kp.refl _ _⟩⟩
    case round =>
      obtain ⟨k, hk, rfl, hR⟩ := hrel
      by_cases hlt : k < N2
      · have hltI : (k : Int) < N2 := by omega
        have hk1 : k < l1.length := by have := HN.out; omega
        have hk2 : k < l2.length := by have := HN.out; omega
        obtain ⟨x, hx⟩ : ∃ x, l1[k]! = x := ⟨_, rfl⟩
        obtain ⟨y, hy⟩ : ∃ y, l2[k]! = y := ⟨_, rfl⟩
        obtain ⟨g1, rfl, c1⟩ := (H.out.1.keep hR.out.2).at hk1
        obtain ⟨g2, rfl, d1⟩ := (H.out.2.keep hR.out.2).at hk2
        rw [hx] at c1
        rw [hy] at d1
        have HXY := hid (And.intro hx hy)
        have HKK := hid (And.intro hk1 hk2)
        clear hx hy hk1 hk2
        by_cases hq : x = y
        · have hnq : (x != y) = false := by simp [hq]
          have R2 := hid (show ∀ m, l1.take (k + 1) = l2.take (k + 1) ∧ Kp w (wr.drewN m) [] by
            intro m
            rw [take_int HKK.out.1, take_int HKK.out.2, HXY.out.1, HXY.out.2, hR.out.1, hq]
            exact ⟨rfl, hR.out.2.trans (Kp.drewN _ _ _)⟩)
          clear hq hR
          go_wp2_with fail
          go_quiet (fail)
          go_wp2
          go_roundw
          case rel => exact ⟨k + 1, by omega, by simp, hid (R2.out _)⟩
          case measure => simp [intOf]; omega
        · have hnq : (x != y) = true := by simp [hq]
          have hBf : B = false := by
            rw [← HB.out, decide_eq_false_iff_not]
            rintro rfl
            exact hq (HXY.out.1.symm.trans HXY.out.2)
          subst hBf
          have R2 := hid hR.out.2
          clear hq hR
          go_wp2_with fail
          go_quiet (fail)
          go_wp2
          go_ret
          exact ⟨rfl, R2.out.trans (Kp.drewN _ _ _)⟩
      · have hltI : ¬ (k : Int) < N2 := by omega
        have hBt : B = true := by
          rw [← HB.out, decide_eq_true_iff]
          have h1 := hR.out.1
          rw [List.take_of_length_le (by have := HN.out; omega), List.take_of_length_le (by have := HN.out; omega)] at h1
          exact h1
        subst hBt
        have R2 := hid hR.out.2
        clear hR
        go_wp2
        go_ret
        exact ⟨rfl, R2.out⟩
  · have qn : ((N1 : Int) != N2) = true := by simp; omega
    have hBf : B = false := by
      rw [← HB.out, decide_eq_false_iff_not]
      rintro rfl
      exact hn (by rw [← HN.out.1, ← HN.out.2])
    subst hBf
    go_enter Try.func20, Try.ntmps20
    go_wp2
    go_ret
    exact ⟨rfl, Kp.refl _ _⟩
end Go.Proofs.Ytoaceeddcnijoaa
