/- rotate: two parts of a row change places. -/
import Derived.Test.YtoaceeddcnijoaaSwap
namespace Go.Proofs.Ytoaceeddcnijoaa
open Go.RowKit Go.Shelf Go.Lib Go.Sort

set_option maxRecDepth 100000 in
set_option maxHeartbeats 4000000 in
theorem rotate_any (w0 : World) (blk cap : Nat) (A X Y R : List Dl) (L0 : List Dl) (W : World) (a m b N : Nat) (hS : Sw w0 blk (A ++ X ++ Y ++ R) W) (h0 : Hk w0 blk L0) (hl : L0.length = N) (hN : N = (A ++ X ++ Y ++ R).length) (hblk : blk < w0.heap.size) (ha : a = A.length) (hm : m = A.length + X.length) (hb : b = A.length + X.length + Y.length) (hx : 0 < X.length) (hy : 0 < Y.length) (hsz : N < 1000000) :
    Calls Try.prog 49 #[.slice (some ⟨blk, 0, none⟩) N cap, .int .i64 a, .int .i64 m, .int .i64 b, cmpV] W fun e w' => e = .returned (.tuple #[]) ∧ Sw w0 blk (A ++ Y ++ X ++ R) w' := by
  have hN' : a ≤ m ∧ m ≤ b ∧ b ≤ N := by rw [hN]; simp; omega
  obtain ⟨i0, hi0⟩ : ∃ i0, X.length = i0 := ⟨_, rfl⟩
  obtain ⟨j0, hj0⟩ : ∃ j0, Y.length = j0 := ⟨_, rfl⟩
  have hmi : m = a + i0 := by omega
  have hbj : b = m + j0 := by omega
  obtain ⟨LE, hLE⟩ : ∃ LE, A ++ Y ++ X ++ R = LE := ⟨_, rfl⟩
  rw [hLE]
  have ST := hid (show ∃ A' X' Y' R', Sw w0 blk (A' ++ X' ++ Y' ++ R') W ∧ A' ++ Y' ++ X' ++ R' = LE ∧ A'.length = m - i0 ∧ X'.length = i0 ∧ Y'.length = j0 ∧ (A' ++ X' ++ Y' ++ R').length = N from ⟨A, X, Y, R, hS, hLE, by omega, hi0, hj0, hN.symm⟩)
  have H0 := hid h0
  have HL := hid hl
  have hi1 : 0 < i0 := by omega
  have hj1 : 0 < j0 := by omega
  obtain ⟨hn1, hn2, hn3⟩ := hN'
  have wm : IntKind.i64.wrap ((m : Int) - a) = (i0 : Int) := by rw [show (m : Int) - a = (i0 : Int) by omega]; exact IntWalk.i64_in _ ⟨by omega, by omega⟩
  have wb : IntKind.i64.wrap ((b : Int) - m) = (j0 : Int) := by rw [show (b : Int) - m = (j0 : Int) by omega]; exact IntWalk.i64_in _ ⟨by omega, by omega⟩
  have him0 : i0 ≤ m := by omega
  have hjN0 : m + j0 ≤ N := by omega
  clear hS h0 hl hN ha hm hb hx hy hLE hi0 hj0 hmi hbj hn1 hn2 hn3
  go_enter Try.func49, Try.ntmps49
  go_wp2_with fail
  go_loopw [10, 11] (fun vi vj wr => ∃ i j : Nat, 0 < i ∧ 0 < j ∧ i ≤ m ∧ m + j ≤ N ∧ vi = .int .i64 i ∧ vj = .int .i64 j ∧ Hid (∃ A' X' Y' R', Sw w0 blk (A' ++ X' ++ Y' ++ R') wr ∧ A' ++ Y' ++ X' ++ R' = LE ∧ A'.length = m - i ∧ X'.length = i ∧ Y'.length = j ∧ (A' ++ X' ++ Y' ++ R').length = N)) (fun vi vj _ => (intOf vi).toNat + (intOf vj).toNat)
  case atStart => exact ⟨i0, j0, hi1, hj1, him0, hjN0, by simp, by simp, ST⟩
  case round =>
    obtain ⟨i, j, hi, hj, him, hjN, rfl, rfl, hR⟩ := hrel
    obtain ⟨A', X', Y', R', r1, r2, r3, r4, r5, r6⟩ := hR.out
    have R1 := hid r1
    have R6 := hid (And.intro r2 (And.intro r3 (And.intro r4 (And.intro r5 r6))))
    clear r1 r2 r3 r4 r5 r6 hR
    have H5 := R6.out
    obtain ⟨p, hp⟩ : ∃ p, m - i = p := ⟨_, rfl⟩
    have wp1 : IntKind.i64.wrap ((m : Int) - i) = (p : Int) := by rw [show (m : Int) - i = (p : Int) by omega]; exact IntWalk.i64_in _ ⟨by omega, by omega⟩
    have HP := hid hp
    clear hp H5
    by_cases hij : i = j
    · have hne : ((i : Int) != (j : Int)) = false := by simp [hij]
      have HIJ := hid hij
      clear hij
      go_wp2_with fail
      obtain ⟨q1, q2, q3, q4, q5⟩ := R6.out
      refine (swapRange_any w0 blk cap A' X' [] Y' R' L0 _ p m i N (by simpa using R1.out) H0.out HL.out (by simp at q5 ⊢; omega) hblk (by have := HP.out; omega) (by simp; omega) q3 (by have := HIJ.out; omega) hsz).mono ?_
      rintro e w2 ⟨rfl, h2⟩
      have H2 := hid (show Sw w0 blk LE w2 by rw [← q1]; simpa using h2)
      clear h2 q1 q2 q3 q4 q5
      go_wp2
      refine bodyPost_end (results_none rfl _ _ _) rfl ?_
      exact ⟨rfl, H2.out⟩
    · have hne : ((i : Int) != (j : Int)) = true := by simp; omega
      by_cases hgt : j < i
      · have hgtI : (j : Int) < i := by omega
        obtain ⟨d, hd⟩ : ∃ d, i - j = d := ⟨_, rfl⟩
        have wd : IntKind.i64.wrap ((i : Int) - j) = (d : Int) := by rw [show (i : Int) - j = (d : Int) by omega]; exact IntWalk.i64_in _ ⟨by omega, by omega⟩
        have HD := hid hd
        have hdi : d < i ∧ 0 < d := by omega
        clear hd hij
        go_wp2_with fail
        obtain ⟨q1, q2, q3, q4, q5⟩ := R6.out
        have e1 : X' = X'.take j ++ X'.drop j := (List.take_append_drop j X').symm
        obtain ⟨X1, hX1⟩ : ∃ X1, X'.take j = X1 := ⟨_, rfl⟩
        obtain ⟨X2, hX2⟩ : ∃ X2, X'.drop j = X2 := ⟨_, rfl⟩
        have l1 : X1.length = j := by rw [← hX1, List.length_take]; omega
        have l2 : X2.length = d := by have := HD.out; rw [← hX2, List.length_drop]; omega
        rw [hX1, hX2] at e1
        clear hX1 hX2
        subst e1
        refine (swapRange_any w0 blk cap A' X1 X2 Y' R' L0 _ p m j N (by simpa using R1.out) H0.out HL.out (by simp at q5 ⊢; omega) hblk (by have := HP.out; omega) (by simp at q3; have := HP.out; omega) l1 q4 hsz).mono ?_
        rintro e w2 ⟨rfl, h2⟩
        have H2 := hid (show ∃ A' X' Y' R', Sw w0 blk (A' ++ X' ++ Y' ++ R') w2 ∧ A' ++ Y' ++ X' ++ R' = LE ∧ A'.length = m - d ∧ X'.length = d ∧ Y'.length = j ∧ (A' ++ X' ++ Y' ++ R').length = N from ⟨A' ++ Y', X2, X1, R', by simpa using h2, by rw [← q1]; simp, by have := HD.out; simp; omega, l2, l1, by simp at q5 ⊢; omega⟩)
        clear h2 q1 q2 q3 q4 q5 l1 l2
        go_wp2
        go_roundw
        case rel => exact ⟨d, j, by omega, hj, by omega, hjN, by simp, rfl, H2⟩
        case measure => simp [intOf]; omega
      · have hgtI : ¬ (j : Int) < i := by omega
        obtain ⟨d, hd⟩ : ∃ d, j - i = d := ⟨_, rfl⟩
        have wd : IntKind.i64.wrap ((j : Int) - i) = (d : Int) := by rw [show (j : Int) - i = (d : Int) by omega]; exact IntWalk.i64_in _ ⟨by omega, by omega⟩
        obtain ⟨q, hq⟩ : ∃ q, m + j - i = q := ⟨_, rfl⟩
        obtain ⟨s, hs⟩ : ∃ s, m + j = s := ⟨_, rfl⟩
        have ws : IntKind.i64.wrap ((m : Int) + j) = (s : Int) := by rw [show (m : Int) + j = (s : Int) by omega]; exact IntWalk.i64_in _ ⟨by omega, by omega⟩
        have wq : IntKind.i64.wrap ((s : Int) - i) = (q : Int) := by rw [show (s : Int) - i = (q : Int) by omega]; exact IntWalk.i64_in _ ⟨by omega, by omega⟩
        have HD := hid (show j = d + i ∧ q = m + d by omega)
        have hdi : d < j ∧ 0 < d := by omega
        clear hd hq hs hij
        go_wp2_with fail
        obtain ⟨q1, q2, q3, q4, q5⟩ := R6.out
        have e1 : Y' = Y'.take d ++ Y'.drop d := (List.take_append_drop d Y').symm
        obtain ⟨Y1, hY1⟩ : ∃ Y1, Y'.take d = Y1 := ⟨_, rfl⟩
        obtain ⟨Y2, hY2⟩ : ∃ Y2, Y'.drop d = Y2 := ⟨_, rfl⟩
        have l1 : Y1.length = d := by rw [← hY1, List.length_take]; omega
        have l2 : Y2.length = i := by have := HD.out; rw [← hY2, List.length_drop]; omega
        rw [hY1, hY2] at e1
        clear hY1 hY2
        subst e1
        refine (swapRange_any w0 blk cap A' X' Y1 Y2 R' L0 _ p q i N (by simpa using R1.out) H0.out HL.out (by simp at q5 ⊢; omega) hblk (by have := HP.out; omega) (by have := HD.out; have := HP.out; omega) q3 l2 hsz).mono ?_
        rintro e w2 ⟨rfl, h2⟩
        have H2 := hid (show ∃ A' X' Y' R', Sw w0 blk (A' ++ X' ++ Y' ++ R') w2 ∧ A' ++ Y' ++ X' ++ R' = LE ∧ A'.length = m - i ∧ X'.length = i ∧ Y'.length = d ∧ (A' ++ X' ++ Y' ++ R').length = N from ⟨A', Y2, Y1, X' ++ R', by simpa using h2, by rw [← q1]; simp, q2, l2, l1, by simp at q5 ⊢; omega⟩)
        clear h2 q1 q2 q3 q4 q5 l1 l2
        go_wp2
        go_roundw
        case rel => exact ⟨i, d, hi, by omega, him, by omega, rfl, by simp, H2⟩
        case measure => simp [intOf]; omega
end Go.Proofs.Ytoaceeddcnijoaa
