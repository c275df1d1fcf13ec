/- swapRange: two parts of a row, as long, change places. -/
import Derived.Test.YtoaceeddcnijoaaCmp
namespace Go.Proofs.Ytoaceeddcnijoaa
open Go.RowKit Go.Shelf Go.Lib Go.Sort

/-- The list while swapRange goes on. -/
def swl (A X M Y R : List Dl) (i : Nat) : List Dl := A ++ (Y.take i ++ X.drop i) ++ M ++ (X.take i ++ Y.drop i) ++ R
theorem swl_len (A X M Y R : List Dl) (i : Nat) (h : X.length = Y.length) : (swl A X M Y R i).length = A.length + X.length + M.length + Y.length + R.length := by
  simp [swl]; omega
theorem swl_zero (A X M Y R : List Dl) : swl A X M Y R 0 = A ++ X ++ M ++ Y ++ R := by simp [swl]
theorem swl_end (A X M Y R : List Dl) (n : Nat) (hx : X.length = n) (hy : Y.length = n) : swl A X M Y R n = A ++ Y ++ M ++ X ++ R := by
  subst hx
  unfold swl
  rw [List.take_of_length_le (by omega), List.drop_eq_nil_of_le (Nat.le_refl _), List.take_of_length_le (Nat.le_refl _), List.drop_eq_nil_of_le (by omega)]
  simp
theorem drop_get {X : List Dl} {i : Nat} (h : i < X.length) : X.drop i = X[i]! :: X.drop (i + 1) := by
  rw [getElem!_pos X i h]; exact List.drop_eq_getElem_cons h
theorem take_get {X : List Dl} {i : Nat} (h : i < X.length) : X.take (i + 1) = X.take i ++ [X[i]!] := by
  rw [getElem!_pos X i h]; exact List.take_succ_eq_append_getElem h
theorem swl_at (A X M Y R : List Dl) {i : Nat} (h : X.length = Y.length) (hi : i < X.length) :
    swl A X M Y R i = (A ++ Y.take i) ++ X[i]! :: ((X.drop (i + 1) ++ M ++ X.take i) ++ Y[i]! :: (Y.drop (i + 1) ++ R)) := by
  unfold swl
  rw [drop_get hi, drop_get (show i < Y.length by omega)]
  simp
theorem swl_next (A X M Y R : List Dl) {i : Nat} (h : X.length = Y.length) (hi : i < X.length) :
    swl A X M Y R (i + 1) = (A ++ Y.take i) ++ Y[i]! :: ((X.drop (i + 1) ++ M ++ X.take i) ++ X[i]! :: (Y.drop (i + 1) ++ R)) := by
  unfold swl
  rw [take_get hi, take_get (show i < Y.length by omega)]
  simp
theorem swl_step (A X M Y R : List Dl) {i : Nat} (h : X.length = Y.length) (hi : i < X.length) (a b : Nat) (ha : a = A.length + i) (hb : b = A.length + X.length + M.length + i) :
    swp (swl A X M Y R i).toArray a b = (swl A X M Y R (i + 1)).toArray := by
  rw [swl_at A X M Y R h hi, swl_next A X M Y R h hi]
  exact swp_up _ _ _ _ _ a b (by simp; omega) (by simp; omega)

/-- Behind an exchange's four stores. -/
theorem Sw.swapped {w0 W : World} {blk : Nat} {L L0 : List Dl} (h : Sw w0 blk L W) (h0 : Hk w0 blk L0) (hblk : blk < w0.heap.size) {i j : Nat} (hi : i < L.length) (hj : j < L.length) {L' : List Dl} (e : swp L.toArray i j = L'.toArray) (x y : Dl) (hx : L[i]! = x) (hy : L[j]! = y) :
    Sw w0 blk L' ((((W.setCell ⟨blk, i * 2, none⟩ (.int .i64 y.1)).setCell ⟨blk, i * 2 + 1, none⟩ (.int .i64 y.2)).setCell ⟨blk, j * 2, none⟩ (.int .i64 x.1)).setCell ⟨blk, j * 2 + 1, none⟩ (.int .i64 x.2)).drew := by
  have R : RowK encD 2 w0 blk 0 L0.toArray := ⟨lenD, oneD, h0, hblk⟩
  have := SWK.swapped h R i j (by simpa using hi) (by simpa using hj)
  rw [e, arr_get, arr_get, hx, hy, Nat.zero_add, Nat.zero_add] at this
  exact this

set_option maxRecDepth 100000 in
set_option maxHeartbeats 4000000 in
theorem swapRange_any (w0 : World) (blk cap : Nat) (A X M Y R : List Dl) (L0 : List Dl) (W : World) (a b n N : Nat) (hS : Sw w0 blk (A ++ X ++ M ++ Y ++ R) W) (h0 : Hk w0 blk L0) (hl : L0.length = N) (hN : N = (A ++ X ++ M ++ Y ++ R).length) (hblk : blk < w0.heap.size) (ha : a = A.length) (hb : b = A.length + X.length + M.length) (hx : X.length = n) (hy : Y.length = n) (hsz : N < 1000000) :
    Calls Try.prog 50 #[.slice (some ⟨blk, 0, none⟩) N cap, .int .i64 a, .int .i64 b, .int .i64 n, cmpV] W fun e w' => e = .returned (.tuple #[]) ∧ Sw w0 blk (A ++ Y ++ M ++ X ++ R) w' := by
  have hN' : N = a + n + (b - a - n) + n + R.length ∧ a + n ≤ b ∧ b + n ≤ N := by rw [hN]; simp; omega
  have HS := hid hS
  have H0 := hid h0
  have HL := hid hl
  have HN := hid hN
  have HAB := hid (And.intro ha (And.intro hb (And.intro hx hy)))
  obtain ⟨-, hab, hbN⟩ := hN'
  have hmx : Try.prog.follows .mixedOrders = true := by kernel_rfl
  obtain ⟨LE, hLE⟩ : ∃ LE, A ++ Y ++ M ++ X ++ R = LE := ⟨_, rfl⟩
  rw [hLE]
  have HLE := hid hLE
  clear hS h0 hl hN ha hb hx hy hLE
  go_enter Try.func50, Try.ntmps50
  go_wp2_with fail
  go_loopw [10] (fun v wr => ∃ i : Nat, i ≤ n ∧ v = .int .i64 i ∧ Hid (Sw w0 blk (swl A X M Y R i) wr)) (fun v _ => n - (intOf v).toNat)
  case atStart => exact ⟨0, Nat.zero_le _, rfl, by rw [swl_zero]; exact HS⟩
  case round =>
    obtain ⟨i, hi, rfl, hSi⟩ := hrel
    obtain ⟨ha, hb, hx, hy⟩ := HAB.out
    by_cases hin : i < n
    · have hinI : (i : Int) < n := by omega
      have hH := hSi.out.holds hblk H0.out (by have := HN.out; have := HL.out; simp at *; rw [swl_len _ _ _ _ _ _ (by omega)]; omega)
      have hLl : (swl A X M Y R i).length = N := by rw [swl_len _ _ _ _ _ _ (by omega), HN.out]; simp; omega
      obtain ⟨p, hp⟩ : ∃ p, a + i = p := ⟨_, rfl⟩
      obtain ⟨q, hq⟩ : ∃ q, b + i = q := ⟨_, rfl⟩
      have hpN : p < N := by omega
      have hqN : q < N := by omega
      have hpq : p ≠ q := by omega
      obtain ⟨c1, c2, f1, f2⟩ := Hk.cells hH (i := p) (by omega)
      obtain ⟨d1, d2, g1, g2⟩ := Hk.cells hH (i := q) (by omega)
      have HSW := hid (fun x y hx' hy' => hSi.out.swapped H0.out hblk (i := p) (j := q) (by omega) (by omega) (swl_step A X M Y R (by omega) (by omega) p q (by omega) (by omega)) x y hx' hy')
      obtain ⟨x, hx'⟩ : ∃ x, (swl A X M Y R i)[p]! = x := ⟨_, rfl⟩
      obtain ⟨y, hy'⟩ : ∃ y, (swl A X M Y R i)[q]! = y := ⟨_, rfl⟩
      rw [hx'] at c1 c2
      rw [hy'] at d1 d2
      have HX := hid (HSW.out x y hx' hy')
      have wp1 : IntKind.i64.wrap ((a : Int) + i) = (p : Int) := by rw [← hp]; exact IntWalk.i64_in _ ⟨by omega, by omega⟩
      have wq1 : IntKind.i64.wrap ((b : Int) + i) = (q : Int) := by rw [← hq]; exact IntWalk.i64_in _ ⟨by omega, by omega⟩
      have hpI : (p : Int) < N := by omega
      have hqI : (q : Int) < N := by omega
      obtain ⟨x1, x2⟩ := x
      obtain ⟨y1, y2⟩ := y
      simp only at c1 c2 d1 d2
      clear hx' hy' HSW hH hLl hx hy ha hb hp hq
      go_wp2_with fail
      go_region
      go_wp2
      go_roundw
      case rel => exact ⟨i + 1, by omega, by simp, HX⟩
      case measure => simp [intOf]; omega
    · have hinI : ¬ (i : Int) < n := by omega
      have hE := hSi.out
      rw [show i = n by omega, swl_end A X M Y R n hx hy, HLE.out] at hE
      have HE := hid hE
      clear hE
      go_wp2
      refine bodyPost_end (results_none rfl _ _ _) rfl ?_
      exact ⟨rfl, HE.out⟩
end Go.Proofs.Ytoaceeddcnijoaa
