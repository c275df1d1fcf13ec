/- The heap's numbers: powers, classes, sizes. -/
import Derived.Test.YtgefmnnkpffpcaaGreatDoorHwordJ
import Derived.Deep.QuietTactic
import Derived.BigQuiet
namespace Go.Proofs.YtgefmnnkpffpcaaGreatDoor
open Go.RowKit

theorem lg_lt {z : Int} {k : Nat} (h0 : 0 ≤ z) (h : z < 2 ^ k) (hk : k ≠ 0) : lg z < k := by
  unfold lg
  obtain ⟨x, rfl⟩ := Int.eq_ofNat_of_zero_le h0
  rw [Int.toNat_natCast]
  have h' : x < 2 ^ k := by exact_mod_cast h
  by_cases hx : x = 0
  · subst hx; simp; omega
  · exact (Nat.log2_lt hx).2 h'
theorem lg_ge {z : Int} {k : Nat} (h : 2 ^ k ≤ z) : k ≤ lg z := by
  unfold lg
  have h1 : (0 : Int) < 2 ^ k := Int.pow_pos (by decide)
  obtain ⟨x, rfl⟩ := Int.eq_ofNat_of_zero_le (show 0 ≤ z by omega)
  rw [Int.toNat_natCast]
  have h' : 2 ^ k ≤ x := by exact_mod_cast h
  exact (Nat.le_log2 (by have := Nat.two_pow_pos k; omega)).2 h'

theorem ret_i {k : IntKind} {a b : Int} (h : a = b) : Ending.returned (.int k a) = .returned (.int k b) := by rw [h]
theorem ret_b {a b : Bool} (h : a = b) : Ending.returned (.bool a) = .returned (.bool b) := by rw [h]

set_option maxRecDepth 100000 in
theorem power_any (w : World) (z : Int) (h0 : 1 ≤ z) (h1 : z < 4611686018427387904) :
    Calls Tryz.prog 110 #[.int .i64 z] w fun e w' => e = .returned (.int .i64 (lg z)) ∧ w' = w := by
  have hl := lg_lt (z := z) (k := 62) (by omega) (by omega) (by decide)
  have HBL := hid (show (Lib.bitLen z.toNat : Int) = (lg z : Int) + 1 by rw [lg_eq _ (by omega) (by omega)]; unfold lg; omega)
  go_enter Tryz.func110, Tryz.ntmps110
  go_wp2_with fail
  refine (Tryz.bits_Len z w (by omega) (by omega)).mono ?_
  rintro e w1 ⟨rfl, rfl⟩
  rw [HBL.out]
  go_wp2
  go_ret
  exact ⟨rfl, rfl⟩

theorem half_bit (x : Int) (h0 : 0 ≤ x) (h1 : x < 4611686018427387904) : bits .and .i64 x 1 = x % 2 := by
  obtain ⟨y, rfl⟩ := Int.eq_ofNat_of_zero_le h0
  have := i64_and y 1 (by omega) (by decide)
  rw [show ((1 : Nat) : Int) = 1 from rfl] at this
  rw [this, Nat.and_one_is_mod]; omega
theorem div_pow_range (z : Int) (k : Nat) (h0 : 0 ≤ z) : 0 ≤ z / 2 ^ k ∧ z / 2 ^ k ≤ z :=
  ⟨Int.ediv_nonneg h0 (Int.le_of_lt (Int.pow_pos (by decide))), Int.ediv_le_self _ h0⟩

set_option maxRecDepth 100000 in
theorem classOf_any (w : World) (z : Int) (h0 : 2 ≤ z) (h1 : z < 4611686018427387904) :
    Calls Tryz.prog 72 #[.int .i64 z] w fun e w' => e = .returned (.int .i64 (cls z)) ∧ w' = w := by
  have hl := lg_lt (z := z) (k := 62) (by omega) (by omega) (by decide)
  have hl1 := lg_ge (z := z) (k := 1) (by omega)
  have hr := div_pow_range z (lg z - 1) (by omega)
  have he := half_bit (z / 2 ^ (lg z - 1)) hr.1 (by omega)
  clear hr
  go_enter Tryz.func72, Tryz.ntmps72
  go_wp2_with fail
  refine (power_any w z (by omega) (by omega)).mono ?_
  rintro e w1 ⟨rfl, rfl⟩
  go_wp2
  go_ret
  exact ⟨rfl, rfl⟩

/-- Sizes that may be asked for. -/
theorem pow_lg {z : Int} (h : 1 ≤ z) : (2 : Int) ^ lg z ≤ z ∧ z < 2 ^ (lg z + 1) := by
  unfold lg
  obtain ⟨x, rfl⟩ := Int.eq_ofNat_of_zero_le (show 0 ≤ z by omega)
  rw [Int.toNat_natCast]
  have h1 := Nat.log2_self_le (n := x) (by omega)
  have h2 := Nat.lt_log2_self (n := x)
  exact ⟨by exact_mod_cast h1, by exact_mod_cast h2⟩
theorem pow_half {z : Int} (h : 2 ≤ z) : 1 ≤ (2 : Int) ^ (lg z - 1) ∧ 2 * (2 : Int) ^ (lg z - 1) ≤ z := by
  have hl1 := lg_ge (z := z) (k := 1) (by omega)
  have hp := (pow_lg (z := z) (by omega)).1
  obtain ⟨k, hk⟩ : ∃ k, lg z = k + 1 := ⟨lg z - 1, by omega⟩
  rw [hk] at hp ⊢
  rw [Int.pow_succ] at hp
  have h1 : (0 : Int) < 2 ^ k := Int.pow_pos (by decide)
  simp only [Nat.add_sub_cancel]
  omega

set_option maxRecDepth 100000 in
theorem classFor_any (w : World) (z : Int) (h0 : 2 ≤ z) (h1 : z < 1152921504606846976) :
    Calls Tryz.prog 93 #[.int .i64 z] w fun e w' => e = .returned (.int .i64 (clsFor z)) ∧ w' = w := by
  have hl := lg_lt (z := z) (k := 60) (by omega) (by omega) (by decide)
  have hl1 := lg_ge (z := z) (k := 1) (by omega)
  have hp := pow_half h0
  obtain ⟨C, hC⟩ : ∃ C, C = clsFor z := ⟨_, rfl⟩
  rw [← hC]
  have HC := hid hC
  clear hC
  go_enter Tryz.func93, Tryz.ntmps93
  go_wp2_with fail
  refine (power_any w z (by omega) (by omega)).mono ?_
  rintro e w1 ⟨rfl, rfl⟩
  go_wp2_with fail
  refine (classOf_any w1 (z + 2 ^ (lg z - 1) - 1) (by omega) (by omega)).mono ?_
  rintro e w2 ⟨rfl, rfl⟩
  go_wp2
  go_ret
  exact ⟨ret_i HC.out.symm, rfl⟩

set_option maxRecDepth 100000 in
theorem firstAt_any (w : World) (k : Int) (h0 : 0 ≤ k) (h1 : k < 1000) : Calls Tryz.prog 96 #[.int .i64 k] w fun e w' => e = .returned (.int .i64 (4 + k * 4)) ∧ w' = w := by
  go_enter Tryz.func96, Tryz.ntmps96
  go_wp2
  go_ret
  exact ⟨rfl, rfl⟩
set_option maxRecDepth 100000 in
theorem end_any (w : World) (a z : Int) (h0 : -4611686018427387904 ≤ a) (h1 : a < 4611686018427387904) (h2 : -4611686018427387904 ≤ z) (h3 : z < 4611686018427387904) :
    Calls Tryz.prog 62 #[.agg #[.int .i64 a, .int .i64 z]] w fun e w' => e = .returned (.int .i64 (a + z)) ∧ Kp w w' [] := by
  go_enter Tryz.func62, Tryz.ntmps62
  go_wp2
  go_ret
  exact ⟨rfl, Kp.alloc _ _ _⟩
set_option maxRecDepth 100000 in
theorem piece_any (w : World) (a z : Int) (h0 : -4611686018427387904 ≤ a) (h1 : a < 4611686018427387904) :
    Calls Tryz.prog 100 #[.agg #[.int .i64 a, .int .i64 z]] w fun e w' => e = .returned (.int .i64 (a + 8)) ∧ Kp w w' [] := by
  go_enter Tryz.func100, Tryz.ntmps100
  go_wp2
  go_ret
  exact ⟨rfl, Kp.alloc _ _ _⟩

/-- May so many bytes be asked for? -/
def mayB (m : Int) : Bool := decide (1 ≤ m ∧ m ≤ 65536)
set_option maxRecDepth 100000 in
theorem mayHave_any (w : World) (m : Int) : Calls Tryz.prog 54 #[.int .i64 m] w fun e w' => e = .returned (.bool (mayB m)) ∧ w' = w := by
  obtain ⟨B, hB⟩ : ∃ B, B = mayB m := ⟨_, rfl⟩
  rw [← hB]
  unfold mayB at hB
  by_cases h1 : 1 ≤ m
  · by_cases h2 : m ≤ 65536
    · have hb : B = true := by rw [hB]; exact decide_eq_true ⟨h1, h2⟩
      clear hB; subst hb
      go_enter Tryz.func54, Tryz.ntmps54
      go_wp2
      go_ret
      exact ⟨rfl, rfl⟩
    · have hb : B = false := by rw [hB]; exact decide_eq_false (fun h => h2 h.2)
      clear hB; subst hb
      go_enter Tryz.func54, Tryz.ntmps54
      go_wp2
      go_ret
      exact ⟨rfl, rfl⟩
  · have hb : B = false := by rw [hB]; exact decide_eq_false (fun h => h1 h.1)
    clear hB; subst hb
    go_enter Tryz.func54, Tryz.ntmps54
    go_wp2
    go_ret
    exact ⟨rfl, rfl⟩

theorem round_down (x : Int) (k : Nat) (m : Int) (hm : m = 2 ^ k) (hk : k ≤ 12) (h0 : 0 ≤ x) (h1 : x < 4611686018427387904) : bits .andNot .i64 x (m - 1) = x / m * m := by
  obtain ⟨y, rfl⟩ := Int.eq_ofNat_of_zero_le h0
  have hp : 2 ^ k ≤ 2 ^ 12 := Nat.pow_le_pow_right (by decide) hk
  have hp1 : 0 < 2 ^ k := Nat.two_pow_pos k
  have e : m - 1 = ((2 ^ k - 1 : Nat) : Int) := by
    have : m = ((2 ^ k : Nat) : Int) := by rw [hm]; push_cast; rfl
    omega
  rw [e, i64_andNot y (2 ^ k - 1) (by omega) (by omega), andNot_mask y k (by omega) (by omega), hm]
  push_cast; rfl
set_option maxRecDepth 100000 in
theorem roundUp_any (w : World) (x : Int) (k : Nat) (m : Int) (hm : m = 2 ^ k) (hk : k ≤ 12) (h0 : 0 ≤ x) (h1 : x < 1152921504606846976) :
    Calls Tryz.prog 98 #[.int .i64 x, .int .i64 m] w fun e w' => e = .returned (.int .i64 ((x + m - 1) / m * m)) ∧ w' = w := by
  have hp : (2 : Nat) ^ k ≤ 2 ^ 12 := Nat.pow_le_pow_right (by decide) hk
  have hp1 : 0 < (2 : Nat) ^ k := Nat.two_pow_pos k
  have hp2 : 1 ≤ m ∧ m ≤ 4096 := by
    have : m = ((2 ^ k : Nat) : Int) := by rw [hm]; push_cast; rfl
    omega
  have hr := round_down (x + m - 1) k m hm hk (by omega) (by omega)
  clear hm hp hp1
  go_enter Tryz.func98, Tryz.ntmps98
  go_wp2
  go_ret
  exact ⟨rfl, rfl⟩
set_option maxRecDepth 100000 in
theorem needed_any (w : World) (m : Int) (h0 : 0 ≤ m) (h1 : m < 1152921504606846976) : Calls Tryz.prog 56 #[.int .i64 m] w fun e w' => e = .returned (.int .i64 (needed m)) ∧ w' = w := by
  obtain ⟨C, hC⟩ : ∃ C, C = needed m := ⟨_, rfl⟩
  rw [← hC]
  have HC := hid hC
  clear hC
  go_enter Tryz.func56, Tryz.ntmps56
  go_wp2_with fail
  refine (roundUp_any w m 3 8 rfl (by decide) h0 h1).mono ?_
  rintro e w1 ⟨rfl, rfl⟩
  go_wp2
  go_ret
  exact ⟨ret_i (by rw [HC.out]; unfold needed; rw [show m + 8 - 1 = m + 7 by omega]), rfl⟩

theorem tab_pow : ∀ k : Nat, k < 32 → tab32.getD (2 ^ k * 125613361 % 4294967296 / 134217728) 0 = (k : Int) ∧ 2 ^ k * 125613361 % 4294967296 / 134217728 < 32 := by decide
theorem mul_div_cast (y : Nat) : (y : Int) * 125613361 % 4294967296 / 134217728 = ((y * 125613361 % 4294967296 / 134217728 : Nat) : Int) := by omega
theorem and_neg (x : Int) (k m : Nat) (hx : x = ((2 ^ k * (2 * m + 1) : Nat) : Int)) (h1 : x < 4294967296) : bits .and .u32 x (-x % 4294967296) = ((2 ^ k : Nat) : Int) := by
  have hp : 0 < 2 ^ k * (2 * m + 1) := Nat.mul_pos (Nat.two_pow_pos k) (by omega)
  have hl : 2 ^ k * (2 * m + 1) < 4294967296 := by omega
  have e : -x % 4294967296 = ((4294967296 - 2 ^ k * (2 * m + 1) : Nat) : Int) := by rw [hx]; omega
  rw [e, hx, u32_and_nat _ _ hl (by omega), low_and k m hl]
set_option maxRecDepth 100000 in
theorem tz_none (w : World) : Calls Tryz.prog 94 #[.int .u32 0] w fun e w' => e = .returned (.int .i64 32) ∧ w' = w := by
  go_enter Tryz.func94, Tryz.ntmps94
  go_wp2
  go_ret
  exact ⟨rfl, rfl⟩
set_option maxRecDepth 100000 in
theorem tz_some (w : World) (x : Int) (k m : Nat) (hx : x = ((2 ^ k * (2 * m + 1) : Nat) : Int)) (h1 : x < 4294967296) (ht : Tb w) : Calls Tryz.prog 94 #[.int .u32 x] w fun e w' => e = .returned (.int .i64 k) ∧ w' = w := by
  have hp : 0 < 2 ^ k * (2 * m + 1) := Nat.mul_pos (Nat.two_pow_pos k) (by omega)
  have h0 : 0 ≤ x := by omega
  have hz : (x == 0) = false := by rw [beq_eq_false_iff_ne]; omega
  have hk : k < 32 := by
    have : 2 ^ k < 2 ^ 32 := Nat.lt_of_le_of_lt (Nat.le_mul_of_pos_right (2 ^ k) (by omega)) (show 2 ^ k * (2 * m + 1) < 2 ^ 32 by omega)
    exact (Nat.pow_lt_pow_iff_right (by decide)).1 this
  have hand := and_neg x k m hx h1
  obtain ⟨t1, t2⟩ := tab_pow k hk
  obtain ⟨i, hi⟩ : ∃ i, i = 2 ^ k * 125613361 % 4294967296 / 134217728 := ⟨_, rfl⟩
  rw [← hi] at t1 t2
  obtain ⟨p, hp'⟩ : ∃ p : Int, p = ((2 ^ k : Nat) : Int) := ⟨_, rfl⟩
  obtain ⟨q, hq⟩ : ∃ q : Int, q = p * 125613361 % 4294967296 := ⟨_, rfl⟩
  have hqi : q / 134217728 = (i : Int) := by rw [hq, hp', hi]; exact mul_div_cast _
  have hmul := hq.symm
  rw [← hp'] at hand
  have hcell : w.cell? ⟨0, i, none⟩ = some (.int .u8 k) := by rw [ht i t2, t1]
  have hp0 : 0 ≤ p ∧ p < 4294967296 := by
    have : 2 ^ k < 2 ^ 32 := Nat.pow_lt_pow_right (by decide) hk
    omega
  have hq0 : 0 ≤ q ∧ q < 4294967296 := by omega
  clear hx hp ht t1 hp' hq hi
  go_enter Tryz.func94, Tryz.ntmps94
  go_wp2
  go_ret
  exact ⟨rfl, rfl⟩
end Go.Proofs.YtgefmnnkpffpcaaGreatDoor

/- mark, the closures of putIn and takeOut, change, putIn, takeOut. -/
namespace Go.Proofs.YtgefmnnkpffpcaaGreatDoor
open Go.RowKit

/-- What a closure has captured: the heap's pointer, a block. -/
structure Cl (w : World) (p0 p1 hb rb mb : Nat) (a z : Int) : Prop where
  c0 : w.cell? ⟨p0, 0, none⟩ = some (.pointer (some ⟨hb, 0, none⟩))
  c1 : w.cell? ⟨p1, 0, none⟩ = some (.int .i64 a)
  c2 : w.cell? ⟨p1, 1, none⟩ = some (.int .i64 z)
  n0 : p0 ≠ rb ∧ p0 ≠ mb
  n1 : p1 ≠ rb ∧ p1 ≠ mb
theorem Cl.keep {w w' : World} {p0 p1 hb rb mb : Nat} {a z : Int} (h : Cl w p0 p1 hb rb mb a z) (hk : Kp w w' [rb, mb]) : Cl w' p0 p1 hb rb mb a z := by
  have := h.n0; have := h.n1
  exact ⟨hk.cell h.c0 (by simp; omega), hk.cell h.c1 (by simp; omega), hk.cell h.c2 (by simp; omega), h.n0, h.n1⟩

set_option maxRecDepth 100000 in
theorem putIn1_any (w : World) (hb rb mb pb n p0 p1 : Nat) (g : Mem) (c : Int) (P : Pcs) (a z f : Int) (h : Hp w hb rb mb pb n g c P) (hc : c < 2305843009213693952) (hl : Cl w p0 p1 hb rb mb a z)
    (ha0 : 0 ≤ a) (ha1 : a < 4294967296) (hf0 : 0 ≤ f) (hf1 : f < 4294967296) :
    Calls Tryz.prog 102 #[.int .i64 f, .pointer (some ⟨p0, 0, none⟩), .pointer (some ⟨p1, 0, none⟩)] w fun e w' => e = .returned (.int .i64 a) ∧ Went w w' hb rb mb pb n (putIn1 n g a f) P c 3 [rb, mb] := by
  have q0 := hl.c0
  have q1 := hl.c1
  have H := hid h
  have L := hid hl
  clear h hl
  go_enter Tryz.func102, Tryz.ntmps102
  go_wp2_with fail
  refine (setWord_any w hb rb mb pb n g c P (a + 8) f H.out (by omega) (by omega) hf0 hf1).mono ?_
  rintro e w1 ⟨rfl, c1, hc1, hc1', hH1, hK1⟩
  have H1 := hid hH1
  have L1 := hid (L.out.keep hK1)
  have K1 := hid hK1
  clear hH1 hK1 q0 q1
  have q0 := L1.out.c0
  have q1 := L1.out.c1
  go_wp2_with fail
  refine (setWord_any w1 hb rb mb pb n _ c1 P (a + 12) 0 H1.out (by omega) (by omega) (by decide) (by decide)).mono ?_
  rintro e w2 ⟨rfl, c2, hc2, hc2', hH2, hK2⟩
  have H2 := hid hH2
  have L2 := hid (L1.out.keep hK2)
  have K2 := hid (K1.out.trans hK2)
  clear hH2 hK2 q0 q1
  have q0 := L2.out.c0
  have q1 := L2.out.c1
  by_cases hz : f = 0
  · have hz' : (f != 0) = false := by simp [hz]
    have e1 := hid (show putIn1 n g a f = wr n (wr n g (a + 8) f) (a + 12) 0 by unfold putIn1; rw [if_pos hz])
    clear hz
    go_wp2
    go_ret
    rw [e1.out]
    exact ⟨rfl, c2, by omega, by omega, H2.out, K2.out⟩
  · have hz' : (f != 0) = true := by simp [hz]
    have e1 := hid (show putIn1 n g a f = wr n (wr n (wr n g (a + 8) f) (a + 12) 0) (f + 12) a by unfold putIn1; rw [if_neg hz])
    clear hz
    go_wp2_with fail
    refine (setWord_any w2 hb rb mb pb n _ c2 P (f + 12) a H2.out (by omega) (by omega) ha0 ha1).mono ?_
    rintro e w3 ⟨rfl, c3, hc3, hc3', hH3, hK3⟩
    have H3 := hid hH3
    have L3 := hid (L2.out.keep hK3)
    have K3 := hid (K2.out.trans hK3)
    clear hH3 hK3 q0 q1
    have q1 := L3.out.c1
    go_wp2
    go_ret
    rw [e1.out]
    exact ⟨rfl, c3, by omega, by omega, H3.out, K3.out⟩

theorem Cl.two {w : World} {p0 p1 hb rb mb : Nat} {a z : Int} (h : Cl w p0 p1 hb rb mb a z) : w.cell? ⟨p0, 0, none⟩ = some (.pointer (some ⟨hb, 0, none⟩)) ∧ w.cell? ⟨p1, 0, none⟩ = some (.int .i64 a) := ⟨h.c0, h.c1⟩

set_option maxRecDepth 100000 in
set_option maxHeartbeats 1000000 in
theorem takeOut1_any (w : World) (hb rb mb pb n p0 p1 : Nat) (g : Mem) (c : Int) (P : Pcs) (a z f : Int) (h : Hp w hb rb mb pb n g c P) (hc : c < 2305843009213693952) (hl : Cl w p0 p1 hb rb mb a z)
    (ha0 : 0 ≤ a) (ha1 : a < 4294967296) :
    Calls Tryz.prog 120 #[.int .i64 f, .pointer (some ⟨p0, 0, none⟩), .pointer (some ⟨p1, 0, none⟩)] w fun e w' => e = .returned (.int .i64 (takeOut1 n g a f).2) ∧ Went w w' hb rb mb pb n (takeOut1 n g a f).1 P c 4 [rb, mb] := by
  obtain ⟨x, hx⟩ : ∃ x, x = rd n g (a + 8) := ⟨_, rfl⟩
  obtain ⟨y, hy⟩ : ∃ y, y = rd n g (a + 12) := ⟨_, rfl⟩
  obtain ⟨r, hr⟩ : ∃ r, r = takeOut1 n g a f := ⟨_, rfl⟩
  have hx0 := h.range (a + 8)
  have hy0 := h.range (a + 12)
  rw [← hx] at hx0
  rw [← hy] at hy0
  rw [← hr]
  unfold takeOut1 at hr
  rw [← hx, ← hy] at hr
  have R := hid hr
  have HX := hid hx
  have HY := hid hy
  have H := hid h
  have L := hid hl
  have w8 : IntKind.i64.wrap (a + 8) = a + 8 := IntWalk.i64_in _ ⟨by omega, by omega⟩
  have w12 : IntKind.i64.wrap (a + 12) = a + 12 := IntWalk.i64_in _ ⟨by omega, by omega⟩
  clear h hl hr hx hy
  go_enter Tryz.func120, Tryz.ntmps120
  go_wp2_with fail
  go_region_held (fun w' => w'.cell? ⟨p0, 0, none⟩ = some (.pointer (some ⟨hb, 0, none⟩)) ∧ w'.cell? ⟨p1, 0, none⟩ = some (.int .i64 a))
    (first
      | exact (L.out.keep (Kp.drew _ _)).two
      | exact ((L.out.keep (Kp.drew _ _)).keep ((hK1.mono (by simp)).trans (hK2.mono (by simp)))).two
      | exact ((L.out.keep (Kp.drew _ _)).keep (hK1.mono (by simp))).two)
    (first
      | (go_at_call 73; have _hh := hK1; refine (word_any _ hb rb mb pb n g c1 P (a + 12) hH1 (by omega) (by omega)).mono ?_; rintro e w2 ⟨rfl, c2, hc2, hc2', hH2, hK2⟩)
      | (go_at_call 73; refine (word_any _ hb rb mb pb n g c P (a + 8) (H.out.same (Kp.drew _ _)) (by omega) (by omega)).mono ?_; rintro e w1 ⟨rfl, c1, hc1, hc1', hH1, hK1⟩))
  have K2 := hid (show Kp w w2 [rb, mb] from ((Kp.drew _ _).trans (hK1.mono (by simp))).trans (hK2.mono (by simp)))
  have H2 := hid hH2
  have L2 := hid (L.out.keep K2.out)
  clear hK1 hK2 hH1 hH2
  have q0 := L2.out.c0
  rw [← HX.out, ← HY.out]
  clear w8 w12
  by_cases hx1 : x = 0
  · have tx : (x != 0) = false := by simp [hx1]
    have R1 := hid (show r = if y = 0 then (g, x) else (wr n g (y + 8) x, f) by rw [R.out, if_pos hx1])
    clear hx1
    by_cases hy1 : y = 0
    · have ty : (y == 0) = true := by simp [hy1]
      have R2 := hid (show r = (g, x) by rw [R1.out, if_pos hy1])
      clear hy1
      go_wp2
      go_ret
      rw [R2.out]
      exact ⟨rfl, c2, by omega, by omega, H2.out, K2.out⟩
    · have ty : (y == 0) = false := by simp [hy1]
      have R2 := hid (show r = (wr n g (y + 8) x, f) by rw [R1.out, if_neg hy1])
      clear hy1
      go_wp2_with fail
      refine (setWord_any w2 hb rb mb pb n _ c2 P (y + 8) x H2.out (by omega) (by omega) hx0.1 hx0.2).mono ?_
      rintro e w3 ⟨rfl, c3, hc3, hc3', hH3, hK3⟩
      have H3 := hid hH3
      have K3 := hid (K2.out.trans hK3)
      clear hH3 hK3 q0
      go_wp2
      go_ret
      rw [R2.out]
      exact ⟨rfl, c3, by omega, by omega, H3.out, K3.out⟩
  · have tx : (x != 0) = true := by simp [hx1]
    have R1 := hid (show r = if y = 0 then (wr n g (x + 12) y, x) else (wr n (wr n g (x + 12) y) (y + 8) x, f) by rw [R.out, if_neg hx1])
    clear hx1
    go_wp2_with fail
    refine (setWord_any w2 hb rb mb pb n _ c2 P (x + 12) y H2.out (by omega) (by omega) hy0.1 hy0.2).mono ?_
    rintro e w3 ⟨rfl, c3, hc3, hc3', hH3, hK3⟩
    have H3 := hid hH3
    have L3 := hid (L2.out.keep hK3)
    have K3 := hid (K2.out.trans hK3)
    clear hH3 hK3 q0
    have q0 := L3.out.c0
    by_cases hy1 : y = 0
    · have ty : (y == 0) = true := by simp [hy1]
      have R2 := hid (show r = (wr n g (x + 12) y, x) by rw [R1.out, if_pos hy1])
      clear hy1
      go_wp2
      go_ret
      rw [R2.out]
      exact ⟨rfl, c3, by omega, by omega, H3.out, K3.out⟩
    · have ty : (y == 0) = false := by simp [hy1]
      have R2 := hid (show r = (wr n (wr n g (x + 12) y) (y + 8) x, f) by rw [R1.out, if_neg hy1])
      clear hy1
      go_wp2_with fail
      refine (setWord_any w3 hb rb mb pb n _ c3 P (y + 8) x H3.out (by omega) (by omega) hx0.1 hx0.2).mono ?_
      rintro e w4 ⟨rfl, c4, hc4, hc4', hH4, hK4⟩
      have H4 := hid hH4
      have K4 := hid (K3.out.trans hK4)
      clear hH4 hK4 q0
      go_wp2
      go_ret
      rw [R2.out]
      exact ⟨rfl, c4, by omega, by omega, H4.out, K4.out⟩
end Go.Proofs.YtgefmnnkpffpcaaGreatDoor
