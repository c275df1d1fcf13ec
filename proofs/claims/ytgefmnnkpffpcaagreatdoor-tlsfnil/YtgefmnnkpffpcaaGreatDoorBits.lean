/- Bits of numbers: no Go is walked here. -/
import Derived.Test.YtgefmnnkpffpcaaGreatDoorHeapJ
import Derived.Lib.BitFns
namespace Go.Proofs.YtgefmnnkpffpcaaGreatDoor
open Go.RowKit

theorem ofInt64 (x : Nat) (h : x < 18446744073709551616) : (BitVec.ofInt 64 (x : Int)).toNat = x := by
  rw [BitVec.toNat_ofInt]; omega
theorem wrap64_small (x : Nat) (h : x < 9223372036854775808) : IntKind.i64.wrap (x : Int) = x := IntWalk.i64_in _ ⟨by omega, by omega⟩
theorem i64_or (a b : Nat) (ha : a < 4611686018427387904) (hb : b < 4611686018427387904) : bits .or .i64 (a : Int) (b : Int) = ((a ||| b : Nat) : Int) := by
  show IntKind.i64.wrap ((BitVec.ofInt 64 (a : Int) ||| BitVec.ofInt 64 (b : Int)).toNat : Int) = _
  rw [BitVec.toNat_or, ofInt64 a (by omega), ofInt64 b (by omega)]
  exact wrap64_small _ (Nat.lt_trans (Nat.or_lt_two_pow (n := 62) ha hb) (by decide))
theorem i64_and (a b : Nat) (ha : a < 4611686018427387904) (hb : b < 4611686018427387904) : bits .and .i64 (a : Int) (b : Int) = ((a &&& b : Nat) : Int) := by
  show IntKind.i64.wrap ((BitVec.ofInt 64 (a : Int) &&& BitVec.ofInt 64 (b : Int)).toNat : Int) = _
  rw [BitVec.toNat_and, ofInt64 a (by omega), ofInt64 b (by omega)]
  exact wrap64_small _ (Nat.lt_of_le_of_lt Nat.and_le_left (by omega))
theorem i64_andNot (a b : Nat) (ha : a < 4611686018427387904) (hb : b < 4611686018427387904) : bits .andNot .i64 (a : Int) (b : Int) = ((a &&& (18446744073709551615 - b) : Nat) : Int) := by
  show IntKind.i64.wrap ((BitVec.ofInt 64 (a : Int) &&& ~~~BitVec.ofInt 64 (b : Int)).toNat : Int) = _
  rw [BitVec.toNat_and, BitVec.toNat_not, ofInt64 a (by omega), ofInt64 b (by omega)]
  exact wrap64_small _ (Nat.lt_of_le_of_lt Nat.and_le_left (by omega))

theorem not_testBit (b i : Nat) (hb : b < 18446744073709551616) : (18446744073709551615 - b).testBit i = (decide (i < 64) && !b.testBit i) := by
  have := Nat.testBit_two_pow_sub_succ (x := b) (n := 64) hb i
  rwa [show 2 ^ 64 - (b + 1) = 18446744073709551615 - b by omega] at this
theorem small_testBit {a i : Nat} (ha : a < 18446744073709551616) (h : 64 ≤ i) : a.testBit i = false :=
  Nat.testBit_lt_two_pow (Nat.lt_of_lt_of_le (show a < 2 ^ 64 from ha) (Nat.pow_le_pow_right (by decide) h))
theorem andNot_bit (a b i : Nat) (ha : a < 18446744073709551616) (hb : b < 18446744073709551616) : (a &&& (18446744073709551615 - b)).testBit i = (a.testBit i && !b.testBit i) := by
  rw [Nat.testBit_and, not_testBit b i hb]
  by_cases h : i < 64
  · simp [h]
  · simp [small_testBit ha (show 64 ≤ i by omega)]

/-- Rounding down to a multiple of a power of two. -/
theorem andNot_mask (a k : Nat) (ha : a < 18446744073709551616) (hk : k < 64) : a &&& (18446744073709551615 - (2 ^ k - 1)) = a / 2 ^ k * 2 ^ k := by
  have h2 : 2 ^ k < 2 ^ 64 := Nat.pow_lt_pow_right (by decide) hk
  rw [show (2 : Nat) ^ 64 = 18446744073709551616 from rfl] at h2
  apply Nat.eq_of_testBit_eq
  intro i
  rw [andNot_bit _ _ _ ha (by omega), Nat.testBit_two_pow_sub_one, Nat.testBit_mul_two_pow]
  by_cases h : i < k
  · have : ¬ k ≤ i := by omega
    simp [h, this]
  · have h' : k ≤ i := by omega
    simp only [h, decide_false, Bool.not_false, Bool.and_true, h', decide_true, Bool.true_and]
    rw [Nat.testBit_div_two_pow, show i - k + k = i by omega]

/-- A number's lowest bit. -/
theorem low_and (k m : Nat) (h : 2 ^ k * (2 * m + 1) < 4294967296) : (2 ^ k * (2 * m + 1)) &&& (4294967296 - 2 ^ k * (2 * m + 1)) = 2 ^ k := by
  have hp : 0 < 2 ^ k := Nat.two_pow_pos k
  have hpos : 0 < 2 ^ k * (2 * m + 1) := Nat.mul_pos hp (by omega)
  apply Nat.eq_of_testBit_eq
  intro i
  have e := Nat.testBit_two_pow_sub_succ (x := 2 ^ k * (2 * m + 1) - 1) (n := 32) (by omega) i
  rw [show 2 ^ 32 - (2 ^ k * (2 * m + 1) - 1 + 1) = 4294967296 - 2 ^ k * (2 * m + 1) by omega] at e
  rw [Nat.testBit_and, e, Nat.testBit_two_pow]
  have e1 : 2 ^ k * (2 * m + 1) - 1 = 2 ^ k * (2 * m) + (2 ^ k - 1) := by rw [Nat.mul_add]; omega
  have b1 : (2 ^ k * (2 * m + 1)).testBit i = (decide (k ≤ i) && (2 * m + 1).testBit (i - k)) := by rw [Nat.mul_comm, Nat.testBit_mul_two_pow]
  have b2 : (2 ^ k * (2 * m) + (2 ^ k - 1)).testBit i = if i < k then (2 ^ k - 1).testBit i else (2 * m).testBit (i - k) := Nat.testBit_two_pow_mul_add _ (by omega) _
  rw [e1, b1, b2]
  by_cases h1 : i < k
  · have : ¬ k ≤ i := by omega
    have : ¬ k = i := by omega
    simp [*]
  · have hki : k ≤ i := by omega
    by_cases h2 : k = i
    · subst h2
      have h32 : k < 32 := by
        have : 2 ^ k < 2 ^ 32 := Nat.lt_of_le_of_lt (Nat.le_mul_of_pos_right (2 ^ k) (by omega)) h
        exact (Nat.pow_lt_pow_iff_right (by decide)).1 this
      simp [h32]
    · obtain ⟨j, hj⟩ : ∃ j, i - k = j + 1 := ⟨i - k - 1, by omega⟩
      simp [h1, h2, hj, Nat.testBit_succ, show (2 * m + 1) / 2 = m by omega]
      intro _ hm _
      exact hm

theorem odd_part : ∀ (x : Nat), x ≠ 0 → ∃ k m, x = 2 ^ k * (2 * m + 1) := by
  intro x
  induction x using Nat.strongRecOn with
  | ind x ih =>
    intro h
    by_cases h2 : x % 2 = 1
    · exact ⟨0, x / 2, by omega⟩
    · obtain ⟨k, m, e⟩ := ih (x / 2) (by omega) (by omega)
      refine ⟨k + 1, m, ?_⟩
      rw [Nat.pow_succ, Nat.mul_comm (2 ^ k) 2, Nat.mul_assoc, ← e]; omega

theorem aux_zero (f : Nat) : Lib.bitLenAux f 0 = 0 := by cases f <;> simp [Lib.bitLenAux]
theorem aux_lg : ∀ (f x : Nat), x ≠ 0 → x < 2 ^ f → Lib.bitLenAux f x = Nat.log2 x + 1
  | 0, x, h0, h => by simp at h; omega
  | f + 1, x, h0, h => by
    rw [Lib.bitLenAux, if_neg h0, Nat.log2_def]
    by_cases h2 : 2 ≤ x
    · rw [if_pos h2, aux_lg f (x / 2) (by omega) (by rw [Nat.pow_succ] at h; omega)]; omega
    · rw [if_neg h2, show x / 2 = 0 by omega, aux_zero]
theorem lg_eq (x : Nat) (h0 : x ≠ 0) (h : x < 18446744073709551616) : Lib.bitLen x = Nat.log2 x + 1 := aux_lg 64 x h0 h
end Go.Proofs.YtgefmnnkpffpcaaGreatDoor
