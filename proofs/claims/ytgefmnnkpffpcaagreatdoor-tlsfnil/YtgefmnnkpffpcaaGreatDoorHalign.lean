/- isMultiple, alignedFrom, Aligned. -/
import Derived.Test.YtgefmnnkpffpcaaGreatDoorHset
namespace Go.Proofs.YtgefmnnkpffpcaaGreatDoor
open Go.RowKit Go.Maps

/-- A power of two from 8 to 4096. -/
def isMul (m : Int) : Bool := decide (8 ≤ m ∧ m ≤ 4096) && (m.toNat &&& (m.toNat - 1) == 0)
theorem mul_pow {m : Int} (h : isMul m = true) : ∃ k : Nat, 3 ≤ k ∧ k ≤ 12 ∧ m = 2 ^ k := by
  unfold isMul at h
  simp only [Bool.and_eq_true] at h
  have h1 := of_decide_eq_true h.1
  obtain ⟨k, e⟩ := (Nat.and_sub_one_eq_zero_iff_isPowerOfTwo (n := m.toNat) (by omega)).1 (by simpa using h.2)
  refine ⟨k, ?_, ?_, ?_⟩
  · refine Nat.le_of_not_lt fun hlt => ?_
    have : 2 ^ k ≤ 2 ^ 2 := Nat.pow_le_pow_right (by decide) (by omega)
    omega
  · refine Nat.le_of_not_lt fun hlt => ?_
    have : 2 ^ 13 ≤ 2 ^ k := Nat.pow_le_pow_right (by decide) (by omega)
    omega
  · have : (m.toNat : Int) = ((2 ^ k : Nat) : Int) := by rw [e]
    push_cast at this
    omega

set_option maxRecDepth 100000 in
theorem isMul_any (w : World) (m : Int) (h0 : -9223372036854775808 ≤ m) : Calls Tryz.prog 59 #[.int .i64 m] w fun e w' => e = .returned (.bool (isMul m)) ∧ w' = w := by
  obtain ⟨B, hB⟩ : ∃ B, isMul m = B := ⟨_, rfl⟩
  rw [hB]
  unfold isMul at hB
  by_cases h1 : 8 ≤ m
  · by_cases h2 : m ≤ 4096
    · have ha : bits .and .i64 m (m - 1) = ((m.toNat &&& (m.toNat - 1) : Nat) : Int) := by
        have := i64_and m.toNat (m.toNat - 1) (by omega) (by omega)
        rw [show ((m.toNat : Nat) : Int) = m by omega, show ((m.toNat - 1 : Nat) : Int) = m - 1 by omega] at this
        exact this
      obtain ⟨x, hx⟩ : ∃ x, m.toNat &&& (m.toNat - 1) = x := ⟨_, rfl⟩
      rw [hx] at ha hB
      rw [decide_eq_true ⟨h1, h2⟩] at hB
      have E := hid (show ((x : Int) == 0) = B by
        rw [← hB]
        by_cases hx0 : x = 0
        · subst hx0; rfl
        · rw [beq_eq_false_iff_ne.2 (by omega), Bool.true_and, beq_eq_false_iff_ne.2 hx0])
      clear hB hx
      go_enter Tryz.func59, Tryz.ntmps59
      go_wp2
      go_ret
      exact ⟨ret_b E.out, rfl⟩
    · have hb : B = false := by rw [← hB, decide_eq_false (by omega)]; rfl
      subst hb
      clear hB
      have t2 : decide (m ≤ 4096) = false := decide_eq_false h2
      go_enter Tryz.func59, Tryz.ntmps59
      go_wp2
      go_ret
      exact ⟨rfl, rfl⟩
  · have hb : B = false := by rw [← hB, decide_eq_false (by omega)]; rfl
    subst hb
    clear hB
    go_enter Tryz.func59, Tryz.ntmps59
    go_wp2
    go_ret
    exact ⟨rfl, rfl⟩

def alignedFrom (a m : Int) : Int := if (a + 8) % m = 0 then a else (a + 24 + m - 1) / m * m - 8
set_option maxRecDepth 100000 in
theorem alignedFrom_any (w : World) (a m : Int) (k : Nat) (hm : m = 2 ^ k) (hk3 : 3 ≤ k) (hk : k ≤ 12) (h0 : 0 ≤ a) (h1 : a < 1048576) :
    Calls Tryz.prog 60 #[.int .i64 a, .int .i64 m] w fun e w' => e = .returned (.int .i64 (alignedFrom a m)) ∧ w' = w := by
  have hm8 : 8 ≤ m ∧ m ≤ 4096 := by
    have a1 : 2 ^ 3 ≤ 2 ^ k := Nat.pow_le_pow_right (by decide) hk3
    have a2 : 2 ^ k ≤ 2 ^ 12 := Nat.pow_le_pow_right (by decide) hk
    have : m = ((2 ^ k : Nat) : Int) := by rw [hm]; push_cast; rfl
    omega
  have HM := hid hm
  obtain ⟨r, hr⟩ : ∃ r, alignedFrom a m = r := ⟨_, rfl⟩
  rw [hr]
  unfold alignedFrom at hr
  clear hm
  by_cases h8 : (a + 8) % m = 0
  · rw [if_pos h8] at hr
    have t8 : ((a + 8) % m == 0) = true := by simp [h8]
    have E := hid hr
    clear hr h8
    go_enter Tryz.func60, Tryz.ntmps60
    go_wp2
    go_ret
    exact ⟨ret_i E.out, rfl⟩
  · rw [if_neg h8] at hr
    have t8 : ((a + 8) % m == 0) = false := by simp [h8]
    have E := hid hr
    clear hr h8
    have hd : 0 ≤ (a + 24 + m - 1) / m * m ∧ (a + 24 + m - 1) / m * m ≤ a + 24 + m - 1 := by
      have h1 := Int.ediv_mul_le (a + 24 + m - 1) (show m ≠ 0 by omega)
      have h2 := Int.ediv_nonneg (a := a + 24 + m - 1) (b := m) (by omega) (by omega)
      have h3 := Int.mul_nonneg h2 (show 0 ≤ m by omega)
      exact ⟨h3, h1⟩
    go_enter Tryz.func60, Tryz.ntmps60
    go_wp2_with fail
    refine (roundUp_any w (a + 16 + 8) k m HM.out hk (by omega) (by omega)).mono ?_
    rintro e w' ⟨rfl, hE⟩
    rw [hE, show a + 16 + 8 = a + 24 by omega]
    clear hE
    go_wp2
    go_ret
    exact ⟨ret_i E.out, rfl⟩

/-- Where the block begins whose piece stands at a multiple. -/
theorem aligned_facts {a m : Int} {k : Nat} (hm : m = 2 ^ k) (hk3 : 3 ≤ k) (ha8 : a % 8 = 0) : 8 ≤ m ∧ m % 8 = 0 ∧ a ≤ alignedFrom a m ∧ (alignedFrom a m = a ∨ 16 ≤ alignedFrom a m - a) ∧ alignedFrom a m ≤ a + 15 + m ∧ alignedFrom a m % 8 = 0 ∧ (alignedFrom a m + 8) % m = 0 := by
  obtain ⟨j, hj⟩ : ∃ j, k = j + 3 := ⟨k - 3, by omega⟩
  obtain ⟨q, hq⟩ : ∃ q : Int, (2 : Int) ^ j = q := ⟨_, rfl⟩
  have hq0 : 0 < q := by rw [← hq]; exact Int.pow_pos (by decide)
  have e : m = 8 * q := by rw [hm, hj, Int.pow_succ, Int.pow_succ, Int.pow_succ, hq]; omega
  unfold alignedFrom
  by_cases h : (a + 8) % m = 0
  · rw [if_pos h]
    exact ⟨by omega, by omega, by omega, by omega, by omega, ha8, h⟩
  · rw [if_neg h]
    obtain ⟨d, hd⟩ : ∃ d, (a + 24 + m - 1) / m = d := ⟨_, rfl⟩
    rw [hd]
    have h1 := Int.ediv_mul_le (a + 24 + m - 1) (show m ≠ 0 by omega)
    have h2 := Int.lt_ediv_add_one_mul_self (a + 24 + m - 1) (show 0 < m by omega)
    rw [hd] at h1 h2
    rw [Int.add_mul] at h2
    have e8 : d * m = 8 * (d * q) := by rw [e, ← Int.mul_assoc, Int.mul_comm d 8, Int.mul_assoc]
    refine ⟨by omega, by omega, by omega, by omega, by omega, by omega, ?_⟩
    rw [show d * m - 8 + 8 = d * m by omega]
    exact Int.mul_emod_left _ _

def aligned (n : Nat) (g : Mem) (P : Pcs) (mul m : Int) : Option (Int × Mem × Pcs) :=
  match find n g P (needed m + mul + 16) with
  | none => none
  | some (a, z, g1) =>
    if a < alignedFrom a mul then some (alignedFrom a mul + 8, give n (putIn n g1 a (alignedFrom a mul - a)) P (alignedFrom a mul) (a + z - alignedFrom a mul) (needed m))
    else some (a + 8, give n g1 P a z (needed m))

set_option maxRecDepth 100000 in
theorem enters58 : ∀ args w, (callFunc 58 args).run Tryz.prog w = .ok (.enter 58 args) w := enters_of Tryz.func58 (by kernel_rfl) rfl
set_option maxRecDepth 100000 in
theorem may2 (w : World) (p0 p1 : Nat) (mul m : Int) (h0 : w.cell? ⟨p0, 0, none⟩ = some (.int .i64 mul)) (h1 : w.cell? ⟨p1, 0, none⟩ = some (.int .i64 m)) (hm : -9223372036854775808 ≤ mul) :
    Calls Tryz.prog 58 #[.pointer (some ⟨p0, 0, none⟩), .pointer (some ⟨p1, 0, none⟩)] w fun e w' => e = .returned (.bool (isMul mul && mayB m)) ∧ Kp w w' [] := by
  cases hB : isMul mul with
  | false =>
    have HB := hid hB
    clear hB
    go_enter Tryz.func58, Tryz.ntmps58
    go_wp2_with fail
    refine (isMul_any w mul hm).mono ?_
    rintro e w1 ⟨rfl, rfl⟩
    rw [HB.out]
    go_wp2
    go_ret
    exact ⟨rfl, Kp.refl _ _⟩
  | true =>
    have HB := hid hB
    clear hB
    go_enter Tryz.func58, Tryz.ntmps58
    go_wp2_with fail
    refine (isMul_any w mul hm).mono ?_
    rintro e w1 ⟨rfl, rfl⟩
    rw [HB.out]
    go_wp2_with fail
    refine (mayHave_any _ m).mono ?_
    rintro e w2 ⟨rfl, rfl⟩
    go_wp2
    go_ret
    exact ⟨rfl, Kp.refl _ _⟩

set_option maxRecDepth 100000 in
theorem aligned_no (w : World) (hb rb mb pb n : Nat) (g : Mem) (c : Int) (P : Pcs) (mul m : Int) (h : Hp w hb rb mb pb n g c P) (hm0 : -9223372036854775808 ≤ mul) (hm : (isMul mul && mayB m) = false) :
    Calls Tryz.prog 19 #[.pointer (some ⟨hb, 0, none⟩), .int .i64 mul, .int .i64 m] w fun e w' => e = .returned (.tuple #[.int .i64 0, .int .i64 2]) ∧ Kp w w' [] := by
  have A1 := hid ((Kp.alloc w (.cells #[.int .i64 mul] 3) []).trans (Kp.alloc _ (.cells #[.int .i64 m] 3) []))
  have H1 := hid (h.same A1.out)
  have M := hid hm
  clear h hm
  go_enter Tryz.func19, Tryz.ntmps19
  go_wp2_with fail
  refine (refusal_any _ hb rb mb pb n 58 _ g c P (isMul mul && mayB m) H1.out enters58 (may2 _ _ _ mul m (cell_past cell_new0) cell_new1 hm0)).mono ?_
  rintro e w1 ⟨rfl, hK1⟩
  rw [M.out]
  have K1 := hid (A1.out.trans hK1)
  clear hK1
  go_wp2
  go_ret2
  exact ⟨rfl, K1.out⟩
end Go.Proofs.YtgefmnnkpffpcaaGreatDoor
