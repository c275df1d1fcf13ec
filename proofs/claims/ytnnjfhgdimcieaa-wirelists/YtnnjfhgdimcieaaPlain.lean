/- There and back, on lists of numbers: no Go is walked here. -/
import Derived.Test.YtnnjfhgdimcieaaWrite
namespace Go.Proofs.Ytnnjfhgdimcieaa
open Go.RowKit

theorem digit_eq (k i acc : Nat) : acc + (k % 128) * 128 ^ i + (k / 128) * 128 ^ (i + 1) = acc + k * 128 ^ i := by
  have hk' : k = 128 * (k / 128) + k % 128 := by omega
  generalize k / 128 = q at *
  generalize k % 128 = s at *
  subst hk'
  rw [Nat.pow_succ]
  generalize 128 ^ i = p
  rw [Nat.add_mul, Nat.mul_comm p 128, ← Nat.mul_assoc, Nat.mul_comm q 128]
  omega

theorem nine_le (k i : Nat) (h9 : i = 9) (h : k * 128 ^ i < 18446744073709551616) : k ≤ 1 := by
  subst h9
  have e : (128 : Nat) ^ 9 = 9223372036854775808 := by decide
  rw [e] at h
  omega

theorem rnum_digs (f : Nat) : ∀ (i k acc : Nat) (r : List Int), i + f = 9 → k * 128 ^ i < 18446744073709551616 → (0 < i → 0 < k) → rnum i acc (digs f k ++ r) = some (acc + k * 128 ^ i, r) := by
  induction f with
  | zero =>
    intro i k acc r hi hk h0
    have h1 := nine_le k i (by omega) hk
    have h2 := h0 (by omega)
    clear hk
    simp only [digs, List.cons_append, List.nil_append, rnum]
    rw [if_neg (by omega), if_neg (by omega), if_pos (by omega)]
    simp
  | succ f ih =>
    intro i k acc r hi hk h0
    have h9 : i = 9 → k ≤ 1 := fun e => nine_le k i e hk
    have hk2 : k / 128 * 128 ^ (i + 1) < 18446744073709551616 := by have := digit_eq k i 0; omega
    clear hk
    rw [digs]
    split
    · rename_i hc
      have e : (((k % 128 + 128 : Nat) : Int).toNat - 128) = k % 128 := by omega
      simp only [List.cons_append, rnum]
      rw [if_neg (by omega), if_neg (by omega), if_neg (by omega), e, ih (i + 1) (k / 128) _ r (by omega) hk2 (by omega), digit_eq]
    · rename_i hc
      clear hk2
      simp only [List.cons_append, List.nil_append, rnum]
      rw [if_neg (by omega), if_neg (by omega), if_pos (by omega)]
      simp

theorem rnum_num (n : Nat) (r : List Int) (h : n < 18446744073709551616) : rnum 0 0 (num n ++ r) = some (n, r) := by
  unfold num
  rw [rnum_digs 9 0 n 0 r rfl (by simpa using h) (fun h => by omega)]
  simp

theorem num_rnum' : ∀ (l : List Int) (i acc n : Nat) (r : List Int), Byt l → i ≤ 9 → rnum i acc l = some (n, r) → ∃ k, n = acc + k * 128 ^ i ∧ l = digs (9 - i) k ++ r ∧ (0 < i → 0 < k) := by
  intro l
  induction l with
  | nil => intro i acc n r _ _ h; simp [rnum] at h
  | cons c l ih =>
    intro i acc n r hb hi h
    obtain ⟨c0, c1⟩ := hb c (by simp)
    obtain ⟨d, rfl⟩ := Int.eq_ofNat_of_zero_le c0
    rw [rnum] at h
    split at h
    · cases h
    · rename_i h9
      split at h
      · cases h
      · rename_i h0
        split at h
        · rename_i h128
          simp only [Option.some.injEq, Prod.mk.injEq, Int.toNat_natCast] at h
          obtain ⟨rfl, rfl⟩ := h
          refine ⟨d, rfl, ?_, by omega⟩
          generalize 9 - i = g
          cases g with
          | zero => rfl
          | succ g => rw [digs, if_neg (by omega)]; rfl
        · rename_i h128
          obtain ⟨k, hn, hl, hk⟩ := ih (i + 1) _ n r (fun x hx => hb x (by simp [hx])) (by omega) h
          have hk0 := hk (by omega)
          refine ⟨k * 128 + (d - 128), ?_, ?_, by omega⟩
          · rw [hn]
            have e := digit_eq (k * 128 + (d - 128)) i acc
            rw [show (k * 128 + (d - 128)) % 128 = d - 128 by omega, show (k * 128 + (d - 128)) / 128 = k by omega] at e
            rw [← e, Int.toNat_natCast]
          · rw [hl, show 9 - i = (9 - (i + 1)) + 1 by omega, digs, if_pos (by omega), show (k * 128 + (d - 128)) / 128 = k by omega, show (k * 128 + (d - 128)) % 128 + 128 = d by omega]
            rfl

theorem num_rnum {l : List Int} {n : Nat} {r : List Int} (hb : Byt l) (h : rnum 0 0 l = some (n, r)) : l = num n ++ r := by
  obtain ⟨k, hn, hl, -⟩ := num_rnum' l 0 0 n r hb (by omega) h
  simp at hn
  subst hn
  exact hl

theorem byt_digs (f : Nat) : ∀ k, k < 256 * 128 ^ f → Byt (digs f k) := by
  induction f with
  | zero =>
    intro k hk x hx
    simp [digs] at hx
    subst hx
    simp at hk
    omega
  | succ f ih =>
    intro k hk x hx
    rw [digs] at hx
    split at hx
    · rcases List.mem_cons.1 hx with rfl | hx
      · omega
      · refine ih (k / 128) ?_ x hx
        rw [Nat.div_lt_iff_lt_mul (by decide), Nat.mul_assoc, ← Nat.pow_succ]
        exact hk
    · simp at hx
      omega
theorem byt_num (n : Nat) (h : n < 18446744073709551616) : Byt (num n) := byt_digs 9 n (Nat.lt_of_lt_of_le h (by decide))
theorem Byt.append {a b : List Int} (ha : Byt a) (hb : Byt b) : Byt (a ++ b) := fun x hx => (List.mem_append.1 hx).elim (ha x) (hb x)
theorem byt_byt (l : List Int) (hl : Byt l) (h : l.length < 18446744073709551616) : Byt (byt l) := (byt_num _ h).append hl
theorem byt_flag (b : Bool) : Byt (flagN b) := by cases b <;> simp [flagN, Byt]

/-- A number without a sign, unfolded. -/
def unf (n : Nat) : Int := if n % 2 = 1 then -((n / 2 : Nat) : Int) - 1 else ((n / 2 : Nat) : Int)
theorem unf_fold (n : Int) : unf (fold n) = n := by
  unfold unf fold
  split <;> split <;> omega

theorem rbytes_byt (most : Int) (l r : List Int) (hm : (l.length : Int) ≤ most) (h : l.length < 18446744073709551616) : rbytes most (byt l ++ r) = .ok (l, r) := by
  unfold rbytes rcnt byt
  rw [if_neg (by omega), List.append_assoc, rnum_num _ _ h]
  simp only
  rw [if_neg (by omega)]
  simp only
  rw [if_neg (by simp), List.take_left, List.drop_left]

theorem byt_rbytes {most : Int} {l d r : List Int} (hb : Byt l) (h : rbytes most l = .ok (d, r)) : l = byt d ++ r := by
  unfold rbytes at h
  split at h
  · cases h
  · rename_i n r0 hc
    obtain ⟨-, -, hn⟩ := rcnt_ok hc
    split at h
    · cases h
    · rename_i hlt
      simp only [Except.ok.injEq, Prod.mk.injEq] at h
      obtain ⟨rfl, rfl⟩ := h
      rw [byt, show (List.take n r0).length = n by simp; omega, List.append_assoc, List.take_append_drop]
      exact num_rnum hb hn

theorem rbytes_err {most e : Int} {l : List Int} (hm : 0 ≤ most) (h : rbytes most l = .error e) : e = 3 ∨ e = 4 := by
  unfold rbytes rcnt at h
  rw [if_neg (by omega)] at h
  split at h
  · rename_i hc
    cases h
    split at hc
    · cases hc; exact .inr rfl
    · split at hc <;> cases hc
      exact .inl rfl
  · split at h <;> cases h
    exact .inr rfl

/-- Cut by its last byte. -/
theorem rbytes_cut (most : Int) (l : List Int) (hm : (l.length : Int) ≤ most) (h : l.length < 18446744073709551616) : rbytes most ((byt l).take ((byt l).length - 1)) = .error 4 := by
  by_cases hl : l = []
  · subst hl
    have e : (byt []).take ((byt []).length - 1) = [] := by decide
    rw [e]
    unfold rbytes rcnt
    rw [if_neg (by simp at hm; omega)]
    rfl
  · have hpos : 0 < l.length := by cases l <;> simp_all
    have e : (byt l).take ((byt l).length - 1) = num l.length ++ l.take (l.length - 1) := by
      unfold byt
      rw [List.length_append, show (num l.length).length + l.length - 1 = (num l.length).length + (l.length - 1) by omega, List.take_length_add_append]
    rw [e]
    unfold rbytes rcnt
    rw [if_neg (by omega), rnum_num _ _ h]
    simp only
    rw [if_neg (by omega)]
    simp only
    rw [if_pos (by simp; omega)]

theorem fold_lt (n : Int) (h0 : -9223372036854775808 ≤ n) (h1 : n ≤ 9223372036854775807) : fold n < 18446744073709551616 := by
  unfold fold
  split <;> omega
end Go.Proofs.Ytnnjfhgdimcieaa
