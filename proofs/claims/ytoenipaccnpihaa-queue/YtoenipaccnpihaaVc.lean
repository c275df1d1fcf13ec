/- Rows of values in memory; sets of bits. -/
import Derived.Shelf.Abstract
import Derived.Test.YtoenipaccnpihaaOwn
import Derived.Test.YtoenipaccnpihaaPl
namespace Go.Proofs.Ytoenipaccnpihaa
open Go.RowKit Go.Shelf
attribute [local go_sem] Oper.semAt_some

def vcl (F : Nat → Value) : Nat → Nat → List Value
  | 0, _ => []
  | k + 1, i => F i :: vcl F k (i + 1)
theorem vcl_length (F : Nat → Value) (k i : Nat) : (vcl F k i).length = k := by
  induction k generalizing i with
  | zero => rfl
  | succ k ih => simp [vcl, ih]
theorem vcl_at (F : Nat → Value) (k i j : Nat) (hj : j < k) : (vcl F k i)[j]? = some (F (i + j)) := by
  induction k generalizing i j with
  | zero => omega
  | succ k ih =>
    cases j with
    | zero => simp [vcl]
    | succ j =>
      simp only [vcl, List.getElem?_cons_succ]
      rw [ih (i + 1) j (by omega), show i + (j + 1) = i + 1 + j by omega]
def updV (F : Nat → Value) (i : Nat) (v : Value) : Nat → Value := fun j => if j = i then v else F j
theorem vcl_set (F : Nat → Value) (k j : Nat) (v : Value) (hj : j < k) : (vcl F k 0).set j v = vcl (updV F j v) k 0 := by
  apply List.ext_getElem?
  intro n
  rw [List.getElem?_set]
  rcases Nat.lt_or_ge n k with hn | hn
  · rw [vcl_at _ k 0 n hn, Nat.zero_add]
    by_cases e : j = n
    · subst e
      rw [if_pos rfl, if_pos (by rw [vcl_length]; exact hj)]
      rw [vcl_at _ k 0 j hj, Nat.zero_add]
      simp [updV]
    · rw [if_neg e, vcl_at _ k 0 n hn, Nat.zero_add]
      have : n ≠ j := fun h => e h.symm
      simp [updV, this]
  · rw [List.getElem?_eq_none (by rw [vcl_length]; exact hn)]
    by_cases e : j = n
    · omega
    · rw [if_neg e, List.getElem?_eq_none (by rw [vcl_length]; exact hn)]
theorem vcl_congr {F G : Nat → Value} (k i : Nat) (h : ∀ j, j < k → F (i + j) = G (i + j)) : vcl F k i = vcl G k i := by
  induction k generalizing i with
  | zero => rfl
  | succ k ih =>
    have h0 := h 0 (by omega)
    simp only [Nat.add_zero] at h0
    simp only [vcl, h0]
    rw [ih (i + 1) (fun j hj => by have := h (j + 1) (by omega); rwa [show i + (j + 1) = i + 1 + j by omega] at this)]
theorem vcl_put {F G : Nat → Value} {k j : Nat} {v : Value} (hj : j < k) (h : ∀ i, i < k → G i = if i = j then v else F i) : (vcl F k 0).set j v = vcl G k 0 := by
  rw [vcl_set F k j v hj]
  refine vcl_congr k 0 fun i hi => ?_
  rw [Nat.zero_add, h i hi]
  rfl
theorem vcl_cell {w : World} {b k t : Nat} {F : Nat → Value} (h : w.heap[b]? = some (.cells (vcl F k 0).toArray t (0, 0))) (i : Nat) (hi : i < k) : w.cell? ⟨b, i, none⟩ = some (F i) := by
  rw [cell_of_row w b i _ _ _ h]
  have := vcl_at F k 0 i hi
  rw [Nat.zero_add] at this
  simpa using this
theorem vcl_heap {w : World} {b k t j : Nat} {F G : Nat → Value} {v : Value} (h : w.heap[b]? = some (.cells (vcl F k 0).toArray t (0, 0))) (hj : j < k) (hg : ∀ i, i < k → G i = if i = j then v else F i) : (w.setCell ⟨b, j, none⟩ v).heap[b]? = some (.cells (vcl G k 0).toArray t (0, 0)) := by
  rw [heap_setCell_same w b j _ t _ h, List.setIfInBounds_toArray, vcl_put hj hg]

theorem ofInt32 (x : Nat) (h : x < 4294967296) : (BitVec.ofInt 32 (x : Int)).toNat = x := by
  rw [BitVec.toNat_ofInt]; omega
theorem wrap32 (x : Nat) (h : x < 4294967296) : IntKind.u32.wrap (x : Int) = x := IntWalk.u32_in _ ⟨by omega, by omega⟩
theorem pow_cast (k : Nat) : (2 : Int) ^ k = ((2 ^ k : Nat) : Int) := by push_cast; rfl
theorem bit_lt {k : Nat} (hk : k < 32) : 2 ^ k < 4294967296 := Nat.pow_lt_pow_right (n := 32) (by decide) hk
theorem shl_bit {k : Nat} (hk : k < 32) : IntKind.u32.wrap (2 ^ k) = ((2 ^ k : Nat) : Int) := by
  rw [pow_cast, wrap32 _ (bit_lt hk)]
theorem or_bits {u v : Nat} (hu : u < 4294967296) (hv : v < 4294967296) : bits .or .u32 (u : Int) (v : Int) = ((u ||| v : Nat) : Int) := by
  show IntKind.u32.wrap ((BitVec.ofInt 32 (u : Int) ||| BitVec.ofInt 32 (v : Int)).toNat : Int) = _
  rw [BitVec.toNat_or, ofInt32 u hu, ofInt32 v hv]
  exact wrap32 _ (Nat.or_lt_two_pow (n := 32) hu hv)
theorem and_bits {u v : Nat} (hu : u < 4294967296) (hv : v < 4294967296) : bits .and .u32 (u : Int) (v : Int) = ((u &&& v : Nat) : Int) := by
  show IntKind.u32.wrap ((BitVec.ofInt 32 (u : Int) &&& BitVec.ofInt 32 (v : Int)).toNat : Int) = _
  rw [BitVec.toNat_and, ofInt32 u hu, ofInt32 v hv]
  exact wrap32 _ (Nat.lt_of_le_of_lt Nat.and_le_left hu)
/-- u without the bits of v. -/
def noB (u v : Nat) : Nat := u &&& (4294967295 - v)
theorem noB_lt {u : Nat} (v : Nat) (hu : u < 4294967296) : noB u v < 4294967296 := Nat.lt_of_le_of_lt Nat.and_le_left hu
theorem not_bits {u v : Nat} (hu : u < 4294967296) (hv : v < 4294967296) : bits .andNot .u32 (u : Int) (v : Int) = (noB u v : Nat) := by
  show IntKind.u32.wrap ((BitVec.ofInt 32 (u : Int) &&& ~~~BitVec.ofInt 32 (v : Int)).toNat : Int) = _
  rw [BitVec.toNat_and, BitVec.toNat_not, ofInt32 u hu, ofInt32 v hv]
  exact wrap32 _ (Nat.lt_of_le_of_lt Nat.and_le_left hu)
theorem noB_testBit {u v : Nat} (hv : v < 4294967296) (q : Nat) (hq : q < 32) : (noB u v).testBit q = (u.testBit q && !v.testBit q) := by
  unfold noB
  rw [Nat.testBit_and]
  have := Nat.testBit_two_pow_sub_succ (x := v) (n := 32) hv q
  rw [show 2 ^ 32 - (v + 1) = 4294967295 - v by omega] at this
  rw [this]
  simp [hq]
theorem big_bit {u q : Nat} (hu : u < 4294967296) (hq : 32 ≤ q) : u.testBit q = false := Nat.testBit_lt_two_pow (Nat.lt_of_lt_of_le hu (Nat.pow_le_pow_right (n := 2) (by decide) hq : 2 ^ 32 ≤ 2 ^ q))
theorem noB_bit {u n : Nat} (hu : u < 4294967296) (hn : n < 32) (q : Nat) : (noB u (2 ^ n)).testBit q = (u.testBit q && !decide (q = n)) := by
  by_cases hq : q < 32
  · rw [noB_testBit (bit_lt hn) q hq, Nat.testBit_two_pow]
    by_cases e : q = n
    · subst e; simp
    · have e' : ¬ n = q := fun h => e h.symm
      simp [e, e']
  · rw [big_bit (noB_lt _ hu) (by omega), big_bit hu (by omega)]
    rfl
theorem and_two (u k : Nat) : (((u &&& 2 ^ k : Nat) : Int) != 0) = u.testBit k := by
  have e : u &&& 2 ^ k = if u.testBit k then 2 ^ k else 0 := by
    apply Nat.eq_of_testBit_eq
    intro i
    rw [Nat.testBit_and, Nat.testBit_two_pow]
    by_cases hi : k = i
    · subst hi
      cases hb : u.testBit k <;> simp
    · cases u.testBit k <;> simp [hi]
  rw [e]
  have : 0 < 2 ^ k := Nat.two_pow_pos k
  cases hb : u.testBit k
  · simp
  · simp only [if_true, bne_iff_ne, ne_eq]
    omega
end Go.Proofs.Ytoenipaccnpihaa
