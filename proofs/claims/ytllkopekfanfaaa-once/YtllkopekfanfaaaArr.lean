/- Rows as lists: exchanging two; insertion sort is stable. No Go is walked here. -/
import Derived.Test.YtllkopekfanfaaaSrt
import Derived.Sort.LotA
namespace Go.Proofs.Ytllkopekfanfaaa
open Go.Sort

theorem set_at (A : List Dl) (x y : Dl) (B : List Dl) : (A ++ x :: B).set A.length y = A ++ y :: B := by
  induction A with
  | nil => rfl
  | cons a A ih => simp [ih]
theorem get_at (A : List Dl) (x : Dl) (B : List Dl) : (A ++ x :: B)[A.length]! = x := by
  simp
theorem arr_get (L : List Dl) (i : Nat) : L.toArray[i]! = L[i]! := by simp
theorem swp_up (A : List Dl) (x : Dl) (M : List Dl) (y : Dl) (R : List Dl) (i j : Nat) (hi : i = A.length) (hj : j = A.length + 1 + M.length) : swp (A ++ x :: (M ++ y :: R)).toArray i j = (A ++ y :: (M ++ x :: R)).toArray := by
  subst hi
  have e1 : A ++ x :: (M ++ y :: R) = (A ++ x :: M) ++ y :: R := by simp
  have l1 : (A ++ x :: M).length = j := by simp; omega
  have g1 : (A ++ x :: (M ++ y :: R)).toArray[j]! = y := by rw [arr_get, e1, ← l1, get_at]
  have g2 : (A ++ x :: (M ++ y :: R)).toArray[A.length]! = x := by rw [arr_get, get_at]
  unfold swp
  rw [g1, g2]
  simp only [List.setIfInBounds_toArray, set_at]
  congr 1
  have e2 : A ++ y :: (M ++ y :: R) = (A ++ y :: M) ++ y :: R := by simp
  have l2 : (A ++ y :: M).length = j := by simp; omega
  rw [e2, ← l2, set_at]
  simp
theorem swp_comm (d : Array Dl) {i j : Nat} (hi : i < d.size) (hj : j < d.size) : swp d i j = swp d j i := by
  apply Array.ext
  · simp [swp_size]
  · intro k h1 h2
    have g1 := swp_get d hi hj k
    have g2 := swp_get d hj hi k
    rw [getElem!_pos _ k h1] at g1
    rw [getElem!_pos _ k h2] at g2
    rw [g1, g2]
    by_cases e1 : k = j
    · by_cases e2 : k = i
      · rw [if_pos e1, if_pos e2, ← e1, ← e2]
      · rw [if_pos e1, if_neg e2, if_pos e1]
    · rw [if_neg e1]
      by_cases e2 : k = i
      · rw [if_pos e2, if_pos e2]
      · rw [if_neg e2, if_neg e2, if_neg e1]
theorem swp_down (A : List Dl) (x : Dl) (M : List Dl) (y : Dl) (R : List Dl) (i j : Nat) (hi : i = A.length) (hj : j = A.length + 1 + M.length) : swp (A ++ x :: (M ++ y :: R)).toArray j i = (A ++ y :: (M ++ x :: R)).toArray := by
  rw [swp_comm _ (by simp; omega) (by simp; omega)]
  exact swp_up A x M y R i j hi hj

/-- A list, parted at a place. -/
theorem part_at {L : List Dl} {i : Nat} (h : i < L.length) : L = L.take i ++ L[i]! :: L.drop (i + 1) := by
  rw [getElem!_pos L i h]
  simp
def ltD (x y : Dl) : Bool := decide (y.2 < x.2)
theorem swoD : SWO ltD where
  irrefl x := by simp [ltD]
  trans x y z h1 h2 := by simp [ltD] at *; omega
  ntrans x y z h1 h2 := by simp [ltD] at *; omega

theorem fk_adj {d : Array Dl} {j : Nat} (hj : j + 1 < d.size) (hl : ltD d[j + 1]! d[j]! = true) (t : Int) : fk t (swp d (j + 1) j).toList = fk t d.toList := by
  obtain ⟨L⟩ := d
  have hj' : j + 1 < L.length := by simpa using hj
  have e := part_at (L := L) (i := j) (by omega)
  have e2 := part_at (L := L.drop (j + 1)) (i := 0) (by rw [List.length_drop]; omega)
  have g0 : (L.drop (j + 1))[0]! = L[j + 1]! := by
    rw [getElem!_pos _ 0 (by rw [List.length_drop]; omega), getElem!_pos L (j + 1) hj', List.getElem_drop]
  have hl' : L[j]!.2 < L[j + 1]!.2 := by simpa [ltD] using hl
  rw [g0] at e2
  rw [List.take_zero, List.nil_append] at e2
  obtain ⟨x, hx⟩ : ∃ x, L[j]! = x := ⟨_, rfl⟩
  obtain ⟨y, hy⟩ : ∃ y, L[j + 1]! = y := ⟨_, rfl⟩
  rw [hx, hy] at hl'
  rw [hx] at e
  rw [hy] at e2
  obtain ⟨A, hA⟩ : ∃ A, L.take j = A := ⟨_, rfl⟩
  have lA : A.length = j := by rw [← hA, List.length_take]; omega
  rw [e2, hA] at e
  obtain ⟨R, hR⟩ : ∃ R, (L.drop (j + 1)).drop (0 + 1) = R := ⟨_, rfl⟩
  rw [hR] at e
  clear hA hR e2 g0 hx hy hl
  subst e
  have := swp_down A x [] y R j (j + 1) lA.symm (by simp; omega)
  simp only [List.nil_append] at this
  rw [show ({ toList := A ++ x :: y :: R } : Array Dl) = (A ++ x :: y :: R).toArray from rfl, this]
  simp only [fk_append, fk_cons]
  by_cases q : x.2 = t <;> by_cases r : y.2 = t <;> simp [q, r]
  omega
theorem fk_inner (a : Nat) : ∀ (j : Nat) (d : Array Dl), j < d.size → ∀ t, fk t (insInner ltD a j d).toList = fk t d.toList
  | 0, d, _, t => rfl
  | j + 1, d, h, t => by
    unfold insInner
    by_cases c : (j + 1 > a && ltD d[j + 1]! d[j]!) = true
    · rw [if_pos c, fk_inner a j _ (by rw [swp_size]; omega) t]
      exact fk_adj h (by simp at c; exact c.2) t
    · rw [if_neg c]
theorem size_inner (a : Nat) : ∀ (j : Nat) (d : Array Dl), (insInner ltD a j d).size = d.size
  | 0, d => rfl
  | j + 1, d => by
    unfold insInner
    split
    · rw [size_inner a j, swp_size]
    · rfl
theorem fk_outer (a b : Nat) : ∀ (n i : Nat) (d : Array Dl), b - i ≤ n → b ≤ d.size → ∀ t, fk t (insOuter ltD a b i d).toList = fk t d.toList := by
  intro n
  induction n with
  | zero =>
    intro i d hn _ t
    unfold insOuter
    rw [if_neg (by omega)]
  | succ n ih =>
    intro i d hn hb t
    unfold insOuter
    by_cases c : i < b
    · rw [if_pos c, ih _ _ (by omega) (by rw [size_inner]; exact hb), fk_inner a i d (by omega)]
    · rw [if_neg c]
theorem get_of_eq {d d' : Array Dl} {i : Nat} (hi : i < d.size) (hi' : i < d'.size) (h : d'[i]! = d[i]!) : d'[i] = d[i] := by
  rwa [getElem!_pos _ i hi', getElem!_pos _ i hi] at h
/-- Insertion sort of a part: it is sorted, stably. -/
theorem ins_st (A X R : List Dl) (a b : Nat) (ha : a = A.length) (hb : b = A.length + X.length) : ∃ Z, St X Z ∧ insertionSort ltD (A ++ X ++ R).toArray a b = (A ++ Z ++ R).toArray := by
  obtain ⟨⟨p1, p2, p3⟩, hs⟩ := insertionSort_holds (lt := ltD) swoD (A ++ X ++ R).toArray a b (by omega) (by simp; omega)
  have hf := fk_outer a b (b - (a + 1)) (a + 1) (A ++ X ++ R).toArray (Nat.le_refl _) (by simp; omega)
  rw [show insOuter ltD a b (a + 1) (A ++ X ++ R).toArray = insertionSort ltD (A ++ X ++ R).toArray a b from rfl] at hf
  obtain ⟨L, hL⟩ : ∃ L : List Dl, insertionSort ltD (A ++ X ++ R).toArray a b = L.toArray := ⟨_, (Array.toArray_toList).symm⟩
  rw [hL] at p1 p2 hs hf ⊢
  have ll : L.length = A.length + X.length + R.length := by have := p1; simp at this; omega
  have tA : L.take a = A := by
    apply List.ext_getElem
    · rw [List.length_take]; omega
    · intro i h1 h2
      rw [List.getElem_take]
      have := p2 i (by omega)
      rw [arr_get, arr_get, getElem!_pos _ i (by omega), getElem!_pos _ i (by simp; omega)] at this
      rw [this, List.getElem_append_left (by simp; omega), List.getElem_append_left h2]
  have tR : L.drop b = R := by
    apply List.ext_getElem
    · rw [List.length_drop]; omega
    · intro i h1 h2
      rw [List.getElem_drop]
      have := p2 (b + i) (by omega)
      rw [arr_get, arr_get, getElem!_pos _ (b + i) (by omega), getElem!_pos _ (b + i) (by simp; omega)] at this
      rw [this, List.getElem_append_right (by simp; omega)]
      congr 1
      simp; omega
  obtain ⟨Z, hZ⟩ : ∃ Z, (L.drop a).take (b - a) = Z := ⟨_, rfl⟩
  have e : L = A ++ Z ++ R := by
    have h1 : L = L.take a ++ L.drop a := (List.take_append_drop a L).symm
    have h2 : L.drop a = Z ++ L.drop b := by
      have := (List.take_append_drop (b - a) (L.drop a)).symm
      rw [hZ, List.drop_drop, show a + (b - a) = b by omega] at this
      exact this
    rw [h2, tA, tR] at h1
    rw [List.append_assoc]
    exact h1
  have lZ : Z.length = X.length := by rw [e] at ll; simp at ll; omega
  clear tA tR hZ
  subst e
  refine ⟨Z, ⟨?_, fun t => ?_⟩, rfl⟩
  · unfold Asc
    rw [List.pairwise_iff_getElem]
    intro i j hi hj hij
    have := hs (a + i) (a + j) (by omega) (by omega) (by omega)
    rw [arr_get, arr_get, getElem!_pos _ (a + i) (by simp; omega), getElem!_pos _ (a + j) (by simp; omega)] at this
    have q : ∀ k (hk : k < Z.length), (A ++ Z ++ R)[a + k]'(by simp; omega) = Z[k] := fun k hk => by
      rw [List.getElem_append_left (by simp; omega), List.getElem_append_right (by omega)]
      congr 1
      omega
    rw [q i hi, q j hj] at this
    simp [ltD] at this
    exact this
  · have := hf t
    simp only [fk_append] at this
    exact List.append_cancel_left (List.append_cancel_right this)
end Go.Proofs.Ytllkopekfanfaaa
