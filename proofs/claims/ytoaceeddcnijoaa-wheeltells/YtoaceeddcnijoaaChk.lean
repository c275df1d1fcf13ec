/- Parts that are sorted, merged two by two. No Go is walked here. -/
import Derived.Test.YtoaceeddcnijoaaSrt
namespace Go.Proofs.Ytoaceeddcnijoaa

/-- The first j parts are sorted, the rest is as it was. -/
def P1 (bs : Nat) (l L : List Dl) (j : Nat) : Prop := L.length = l.length ∧ (∀ i, i < j → St (sg bs i l) (sg bs i L)) ∧ L.drop (j * bs) = l.drop (j * bs)
/-- The first j double parts are sorted, and all parts behind. -/
def M1 (bs : Nat) (l L : List Dl) (j : Nat) : Prop := L.length = l.length ∧ (∀ i, i < j → St (sg (2 * bs) i l) (sg (2 * bs) i L)) ∧ ∀ i, 2 * j ≤ i → St (sg bs i l) (sg bs i L)

theorem p1_start (bs : Nat) (l : List Dl) : P1 bs l l 0 := ⟨rfl, fun i hi => by omega, rfl⟩
theorem take_mid (L : List Dl) (a c : Nat) : L = L.take a ++ ((L.drop a).take c ++ L.drop (a + c)) := by
  conv => lhs; rw [← List.take_append_drop a L, ← List.take_append_drop c (L.drop a)]
  rw [List.drop_drop]
theorem sg_far {bs i : Nat} {A X Z R : List Dl} (h : A.length + Z.length ≤ i * bs) (hX : X.length = Z.length) : sg bs i (A ++ Z ++ R) = sg bs i (A ++ X ++ R) := by
  unfold sg
  rw [List.drop_append, List.drop_append (l₁ := A ++ X), List.drop_eq_nil_of_le (as := A ++ Z) (by simp; omega), List.drop_eq_nil_of_le (as := A ++ X) (by simp; omega)]
  simp only [List.length_append, hX]
theorem p1_step {bs j : Nat} {l L Z : List Dl} (h : P1 bs l L j) (hn : (j + 1) * bs ≤ L.length) (hZ : St (sg bs j L) Z) : P1 bs l (L.take (j * bs) ++ Z ++ L.drop (j * bs + bs)) (j + 1) := by
  obtain ⟨h1, h2, h3⟩ := h
  rw [Nat.add_mul, Nat.one_mul] at hn
  have e := take_mid L (j * bs) bs
  have lA : (L.take (j * bs)).length = j * bs := by rw [List.length_take]; omega
  have lX : (sg bs j L).length = bs := by unfold sg; rw [List.length_take, List.length_drop]; omega
  have lZ := hZ.length
  have eX : sg bs j l = sg bs j L := by unfold sg; rw [h3]
  refine ⟨?_, fun i hi => ?_, ?_⟩
  · simp only [List.length_append, List.length_drop, lA]; omega
  · by_cases q : i = j
    · subst q
      rw [sg_at lA (.inl (by omega)) (by omega), eX]
      exact hZ
    · have := h2 i (by omega)
      rw [sg_put (X := sg bs j L) lA lZ.symm (.inl lX) (by omega) q, List.append_assoc]
      rw [show L.take (j * bs) ++ (sg bs j L ++ L.drop (j * bs + bs)) = L from e.symm]
      exact this
  · rw [Nat.add_mul, Nat.one_mul, List.drop_left' (by simp only [List.length_append, lA]; omega), ← List.drop_drop, ← List.drop_drop, h3]
theorem p1_end {bs j : Nat} {l L Z : List Dl} (h : P1 bs l L j) (hn : L.length < (j + 1) * bs) (hj : j * bs ≤ L.length) (hZ : St (L.drop (j * bs)) Z) : Ch bs l (L.take (j * bs) ++ Z) := by
  obtain ⟨h1, h2, h3⟩ := h
  rw [Nat.add_mul, Nat.one_mul] at hn
  have lA : (L.take (j * bs)).length = j * bs := by rw [List.length_take]; omega
  have lX : (L.drop (j * bs)).length ≤ bs := by rw [List.length_drop]; omega
  have lZ := hZ.length
  have lX2 : (L.drop (j * bs)).length = L.length - j * bs := List.length_drop
  refine ⟨by simp only [List.length_append, lA]; omega, fun i => ?_⟩
  rcases Nat.lt_trichotomy i j with q | q | q
  · have := h2 i q
    have e := sg_put (bs := bs) (j := j) (i := i) (A := L.take (j * bs)) (X := L.drop (j * bs)) (Z := Z) (R := []) lA lZ.symm (.inr rfl) lX (by omega)
    rw [List.append_nil, List.append_nil, List.take_append_drop] at e
    rw [e]; exact this
  · subst q
    have e := sg_at (bs := bs) (j := i) (A := L.take (i * bs)) (X := Z) (R := []) lA (.inr rfl) (by omega)
    rw [List.append_nil] at e
    rw [e]
    have : sg bs i l = L.drop (i * bs) := by unfold sg; rw [← h3, List.take_of_length_le lX]
    rw [this]; exact hZ
  · have hm : (j + 1) * bs ≤ i * bs := Nat.mul_le_mul_right _ q
    rw [Nat.add_mul, Nat.one_mul] at hm
    rw [sg_past (by omega), sg_past (by simp only [List.length_append, lA]; omega)]
    exact st_nil
theorem m1_start {bs : Nat} {l L : List Dl} (h : Ch bs l L) : M1 bs l L 0 := ⟨h.1, fun i hi => by omega, fun i _ => h.2 i⟩
theorem two_mul' (bs j : Nat) : j * (2 * bs) = 2 * j * bs := by rw [← Nat.mul_assoc, Nat.mul_comm j 2]
theorem m1_parts {bs j : Nat} {l L : List Dl} (_ : M1 bs l L j) : L = L.take (j * (2 * bs)) ++ (sg bs (2 * j) L ++ (sg bs (2 * j + 1) L ++ L.drop (j * (2 * bs) + 2 * bs))) := by
  have e := take_mid L (j * (2 * bs)) (2 * bs)
  have e2 := sg_two bs j L
  unfold sg at e2
  rw [e2] at e
  conv => lhs; rw [e]
  unfold sg
  simp
theorem m1_step {bs j : Nat} {l L Z : List Dl} (h : M1 bs l L j) (hn : (j + 1) * (2 * bs) ≤ L.length) (hZ : St (sg bs (2 * j) L ++ sg bs (2 * j + 1) L) Z) : M1 bs l (L.take (j * (2 * bs)) ++ (Z ++ L.drop (j * (2 * bs) + 2 * bs))) (j + 1) := by
  have ep := m1_parts h
  obtain ⟨h1, h2, h3⟩ := h
  rw [Nat.add_mul, Nat.one_mul] at hn
  have lA : (L.take (j * (2 * bs))).length = j * (2 * bs) := by rw [List.length_take]; omega
  have lZ := hZ.length
  have lX : (sg bs (2 * j) L ++ sg bs (2 * j + 1) L).length = 2 * bs := by rw [← sg_two]; unfold sg; rw [List.length_take, List.length_drop]; omega
  have ep' : L.take (j * (2 * bs)) ++ (sg bs (2 * j) L ++ sg bs (2 * j + 1) L) ++ L.drop (j * (2 * bs) + 2 * bs) = L := by rw [List.append_assoc, List.append_assoc]; exact ep.symm
  rw [← List.append_assoc]
  refine ⟨?_, fun i hi => ?_, fun i hi => ?_⟩
  · simp only [List.length_append, List.length_drop, lA]; omega
  · by_cases q : i = j
    · subst q
      rw [sg_at lA (.inl (by omega)) (by omega), sg_two]
      exact St.parts (h3 (2 * i) (by omega)) (h3 (2 * i + 1) (by omega)) hZ
    · have := h2 i (by omega)
      rw [sg_put (X := sg bs (2 * j) L ++ sg bs (2 * j + 1) L) lA lZ.symm (.inl lX) (by omega) q, ep']
      exact this
  · have hm : (2 * j + 2) * bs ≤ i * bs := Nat.mul_le_mul_right _ (by omega)
    rw [Nat.add_mul] at hm
    have e2 := two_mul' bs j
    rw [sg_far (X := sg bs (2 * j) L ++ sg bs (2 * j + 1) L) (by rw [lA]; omega) lZ.symm, ep']
    exact h3 i (by omega)
theorem m1_merge {bs j : Nat} {l L Z : List Dl} (h : M1 bs l L j) (hn : L.length < (j + 1) * (2 * bs)) (hj : j * (2 * bs) ≤ L.length) (hZ : St (sg bs (2 * j) L ++ sg bs (2 * j + 1) L) Z) : Ch (2 * bs) l (L.take (j * (2 * bs)) ++ Z) := by
  have ep := m1_parts h
  obtain ⟨h1, h2, h3⟩ := h
  rw [Nat.add_mul, Nat.one_mul] at hn
  rw [List.drop_eq_nil_of_le (by omega), List.append_nil] at ep
  have lA : (L.take (j * (2 * bs))).length = j * (2 * bs) := by rw [List.length_take]; omega
  have lZ := hZ.length
  have lX : (sg bs (2 * j) L ++ sg bs (2 * j + 1) L).length = L.length - j * (2 * bs) := by
    have := congrArg List.length ep
    rw [List.length_append, lA] at this
    omega
  refine ⟨by simp only [List.length_append, lA]; omega, fun i => ?_⟩
  rcases Nat.lt_trichotomy i j with q | q | q
  · have := h2 i q
    have e := sg_put (bs := 2 * bs) (j := j) (i := i) (A := L.take (j * (2 * bs))) (X := sg bs (2 * j) L ++ sg bs (2 * j + 1) L) (Z := Z) (R := []) lA lZ.symm (.inr rfl) (by omega) (by omega)
    rw [List.append_nil, List.append_nil, ← ep] at e
    rw [e]; exact this
  · subst q
    have e := sg_at (bs := 2 * bs) (j := i) (A := L.take (i * (2 * bs))) (X := Z) (R := []) lA (.inr rfl) (by omega)
    rw [List.append_nil] at e
    rw [e, sg_two]
    exact St.parts (h3 (2 * i) (by omega)) (h3 (2 * i + 1) (by omega)) hZ
  · have hm : (j + 1) * (2 * bs) ≤ i * (2 * bs) := Nat.mul_le_mul_right _ q
    rw [Nat.add_mul, Nat.one_mul] at hm
    rw [sg_past (by omega), sg_past (by simp only [List.length_append, lA]; omega)]
    exact st_nil
theorem m1_rest {bs j : Nat} {l L : List Dl} (h : M1 bs l L j) (hn : L.length ≤ j * (2 * bs) + bs) : Ch (2 * bs) l L := by
  obtain ⟨h1, h2, h3⟩ := h
  have e2 := two_mul' bs j
  have past : ∀ i, 2 * j + 1 ≤ i → ∀ M : List Dl, M.length = L.length → sg bs i M = [] := fun i hi M hM => by
    have hm : (2 * j + 1) * bs ≤ i * bs := Nat.mul_le_mul_right _ hi
    rw [Nat.add_mul, Nat.one_mul] at hm
    exact sg_past (by omega)
  refine ⟨h1, fun i => ?_⟩
  rcases Nat.lt_trichotomy i j with q | q | q
  · exact h2 i q
  · subst q
    rw [sg_two, sg_two, past (2 * i + 1) (by omega) l h1.symm, past (2 * i + 1) (by omega) L rfl, List.append_nil, List.append_nil]
    exact h3 (2 * i) (by omega)
  · rw [sg_two, sg_two, past (2 * i) (by omega) l h1.symm, past (2 * i + 1) (by omega) l h1.symm, past (2 * i) (by omega) L rfl, past (2 * i + 1) (by omega) L rfl]
    exact st_nil
end Go.Proofs.Ytoaceeddcnijoaa
