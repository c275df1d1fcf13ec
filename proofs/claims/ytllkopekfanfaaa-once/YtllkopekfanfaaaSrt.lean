/- Stable sorting and merging, on lists. No Go is walked here. -/
import Derived.WalkKit
namespace Go.Proofs.Ytllkopekfanfaaa

/-- A deadline: its number, its time. -/
abbrev Dl := Int × Int
/-- Those of one time. -/
def fk (t : Int) (l : List Dl) : List Dl := l.filter fun x => x.2 == t
def Asc (l : List Dl) : Prop := l.Pairwise fun x y => x.2 ≥ y.2
/-- z is l, sorted by times; those of one time stand as in l. -/
def St (l z : List Dl) : Prop := Asc z ∧ ∀ t, fk t z = fk t l

theorem fk_append (t : Int) (a b : List Dl) : fk t (a ++ b) = fk t a ++ fk t b := List.filter_append ..
theorem fk_cons (t : Int) (x : Dl) (l : List Dl) : fk t (x :: l) = if x.2 = t then x :: fk t l else fk t l := by
  unfold fk
  rw [List.filter_cons]
  by_cases h : x.2 = t <;> simp [h]
theorem fk_none {t : Int} {l : List Dl} (h : ∀ x ∈ l, x.2 ≠ t) : fk t l = [] := by
  unfold fk
  rw [List.filter_eq_nil_iff]
  intro x hx
  simp [h x hx]
theorem mem_fk {t : Int} {l : List Dl} {x : Dl} : x ∈ fk t l ↔ x ∈ l ∧ x.2 = t := by simp [fk]
theorem Asc.left {a b : List Dl} (h : Asc (a ++ b)) : Asc a := (List.pairwise_append.1 h).1
theorem Asc.right {a b : List Dl} (h : Asc (a ++ b)) : Asc b := (List.pairwise_append.1 h).2.1
theorem Asc.cross {a b : List Dl} (h : Asc (a ++ b)) : ∀ x ∈ a, ∀ y ∈ b, x.2 ≥ y.2 := (List.pairwise_append.1 h).2.2
theorem asc_append {a b : List Dl} (h1 : Asc a) (h2 : Asc b) (h : ∀ x ∈ a, ∀ y ∈ b, x.2 ≥ y.2) : Asc (a ++ b) := List.pairwise_append.2 ⟨h1, h2, h⟩
theorem Asc.st {l : List Dl} (h : Asc l) : St l l := ⟨h, fun _ => rfl⟩

theorem St.perm {l z : List Dl} (h : St l z) : z.Perm l := by
  rw [List.perm_iff_count]
  intro x
  have e : ∀ l : List Dl, l.count x = (fk x.2 l).count x := fun l => by
    unfold fk
    rw [List.count_filter (by simp)]
  rw [e z, e l, h.2]
theorem St.length {l z : List Dl} (h : St l z) : z.length = l.length := h.perm.length_eq
theorem St.mem {l z : List Dl} (h : St l z) {x : Dl} : x ∈ z ↔ x ∈ l := h.perm.mem_iff

theorem asc_ext : ∀ {z z' : List Dl}, Asc z → Asc z' → (∀ t, fk t z = fk t z') → z = z'
  | [], z', _, _, h => by
    cases z' with
    | nil => rfl
    | cons y r =>
      have := h y.2
      rw [fk_cons, if_pos rfl] at this
      cases this
  | x :: r, [], _, _, h => by
    have := h x.2
    rw [fk_cons, if_pos rfl] at this
    cases this
  | x :: r, y :: r', h1, h2, h => by
    have a1 := List.pairwise_cons.1 h1
    have a2 := List.pairwise_cons.1 h2
    have lo : ∀ {u v : Dl} {p q : List Dl}, (∀ w ∈ q, v.2 ≥ w.2) → fk u.2 (u :: p) = fk u.2 (v :: q) → v.2 ≥ u.2 := by
      intro u v p q hq e
      have hm : u ∈ fk u.2 (v :: q) := by rw [← e]; exact mem_fk.2 ⟨by simp, rfl⟩
      have := (mem_fk.1 hm).1
      rcases List.mem_cons.1 this with rfl | hw
      · exact Int.le_refl _
      · exact hq _ hw
    have e1 := lo a2.1 (h x.2)
    have e2 := lo a1.1 (h y.2).symm
    have e : x.2 = y.2 := by omega
    have ht := h x.2
    rw [fk_cons, fk_cons, if_pos rfl, if_pos e.symm] at ht
    obtain ⟨rfl, hr⟩ := List.cons.inj ht
    rw [asc_ext a1.2 a2.2 fun t => ?_]
    have ht := h t
    rw [fk_cons, fk_cons] at ht
    by_cases q : x.2 = t
    · subst q; exact hr
    · rw [if_neg q, if_neg q] at ht; exact ht
theorem St.unique {l z z' : List Dl} (h : St l z) (h' : St l z') : z = z' := asc_ext h.1 h'.1 fun t => (h.2 t).trans (h'.2 t).symm
theorem St.of_fk {l l' z : List Dl} (h : St l z) (e : ∀ t, fk t l = fk t l') : St l' z := ⟨h.1, fun t => (h.2 t).trans (e t)⟩
/-- One behind the other, where no time of the first is greater. -/
theorem St.append {a b x y : List Dl} (h1 : St a x) (h2 : St b y) (h : ∀ p ∈ a, ∀ q ∈ b, p.2 ≥ q.2) : St (a ++ b) (x ++ y) :=
  ⟨asc_append h1.1 h2.1 fun p hp q hq => h p (h1.mem.1 hp) q (h2.mem.1 hq), fun t => by rw [fk_append, fk_append, h1.2, h2.2]⟩
/-- Sorted parts, sorted. -/
theorem St.parts {a b x y z : List Dl} (h1 : St a x) (h2 : St b y) (h : St (x ++ y) z) : St (a ++ b) z :=
  h.of_fk fun t => by rw [fk_append, fk_append, h1.2, h2.2]
/-- Two parts change places: no time stands in both. -/
theorem fk_swap {a b : List Dl} (h : ∀ p ∈ a, ∀ q ∈ b, q.2 > p.2) (t : Int) : fk t (a ++ b) = fk t (b ++ a) := by
  rw [fk_append, fk_append]
  by_cases e : fk t a = []
  · rw [e, List.append_nil, List.nil_append]
  · have : fk t b = [] := by
      obtain ⟨p, hp⟩ := List.exists_mem_of_ne_nil _ e
      obtain ⟨hp, ep⟩ := mem_fk.1 hp
      refine fk_none fun q hq => ?_
      have := h p hp q hq
      omega
    rw [this, List.append_nil, List.nil_append]
/-- symMerge's parting: the two halves are sorted each. -/
theorem st_halves {a1 a2 b1 b2 z1 z2 : List Dl} (hA : Asc (a1 ++ a2)) (hB : Asc (b1 ++ b2)) (h1 : St (a1 ++ b1) z1) (h2 : St (a2 ++ b2) z2) (hs : ∀ p ∈ a2, ∀ q ∈ b1, q.2 > p.2) (hc : ∀ p ∈ a1, ∀ q ∈ b2, p.2 ≥ q.2) :
    St ((a1 ++ a2) ++ (b1 ++ b2)) (z1 ++ z2) := by
  have h : St ((a1 ++ b1) ++ (a2 ++ b2)) (z1 ++ z2) := by
    refine h1.append h2 fun p hp q hq => ?_
    rcases List.mem_append.1 hp with hp | hp
    · rcases List.mem_append.1 hq with hq | hq
      · exact hA.cross p hp q hq
      · exact hc p hp q hq
    · rcases List.mem_append.1 hq with hq | hq
      · have := hs q hq p hp; omega
      · exact hB.cross p hp q hq
  refine h.of_fk fun t => ?_
  have e := fk_swap hs t
  rw [fk_append, fk_append] at e
  simp only [fk_append, List.append_assoc]
  rw [← List.append_assoc (fk t b1), ← e, List.append_assoc]
/-- One ahead of the others comes to its place. -/
theorem st_front {x : Dl} {y1 y2 : List Dl} (hB : Asc (y1 ++ y2)) (h1 : ∀ q ∈ y1, q.2 > x.2) (h2 : ∀ q ∈ y2, x.2 ≥ q.2) : St ([x] ++ (y1 ++ y2)) (y1 ++ x :: y2) := by
  have h := st_halves (a1 := []) (a2 := [x]) (b1 := y1) (b2 := y2) (z1 := y1) (z2 := x :: y2) (List.pairwise_singleton _ _) hB hB.left.st (Asc.st (asc_append (a := [x]) (List.pairwise_singleton _ _) hB.right fun p hp q hq => by rw [List.mem_singleton.1 hp]; exact h2 q hq))
    (fun p hp q hq => by rw [List.mem_singleton.1 hp]; exact h1 q hq) (fun p hp => by cases hp)
  exact h
/-- One behind the others comes to its place. -/
theorem st_back {y : Dl} {x1 x2 : List Dl} (hA : Asc (x1 ++ x2)) (h1 : ∀ q ∈ x1, q.2 ≥ y.2) (h2 : ∀ q ∈ x2, y.2 > q.2) : St ((x1 ++ x2) ++ [y]) (x1 ++ y :: x2) := by
  have h := st_halves (a1 := x1) (a2 := x2) (b1 := [y]) (b2 := []) (z1 := x1 ++ [y]) (z2 := x2) hA (List.pairwise_singleton _ _) (Asc.st (asc_append hA.left (List.pairwise_singleton _ _) fun p hp q hq => by rw [List.mem_singleton.1 hq]; exact h1 p hp)) (by rw [List.append_nil]; exact hA.right.st)
    (fun p hp q hq => by rw [List.mem_singleton.1 hq]; exact h2 p hp) (fun p _ q hq => by cases hq)
  simpa using h

/-! ### Parts of a fixed length -/
def sg (bs i : Nat) (l : List Dl) : List Dl := (l.drop (i * bs)).take bs
/-- Each part of bs is sorted. -/
def Ch (bs : Nat) (l z : List Dl) : Prop := z.length = l.length ∧ ∀ i, St (sg bs i l) (sg bs i z)
theorem Ch.whole {bs : Nat} {l z : List Dl} (h : Ch bs l z) (hb : l.length ≤ bs) : St l z := by
  have := h.2 0
  unfold sg at this
  rw [Nat.zero_mul, List.drop_zero, List.drop_zero, List.take_of_length_le hb, List.take_of_length_le (by rw [h.1]; exact hb)] at this
  exact this
theorem sg_two (bs i : Nat) (l : List Dl) : sg (2 * bs) i l = sg bs (2 * i) l ++ sg bs (2 * i + 1) l := by
  unfold sg
  have e1 : i * (2 * bs) = 2 * i * bs := by rw [← Nat.mul_assoc, Nat.mul_comm i 2]
  have e2 : (2 * i + 1) * bs = 2 * i * bs + bs := by rw [Nat.add_mul, Nat.one_mul]
  rw [e1, e2, Nat.two_mul, List.take_add, List.drop_drop]
theorem sg_past {bs i : Nat} {l : List Dl} (h : l.length ≤ i * bs) : sg bs i l = [] := by
  unfold sg
  rw [List.drop_eq_nil_of_le h, List.take_nil]
theorem st_nil : St [] [] := ⟨List.Pairwise.nil, fun _ => rfl⟩
/-- A part is put in place of another: others stay. -/
theorem sg_put {bs j i : Nat} {A X Z R : List Dl} (hA : A.length = j * bs) (hX : X.length = Z.length) (hR : X.length = bs ∨ R = []) (hX2 : X.length ≤ bs) (hi : i ≠ j) : sg bs i (A ++ Z ++ R) = sg bs i (A ++ X ++ R) := by
  unfold sg
  rcases Nat.lt_or_gt_of_ne hi with h | h
  · have hm : (i + 1) * bs ≤ j * bs := Nat.mul_le_mul_right _ h
    rw [Nat.add_mul, Nat.one_mul] at hm
    rw [List.append_assoc, List.append_assoc, List.drop_append_of_le_length (by omega), List.drop_append_of_le_length (by omega), List.take_append_of_le_length (by rw [List.length_drop]; omega), List.take_append_of_le_length (by rw [List.length_drop]; omega)]
  · have hm : (j + 1) * bs ≤ i * bs := Nat.mul_le_mul_right _ h
    rw [Nat.add_mul, Nat.one_mul] at hm
    rcases hR with e | rfl
    · rw [List.drop_append, List.drop_append (l₁ := A ++ X), List.drop_eq_nil_of_le (as := A ++ Z) (by simp; omega), List.drop_eq_nil_of_le (as := A ++ X) (by simp; omega)]
      simp only [List.length_append, hX]
    · rw [List.append_nil, List.append_nil, List.drop_eq_nil_of_le (by simp; omega), List.drop_eq_nil_of_le (by simp; omega)]
theorem sg_at {bs j : Nat} {A X R : List Dl} (hA : A.length = j * bs) (hR : X.length = bs ∨ R = []) (hX2 : X.length ≤ bs) : sg bs j (A ++ X ++ R) = X := by
  unfold sg
  rw [← hA, List.append_assoc, List.drop_left]
  rcases hR with e | rfl
  · rw [← e, List.take_left]
  · rw [List.append_nil, List.take_of_length_le hX2]
end Go.Proofs.Ytllkopekfanfaaa
