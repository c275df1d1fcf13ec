/- A class's list, by its links; a block laid in front. No Go is walked here. -/
import Derived.Test.YtgefmnnkpffpcaaGreatDoorHrepMarkJ
namespace Go.Proofs.YtgefmnnkpffpcaaGreatDoor

/-- A block is taken out of its list: its neighbours' links, and what the head is told. -/
theorem takeOut1_at {n : Nat} {g : Mem} {a f next prior : Int} (e1 : rd n g (a + 8) = next) (e2 : rd n g (a + 12) = prior) (w1 : next ≠ 0 → hasW n (next + 12) = true) (w2 : prior ≠ 0 → hasW n (prior + 8) = true) (hne : prior + 8 ≠ next + 12) :
    (takeOut1 n g a f).2 = (if prior = 0 then next else f) ∧ (next ≠ 0 → (takeOut1 n g a f).1 (next + 12).toNat = prior) ∧ (prior ≠ 0 → (takeOut1 n g a f).1 (prior + 8).toNat = next) ∧
      ∀ b : Int, 0 ≤ b → (next ≠ 0 → b ≠ next + 12) → (prior ≠ 0 → b ≠ prior + 8) → (takeOut1 n g a f).1 b.toNat = g b.toNat := by
  unfold takeOut1
  simp only [e1, e2]
  by_cases hn : next = 0
  · rw [if_pos hn]
    by_cases hp : prior = 0
    · rw [if_pos hp, if_pos hp]
      exact ⟨rfl, fun h => absurd hn h, fun h => absurd hp h, fun _ _ _ _ => rfl⟩
    · rw [if_neg hp, if_neg hp]
      have b2 := wr_at (g := g) (x := next) (w2 hp)
      exact ⟨rfl, fun h => absurd hn h, fun _ => b2.1, fun b hb _ n2 => b2.2 b hb (n2 hp)⟩
  · rw [if_neg hn]
    have b1 := wr_at (g := g) (x := prior) (w1 hn)
    by_cases hp : prior = 0
    · rw [if_pos hp, if_pos hp]
      exact ⟨rfl, fun _ => b1.1, fun h => absurd hp h, fun b hb n1 _ => b1.2 b hb (n1 hn)⟩
    · rw [if_neg hp, if_neg hp]
      have b2 := wr_at (g := wr n g (next + 12) prior) (x := next) (w2 hp)
      have q : 0 ≤ next + 12 := by have := w1 hn; unfold hasW at this; simp only [decide_eq_true_eq] at this; omega
      refine ⟨rfl, fun _ => ?_, fun _ => b2.1, fun b hb n1 n2 => ?_⟩
      · show wr n (wr n g (next + 12) prior) (prior + 8) next (next + 12).toNat = prior
        rw [b2.2 (next + 12) q (by omega)]; exact b1.1
      · show wr n (wr n g (next + 12) prior) (prior + 8) next b.toNat = g b.toNat
        rw [b2.2 b hb (n2 hp), b1.2 b hb (n1 hn)]

/-- The links of a list from one on: what comes ahead of it, then each one's two links. -/
def Links (g : Mem) : Int → List Int → Prop
  | _, [] => True
  | p, x :: r => g (x + 12).toNat = p ∧ g (x + 8).toNat = r.headD 0 ∧ Links g x r
/-- Where blocks may begin, and apart. -/
def Starts (F : List Int) : Prop := (∀ x ∈ F, 112 ≤ x ∧ x % 8 = 0) ∧ F.Pairwise fun x y => x + 16 ≤ y ∨ y + 16 ≤ x
/-- Links whose words are the same are the same. -/
theorem Links.congr {g g' : Mem} {p : Int} {F : List Int} (h : Links g p F) (hg : ∀ x ∈ F, g' (x + 8).toNat = g (x + 8).toNat ∧ g' (x + 12).toNat = g (x + 12).toNat) : Links g' p F := by
  induction F generalizing p with
  | nil => trivial
  | cons x r ih =>
    obtain ⟨h1, h2, h3⟩ := h
    have hx := hg x (by simp)
    exact ⟨hx.2.trans h1, hx.1.trans h2, ih h3 fun y hy => hg y (by simp [hy])⟩
/-- A block is laid in front. -/
theorem links_put {g g' : Mem} {a : Int} {F : List Int} (h : Links g 0 F) (hs : Starts (a :: F)) (q1 : g' (a + 8).toNat = F.headD 0) (q2 : g' (a + 12).toNat = 0) (q3 : ∀ f r, F = f :: r → g' (f + 12).toNat = a)
    (q4 : ∀ b : Int, 0 ≤ b → b ≠ a + 8 → b ≠ a + 12 → (∀ f r, F = f :: r → b ≠ f + 12) → (∀ x ∈ F, b = x + 8 ∨ b = x + 12 → g' b.toNat = g b.toNat)) : Links g' 0 (a :: F) := by
  refine ⟨q2, q1, ?_⟩
  cases F with
  | nil => trivial
  | cons f r =>
    obtain ⟨-, h2, h3⟩ := h
    have hs1 := hs.1
    have hp := List.pairwise_cons.1 hs.2
    have hp2 := List.pairwise_cons.1 hp.2
    have haf := hp.1 f (by simp)
    have hfa := hs1 f (by simp)
    have haa := hs1 a (by simp)
    refine ⟨q3 f r rfl, ?_, h3.congr fun x hx => ?_⟩
    · rw [q4 (f + 8) (by omega) (by omega) (by omega) (by rintro f' r' e; cases e; omega) f (by simp) (.inl rfl)]
      exact h2
    · have hax := hp.1 x (by simp [hx])
      have hfx := hp2.1 x hx
      have hxx := hs1 x (by simp [hx])
      exact ⟨q4 (x + 8) (by omega) (by omega) (by omega) (by rintro f' r' e; cases e; omega) x (by simp [hx]) (.inl rfl), q4 (x + 12) (by omega) (by omega) (by omega) (by rintro f' r' e; cases e; omega) x (by simp [hx]) (.inr rfl)⟩
end Go.Proofs.YtgefmnnkpffpcaaGreatDoor

/- A block is taken out of its list: the links behind it. No Go is walked here. -/
namespace Go.Proofs.YtgefmnnkpffpcaaGreatDoor

theorem Starts.tail {x : Int} {F : List Int} (h : Starts (x :: F)) : Starts F := ⟨fun y hy => h.1 y (by simp [hy]), (List.pairwise_cons.1 h.2).2⟩
theorem Starts.ne {x y : Int} {F : List Int} (h : Starts (x :: F)) (hy : y ∈ F) : y ≠ x := by
  have := (List.pairwise_cons.1 h.2).1 y hy
  omega

theorem links_take {g g' : Mem} {p a : Int} {A B : List Int} (h : Links g p (A ++ a :: B)) (hs : Starts (A ++ a :: B))
    (q1 : ∀ y r, B = y :: r → g' (y + 12).toNat = A.getLastD p) (q2 : ∀ x A', A = A' ++ [x] → g' (x + 8).toNat = B.headD 0)
    (q3 : ∀ x ∈ A ++ B, (¬ ∃ A', A = A' ++ [x]) → g' (x + 8).toNat = g (x + 8).toNat) (q4 : ∀ x ∈ A ++ B, (¬ ∃ r, B = x :: r) → g' (x + 12).toNat = g (x + 12).toNat) : Links g' p (A ++ B) := by
  induction A generalizing p with
  | nil =>
    obtain ⟨-, -, h3⟩ := h
    cases B with
    | nil => trivial
    | cons y r =>
      obtain ⟨-, h5, h6⟩ := h3
      have hs' : Starts (y :: r) := Starts.tail hs
      refine ⟨q1 y r rfl, ?_, h6.congr fun x hx => ⟨q3 x (by simp [hx]) (by rintro ⟨A', e⟩; simp at e), q4 x (by simp [hx]) ?_⟩⟩
      · rw [q3 y (by simp) (by rintro ⟨A', e⟩; simp at e)]
        exact h5
      · rintro ⟨r', e⟩
        simp only [List.cons.injEq] at e
        exact hs'.ne hx e.1.symm
  | cons x A ih =>
    obtain ⟨h1, h2, h3⟩ := h
    have hs0 : Starts (x :: (A ++ a :: B)) := hs
    refine ⟨?_, ?_, ih h3 hs0.tail ?_ ?_ ?_ ?_⟩
    · rw [q4 x (by simp) ?_]
      · exact h1
      · rintro ⟨r, e⟩
        exact hs0.ne (y := x) (by rw [e]; simp) rfl
    · cases A with
      | nil => exact q2 x [] rfl
      | cons u A2 =>
        rw [q3 x (by simp) ?_]
        · exact h2
        · rintro ⟨A', e⟩
          have hm : x ∈ u :: A2 := by
            cases A' with
            | nil => simp at e
            | cons v A' =>
              simp only [List.cons_append, List.cons.injEq] at e
              rw [e.2]; simp
          exact hs0.ne (y := x) (by simp at hm ⊢; rcases hm with hm | hm <;> simp [hm]) rfl
    · intro y r e
      have := q1 y r e
      rw [List.getLastD_cons] at this
      exact this
    · intro y A' e
      exact q2 y (x :: A') (by rw [e]; rfl)
    · intro y hy hn
      refine q3 y (by simp at hy ⊢; exact .inr hy) ?_
      rintro ⟨A', e⟩
      cases A' with
      | nil =>
        simp at e
        refine hs0.ne (y := y) ?_ e.1.symm
        rw [e.2] at hy ⊢
        simp at hy ⊢
        exact .inr hy
      | cons v A' =>
        simp only [List.cons_append, List.cons.injEq] at e
        exact hn ⟨A', e.2⟩
    · intro y hy hn
      exact q4 y (by simp at hy ⊢; exact .inr hy) hn
end Go.Proofs.YtgefmnnkpffpcaaGreatDoor

/- The bits of the classes that have any. No Go is walked here. -/
namespace Go.Proofs.YtgefmnnkpffpcaaGreatDoor

theorem mask_bit (c d : Nat) (hc : c < 24) (hd : d < 24) : (18446744073709551615 - 2 ^ c : Nat).testBit d = !decide (d = c) := by
  have key : ∀ c, c < 24 → ∀ d, d < 24 → (18446744073709551615 - 2 ^ c : Nat).testBit d = !decide (d = c) := by decide +kernel
  exact key c hc d hd
/-- One bit is set or cleared; the others stay. -/
theorem bitOf_bits {x c : Nat} {b : Bool} (hx : x < 2 ^ 24) (hc : c < 24) : ∃ y : Nat, bitOf x c b = y ∧ y < 2 ^ 24 ∧ ∀ d, d < 24 → y.testBit d = if d = c then b else x.testBit d := by
  have hand : x &&& (18446744073709551615 - 2 ^ c) < 2 ^ 24 := Nat.lt_of_le_of_lt Nat.and_le_left hx
  have hpow : 2 ^ c < 2 ^ 24 := Nat.pow_lt_pow_right (by decide) hc
  unfold bitOf
  cases b with
  | true =>
    refine ⟨x &&& (18446744073709551615 - 2 ^ c) ||| 2 ^ c, by simp, Nat.or_lt_two_pow hand hpow, fun d hd => ?_⟩
    rw [Nat.testBit_or, Nat.testBit_and, mask_bit c d hc hd, Nat.testBit_two_pow]
    by_cases e : d = c
    · subst e; simp
    · simp [e]
      exact fun h => absurd h.symm e
  | false =>
    refine ⟨x &&& (18446744073709551615 - 2 ^ c), by simp, hand, fun d hd => ?_⟩
    rw [Nat.testBit_and, mask_bit c d hc hd]
    by_cases e : d = c
    · subst e; simp
    · simp [e]
end Go.Proofs.YtgefmnnkpffpcaaGreatDoor
