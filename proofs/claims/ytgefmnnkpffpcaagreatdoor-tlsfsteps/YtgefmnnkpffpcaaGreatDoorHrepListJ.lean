/- A class's list, by its links; a block laid in front. No Go is walked here. -/
import Derived.Test.YtgefmnnkpffpcaaGreatDoorLawJ
namespace Go.Proofs.YtgefmnnkpffpcaaGreatDoor

/-- A block is taken out of its list: its neighbours' links, and what the head is told. -/
theorem takeOut1_at {n : Nat} {g : Mem} {a f next prior : Int} (e1 : rd n g (a + 8) = next) (e2 : rd n g (a + 12) = prior) (w1 : next ≠ 0 → hasW n (next + 12) = true) (w2 : prior ≠ 0 → hasW n (prior + 8) = true) (hne : prior + 8 ≠ next + 12) :
    (takeOut1 n g a f).2 = (if prior = 0 then next else f) ∧ (next ≠ 0 → (takeOut1 n g a f).1 (next + 12).toNat = prior) ∧ (prior ≠ 0 → (takeOut1 n g a f).1 (prior + 8).toNat = next) ∧
      ∀ b : Int, 0 ≤ b → (next ≠ 0 → b ≠ next + 12) → (prior ≠ 0 → b ≠ prior + 8) → (takeOut1 n g a f).1 b.toNat = g b.toNat := by
  unfold takeOut1
  simp only [e1, e2]
  by_cases hn : next = 0
  · rw [if_pos hn]
    by_cases hp : prior = 0
    · rw [if_pos hp, if_pos hp]
      exact ⟨rfl, fun h => absurd hn h, fun h => absurd hp h, fun _ _ _ _ => rfl⟩
    · rw [if_neg hp, if_neg hp]
      have b2 := wr_at (g := g) (x := next) (w2 hp)
      exact ⟨rfl, fun h => absurd hn h, fun _ => b2.1, fun b hb _ n2 => b2.2 b hb (n2 hp)⟩
  · rw [if_neg hn]
    have b1 := wr_at (g := g) (x := prior) (w1 hn)
    by_cases hp : prior = 0
    · rw [if_pos hp, if_pos hp]
      exact ⟨rfl, fun _ => b1.1, fun h => absurd hp h, fun b hb n1 _ => b1.2 b hb (n1 hn)⟩
    · rw [if_neg hp, if_neg hp]
      have b2 := wr_at (g := wr n g (next + 12) prior) (x := next) (w2 hp)
      have q : 0 ≤ next + 12 := by have := w1 hn; unfold hasW at this; simp only [decide_eq_true_eq] at this; omega
      refine ⟨rfl, fun _ => ?_, fun _ => b2.1, fun b hb n1 n2 => ?_⟩
      · show wr n (wr n g (next + 12) prior) (prior + 8) next (next + 12).toNat = prior
        rw [b2.2 (next + 12) q (by omega)]; exact b1.1
      · show wr n (wr n g (next + 12) prior) (prior + 8) next b.toNat = g b.toNat
        rw [b2.2 b hb (n2 hp), b1.2 b hb (n1 hn)]

/-- The links of a list from one on: what comes ahead of it, then each one's two links. -/
def Links (g : Mem) : Int → List Int → Prop
  | _, [] => True
  | p, x :: r => g (x + 12).toNat = p ∧ g (x + 8).toNat = r.headD 0 ∧ Links g x r
/-- Where blocks may begin, and apart. -/
def Starts (F : List Int) : Prop := (∀ x ∈ F, 112 ≤ x ∧ x % 8 = 0) ∧ F.Pairwise fun x y => x + 16 ≤ y ∨ y + 16 ≤ x
/-- Links whose words are the same are the same. -/
theorem Links.congr {g g' : Mem} {p : Int} {F : List Int} (h : Links g p F) (hg : ∀ x ∈ F, g' (x + 8).toNat = g (x + 8).toNat ∧ g' (x + 12).toNat = g (x + 12).toNat) : Links g' p F := by
  induction F generalizing p with
  | nil => trivial
  | cons x r ih =>
    obtain ⟨h1, h2, h3⟩ := h
    have hx := hg x (by simp)
    exact ⟨hx.2.trans h1, hx.1.trans h2, ih h3 fun y hy => hg y (by simp [hy])⟩
/-- A block is laid in front. -/
theorem links_put {g g' : Mem} {a : Int} {F : List Int} (h : Links g 0 F) (hs : Starts (a :: F)) (q1 : g' (a + 8).toNat = F.headD 0) (q2 : g' (a + 12).toNat = 0) (q3 : ∀ f r, F = f :: r → g' (f + 12).toNat = a)
    (q4 : ∀ b : Int, 0 ≤ b → b ≠ a + 8 → b ≠ a + 12 → (∀ f r, F = f :: r → b ≠ f + 12) → (∀ x ∈ F, b = x + 8 ∨ b = x + 12 → g' b.toNat = g b.toNat)) : Links g' 0 (a :: F) := by
  refine ⟨q2, q1, ?_⟩
  cases F with
  | nil => trivial
  | cons f r =>
    obtain ⟨-, h2, h3⟩ := h
    have hs1 := hs.1
    have hp := List.pairwise_cons.1 hs.2
    have hp2 := List.pairwise_cons.1 hp.2
    have haf := hp.1 f (by simp)
    have hfa := hs1 f (by simp)
    have haa := hs1 a (by simp)
    refine ⟨q3 f r rfl, ?_, h3.congr fun x hx => ?_⟩
    · rw [q4 (f + 8) (by omega) (by omega) (by omega) (by rintro f' r' e; cases e; omega) f (by simp) (.inl rfl)]
      exact h2
    · have hax := hp.1 x (by simp [hx])
      have hfx := hp2.1 x hx
      have hxx := hs1 x (by simp [hx])
      exact ⟨q4 (x + 8) (by omega) (by omega) (by omega) (by rintro f' r' e; cases e; omega) x (by simp [hx]) (.inl rfl), q4 (x + 12) (by omega) (by omega) (by omega) (by rintro f' r' e; cases e; omega) x (by simp [hx]) (.inr rfl)⟩
end Go.Proofs.YtgefmnnkpffpcaaGreatDoor

/- A block is taken out of its list: the links behind it. No Go is walked here. -/
namespace Go.Proofs.YtgefmnnkpffpcaaGreatDoor

theorem Starts.tail {x : Int} {F : List Int} (h : Starts (x :: F)) : Starts F := ⟨fun y hy => h.1 y (by simp [hy]), (List.pairwise_cons.1 h.2).2⟩
theorem Starts.ne {x y : Int} {F : List Int} (h : Starts (x :: F)) (hy : y ∈ F) : y ≠ x := by
  have := (List.pairwise_cons.1 h.2).1 y hy
  omega

theorem links_take {g g' : Mem} {p a : Int} {A B : List Int} (h : Links g p (A ++ a :: B)) (hs : Starts (A ++ a :: B))
    (q1 : ∀ y r, B = y :: r → g' (y + 12).toNat = A.getLastD p) (q2 : ∀ x A', A = A' ++ [x] → g' (x + 8).toNat = B.headD 0)
    (q3 : ∀ x ∈ A ++ B, (¬ ∃ A', A = A' ++ [x]) → g' (x + 8).toNat = g (x + 8).toNat) (q4 : ∀ x ∈ A ++ B, (¬ ∃ r, B = x :: r) → g' (x + 12).toNat = g (x + 12).toNat) : Links g' p (A ++ B) := by
  induction A generalizing p with
  | nil =>
    obtain ⟨-, -, h3⟩ := h
    cases B with
    | nil => trivial
    | cons y r =>
      obtain ⟨-, h5, h6⟩ := h3
      have hs' : Starts (y :: r) := Starts.tail hs
      refine ⟨q1 y r rfl, ?_, h6.congr fun x hx => ⟨q3 x (by simp [hx]) (by rintro ⟨A', e⟩; simp at e), q4 x (by simp [hx]) ?_⟩⟩
      · rw [q3 y (by simp) (by rintro ⟨A', e⟩; simp at e)]
        exact h5
      · rintro ⟨r', e⟩
        simp only [List.cons.injEq] at e
        exact hs'.ne hx e.1.symm
  | cons x A ih =>
    obtain ⟨h1, h2, h3⟩ := h
    have hs0 : Starts (x :: (A ++ a :: B)) := hs
    refine ⟨?_, ?_, ih h3 hs0.tail ?_ ?_ ?_ ?_⟩
    · rw [q4 x (by simp) ?_]
      · exact h1
      · rintro ⟨r, e⟩
        exact hs0.ne (y := x) (by rw [e]; simp) rfl
    · cases A with
      | nil => exact q2 x [] rfl
      | cons u A2 =>
        rw [q3 x (by simp) ?_]
        · exact h2
        · rintro ⟨A', e⟩
          have hm : x ∈ u :: A2 := by
            cases A' with
            | nil => simp at e
            | cons v A' =>
              simp only [List.cons_append, List.cons.injEq] at e
              rw [e.2]; simp
          exact hs0.ne (y := x) (by simp at hm ⊢; rcases hm with hm | hm <;> simp [hm]) rfl
    · intro y r e
      have := q1 y r e
      rw [List.getLastD_cons] at this
      exact this
    · intro y A' e
      exact q2 y (x :: A') (by rw [e]; rfl)
    · intro y hy hn
      refine q3 y (by simp at hy ⊢; exact .inr hy) ?_
      rintro ⟨A', e⟩
      cases A' with
      | nil =>
        simp at e
        refine hs0.ne (y := y) ?_ e.1.symm
        rw [e.2] at hy ⊢
        simp at hy ⊢
        exact .inr hy
      | cons v A' =>
        simp only [List.cons_append, List.cons.injEq] at e
        exact hn ⟨A', e.2⟩
    · intro y hy hn
      exact q4 y (by simp at hy ⊢; exact .inr hy) hn
end Go.Proofs.YtgefmnnkpffpcaaGreatDoor

/- The bits of the classes that have any. No Go is walked here. -/
namespace Go.Proofs.YtgefmnnkpffpcaaGreatDoor

theorem mask_bit (c d : Nat) (hc : c < 24) (hd : d < 24) : (18446744073709551615 - 2 ^ c : Nat).testBit d = !decide (d = c) := by
  have key : ∀ c, c < 24 → ∀ d, d < 24 → (18446744073709551615 - 2 ^ c : Nat).testBit d = !decide (d = c) := by decide +kernel
  exact key c hc d hd
/-- One bit is set or cleared; the others stay. -/
theorem bitOf_bits {x c : Nat} {b : Bool} (hx : x < 2 ^ 24) (hc : c < 24) : ∃ y : Nat, bitOf x c b = y ∧ y < 2 ^ 24 ∧ ∀ d, d < 24 → y.testBit d = if d = c then b else x.testBit d := by
  have hand : x &&& (18446744073709551615 - 2 ^ c) < 2 ^ 24 := Nat.lt_of_le_of_lt Nat.and_le_left hx
  have hpow : 2 ^ c < 2 ^ 24 := Nat.pow_lt_pow_right (by decide) hc
  unfold bitOf
  cases b with
  | true =>
    refine ⟨x &&& (18446744073709551615 - 2 ^ c) ||| 2 ^ c, by simp, Nat.or_lt_two_pow hand hpow, fun d hd => ?_⟩
    rw [Nat.testBit_or, Nat.testBit_and, mask_bit c d hc hd, Nat.testBit_two_pow]
    by_cases e : d = c
    · subst e; simp
    · simp [e]
      exact fun h => absurd h.symm e
  | false =>
    refine ⟨x &&& (18446744073709551615 - 2 ^ c), by simp, hand, fun d hd => ?_⟩
    rw [Nat.testBit_and, mask_bit c d hc hd]
    by_cases e : d = c
    · subst e; simp
    · simp [e]
end Go.Proofs.YtgefmnnkpffpcaaGreatDoor

/- The heap's blocks and lists, whole: what words hold them; a block is taken out of its list. No Go is walked here. -/
namespace Go.Proofs.YtgefmnnkpffpcaaGreatDoor

/-- Blocks L, lists F by classes; X: blocks that are in no list for now (their words are not asked for; they count as free in L). -/
structure Rep (n : Nat) (g : Mem) (L : List Bl) (F : Nat → List Int) (X : Int → Prop) : Prop where
  nn : n ≤ 65536
  ct : contig 112 L n
  sz : ∀ b ∈ L, ¬ X b.1 → g b.1.toNat = b.2.1 + (if b.2.2 then 1 else 0)
  ah : ∀ u ∈ L, ∀ y ∈ L, y.1 = u.1 + u.2.1 → ¬ X u.1 → g (y.1 + 4).toNat = u.1
  hd : ∀ c, c < 24 → g (4 + c * 4) = (F c).headD 0
  lk : ∀ c, c < 24 → Links g 0 (F c)
  bt : ∃ y : Nat, g 0 = y ∧ y < 2 ^ 24 ∧ ∀ c, c < 24 → y.testBit c = !(F c).isEmpty
  mb : ∀ c, c < 24 → ∀ a, a ∈ F c ↔ ¬ X a ∧ ∃ z, (a, z, true) ∈ L ∧ cls z = c
  nd : ∀ c, c < 24 → (F c).Nodup
  xf : ∀ a, X a → ∃ z, (a, z, true) ∈ L
  zz : g 100 = 0 ∧ g 104 = 0 ∧ g 108 = 0 ∧ g 116 = 0

theorem Rep.blk {n : Nat} {g : Mem} {L : List Bl} {F : Nat → List Int} {X : Int → Prop} (h : Rep n g L F X) {x : Bl} (hx : x ∈ L) : 112 ≤ x.1 ∧ 16 ≤ x.2.1 ∧ x.2.1 % 8 = 0 ∧ x.1 + x.2.1 ≤ n ∧ x.1 % 8 = 0 := by
  have m := contig_mem h.ct hx
  exact ⟨m.1, m.2.1, m.2.2.1, m.2.2.2.1, m.2.2.2.2 (by decide)⟩
/-- Two blocks' words are apart. -/
theorem Rep.far {n : Nat} {g : Mem} {L : List Bl} {F : Nat → List Int} {X : Int → Prop} (h : Rep n g L F X) {x y : Bl} (hx : x ∈ L) (hy : y ∈ L) : x.1 = y.1 ∨ x.1 + 16 ≤ y.1 ∨ y.1 + 16 ≤ x.1 := by
  have hb := h.blk hx
  have hb' := h.blk hy
  rcases contig_apart h.ct hx hy with e | e | e
  · exact .inl (by rw [e])
  · right; left; omega
  · right; right; omega
theorem Rep.mem {n : Nat} {g : Mem} {L : List Bl} {F : Nat → List Int} {X : Int → Prop} (h : Rep n g L F X) {c : Nat} (hc : c < 24) {a : Int} (ha : a ∈ F c) : ∃ z, (a, z, true) ∈ L ∧ cls z = c := ((h.mb c hc a).1 ha).2
theorem Rep.starts {n : Nat} {g : Mem} {L : List Bl} {F : Nat → List Int} {X : Int → Prop} (h : Rep n g L F X) {c : Nat} (hc : c < 24) : Starts (F c) := by
  refine ⟨fun x hx => ?_, ?_⟩
  · obtain ⟨z, hz, -⟩ := h.mem hc hx
    have := h.blk hz
    simp only at this
    omega
  · refine (h.nd c hc).imp_of_mem ?_
    intro x y hx hy hne
    obtain ⟨z, hz, -⟩ := h.mem hc hx
    obtain ⟨u, hu, -⟩ := h.mem hc hy
    rcases h.far hz hu with e | e
    · exact absurd e hne
    · exact e
/-- One block is in one list. -/
theorem Rep.one {n : Nat} {g : Mem} {L : List Bl} {F : Nat → List Int} {X : Int → Prop} (h : Rep n g L F X) {c d : Nat} (hc : c < 24) (hd : d < 24) {a : Int} (ha : a ∈ F c) (hb : a ∈ F d) : c = d := by
  obtain ⟨z, hz, e1⟩ := h.mem hc ha
  obtain ⟨u, hu, e2⟩ := h.mem hd hb
  have := contig_inj h.ct hz hu rfl
  simp only [Prod.mk.injEq, true_and, and_true] at this
  rw [this] at e1
  omega
theorem links_at {g : Mem} {a : Int} {A B : List Int} : ∀ {p : Int}, Links g p (A ++ a :: B) → g (a + 12).toNat = A.getLastD p ∧ g (a + 8).toNat = B.headD 0 := by
  induction A with
  | nil => intro p h; exact ⟨h.1, h.2.1⟩
  | cons x A ih =>
    intro p h
    have := ih h.2.2
    rw [List.getLastD_cons]
    exact this
theorem headD_app (A B : List Int) : (A ++ B).headD 0 = if A = [] then B.headD 0 else A.headD 0 := by
  cases A <;> simp
theorem last_zero {A : List Int} (h : ∀ x ∈ A, 112 ≤ x) : A.getLastD 0 = 0 ↔ A = [] := by
  rcases List.eq_nil_or_concat A with rfl | ⟨A', x, rfl⟩
  · simp
  · rw [List.concat_eq_append] at *
    have := h x (by simp)
    constructor
    · intro e
      have e2 : (A' ++ [x]).getLastD 0 = x := by simp
      omega
    · intro e; simp at e
theorem head_zero {A : List Int} (h : ∀ x ∈ A, 112 ≤ x) : A.headD 0 = 0 ↔ A = [] := by
  cases A with
  | nil => simp
  | cons x r => have := h x (by simp); simp; omega
/-- The words behind takeOut. -/
theorem takeOut_at {n : Nat} {g : Mem} {L : List Bl} {F : Nat → List Int} {X : Int → Prop} (h : Rep n g L F X) {k : Nat} (hk : k < 24) {a z : Int} {A B : List Int} (hz : cls z = k) (hF : F k = A ++ a :: B) :
    takeOut n g a z (4 + k * 4) = (A ++ B).headD 0 ∧ takeOut n g a z 0 = bitOf (g 0) k ((A ++ B).headD 0 != 0) ∧ (∀ y r, B = y :: r → takeOut n g a z (y + 12).toNat = A.getLastD 0) ∧ (∀ x A', A = A' ++ [x] → takeOut n g a z (x + 8).toNat = B.headD 0) ∧
      ∀ b : Int, 0 < b → b ≠ 4 + k * 4 → (∀ y r, B = y :: r → b ≠ y + 12) → (∀ x A', A = A' ++ [x] → b ≠ x + 8) → takeOut n g a z b.toNat = g b.toNat := by
  have hs := h.starts hk
  have hn : 112 ≤ n := by have := contig_le h.ct; omega
  have hmem : ∀ x ∈ F k, 112 ≤ x ∧ x % 8 = 0 ∧ x + 16 ≤ n := fun x hx => by
    obtain ⟨u, hu, -⟩ := h.mem hk hx
    have := h.blk hu
    simp only at this
    omega
  rw [hF] at hmem hs
  have hlk := h.lk k hk
  rw [hF] at hlk
  obtain ⟨e12, e8⟩ := links_at hlk
  have ha := hmem a (by simp)
  have hw : ∀ x, (112 ≤ x ∧ x % 8 = 0 ∧ x + 16 ≤ (n : Int)) → hasW n (x + 8) = true ∧ hasW n (x + 12) = true := fun x hx => by
    unfold hasW; simp only [decide_eq_true_eq]; omega
  have r8 : rd n g (a + 8) = B.headD 0 := by unfold rd; rw [if_pos (hw a ha).1]; exact e8
  have r12 : rd n g (a + 12) = A.getLastD 0 := by unfold rd; rw [if_pos (hw a ha).2]; exact e12
  have hA : ∀ x ∈ A, 112 ≤ x := fun x hx => (hmem x (by simp [hx])).1
  have hB : ∀ x ∈ B, 112 ≤ x := fun x hx => (hmem x (by simp [hx])).1
  have hAB : ∀ x ∈ A ++ B, 112 ≤ x := fun x hx => by rcases List.mem_append.1 hx with h | h; exact hA x h; exact hB x h
  have nB : B.headD 0 ≠ 0 → ∃ y r, B = y :: r := fun e => by cases B with | nil => exact absurd rfl e | cons y r => exact ⟨y, r, rfl⟩
  have nA : A.getLastD 0 ≠ 0 → ∃ x A', A = A' ++ [x] := fun e => by
    rcases List.eq_nil_or_concat A with rfl | ⟨A', x, rfl⟩
    · exact absurd rfl e
    · exact ⟨x, A', by rw [List.concat_eq_append]⟩
  have T := takeOut1_at (n := n) (g := g) (a := a) (f := rd n g (4 + cls z * 4)) r8 r12
    (fun e => by obtain ⟨y, r, rfl⟩ := nB e; exact (hw y (hmem y (by simp))).2)
    (fun e => by obtain ⟨x, A', rfl⟩ := nA e; simpa using (hw x (hmem x (by simp))).1)
    (by
      have q1 : (A.getLastD 0) % 8 = 0 := by
        by_cases e : A.getLastD 0 = 0
        · rw [e]; rfl
        · obtain ⟨x, A', rfl⟩ := nA e; simpa using (hmem x (by simp)).2.1
      have q2 : (B.headD 0) % 8 = 0 := by
        by_cases e : B.headD 0 = 0
        · rw [e]; rfl
        · obtain ⟨y, r, rfl⟩ := nB e; exact (hmem y (by simp)).2.1
      omega)
  obtain ⟨T1, T2, T3, T4⟩ := T
  have hf : rd n g (4 + cls z * 4) = (A ++ a :: B).headD 0 := by
    unfold rd
    rw [hz, if_pos (hasW_head hn (by omega) (by omega)), show (4 + (k : Int) * 4).toNat = 4 + k * 4 by omega, h.hd k hk, hF]
  have hf' : (takeOut1 n g a (rd n g (4 + cls z * 4))).2 = (A ++ B).headD 0 := by
    rw [T1, hf, headD_app, headD_app]
    by_cases e : A = []
    · rw [if_pos ((last_zero hA).2 e), if_pos e]
    · rw [if_neg (fun x => e ((last_zero hA).1 x)), if_neg e, if_neg e]
  have D := told_at (n := n) (g := (takeOut1 n g a (rd n g (4 + cls z * 4))).1) (c := cls z) (f := (takeOut1 n g a (rd n g (4 + cls z * 4))).2) hn (by omega) (by omega)
  unfold takeOut
  rw [hf'] at D ⊢
  rw [hz] at D ⊢
  rw [hz] at T1 T2 T3 T4 hf
  obtain ⟨D1, D2, D3⟩ := D
  have ek : (4 + (k : Int) * 4).toNat = 4 + k * 4 := by omega
  rw [ek] at D1
  refine ⟨D1, ?_, ?_, ?_, ?_⟩
  · rw [D2]
    have := T4 0 (by omega) (fun e => by obtain ⟨y, r, rfl⟩ := nB e; have := hB y (by simp); simp; omega) (fun e => by obtain ⟨x, A', rfl⟩ := nA e; have := hA x (by simp); simp; omega)
    rw [show (0 : Int).toNat = 0 from rfl] at this
    rw [this, show ((k : Int)).toNat = k by omega]
  · rintro y r rfl
    have hy := hmem y (by simp)
    rw [D3 (y + 12) (by omega) (by omega)]
    exact T2 (by simp; omega)
  · rintro x A' rfl
    have hx := hmem x (by simp)
    rw [D3 (x + 8) (by omega) (by omega)]
    have := T3 (by simp; omega)
    simpa using this
  · intro b hb n1 n2 n3
    rw [D3 b hb n1]
    exact T4 b (by omega) (fun e => by obtain ⟨y, r, rfl⟩ := nB e; exact n2 y r rfl) (fun e => by obtain ⟨x, A', rfl⟩ := nA e; simpa using n3 x A' rfl)
end Go.Proofs.YtgefmnnkpffpcaaGreatDoor

/- A block is taken out of its list: what words hold then. No Go is walked here. -/
namespace Go.Proofs.YtgefmnnkpffpcaaGreatDoor

theorem isEmpty_head {A : List Int} (h : ∀ x ∈ A, 112 ≤ x) : (A.headD 0 != 0) = !A.isEmpty := by
  cases A with
  | nil => rfl
  | cons x r =>
    have := h x (by simp)
    simp; omega
theorem rep_out {n : Nat} {g : Mem} {L : List Bl} {F : Nat → List Int} {X : Int → Prop} (h : Rep n g L F X) {k : Nat} (hk : k < 24) {a z : Int} (hm : (a, z, true) ∈ L) (hX : ¬ X a) (hz : cls z = k) :
    ∃ A B, F k = A ++ a :: B ∧ Rep n (takeOut n g a z) L (fun c => if c = k then A ++ B else F c) (fun y => X y ∨ y = a) := by
  have hin : a ∈ F k := (h.mb k hk a).2 ⟨hX, z, hm, hz⟩
  obtain ⟨A, B, hF⟩ := List.append_of_mem hin
  refine ⟨A, B, hF, ?_⟩
  obtain ⟨t1, t2, t3, t4, t5⟩ := takeOut_at h hk hz hF
  obtain ⟨G, hG⟩ : ∃ G, takeOut n g a z = G := ⟨_, rfl⟩
  rw [hG] at t1 t2 t3 t4 t5 ⊢
  clear hG
  have hsub : ∀ x ∈ A ++ B, x ∈ F k := fun x hx => by rw [hF]; rcases List.mem_append.1 hx with h | h <;> simp [h]
  have hblk : ∀ x ∈ A ++ B, ∃ u, (x, u, true) ∈ L := fun x hx => by obtain ⟨u, hu, -⟩ := h.mem hk (hsub x hx); exact ⟨u, hu⟩
  have hge : ∀ x ∈ A ++ B, 112 ≤ x ∧ x % 8 = 0 := fun x hx => (h.starts hk).1 x (hsub x hx)
  have hA : ∀ x A', A = A' ++ [x] → x ∈ A ++ B := fun x A' e => by rw [e]; simp
  have hB : ∀ y r, B = y :: r → y ∈ A ++ B := fun y r e => by rw [e]; simp
  have nd := h.nd k hk
  rw [hF] at nd
  have nd2 : (A ++ B).Nodup ∧ a ∉ A ++ B := by
    rw [List.nodup_append] at nd ⊢
    obtain ⟨n1, n2, n3⟩ := nd
    obtain ⟨n4, n5⟩ := List.nodup_cons.1 n2
    refine ⟨⟨n1, n5, fun x hx y hy => n3 x hx y (by simp [hy])⟩, fun hm => ?_⟩
    rcases List.mem_append.1 hm with hm | hm
    · exact n3 a hm a (by simp) rfl
    · exact n4 hm
  have same : ∀ b ∈ L, G b.1.toNat = g b.1.toNat ∧ G (b.1 + 4).toNat = g (b.1 + 4).toNat := fun b hb => by
    have m := h.blk hb
    refine ⟨t5 b.1 (by omega) (by omega) (fun y r e => ?_) (fun x A' e => ?_), t5 (b.1 + 4) (by omega) (by omega) (fun y r e => ?_) (fun x A' e => ?_)⟩
    · have := hge y (hB y r e); omega
    · obtain ⟨u, hu⟩ := hblk x (hA x A' e)
      have := h.far hb hu
      simp only at this
      omega
    · obtain ⟨u, hu⟩ := hblk y (hB y r e)
      have := h.far hb hu
      simp only at this
      omega
    · have := hge x (hA x A' e); omega
  refine ⟨h.nn, h.ct, ?_, ?_, ?_, ?_, ?_, ?_, ?_, ?_, ?_⟩
  · intro b hb hx
    rw [(same b hb).1]
    exact h.sz b hb (fun e => hx (.inl e))
  · intro u hu y hy e hx
    rw [(same y hy).2]
    exact h.ah u hu y hy e (fun e => hx (.inl e))
  · intro c hc
    by_cases e : c = k
    · subst e; rw [if_pos rfl]; exact t1
    · rw [if_neg e, ← h.hd c hc]
      have := t5 (4 + c * 4) (by omega) (by omega) (fun y r e => by have := hge y (hB y r e); omega) (fun x A' e => by have := hge x (hA x A' e); omega)
      rw [show (4 + (c : Int) * 4).toNat = 4 + c * 4 by omega] at this
      exact this
  · intro c hc
    by_cases e : c = k
    · subst e
      rw [if_pos rfl]
      have hl := h.lk c hc
      have hs := h.starts hc
      rw [hF] at hl hs
      refine links_take hl hs (fun y r e => t3 y r e) (fun x A' e => t4 x A' e) (fun x hx hno => ?_) (fun x hx hno => ?_)
      · have hxg := hge x hx
        refine t5 (x + 8) (by omega) (by omega) (fun y r e => ?_) (fun x' A' e => ?_)
        · have := hge y (hB y r e); omega
        · intro e2
          have : x = x' := by omega
          subst this
          exact hno ⟨A', e⟩
      · have hxg := hge x hx
        refine t5 (x + 12) (by omega) (by omega) (fun y r e => ?_) (fun x' A' e => ?_)
        · intro e2
          have : x = y := by omega
          subst this
          exact hno ⟨r, e⟩
        · have := hge x' (hA x' A' e); omega
    · rw [if_neg e]
      refine (h.lk c hc).congr fun x hx => ?_
      have hxg := (h.starts hc).1 x hx
      have hne : ∀ y ∈ A ++ B, x ≠ y := fun y hy e2 => by
        subst e2
        exact e (h.one hc hk hx (hsub x hy))
      refine ⟨t5 (x + 8) (by omega) (by omega) (fun y r e => ?_) (fun x' A' e => ?_), t5 (x + 12) (by omega) (by omega) (fun y r e => ?_) (fun x' A' e => ?_)⟩
      · have := hge y (hB y r e); omega
      · have := hne x' (hA x' A' e); omega
      · have := hne y (hB y r e); omega
      · have := hge x' (hA x' A' e); omega
  · obtain ⟨y, hy, hy2, hbits⟩ := h.bt
    rw [hy] at t2
    obtain ⟨y', e1, e2, e3⟩ := bitOf_bits (b := ((A ++ B).headD 0 != 0)) hy2 hk
    refine ⟨y', by rw [t2, e1], e2, fun c hc => ?_⟩
    rw [e3 c hc]
    by_cases e : c = k
    · rw [if_pos e, if_pos e, isEmpty_head (fun x hx => (hge x hx).1)]
    · rw [if_neg e, if_neg e, hbits c hc]
  · intro c hc x
    by_cases e : c = k
    · subst e
      rw [if_pos rfl]
      constructor
      · intro hx
        have := (h.mb c hc x).1 (hsub x hx)
        refine ⟨fun q => ?_, this.2⟩
        rcases q with q | q
        · exact this.1 q
        · exact nd2.2 (q ▸ hx)
      · rintro ⟨q, hh⟩
        have := (h.mb c hc x).2 ⟨fun e => q (.inl e), hh⟩
        rw [hF] at this
        simp only [List.mem_append, List.mem_cons] at this ⊢
        rcases this with h1 | h1 | h1
        · exact .inl h1
        · exact absurd (.inr h1) q
        · exact .inr h1
    · rw [if_neg e, h.mb c hc x]
      constructor
      · rintro ⟨q1, q2⟩
        refine ⟨fun q => ?_, q2⟩
        rcases q with q | q
        · exact q1 q
        · subst q
          exact e (h.one hc hk ((h.mb c hc x).2 ⟨q1, q2⟩) hin)
      · rintro ⟨q1, q2⟩
        exact ⟨fun q => q1 (.inl q), q2⟩
  · intro c hc
    by_cases e : c = k
    · rw [if_pos e]; exact nd2.1
    · rw [if_neg e]; exact h.nd c hc
  · rintro x (q | q)
    · exact h.xf x q
    · exact ⟨z, q ▸ hm⟩
  · have hz3 : ∀ b : Int, 100 ≤ b → b < 120 → b ≠ 112 → G b.toNat = g b.toNat := fun b b1 b2 b3 =>
      t5 b (by omega) (by omega) (fun y r e => by have := hge y (hB y r e); omega) (fun x A' e => by have := hge x (hA x A' e); omega)
    obtain ⟨q1, q2, q3, q4⟩ := h.zz
    exact ⟨(hz3 100 (by omega) (by omega) (by omega)).trans q1, (hz3 104 (by omega) (by omega) (by omega)).trans q2, (hz3 108 (by omega) (by omega) (by omega)).trans q3, (hz3 116 (by omega) (by omega) (by omega)).trans q4⟩
end Go.Proofs.YtgefmnnkpffpcaaGreatDoor
