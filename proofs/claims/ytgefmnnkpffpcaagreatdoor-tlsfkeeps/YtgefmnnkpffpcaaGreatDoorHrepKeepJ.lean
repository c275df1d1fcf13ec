/- What lies in pieces stays there, whatever is done to other blocks. No Go is walked here. -/
import Derived.Test.YtgefmnnkpffpcaaGreatDoorHrepAllocJ
namespace Go.Proofs.YtgefmnnkpffpcaaGreatDoor

/-- An offset within one of the pieces. -/
def inQ (P : Pcs) (o : Int) : Prop := ∃ p ∈ P, p.1 ≤ o ∧ o < p.1 - 8 + p.2
/-- Words of free blocks, and of the blocks' own fronts, are in no piece. -/
theorem inQ_free {n : Nat} {g : Mem} {L : List Bl} {F : Nat → List Int} {X : Int → Prop} (h : Rep n g L F X) {o : Int} (ho : inQ (piecesOf L) o) {y z : Int} (hy : (y, z, true) ∈ L) : (o < y ∨ y + z + 8 ≤ o) ∧ 120 ≤ o := by
  obtain ⟨p, hp, h1, h2⟩ := ho
  obtain ⟨a, ha, e⟩ := mem_pieces.1 hp
  have ba := h.blk ha
  have by1 := h.blk hy
  simp only at ba by1
  refine ⟨?_, by omega⟩
  rcases contig_apart h.ct ha hy with q | q | q
  · simp only [Prod.mk.injEq] at q
    exact absurd q.2.2 (by decide)
  · simp only at q; left; omega
  · simp only at q; right; omega
theorem out_keep {n : Nat} {g : Mem} {L : List Bl} {F : Nat → List Int} {X : Int → Prop} (h : Rep n g L F X) {a z : Int} (hm : (a, z, true) ∈ L) (hX : ¬ X a) {o : Int} (ho : inQ (piecesOf L) o) : takeOut n g a z o.toNat = g o.toNat := by
  have mb := h.blk hm
  simp only at mb
  obtain ⟨k, hk, hz⟩ := cls_bd (z := z) (by omega) (by have := h.nn; omega)
  have hin : a ∈ F k := (h.mb k hk a).2 ⟨hX, z, hm, hz⟩
  obtain ⟨A, B, hF⟩ := List.append_of_mem hin
  obtain ⟨-, -, -, -, t5⟩ := takeOut_at h hk hz hF
  have h120 := (inQ_free h ho hm).2
  have far : ∀ y, y ∈ F k → o ≠ y + 12 ∧ o ≠ y + 8 := fun y hy => by
    obtain ⟨u, hu, -⟩ := h.mem hk hy
    have := (inQ_free h ho hu).1
    have := h.blk hu
    simp only at this
    omega
  refine t5 o (by omega) (by omega) (fun y r e => (far y (by rw [hF, e]; simp)).1) (fun x A' e => (far x (by rw [hF, e]; simp)).2)
theorem in_keep {n : Nat} {g : Mem} {L : List Bl} {F : Nat → List Int} {X : Int → Prop} (h : Rep n g L F X) {a z : Int} (hm : (a, z, true) ∈ L) (hX : X a) {o : Int} (ho : inQ (piecesOf L) o) : putIn n g a z o.toNat = g o.toNat := by
  have mb := h.blk hm
  simp only at mb
  obtain ⟨k, hk, hz⟩ := cls_bd (z := z) (by omega) (by have := h.nn; omega)
  obtain ⟨-, -, -, -, -, -, -, t8⟩ := putIn_at h hk hm hX hz
  have h0 := inQ_free h ho hm
  refine t8 o (by omega) (by omega) (by omega) (by omega) (by omega) (by omega) (fun f r e => ?_)
  obtain ⟨u, hu, -⟩ := h.mem hk (show f ∈ F k by rw [e]; simp)
  have := (inQ_free h ho hu).1
  have := h.blk hu
  simp only at this
  omega
theorem freed_keep {n : Nat} {g : Mem} {A r : List Bl} {F : Nat → List Int} {a z : Int} (h : Rep n g (A ++ (a, z, true) :: r) F (fun y => y = a)) {o : Int} (ho : inQ (piecesOf (A ++ (a, z, true) :: r)) o) :
    freed n g (piecesOf (A ++ (a, z, true) :: r)) a z o.toNat = g o.toNat := by
  obtain ⟨P, hP⟩ : ∃ P, piecesOf (A ++ (a, z, true) :: r) = P := ⟨_, rfl⟩
  have hoP : inQ P o := by rw [← hP]; exact ho
  have step : ∃ g1, freed n g P a z = freedB n P a g1 (behX z r F).1 ∧ Rep n g1 (A ++ (a, (behX z r F).1, true) :: (behX z r F).2.1) (behX z r F).2.2 (fun y => y = a) ∧ piecesOf (A ++ (a, (behX z r F).1, true) :: (behX z r F).2.1) = P ∧ g1 o.toNat = g o.toNat := by
    cases r with
    | nil =>
      have he : a + z = n := (contig_split h.ct).2.2.2
      exact ⟨g, freedB_none (by rw [he, freeAt_end]), h, hP, rfl⟩
    | cons y r' =>
      obtain ⟨b, s, f⟩ := y
      have hb : b = a + z := contig_next h.ct
      have hmb : (b, s, f) ∈ A ++ (a, z, true) :: (b, s, f) :: r' := by simp
      have hma : (a, z, true) ∈ A ++ (a, z, true) :: (b, s, f) :: r' := by simp
      have mb := h.blk hmb
      have ma := h.blk hma
      simp only at mb ma
      have hba : b ≠ a := by omega
      cases f with
      | false =>
        have := freeAt_taken (n := n) (g := g) hmb rfl
        rw [hP] at this
        simp only at this
        exact ⟨g, freedB_none (by rw [← hb, this]), h, hP, rfl⟩
      | true =>
        have hfr := h.free hmb hba
        rw [hP] at hfr
        have h1 := rep_outX h hmb hba
        have h2 := rep_join h1 (.inl rfl) (.inr rfl)
        refine ⟨takeOut n g b s, ?_, ?_, ?_, out_keep h hmb hba ho⟩
        · rw [hb] at hfr ⊢
          exact freedB_some hfr
        · refine h2.iff fun y => ?_
          constructor
          · rintro ⟨q | q, q2⟩
            · exact q
            · exact absurd q q2
          · intro q; exact ⟨.inl q, by omega⟩
        · show piecesOf (A ++ (a, z + s, true) :: r') = P
          rw [← hP, pieces_app, pieces_app]; rfl
  obtain ⟨g1, e1, h1, hP1, hg1⟩ := step
  obtain ⟨z1, hz1⟩ : ∃ z1, (behX z r F).1 = z1 := ⟨_, rfl⟩
  obtain ⟨r1, hr1⟩ : ∃ r1, (behX z r F).2.1 = r1 := ⟨_, rfl⟩
  obtain ⟨F1, hF1⟩ : ∃ F1, (behX z r F).2.2 = F1 := ⟨_, rfl⟩
  rw [hz1, hr1, hF1] at h1
  rw [hz1, hr1] at hP1
  rw [hz1] at e1
  have hma : (a, z1, true) ∈ A ++ (a, z1, true) :: r1 := by simp
  have ma := h1.blk hma
  simp only at ma
  have put : putIn n g1 a z1 o.toNat = g o.toNat := (in_keep h1 hma rfl (by rw [hP1]; exact hoP)).trans hg1
  rw [hP, e1]
  unfold freedB
  rcases List.eq_nil_or_concat A with rfl | ⟨A', x, hA⟩
  · have ha : a = 112 := h1.ct.1
    cases hf : freeAt n g1 P (rd n g1 (a + 4)) with
    | none => exact put
    | some s =>
      have := freeAt_may hf
      simp only
      rw [if_neg (by omega)]
      exact put
  · obtain ⟨p, s, f⟩ := x
    rw [List.concat_eq_append] at hA
    subst hA
    have hL : (A' ++ [(p, s, f)]) ++ (a, z1, true) :: r1 = A' ++ (p, s, f) :: (a, z1, true) :: r1 := by simp
    rw [hL] at h1 hP1 hma
    have hpa : a = p + s := contig_next h1.ct
    have hmp : (p, s, f) ∈ A' ++ (p, s, f) :: (a, z1, true) :: r1 := by simp
    have mp := h1.blk hmp
    simp only at mp
    have hne : p ≠ a := by omega
    have hw : hasW n (a + 4) = true := by unfold hasW; simp only [decide_eq_true_eq]; omega
    have hr : rd n g1 (a + 4) = p := by
      unfold rd
      rw [if_pos hw]
      exact h1.ah _ hmp _ hma hpa hne
    rw [hr]
    cases f with
    | false =>
      have := freeAt_taken (n := n) (g := g1) hmp rfl
      rw [hP1] at this
      simp only at this
      rw [this]
      exact put
    | true =>
      have hfr := h1.free hmp hne
      rw [hP1] at hfr
      rw [hfr]
      simp only
      rw [if_pos hpa.symm]
      have h2 := rep_outX h1 hmp hne
      have h3 := rep_join h2 (.inr rfl) (.inl rfl)
      have hm3 : (p, s + z1, true) ∈ A' ++ (p, s + z1, true) :: r1 := by simp
      have hP3 : piecesOf (A' ++ (p, s + z1, true) :: r1) = P := by
        rw [← hP1, pieces_app, pieces_app]; rfl
      have k1 := in_keep h3 hm3 ⟨.inr rfl, hne⟩ (by rw [hP3]; exact hoP)
      have k2 := out_keep h1 hmp hne (by rw [hP1]; exact hoP)
      exact k1.trans (k2.trans hg1)
/-- Where a block is given, what lies in the other pieces stays. -/
theorem give_keep {n : Nat} {g : Mem} {A r : List Bl} {F : Nat → List Int} {a z s : Int} (h : Rep n g (A ++ (a, z, true) :: r) F (fun y => y = a)) (h1 : 16 ≤ s) (h2 : s % 8 = 0) {o : Int} (ho : inQ (piecesOf (A ++ (a, z, true) :: r)) o) :
    (give n g (piecesOf (A ++ (a, z, true) :: r)) a z s).1 o.toNat = g o.toNat := by
  have hma : (a, z, true) ∈ A ++ (a, z, true) :: r := by simp
  have h0 := inQ_free h ho hma
  have ma := h.blk hma
  simp only at ma
  unfold give
  by_cases hb : 16 ≤ z - s
  · rw [if_pos hb]
    simp only
    rw [pieces_put h.ct]
    have q1 := rep_part h rfl h1 h2 hb
    have q2 := (rep_give q1 (.inl rfl)).iff (Y := fun y => y = a + s) fun y => ⟨fun q => q.1.elim (fun e => absurd e q.2) id, fun q => ⟨.inr q, by omega⟩⟩
    have hL : A ++ (a, s, false) :: (a + s, z - s, true) :: r = (A ++ [(a, s, false)]) ++ (a + s, z - s, true) :: r := by simp
    have hc := q1.ct
    rw [hL] at q2
    have hP : piecesOf ((A ++ [(a, s, false)]) ++ (a + s, z - s, true) :: r) = piecesOf A ++ (a + 8, s) :: piecesOf r := by
      rw [pieces_app, pieces_app]
      show (piecesOf A ++ [(a + 8, s)]) ++ piecesOf r = _
      simp
    have ho2 : inQ (piecesOf ((A ++ [(a, s, false)]) ++ (a + s, z - s, true) :: r)) o := by
      obtain ⟨p, hp, hp1⟩ := ho
      refine ⟨p, ?_, hp1⟩
      rw [hP]
      rw [pieces_app] at hp
      rcases List.mem_append.1 hp with q | q
      · exact List.mem_append.2 (.inl q)
      · exact List.mem_append.2 (.inr (List.mem_cons_of_mem _ q))
    have k1 := freed_keep q2 ho2
    rw [hP] at k1
    rw [k1]
    obtain ⟨-, -, m3⟩ := mark_at (g := g) (fl := 0) hc
    exact m3 o (by omega) (by omega) (by omega)
  · rw [if_neg hb]
    simp only
    obtain ⟨-, -, m3⟩ := mark_at (g := g) (fl := 0) h.ct
    exact m3 o (by omega) (by omega) (by omega)
end Go.Proofs.YtgefmnnkpffpcaaGreatDoor

/- A new heap and Aligned's second way, told exactly. No Go is walked here. -/
namespace Go.Proofs.YtgefmnnkpffpcaaGreatDoor

theorem rep_newX {n : Nat} (h0 : 128 ≤ n) (h1 : n ≤ 65536) (h8 : n % 8 = 0) : Rep n (putIn n (fun _ => 0) 112 (n - 112)) [(112, (n : Int) - 112, true)] (adF (fun _ => []) (kl ((n : Int) - 112)) 112) (fun _ => False) := by
  have base : Rep n (fun _ => 0) [(112, (n : Int) - 112, true)] (fun _ => []) (fun y => y = 112) := by
    refine ⟨h1, ⟨rfl, by omega, by omega, by show (112 : Int) + (n - 112) = n; omega⟩, ?_, ?_, fun _ _ => rfl, fun _ _ => trivial, ⟨0, rfl, by decide, fun c _ => by simp⟩, ?_, fun _ _ => List.nodup_nil, ?_, ⟨rfl, rfl, rfl, rfl⟩⟩
    · intro b hb q
      rw [List.mem_singleton.1 hb] at q
      exact absurd rfl q
    · intro u hu y hy e q
      rw [List.mem_singleton.1 hu] at q
      exact absurd rfl q
    · intro c hc x
      constructor
      · intro hx; cases hx
      · rintro ⟨q, z, hz, -⟩
        have := List.mem_singleton.1 hz
        simp only [Prod.mk.injEq] at this
        exact absurd this.1 q
    · rintro x rfl
      exact ⟨_, List.mem_singleton.2 rfl⟩
  exact (rep_inX base (List.mem_singleton.2 rfl) rfl).iff fun y => ⟨fun q => q.2 q.1, fun q => q.elim⟩
/-- The front of a block goes back into its list, the rest is given. -/
def fromX (A : List Bl) (a z b s : Int) (r : List Bl) (F : Nat → List Int) : List Bl × (Nat → List Int) := giveX (A ++ [(a, b - a, true)]) b (a + z - b) s r (adF F (kl (b - a)) a)
theorem rep_fromX {n : Nat} {g : Mem} {A r : List Bl} {F : Nat → List Int} {a z b s : Int} (h : Rep n g (A ++ (a, z, true) :: r) F (fun y => y = a)) (h1 : 16 ≤ s) (h2 : s % 8 = 0) (h3 : 16 ≤ b - a) (h4 : (b - a) % 8 = 0) (h5 : s ≤ a + z - b) :
    Rep n (give n (putIn n g a (b - a)) (piecesOf (A ++ (a, z, true) :: r)) b (a + z - b) s).1 (fromX A a z b s r F).1 (fromX A a z b s r F).2 (fun _ => False) ∧
      (give n (putIn n g a (b - a)) (piecesOf (A ++ (a, z, true) :: r)) b (a + z - b) s).2 = piecesOf A ++ (b + 8, if 16 ≤ a + z - b - s then s else a + z - b) :: piecesOf r := by
  have ba := h.blk (x := (a, z, true)) (by simp)
  simp only at ba
  have q1 := rep_part h rfl h3 h4 (by omega)
  rw [show a + (b - a) = b by omega, show z - (b - a) = a + z - b by omega] at q1
  have q2 := (rep_inX q1 (a := a) (z := b - a) (by simp) (.inl rfl)).iff (Y := fun y => y = b) fun y => ⟨fun q => q.1.elim (fun e => absurd e q.2) id, fun q => ⟨.inr q, by omega⟩⟩
  have hL : A ++ (a, b - a, true) :: (b, a + z - b, true) :: r = (A ++ [(a, b - a, true)]) ++ (b, a + z - b, true) :: r := by simp
  rw [hL] at q2
  have hA : piecesOf (A ++ [(a, b - a, true)]) = piecesOf A := by rw [pieces_app]; show piecesOf A ++ [] = _; simp
  have hP : piecesOf ((A ++ [(a, b - a, true)]) ++ (b, a + z - b, true) :: r) = piecesOf (A ++ (a, z, true) :: r) := by
    rw [pieces_app, hA, pieces_app]; rfl
  have w := rep_givenX q2 h1 h2
  rw [hP, hA] at w
  exact w
end Go.Proofs.YtgefmnnkpffpcaaGreatDoor

/- What the reference computes, plainly: classes, and the blocks and lists behind its calls. No Go is walked here. -/
namespace Go.Proofs.YtgefmnnkpffpcaaGreatDoor

/-- Where the reference's loop over powers ends. -/
theorem pow_stop {z : Int} {f : Nat} (h1 : (2 : Int) ^ f ≤ z) (h2 : ¬ (2 : Int) ^ f ≤ z / 2) : f = lg z := by
  unfold lg
  have e : ((z.toNat : Nat) : Int) = z := Int.toNat_of_nonneg (by have : (0 : Int) < 2 ^ f := Int.pow_pos (by decide); omega)
  have q1 : 2 ^ f ≤ z.toNat := by
    have : ((2 ^ f : Nat) : Int) ≤ (z.toNat : Int) := by rw [e]; simpa using h1
    exact_mod_cast this
  have q2 : z.toNat < 2 ^ (f + 1) := by
    have : (z.toNat : Int) < ((2 ^ (f + 1) : Nat) : Int) := by
      rw [e, Nat.pow_succ]
      have : ((2 ^ f * 2 : Nat) : Int) = 2 ^ f * 2 := by simp
      rw [this]
      omega
    exact_mod_cast this
  have q0 : z.toNat ≠ 0 := by have := Nat.two_pow_pos f; omega
  have a1 := (Nat.le_log2 q0).2 q1
  have a2 := (Nat.log2_lt q0).2 q2
  omega
theorem lg_pow {z : Int} (h : 1 ≤ z) : (2 : Int) ^ lg z ≤ z ∧ z < 2 ^ lg z * 2 := by
  unfold lg
  have e : ((z.toNat : Nat) : Int) = z := Int.toNat_of_nonneg (by omega)
  have q0 : z.toNat ≠ 0 := by omega
  have a1 := (Nat.le_log2 q0).1 (Nat.le_refl _)
  have a2 := (Nat.log2_lt q0).1 (Nat.lt_succ_self _)
  have b1 : ((2 ^ z.toNat.log2 : Nat) : Int) ≤ z := by omega
  have b2 : z < ((2 ^ (z.toNat.log2 + 1) : Nat) : Int) := by omega
  rw [Nat.pow_succ] at b2
  constructor
  · simpa using b1
  · simpa using b2
theorem lg_one {z : Int} (h : 2 ≤ z) : 1 ≤ lg z := by
  obtain ⟨-, h2⟩ := lg_pow (z := z) (by omega)
  cases e : lg z with
  | zero => rw [e] at h2; simp at h2; omega
  | succ k => omega
/-- The reference's class. -/
theorem cls_ref {z : Int} (h : 2 ≤ z) : cls z = if 2 ^ lg z + 2 ^ lg z / 2 ≤ z then 2 * ((lg z : Int) - 4) + 1 else 2 * ((lg z : Int) - 4) := by
  obtain ⟨h1, h2⟩ := lg_pow (z := z) (by omega)
  have hl := lg_one h
  obtain ⟨k, hk⟩ : ∃ k, lg z = k + 1 := ⟨lg z - 1, by omega⟩
  unfold cls
  rw [hk] at h1 h2 ⊢
  rw [Int.pow_succ] at h1 h2 ⊢
  have hp : (0 : Int) < 2 ^ k := Int.pow_pos (by decide)
  rw [show k + 1 - 1 = k by omega]
  obtain ⟨p, he⟩ : ∃ p : Int, (2 : Int) ^ k = p := ⟨_, rfl⟩
  rw [he] at h1 h2 hp ⊢
  split
  · have : z / p = 3 := by
      have := Int.ediv_emod_unique (a := z) (b := p) (r := z - 3 * p) (q := 3) hp
      exact (this.2 ⟨by omega, by omega, by omega⟩).1
    omega
  · have : z / p = 2 := by
      have := Int.ediv_emod_unique (a := z) (b := p) (r := z - 2 * p) (q := 2) hp
      exact (this.2 ⟨by omega, by omega, by omega⟩).1
    omega
theorem clsFor_ref {z : Int} (h : 2 ≤ z) : clsFor z = cls (z + 2 ^ lg z / 2 - 1) := by
  have hl := lg_one h
  obtain ⟨k, hk⟩ : ∃ k, lg z = k + 1 := ⟨lg z - 1, by omega⟩
  unfold clsFor
  rw [hk, Int.pow_succ, show k + 1 - 1 = k by omega]
  rw [Int.mul_ediv_cancel _ (by decide)]
/-- With nothing free behind it a block is given so. -/
theorem give_ref {A r : List Bl} {a z s : Int} {F : Nat → List Int} (h : ∀ y r', r = y :: r' → y.2.2 = false) :
    giveX A a z s r F = if 16 ≤ z - s then (A ++ (a, s, false) :: (a + s, z - s, true) :: r, adF F (kl (z - s)) (a + s)) else (A ++ (a, z, false) :: r, F) := by
  unfold giveX
  split
  · have e : behX (z - s) r F = (z - s, r, F) := by
      unfold behX
      cases r with
      | nil => rfl
      | cons y r' =>
        obtain ⟨b, t, f⟩ := y
        have := h _ _ rfl
        simp only at this
        subst this
        rfl
    unfold freedX
    rw [e]
    have hl : (A ++ [(a, s, false)]).getLast? = some (a, s, false) := by simp
    rw [hl]
    simp
  · rfl
theorem from_ref {A r : List Bl} {a z b s : Int} {F : Nat → List Int} (h : ∀ y r', r = y :: r' → y.2.2 = false) :
    fromX A a z b s r F = if 16 ≤ a + z - b - s then (A ++ (a, b - a, true) :: (b, s, false) :: (b + s, a + z - b - s, true) :: r, adF (adF F (kl (b - a)) a) (kl (a + z - b - s)) (b + s)) else (A ++ (a, b - a, true) :: (b, a + z - b, false) :: r, adF F (kl (b - a)) a) := by
  unfold fromX
  rw [give_ref h]
  split <;> simp
end Go.Proofs.YtgefmnnkpffpcaaGreatDoor
