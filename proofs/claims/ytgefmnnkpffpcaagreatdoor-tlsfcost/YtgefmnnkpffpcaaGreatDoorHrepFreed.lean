/- A block is freed: what words hold then. No Go is walked here. -/
import Derived.Test.YtgefmnnkpffpcaaGreatDoorHrepMove
namespace Go.Proofs.YtgefmnnkpffpcaaGreatDoor

theorem lg_bd {z : Int} (h : 16 ≤ z) (h' : z < 65536) : 4 ≤ lg z ∧ lg z < 16 := by
  unfold lg
  have hz : z.toNat ≠ 0 := by omega
  exact ⟨(Nat.le_log2 hz).2 (by omega), (Nat.log2_lt hz).2 (by omega)⟩
theorem cls_bd {z : Int} (h : 16 ≤ z) (h' : z < 65536) : ∃ k : Nat, k < 24 ∧ cls z = k := by
  have hl := lg_bd h h'
  unfold cls
  refine ⟨(2 * ((lg z : Int) - 4) + z / 2 ^ (lg z - 1) % 2).toNat, ?_, ?_⟩ <;> omega
theorem Rep.iff {n : Nat} {g : Mem} {L : List Bl} {F : Nat → List Int} {X Y : Int → Prop} (h : Rep n g L F X) (e : ∀ y, X y ↔ Y y) : Rep n g L F Y := by
  have : X = Y := funext fun y => propext (e y)
  rw [← this]; exact h
theorem pieces_app (A B : List Bl) : piecesOf (A ++ B) = piecesOf A ++ piecesOf B := by
  induction A with
  | nil => rfl
  | cons x A ih =>
    obtain ⟨a, z, f⟩ := x
    cases f with
    | true => exact ih
    | false => show (a + 8, z) :: piecesOf (A ++ B) = (a + 8, z) :: piecesOf A ++ piecesOf B; rw [ih]; rfl
theorem Rep.free {n : Nat} {g : Mem} {L : List Bl} {F : Nat → List Int} {X : Int → Prop} (h : Rep n g L F X) {a z : Int} (hm : (a, z, true) ∈ L) (hx : ¬ X a) : freeAt n g (piecesOf L) a = some z := by
  obtain ⟨m1, m2, m3, m4, m5⟩ := h.blk hm
  simp only at m1 m2 m3 m4 m5
  have hr : rd n g a = z + 1 := by
    rw [rd_block m1 m5 m2 m4]
    exact h.sz _ hm hx
  have hp : hasP (piecesOf L) (a + 8) = false := by
    cases e : hasP (piecesOf L) (a + 8) with
    | false => rfl
    | true =>
      obtain ⟨y, hy, hy1, hy2⟩ := (hasP_pieces L _).1 e
      have := contig_inj h.ct hm hy (by simp only; omega)
      subst this
      cases hy1
  unfold freeAt
  rw [hr, hp]
  have e1 : ((z + 1) % 8 == 1) = true := by rw [beq_iff_eq]; omega
  have e2 : mayBe n a (z + 1 - 1) = true := by unfold mayBe; simp only [decide_eq_true_eq]; omega
  rw [e1, e2]
  simp
theorem freeAt_may {n : Nat} {g : Mem} {P : Pcs} {p s : Int} (h : freeAt n g P p = some s) : 112 ≤ p ∧ 16 ≤ s := by
  unfold freeAt at h
  split at h
  · cases h
  · rename_i hc
    simp only [Option.some.injEq] at h
    simp only [Bool.or_eq_true, not_or, Bool.not_eq_true, Bool.not_eq_false'] at hc
    have := hc.2
    unfold mayBe at this
    simp only [decide_eq_true_eq] at this
    omega
/-- freed, behind its first look. -/
def freedB (n : Nat) (P : Pcs) (a : Int) (g1 : Mem) (z1 : Int) : Mem :=
  match freeAt n g1 P (rd n g1 (a + 4)) with
  | some s => if rd n g1 (a + 4) + s = a then putIn n (takeOut n g1 (rd n g1 (a + 4)) s) (rd n g1 (a + 4)) (s + z1) else putIn n g1 a z1
  | none => putIn n g1 a z1
theorem freedB_some {n : Nat} {g : Mem} {P : Pcs} {a z s : Int} (h : freeAt n g P (a + z) = some s) : freed n g P a z = freedB n P a (takeOut n g (a + z) s) (z + s) := by
  unfold freed freedB
  rw [h]
  rfl
theorem freedB_none {n : Nat} {g : Mem} {P : Pcs} {a z : Int} (h : freeAt n g P (a + z) = none) : freed n g P a z = freedB n P a g z := by
  unfold freed freedB
  rw [h]
  rfl
/-- No two free blocks side by side. -/
def nf : List Bl → Prop
  | x :: y :: r => ¬ (x.2.2 = true ∧ y.2.2 = true) ∧ nf (y :: r)
  | _ => True
theorem nf_tail {x : Bl} {r : List Bl} (h : nf (x :: r)) : nf r := by
  cases r with
  | nil => trivial
  | cons y r => exact h.2
theorem nf_right {A B : List Bl} (h : nf (A ++ B)) : nf B := by
  induction A with
  | nil => exact h
  | cons x A ih => exact ih (nf_tail h)
theorem nf_left {A B : List Bl} (h : nf (A ++ B)) : nf A := by
  induction A with
  | nil => trivial
  | cons x A ih =>
    cases A with
    | nil => trivial
    | cons y A => exact ⟨h.1, ih h.2⟩
theorem nf_mid {A r : List Bl} {x : Bl} (h1 : nf A) (h2 : nf r) (h3 : ∀ u A', A = A' ++ [u] → u.2.2 = false) (h4 : ∀ y r', r = y :: r' → y.2.2 = false) : nf (A ++ x :: r) := by
  induction A with
  | nil =>
    cases r with
    | nil => trivial
    | cons y r => exact ⟨fun q => (by rw [h4 y r rfl] at q; exact absurd q.2 (by decide)), h2⟩
  | cons u A ih =>
    cases A with
    | nil => exact ⟨fun q => (by rw [h3 u [] rfl] at q; exact absurd q.1 (by decide)), ih trivial (fun u' A' e => by simp at e)⟩
    | cons v A => exact ⟨h1.1, ih h1.2 (fun u' A' e => h3 u' (u :: A') (by rw [e]; rfl))⟩
/-- A block in no list is laid into one, with what is free behind it and ahead of it. -/
theorem rep_freed {n : Nat} {g : Mem} {A r : List Bl} {F : Nat → List Int} {a z : Int} (h : Rep n g (A ++ (a, z, true) :: r) F (fun y => y = a)) :
    ∃ L' F', Rep n (freed n g (piecesOf (A ++ (a, z, true) :: r)) a z) L' F' (fun _ => False) ∧ piecesOf L' = piecesOf (A ++ (a, z, true) :: r) ∧ (nf A → nf r → nf L') := by
  obtain ⟨P, hP⟩ : ∃ P, piecesOf (A ++ (a, z, true) :: r) = P := ⟨_, rfl⟩
  -- behind it
  have step : ∃ g1 z1 r1 F1, freed n g P a z = freedB n P a g1 z1 ∧ Rep n g1 (A ++ (a, z1, true) :: r1) F1 (fun y => y = a) ∧ piecesOf (A ++ (a, z1, true) :: r1) = P ∧ (nf r → nf r1 ∧ ∀ y r', r1 = y :: r' → y.2.2 = false) := by
    cases r with
    | nil =>
      have he : a + z = n := (contig_split h.ct).2.2.2
      exact ⟨g, z, [], F, freedB_none (by rw [he, freeAt_end]), h, hP, fun q => ⟨q, fun y r' e => by cases e⟩⟩
    | cons y r' =>
      obtain ⟨b, s, f⟩ := y
      have hb : b = a + z := contig_next h.ct
      have hmb : (b, s, f) ∈ A ++ (a, z, true) :: (b, s, f) :: r' := by simp
      have hma : (a, z, true) ∈ A ++ (a, z, true) :: (b, s, f) :: r' := by simp
      have mb := h.blk hmb
      have ma := h.blk hma
      simp only at mb ma
      have hba : b ≠ a := by omega
      cases f with
      | false =>
        have := freeAt_taken (n := n) (g := g) hmb rfl
        rw [hP] at this
        simp only at this
        exact ⟨g, z, (b, s, false) :: r', F, freedB_none (by rw [← hb, this]), h, hP, fun q => ⟨q, fun y r' e => by cases e; rfl⟩⟩
      | true =>
        have hfr := h.free hmb hba
        rw [hP] at hfr
        obtain ⟨k, hk, hz⟩ := cls_bd (z := s) (by omega) (by have := h.nn; omega)
        obtain ⟨A1, B1, -, h1⟩ := rep_out h hk hmb hba hz
        have h2 := rep_join h1 (.inl rfl) (.inr rfl)
        rw [hb] at h2 hfr hba
        refine ⟨_, _, r', _, freedB_some hfr, h2.iff fun y => ?_, ?_, fun q => ⟨nf_tail q, fun y r2 e => by
          subst e
          cases e2 : y.2.2 with
          | false => rfl
          | true => exact absurd ⟨rfl, e2⟩ q.1⟩⟩
        · constructor
          · rintro ⟨q | q, q2⟩
            · exact q
            · exact absurd q q2
          · intro q; exact ⟨.inl q, by omega⟩
        · rw [← hP, pieces_app, pieces_app]; rfl
  obtain ⟨g1, z1, r1, F1, e1, h1, hP1, hN⟩ := step
  have hma : (a, z1, true) ∈ A ++ (a, z1, true) :: r1 := by simp
  have ma := h1.blk hma
  simp only at ma
  have put : (∀ u A', A = A' ++ [u] → u.2.2 = false) → ∃ L' F', Rep n (putIn n g1 a z1) L' F' (fun _ => False) ∧ piecesOf L' = P ∧ (nf A → nf r → nf L') := by
    intro hlast
    obtain ⟨k, hk, hz⟩ := cls_bd (z := z1) (by omega) (by have := h1.nn; omega)
    exact ⟨_, _, (rep_in h1 hk hma rfl hz).iff fun y => ⟨fun q => q.2 q.1, fun q => q.elim⟩, hP1, fun n1 n2 => nf_mid n1 (hN n2).1 hlast (hN n2).2⟩
  rw [hP, e1]
  unfold freedB
  rcases List.eq_nil_or_concat A with rfl | ⟨A', x, hA⟩
  · have ha : a = 112 := h1.ct.1
    cases hf : freeAt n g1 P (rd n g1 (a + 4)) with
    | none => exact put (fun u A' e => by simp at e)
    | some s =>
      have := freeAt_may hf
      simp only
      rw [if_neg (by omega)]
      exact put (fun u A' e => by simp at e)
  · obtain ⟨p, s, f⟩ := x
    rw [List.concat_eq_append] at hA
    subst hA
    have hL : (A' ++ [(p, s, f)]) ++ (a, z1, true) :: r1 = A' ++ (p, s, f) :: (a, z1, true) :: r1 := by simp
    rw [hL] at h1 hP1 hma
    have hpa : a = p + s := contig_next h1.ct
    have hmp : (p, s, f) ∈ A' ++ (p, s, f) :: (a, z1, true) :: r1 := by simp
    have mp := h1.blk hmp
    simp only at mp
    have hne : p ≠ a := by omega
    have hw : hasW n (a + 4) = true := by unfold hasW; simp only [decide_eq_true_eq]; omega
    have hr : rd n g1 (a + 4) = p := by
      unfold rd
      rw [if_pos hw]
      exact h1.ah _ hmp _ hma hpa hne
    rw [hr]
    cases f with
    | false =>
      have := freeAt_taken (n := n) (g := g1) hmp rfl
      rw [hP1] at this
      simp only at this
      rw [this]
      exact put (fun u A2 e => by
        have := List.append_inj_right' e rfl
        simp only [List.cons.injEq, and_true] at this
        rw [← this])
    | true =>
      have hfr := h1.free hmp hne
      rw [hP1] at hfr
      rw [hfr]
      simp only
      rw [if_pos hpa.symm]
      obtain ⟨k, hk, hz⟩ := cls_bd (z := s) (by omega) (by have := h1.nn; omega)
      obtain ⟨A1, B1, -, h2⟩ := rep_out h1 hk hmp hne hz
      have h3 := rep_join h2 (.inr rfl) (.inl rfl)
      have hm3 : (p, s + z1, true) ∈ A' ++ (p, s + z1, true) :: r1 := by simp
      have m3 := h3.blk hm3
      simp only at m3
      obtain ⟨k', hk', hz'⟩ := cls_bd (z := s + z1) (by omega) (by have := h3.nn; omega)
      have h4 := rep_in h3 hk' hm3 ⟨.inr rfl, hne⟩ hz'
      refine ⟨_, _, h4.iff fun y => ⟨?_, fun q => q.elim⟩, ?_, fun n1 n2 => nf_mid (nf_left n1) (hN n2).1 (fun u A2 e => ?_) (hN n2).2⟩
      · rintro ⟨⟨q | q, q1⟩, q2⟩
        · exact q1 q
        · exact q2 q
      · rw [← hP1, pieces_app, pieces_app]; rfl
      · rw [e, List.append_assoc] at n1
        have := (nf_right n1).1
        cases e2 : u.2.2 with
        | false => rfl
        | true => exact absurd ⟨e2, rfl⟩ this
end Go.Proofs.YtgefmnnkpffpcaaGreatDoor
