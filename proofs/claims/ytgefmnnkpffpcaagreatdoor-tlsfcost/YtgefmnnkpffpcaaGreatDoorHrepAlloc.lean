/- A block is found, given and freed: what words and pieces hold then. No Go is walked here. -/
import Derived.Test.YtgefmnnkpffpcaaGreatDoorHrepFreed
namespace Go.Proofs.YtgefmnnkpffpcaaGreatDoor

theorem insP_mid (k v : Int) (Q : Pcs) (hQ : ∀ q ∈ Q, k < q.1) : ∀ P : Pcs, (∀ p ∈ P, p.1 < k) → insP (k, v) (P ++ Q) = P ++ (k, v) :: Q
  | [], _ => by
    cases Q with
    | nil => rfl
    | cons q Q =>
      have := hQ q (by simp)
      show (if k < q.1 then (k, v) :: q :: Q else q :: insP (k, v) Q) = _
      rw [if_pos this]; rfl
  | p :: P, h => by
    have := h p (by simp)
    show (if k < p.1 then (k, v) :: p :: (P ++ Q) else p :: insP (k, v) (P ++ Q)) = _
    rw [if_neg (by omega), insP_mid k v Q hQ P (fun q hq => h q (by simp [hq]))]; rfl
theorem delP_none {P : Pcs} {k : Int} (h : ∀ p ∈ P, p.1 ≠ k) : delP P k = P := by
  unfold delP
  rw [List.filter_eq_self]
  intro p hp
  have := h p hp
  simp [this]
theorem mem_pieces {L : List Bl} {p : Int × Int} : p ∈ piecesOf L ↔ ∃ a, (a, p.2, false) ∈ L ∧ p.1 = a + 8 := by
  induction L with
  | nil => simp [piecesOf]
  | cons x r ih =>
    obtain ⟨a, z, f⟩ := x
    cases f with
    | true =>
      rw [show piecesOf ((a, z, true) :: r) = piecesOf r from rfl, ih]
      simp
    | false =>
      rw [show piecesOf ((a, z, false) :: r) = (a + 8, z) :: piecesOf r from rfl, List.mem_cons, ih]
      constructor
      · rintro (e | ⟨b, hb, e⟩)
        · rw [e]; exact ⟨a, by simp, rfl⟩
        · exact ⟨b, by simp [hb], e⟩
      · rintro ⟨b, hb, e⟩
        rcases List.mem_cons.1 hb with q | q
        · simp only [Prod.mk.injEq, and_true] at q
          left
          obtain ⟨p1, p2⟩ := p
          simp only at e q ⊢
          rw [e, q.1, q.2]
        · exact .inr ⟨b, q, e⟩
/-- Pieces ahead of a block, and behind it. -/
theorem pieces_sides {A r : List Bl} {a z : Int} {f : Bool} {n : Nat} (h : contig 112 (A ++ (a, z, f) :: r) n) : (∀ p ∈ piecesOf A, p.1 < a + 8) ∧ ∀ p ∈ piecesOf r, a + 8 < p.1 := by
  obtain ⟨h1, h2, h3, h4⟩ := contig_split h
  constructor
  · intro p hp
    obtain ⟨b, hb, e⟩ := mem_pieces.1 hp
    have := contig_mem h1 hb
    simp only at this
    omega
  · intro p hp
    obtain ⟨b, hb, e⟩ := mem_pieces.1 hp
    have := contig_mem h4 hb
    simp only at this
    omega
theorem pieces_put {A r : List Bl} {a z : Int} {n : Nat} (h : contig 112 (A ++ (a, z, true) :: r) n) (t : Int) : putP (piecesOf (A ++ (a, z, true) :: r)) (a + 8) t = piecesOf A ++ (a + 8, t) :: piecesOf r := by
  obtain ⟨s1, s2⟩ := pieces_sides h
  have e : piecesOf (A ++ (a, z, true) :: r) = piecesOf A ++ piecesOf r := by rw [pieces_app]; rfl
  unfold putP
  rw [e, delP_none, insP_mid _ _ _ s2 _ s1]
  intro p hp
  rcases List.mem_append.1 hp with q | q
  · have := s1 p q; omega
  · have := s2 p q; omega
theorem pieces_del {A r : List Bl} {a z : Int} {n : Nat} (h : contig 112 (A ++ (a, z, false) :: r) n) : delP (piecesOf (A ++ (a, z, false) :: r)) (a + 8) = piecesOf (A ++ (a, z, true) :: r) := by
  obtain ⟨s1, s2⟩ := pieces_sides h
  rw [pieces_app, pieces_app]
  show delP (piecesOf A ++ (a + 8, z) :: piecesOf r) (a + 8) = piecesOf A ++ piecesOf r
  have e1 : delP (piecesOf A) (a + 8) = piecesOf A := delP_none fun p hp => by have := s1 p hp; omega
  have e2 : delP (piecesOf r) (a + 8) = piecesOf r := delP_none fun p hp => by have := s2 p hp; omega
  unfold delP at e1 e2 ⊢
  rw [List.filter_append, List.filter_cons, e1, e2]
  simp
theorem lowBit_bit {x fr c : Nat} (h : lowBit x fr = c) (hc : c < 32) : x.testBit c = true ∧ fr ≤ c := by
  unfold lowBit at h
  cases e : (List.range 32).find? (fun c => decide (fr ≤ c) && x.testBit c) with
  | none => rw [e] at h; simp at h; omega
  | some d =>
    rw [e] at h
    simp only [Option.getD_some] at h
    subst h
    have := List.find?_some e
    simp only [Bool.and_eq_true, decide_eq_true_eq] at this
    exact ⟨this.2, this.1⟩
/-- find tells nothing, or a block that is free, and takes it out of its list. -/
theorem rep_find {n : Nat} {g : Mem} {L : List Bl} {F : Nat → List Int} (h : Rep n g L F (fun _ => False)) (z : Int) :
    find n g (piecesOf L) z = none ∨ ∃ a s F', find n g (piecesOf L) z = some (a, s, takeOut n g a s) ∧ (a, s, true) ∈ L ∧ (clsFor z).toNat ≤ (cls s).toNat ∧ Rep n (takeOut n g a s) L F' (fun y => y = a) := by
  have hn : 112 ≤ n := by have := contig_le h.ct; omega
  obtain ⟨y, hy, hy2, hbits⟩ := h.bt
  have r0 : rd n g 0 = y := by unfold rd; rw [if_pos (hasW_zero hn)]; exact hy
  unfold find
  rw [r0]
  simp only [Int.toNat_natCast]
  obtain ⟨c, hc⟩ : ∃ c, lowBit y (clsFor z).toNat = c := ⟨_, rfl⟩
  rw [hc]
  by_cases h24 : 24 ≤ c
  · left; rw [if_pos h24]
  · right
    rw [if_neg h24]
    obtain ⟨hb, hle⟩ := lowBit_bit hc (by omega)
    have hc24 : c < 24 := by omega
    rw [hbits c hc24] at hb
    have rh : rd n g (4 + (c : Int) * 4) = (F c).headD 0 := by
      unfold rd
      rw [if_pos (hasW_head hn (by omega) (by omega)), show (4 + (c : Int) * 4).toNat = 4 + c * 4 by omega, h.hd c hc24]
    rw [rh]
    cases hF : F c with
    | nil => rw [hF] at hb; simp at hb
    | cons a r =>
      obtain ⟨s, hs, hcs⟩ := h.mem hc24 (show a ∈ F c by rw [hF]; simp)
      have hfr := h.free hs (fun q => q)
      simp only [List.headD_cons]
      rw [hfr]
      simp only
      rw [if_pos hcs]
      obtain ⟨A1, B1, -, h1⟩ := rep_out h hc24 hs (fun q => q) hcs
      exact ⟨a, s, _, rfl, hs, by omega, h1.iff fun y => ⟨fun q => q.elim (fun e => e.elim) id, .inr⟩⟩
theorem nf_mid_taken {A r : List Bl} {a z : Int} (h1 : nf A) (h2 : nf r) : nf (A ++ (a, z, false) :: r) := by
  induction A with
  | nil =>
    cases r with
    | nil => trivial
    | cons y r => exact ⟨fun q => absurd q.1 (by simp), h2⟩
  | cons u A ih =>
    cases A with
    | nil => exact ⟨fun q => absurd q.2 (by simp), ih trivial⟩
    | cons v A => exact ⟨h1.1, ih h1.2⟩
/-- A block in no list is given, whole or its front. -/
theorem rep_given {n : Nat} {g : Mem} {A r : List Bl} {F : Nat → List Int} {a z s : Int} (h : Rep n g (A ++ (a, z, true) :: r) F (fun y => y = a)) (h1 : 16 ≤ s) (h2 : s % 8 = 0) :
    ∃ L' F', Rep n (give n g (piecesOf (A ++ (a, z, true) :: r)) a z s).1 L' F' (fun _ => False) ∧ piecesOf L' = (give n g (piecesOf (A ++ (a, z, true) :: r)) a z s).2 ∧
      (give n g (piecesOf (A ++ (a, z, true) :: r)) a z s).2 = piecesOf A ++ (a + 8, if 16 ≤ z - s then s else z) :: piecesOf r ∧ (nf A → nf r → nf L') := by
  unfold give
  by_cases hb : 16 ≤ z - s
  · rw [if_pos hb, if_pos hb]
    simp only
    rw [pieces_put h.ct]
    have q1 := rep_part h rfl h1 h2 hb
    have q2 := (rep_give q1 (.inl rfl)).iff (Y := fun y => y = a + s) fun y => ⟨fun q => q.1.elim (fun e => absurd e q.2) id, fun q => ⟨.inr q, by omega⟩⟩
    have hL : A ++ (a, s, false) :: (a + s, z - s, true) :: r = (A ++ [(a, s, false)]) ++ (a + s, z - s, true) :: r := by simp
    rw [hL] at q2
    have hP : piecesOf ((A ++ [(a, s, false)]) ++ (a + s, z - s, true) :: r) = piecesOf A ++ (a + 8, s) :: piecesOf r := by
      rw [pieces_app, pieces_app]
      show (piecesOf A ++ [(a + 8, s)]) ++ piecesOf r = _
      simp
    obtain ⟨L', F', w1, w2, w3⟩ := rep_freed q2
    rw [hP] at w1 w2
    exact ⟨L', F', w1, w2, rfl, fun hl hr => w3 (nf_left (A := A ++ [(a, s, false)]) (B := []) (by rw [List.append_nil]; exact nf_mid_taken hl trivial)) hr⟩
  · rw [if_neg hb, if_neg hb]
    simp only
    rw [pieces_put h.ct]
    have q2 := (rep_give h rfl).iff (Y := fun _ => False) fun y => ⟨fun q => q.2 q.1, fun q => q.elim⟩
    exact ⟨_, _, q2, by rw [pieces_app]; rfl, rfl, fun hl hr => nf_mid_taken hl hr⟩
/-- A piece is freed. -/
theorem rep_free {n : Nat} {g : Mem} {A r : List Bl} {F : Nat → List Int} {a z : Int} (h : Rep n g (A ++ (a, z, false) :: r) F (fun _ => False)) :
    ∃ L' F', Rep n (freed n g (delP (piecesOf (A ++ (a, z, false) :: r)) (a + 8)) a z) L' F' (fun _ => False) ∧ piecesOf L' = delP (piecesOf (A ++ (a, z, false) :: r)) (a + 8) ∧ (nf (A ++ (a, z, false) :: r) → nf L') := by
  rw [pieces_del h.ct]
  obtain ⟨L', F', w1, w2, w3⟩ := rep_freed ((rep_back h).iff (Y := fun y => y = a) fun y => ⟨fun q => q.elim (fun e => e.elim) id, .inr⟩)
  exact ⟨L', F', w1, w2, fun q => w3 (nf_left q) (nf_tail (nf_right q))⟩
/-- Alloc: nothing, or the front of a block that was free; the pieces are those that were, and a new one there. -/
theorem rep_alloc {n : Nat} {g : Mem} {L : List Bl} {F : Nat → List Int} (h : Rep n g L F (fun _ => False)) {m : Int} (hen : ∀ a s g', find n g (piecesOf L) (needed m) = some (a, s, g') → needed m ≤ s) :
    alloc n g (piecesOf L) m = none ∨ ∃ a s t A r L' F', L = A ++ (a, s, true) :: r ∧ alloc n g (piecesOf L) m = some (a + 8, give n (takeOut n g a s) (piecesOf L) a s (needed m)) ∧
      Rep n (give n (takeOut n g a s) (piecesOf L) a s (needed m)).1 L' F' (fun _ => False) ∧ piecesOf L' = (give n (takeOut n g a s) (piecesOf L) a s (needed m)).2 ∧ piecesOf L' = piecesOf A ++ (a + 8, t) :: piecesOf r ∧ needed m ≤ t ∧ t ≤ s ∧ (nf L → nf L') := by
  have hm : 16 ≤ needed m ∧ needed m % 8 = 0 := by unfold needed; omega
  unfold alloc
  rcases rep_find h (needed m) with e | ⟨a, s, F', e, hs, -, h1⟩
  · left; rw [e]
  · right
    have hle := hen a s _ e
    rw [e]
    obtain ⟨A, r, hL⟩ := List.append_of_mem hs
    subst hL
    obtain ⟨L', F'', w1, w2, w3, w4⟩ := rep_given h1 hm.1 hm.2
    refine ⟨a, s, if 16 ≤ s - needed m then needed m else s, A, r, L', F'', rfl, rfl, w1, w2, w2.trans w3, ?_, ?_, fun q => w4 (nf_left q) (nf_tail (nf_right q))⟩
    · split <;> omega
    · split <;> omega
end Go.Proofs.YtgefmnnkpffpcaaGreatDoor
