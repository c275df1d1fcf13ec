/- A block is found, given and freed: what words and pieces hold then. No Go is walked here. -/
import Derived.Test.YtgefmnnkpffpcaaGreatDoorHrepMoveJ
namespace Go.Proofs.YtgefmnnkpffpcaaGreatDoor

theorem insP_mid (k v : Int) (Q : Pcs) (hQ : ∀ q ∈ Q, k < q.1) : ∀ P : Pcs, (∀ p ∈ P, p.1 < k) → insP (k, v) (P ++ Q) = P ++ (k, v) :: Q
  | [], _ => by
    cases Q with
    | nil => rfl
    | cons q Q =>
      have := hQ q (by simp)
      show (if k < q.1 then (k, v) :: q :: Q else q :: insP (k, v) Q) = _
      rw [if_pos this]; rfl
  | p :: P, h => by
    have := h p (by simp)
    show (if k < p.1 then (k, v) :: p :: (P ++ Q) else p :: insP (k, v) (P ++ Q)) = _
    rw [if_neg (by omega), insP_mid k v Q hQ P (fun q hq => h q (by simp [hq]))]; rfl
theorem delP_none {P : Pcs} {k : Int} (h : ∀ p ∈ P, p.1 ≠ k) : delP P k = P := by
  unfold delP
  rw [List.filter_eq_self]
  intro p hp
  have := h p hp
  simp [this]
theorem mem_pieces {L : List Bl} {p : Int × Int} : p ∈ piecesOf L ↔ ∃ a, (a, p.2, false) ∈ L ∧ p.1 = a + 8 := by
  induction L with
  | nil => simp [piecesOf]
  | cons x r ih =>
    obtain ⟨a, z, f⟩ := x
    cases f with
    | true =>
      rw [show piecesOf ((a, z, true) :: r) = piecesOf r from rfl, ih]
      simp
    | false =>
      rw [show piecesOf ((a, z, false) :: r) = (a + 8, z) :: piecesOf r from rfl, List.mem_cons, ih]
      constructor
      · rintro (e | ⟨b, hb, e⟩)
        · rw [e]; exact ⟨a, by simp, rfl⟩
        · exact ⟨b, by simp [hb], e⟩
      · rintro ⟨b, hb, e⟩
        rcases List.mem_cons.1 hb with q | q
        · simp only [Prod.mk.injEq, and_true] at q
          left
          obtain ⟨p1, p2⟩ := p
          simp only at e q ⊢
          rw [e, q.1, q.2]
        · exact .inr ⟨b, q, e⟩
/-- Pieces ahead of a block, and behind it. -/
theorem pieces_sides {A r : List Bl} {a z : Int} {f : Bool} {n : Nat} (h : contig 112 (A ++ (a, z, f) :: r) n) : (∀ p ∈ piecesOf A, p.1 < a + 8) ∧ ∀ p ∈ piecesOf r, a + 8 < p.1 := by
  obtain ⟨h1, h2, h3, h4⟩ := contig_split h
  constructor
  · intro p hp
    obtain ⟨b, hb, e⟩ := mem_pieces.1 hp
    have := contig_mem h1 hb
    simp only at this
    omega
  · intro p hp
    obtain ⟨b, hb, e⟩ := mem_pieces.1 hp
    have := contig_mem h4 hb
    simp only at this
    omega
theorem pieces_put {A r : List Bl} {a z : Int} {n : Nat} (h : contig 112 (A ++ (a, z, true) :: r) n) (t : Int) : putP (piecesOf (A ++ (a, z, true) :: r)) (a + 8) t = piecesOf A ++ (a + 8, t) :: piecesOf r := by
  obtain ⟨s1, s2⟩ := pieces_sides h
  have e : piecesOf (A ++ (a, z, true) :: r) = piecesOf A ++ piecesOf r := by rw [pieces_app]; rfl
  unfold putP
  rw [e, delP_none, insP_mid _ _ _ s2 _ s1]
  intro p hp
  rcases List.mem_append.1 hp with q | q
  · have := s1 p q; omega
  · have := s2 p q; omega
theorem pieces_del {A r : List Bl} {a z : Int} {n : Nat} (h : contig 112 (A ++ (a, z, false) :: r) n) : delP (piecesOf (A ++ (a, z, false) :: r)) (a + 8) = piecesOf (A ++ (a, z, true) :: r) := by
  obtain ⟨s1, s2⟩ := pieces_sides h
  rw [pieces_app, pieces_app]
  show delP (piecesOf A ++ (a + 8, z) :: piecesOf r) (a + 8) = piecesOf A ++ piecesOf r
  have e1 : delP (piecesOf A) (a + 8) = piecesOf A := delP_none fun p hp => by have := s1 p hp; omega
  have e2 : delP (piecesOf r) (a + 8) = piecesOf r := delP_none fun p hp => by have := s2 p hp; omega
  unfold delP at e1 e2 ⊢
  rw [List.filter_append, List.filter_cons, e1, e2]
  simp
theorem lowBit_bit {x fr c : Nat} (h : lowBit x fr = c) (hc : c < 32) : x.testBit c = true ∧ fr ≤ c := by
  unfold lowBit at h
  cases e : (List.range 32).find? (fun c => decide (fr ≤ c) && x.testBit c) with
  | none => rw [e] at h; simp at h; omega
  | some d =>
    rw [e] at h
    simp only [Option.getD_some] at h
    subst h
    have := List.find?_some e
    simp only [Bool.and_eq_true, decide_eq_true_eq] at this
    exact ⟨this.2, this.1⟩
/-- find tells nothing, or a block that is free, and takes it out of its list. -/
theorem rep_find {n : Nat} {g : Mem} {L : List Bl} {F : Nat → List Int} (h : Rep n g L F (fun _ => False)) (z : Int) :
    find n g (piecesOf L) z = none ∨ ∃ a s F', find n g (piecesOf L) z = some (a, s, takeOut n g a s) ∧ (a, s, true) ∈ L ∧ (clsFor z).toNat ≤ (cls s).toNat ∧ Rep n (takeOut n g a s) L F' (fun y => y = a) := by
  have hn : 112 ≤ n := by have := contig_le h.ct; omega
  obtain ⟨y, hy, hy2, hbits⟩ := h.bt
  have r0 : rd n g 0 = y := by unfold rd; rw [if_pos (hasW_zero hn)]; exact hy
  unfold find
  rw [r0]
  simp only [Int.toNat_natCast]
  obtain ⟨c, hc⟩ : ∃ c, lowBit y (clsFor z).toNat = c := ⟨_, rfl⟩
  rw [hc]
  by_cases h24 : 24 ≤ c
  · left; rw [if_pos h24]
  · right
    rw [if_neg h24]
    obtain ⟨hb, hle⟩ := lowBit_bit hc (by omega)
    have hc24 : c < 24 := by omega
    rw [hbits c hc24] at hb
    have rh : rd n g (4 + (c : Int) * 4) = (F c).headD 0 := by
      unfold rd
      rw [if_pos (hasW_head hn (by omega) (by omega)), show (4 + (c : Int) * 4).toNat = 4 + c * 4 by omega, h.hd c hc24]
    rw [rh]
    cases hF : F c with
    | nil => rw [hF] at hb; simp at hb
    | cons a r =>
      obtain ⟨s, hs, hcs⟩ := h.mem hc24 (show a ∈ F c by rw [hF]; simp)
      have hfr := h.free hs (fun q => q)
      simp only [List.headD_cons]
      rw [hfr]
      simp only
      rw [if_pos hcs]
      obtain ⟨A1, B1, -, h1⟩ := rep_out h hc24 hs (fun q => q) hcs
      exact ⟨a, s, _, rfl, hs, by omega, h1.iff fun y => ⟨fun q => q.elim (fun e => e.elim) id, .inr⟩⟩
theorem nf_mid_taken {A r : List Bl} {a z : Int} (h1 : nf A) (h2 : nf r) : nf (A ++ (a, z, false) :: r) := by
  induction A with
  | nil =>
    cases r with
    | nil => trivial
    | cons y r => exact ⟨fun q => absurd q.1 (by simp), h2⟩
  | cons u A ih =>
    cases A with
    | nil => exact ⟨fun q => absurd q.2 (by simp), ih trivial⟩
    | cons v A => exact ⟨h1.1, ih h1.2⟩
/-- A block in no list is given, whole or its front. -/
theorem rep_given {n : Nat} {g : Mem} {A r : List Bl} {F : Nat → List Int} {a z s : Int} (h : Rep n g (A ++ (a, z, true) :: r) F (fun y => y = a)) (h1 : 16 ≤ s) (h2 : s % 8 = 0) :
    ∃ L' F', Rep n (give n g (piecesOf (A ++ (a, z, true) :: r)) a z s).1 L' F' (fun _ => False) ∧ piecesOf L' = (give n g (piecesOf (A ++ (a, z, true) :: r)) a z s).2 ∧
      (give n g (piecesOf (A ++ (a, z, true) :: r)) a z s).2 = piecesOf A ++ (a + 8, if 16 ≤ z - s then s else z) :: piecesOf r ∧ (nf A → nf r → nf L') := by
  unfold give
  by_cases hb : 16 ≤ z - s
  · rw [if_pos hb, if_pos hb]
    simp only
    rw [pieces_put h.ct]
    have q1 := rep_part h rfl h1 h2 hb
    have q2 := (rep_give q1 (.inl rfl)).iff (Y := fun y => y = a + s) fun y => ⟨fun q => q.1.elim (fun e => absurd e q.2) id, fun q => ⟨.inr q, by omega⟩⟩
    have hL : A ++ (a, s, false) :: (a + s, z - s, true) :: r = (A ++ [(a, s, false)]) ++ (a + s, z - s, true) :: r := by simp
    rw [hL] at q2
    have hP : piecesOf ((A ++ [(a, s, false)]) ++ (a + s, z - s, true) :: r) = piecesOf A ++ (a + 8, s) :: piecesOf r := by
      rw [pieces_app, pieces_app]
      show (piecesOf A ++ [(a + 8, s)]) ++ piecesOf r = _
      simp
    obtain ⟨L', F', w1, w2, w3⟩ := rep_freed q2
    rw [hP] at w1 w2
    exact ⟨L', F', w1, w2, rfl, fun hl hr => w3 (nf_left (A := A ++ [(a, s, false)]) (B := []) (by rw [List.append_nil]; exact nf_mid_taken hl trivial)) hr⟩
  · rw [if_neg hb, if_neg hb]
    simp only
    rw [pieces_put h.ct]
    have q2 := (rep_give h rfl).iff (Y := fun _ => False) fun y => ⟨fun q => q.2 q.1, fun q => q.elim⟩
    exact ⟨_, _, q2, by rw [pieces_app]; rfl, rfl, fun hl hr => nf_mid_taken hl hr⟩
/-- A piece is freed. -/
theorem rep_free {n : Nat} {g : Mem} {A r : List Bl} {F : Nat → List Int} {a z : Int} (h : Rep n g (A ++ (a, z, false) :: r) F (fun _ => False)) :
    ∃ L' F', Rep n (freed n g (delP (piecesOf (A ++ (a, z, false) :: r)) (a + 8)) a z) L' F' (fun _ => False) ∧ piecesOf L' = delP (piecesOf (A ++ (a, z, false) :: r)) (a + 8) ∧ (nf (A ++ (a, z, false) :: r) → nf L') := by
  rw [pieces_del h.ct]
  obtain ⟨L', F', w1, w2, w3⟩ := rep_freed ((rep_back h).iff (Y := fun y => y = a) fun y => ⟨fun q => q.elim (fun e => e.elim) id, .inr⟩)
  exact ⟨L', F', w1, w2, fun q => w3 (nf_left q) (nf_tail (nf_right q))⟩
/-- Alloc: nothing, or the front of a block that was free; the pieces are those that were, and a new one there. -/
theorem rep_alloc {n : Nat} {g : Mem} {L : List Bl} {F : Nat → List Int} (h : Rep n g L F (fun _ => False)) {m : Int} (hen : ∀ a s g', find n g (piecesOf L) (needed m) = some (a, s, g') → needed m ≤ s) :
    alloc n g (piecesOf L) m = none ∨ ∃ a s t A r L' F', L = A ++ (a, s, true) :: r ∧ alloc n g (piecesOf L) m = some (a + 8, give n (takeOut n g a s) (piecesOf L) a s (needed m)) ∧
      Rep n (give n (takeOut n g a s) (piecesOf L) a s (needed m)).1 L' F' (fun _ => False) ∧ piecesOf L' = (give n (takeOut n g a s) (piecesOf L) a s (needed m)).2 ∧ piecesOf L' = piecesOf A ++ (a + 8, t) :: piecesOf r ∧ needed m ≤ t ∧ t ≤ s ∧ (nf L → nf L') := by
  have hm : 16 ≤ needed m ∧ needed m % 8 = 0 := by unfold needed; omega
  unfold alloc
  rcases rep_find h (needed m) with e | ⟨a, s, F', e, hs, -, h1⟩
  · left; rw [e]
  · right
    have hle := hen a s _ e
    rw [e]
    obtain ⟨A, r, hL⟩ := List.append_of_mem hs
    subst hL
    obtain ⟨L', F'', w1, w2, w3, w4⟩ := rep_given h1 hm.1 hm.2
    refine ⟨a, s, if 16 ≤ s - needed m then needed m else s, A, r, L', F'', rfl, rfl, w1, w2, w2.trans w3, ?_, ?_, fun q => w4 (nf_left q) (nf_tail (nf_right q))⟩
    · split <;> omega
    · split <;> omega
end Go.Proofs.YtgefmnnkpffpcaaGreatDoor

/- A heap that is new; a block that is given from a multiple on. No Go is walked here. -/
namespace Go.Proofs.YtgefmnnkpffpcaaGreatDoor

theorem rep_new {n : Nat} (h0 : 128 ≤ n) (h1 : n ≤ 65536) (h8 : n % 8 = 0) : ∃ F, Rep n (putIn n (fun _ => 0) 112 (n - 112)) [(112, (n : Int) - 112, true)] F (fun _ => False) := by
  have base : Rep n (fun _ => 0) [(112, (n : Int) - 112, true)] (fun _ => []) (fun y => y = 112) := by
    refine ⟨h1, ⟨rfl, by omega, by omega, by show (112 : Int) + (n - 112) = n; omega⟩, ?_, ?_, fun _ _ => rfl, fun _ _ => trivial, ⟨0, rfl, by decide, fun c _ => by simp⟩, ?_, fun _ _ => List.nodup_nil, ?_, ⟨rfl, rfl, rfl, rfl⟩⟩
    · intro b hb q
      rw [List.mem_singleton.1 hb] at q
      exact absurd rfl q
    · intro u hu y hy e q
      rw [List.mem_singleton.1 hu] at q
      exact absurd rfl q
    · intro c hc x
      constructor
      · intro hx; cases hx
      · rintro ⟨q, z, hz, -⟩
        have := List.mem_singleton.1 hz
        simp only [Prod.mk.injEq] at this
        exact absurd this.1 q
    · rintro x rfl
      exact ⟨_, List.mem_singleton.2 rfl⟩
  obtain ⟨k, hk, hz⟩ := cls_bd (z := (n : Int) - 112) (by omega) (by omega)
  exact ⟨_, (rep_in base hk (List.mem_singleton.2 rfl) rfl hz).iff fun y => ⟨fun q => q.2 q.1, fun q => q.elim⟩⟩
theorem nf_front {A r : List Bl} {a z z' : Int} {f : Bool} (h : nf (A ++ (a, z, f) :: r)) : nf (A ++ [(a, z', f)]) := by
  induction A with
  | nil => trivial
  | cons u A ih =>
    cases A with
    | nil => exact ⟨h.1, trivial⟩
    | cons v A => exact ⟨h.1, ih h.2⟩
/-- The front of a block is laid into its list, the rest is given. -/
theorem rep_from {n : Nat} {g : Mem} {A r : List Bl} {F : Nat → List Int} {a z b s : Int} (h : Rep n g (A ++ (a, z, true) :: r) F (fun y => y = a)) (h1 : 16 ≤ s) (h2 : s % 8 = 0) (h3 : 16 ≤ b - a) (h4 : (b - a) % 8 = 0) (h5 : s ≤ a + z - b) :
    ∃ L' F' t, Rep n (give n (putIn n g a (b - a)) (piecesOf (A ++ (a, z, true) :: r)) b (a + z - b) s).1 L' F' (fun _ => False) ∧ piecesOf L' = (give n (putIn n g a (b - a)) (piecesOf (A ++ (a, z, true) :: r)) b (a + z - b) s).2 ∧
      piecesOf L' = piecesOf A ++ (b + 8, t) :: piecesOf r ∧ s ≤ t ∧ t ≤ a + z - b ∧ (nf (A ++ (a, z, true) :: r) → nf L') := by
  have ba := h.blk (x := (a, z, true)) (by simp)
  simp only at ba
  have q1 := rep_part h rfl h3 h4 (by omega)
  rw [show a + (b - a) = b by omega, show z - (b - a) = a + z - b by omega] at q1
  obtain ⟨k, hk, hz⟩ := cls_bd (z := b - a) (by omega) (by have := h.nn; omega)
  have q2 := (rep_in q1 hk (a := a) (z := b - a) (by simp) (.inl rfl) hz).iff (Y := fun y => y = b) fun y => ⟨fun q => q.1.elim (fun e => absurd e q.2) id, fun q => ⟨.inr q, by omega⟩⟩
  have hL : A ++ (a, b - a, true) :: (b, a + z - b, true) :: r = (A ++ [(a, b - a, true)]) ++ (b, a + z - b, true) :: r := by simp
  rw [hL] at q2
  have hA : piecesOf (A ++ [(a, b - a, true)]) = piecesOf A := by rw [pieces_app]; show piecesOf A ++ [] = _; simp
  have hP : piecesOf ((A ++ [(a, b - a, true)]) ++ (b, a + z - b, true) :: r) = piecesOf (A ++ (a, z, true) :: r) := by
    rw [pieces_app, hA, pieces_app]; rfl
  obtain ⟨L', F', w1, w2, w3, w4⟩ := rep_given q2 h1 h2
  rw [hP] at w1 w2 w3
  rw [hA] at w3
  refine ⟨L', F', _, w1, w2, w2.trans w3, ?_, ?_, fun q => w4 (nf_front q) (nf_tail (nf_right q))⟩
  · split <;> omega
  · split <;> omega
/-- Two pieces never overlap; each stands at a multiple of 8. -/
theorem pieces_apart {n : Nat} {L : List Bl} (h : contig 112 L n) {p q : Int × Int} (hp : p ∈ piecesOf L) (hq : q ∈ piecesOf L) : p = q ∨ p.1 + p.2 ≤ q.1 ∨ q.1 + q.2 ≤ p.1 := by
  obtain ⟨a, ha, e1⟩ := mem_pieces.1 hp
  obtain ⟨b, hb, e2⟩ := mem_pieces.1 hq
  rcases contig_apart h ha hb with e | e | e
  · left
    simp only [Prod.mk.injEq, and_true] at e
    obtain ⟨p1, p2⟩ := p
    obtain ⟨q1, q2⟩ := q
    simp only at e1 e2 e ⊢
    rw [e1, e2, e.1, e.2]
  · simp only at e; right; left; omega
  · simp only at e; right; right; omega
theorem pieces_at {n : Nat} {L : List Bl} (h : contig 112 L n) {p : Int × Int} (hp : p ∈ piecesOf L) : p.1 % 8 = 0 ∧ 120 ≤ p.1 ∧ 16 ≤ p.2 ∧ p.1 - 8 + p.2 ≤ n ∧ p.2 % 8 = 0 := by
  obtain ⟨a, ha, e1⟩ := mem_pieces.1 hp
  have := contig_mem h ha
  have h8 := this.2.2.2.2 (by decide)
  simp only at this h8
  omega
end Go.Proofs.YtgefmnnkpffpcaaGreatDoor

/- The heap's blocks and lists behind each call, told exactly (what the reference does). No Go is walked here. -/
namespace Go.Proofs.YtgefmnnkpffpcaaGreatDoor

/-- A list loses one. -/
def rmF (F : Nat → List Int) (k : Nat) (a : Int) : Nat → List Int := fun c => if c = k then (F k).filter (fun x => x != a) else F c
/-- A list gets one in front. -/
def adF (F : Nat → List Int) (k : Nat) (a : Int) : Nat → List Int := fun c => if c = k then a :: F k else F c
/-- The class of a size. -/
def kl (z : Int) : Nat := (cls z).toNat
theorem filter_mid {A B : List Int} {a : Int} (h : (A ++ a :: B).Nodup) : (A ++ a :: B).filter (fun x => x != a) = A ++ B := by
  obtain ⟨-, h2, h3⟩ := List.nodup_append.1 h
  have h4 := (List.nodup_cons.1 h2).1
  have a1 : A.filter (fun x => x != a) = A := List.filter_eq_self.2 fun x hx => by
    have := h3 x hx a (by simp)
    simpa using this
  have a2 : B.filter (fun x => x != a) = B := List.filter_eq_self.2 fun x hx => by
    have : x ≠ a := fun e => h4 (e ▸ hx)
    simpa using this
  rw [List.filter_append, List.filter_cons, a1, a2]
  simp
theorem rep_outX {n : Nat} {g : Mem} {L : List Bl} {F : Nat → List Int} {X : Int → Prop} (h : Rep n g L F X) {a z : Int} (hm : (a, z, true) ∈ L) (hX : ¬ X a) : Rep n (takeOut n g a z) L (rmF F (kl z) a) (fun y => X y ∨ y = a) := by
  have mb := h.blk hm
  simp only at mb
  obtain ⟨k, hk, hz⟩ := cls_bd (z := z) (by omega) (by have := h.nn; omega)
  obtain ⟨A, B, hF, h1⟩ := rep_out h hk hm hX hz
  have e : kl z = k := by unfold kl; rw [hz]; rfl
  rw [e]
  have hnd := h.nd k hk
  rw [hF] at hnd
  have e2 : rmF F k a = fun c => if c = k then A ++ B else F c := by
    funext c
    unfold rmF
    rw [hF, filter_mid hnd]
  rw [e2]
  exact h1
theorem rep_inX {n : Nat} {g : Mem} {L : List Bl} {F : Nat → List Int} {X : Int → Prop} (h : Rep n g L F X) {a z : Int} (hm : (a, z, true) ∈ L) (hX : X a) : Rep n (putIn n g a z) L (adF F (kl z) a) (fun y => X y ∧ y ≠ a) := by
  have mb := h.blk hm
  simp only at mb
  obtain ⟨k, hk, hz⟩ := cls_bd (z := z) (by omega) (by have := h.nn; omega)
  have e : kl z = k := by unfold kl; rw [hz]; rfl
  rw [e]
  exact rep_in h hk hm hX hz

/-- With what is free behind it. -/
def behX (z : Int) (r : List Bl) (F : Nat → List Int) : Int × List Bl × (Nat → List Int) :=
  match r with
  | (b, s, true) :: r' => (z + s, r', rmF F (kl s) b)
  | _ => (z, r, F)
/-- A block that is in no list is freed: blocks and lists behind it. -/
def freedX (A : List Bl) (a z : Int) (r : List Bl) (F : Nat → List Int) : List Bl × (Nat → List Int) :=
  match A.getLast? with
  | some (p, s, true) => (A.dropLast ++ (p, s + (behX z r F).1, true) :: (behX z r F).2.1, adF (rmF (behX z r F).2.2 (kl s) p) (kl (s + (behX z r F).1)) p)
  | _ => (A ++ (a, (behX z r F).1, true) :: (behX z r F).2.1, adF (behX z r F).2.2 (kl (behX z r F).1) a)
theorem rep_freedX {n : Nat} {g : Mem} {A r : List Bl} {F : Nat → List Int} {a z : Int} (h : Rep n g (A ++ (a, z, true) :: r) F (fun y => y = a)) :
    Rep n (freed n g (piecesOf (A ++ (a, z, true) :: r)) a z) (freedX A a z r F).1 (freedX A a z r F).2 (fun _ => False) := by
  obtain ⟨P, hP⟩ : ∃ P, piecesOf (A ++ (a, z, true) :: r) = P := ⟨_, rfl⟩
  have step : ∃ g1, freed n g P a z = freedB n P a g1 (behX z r F).1 ∧ Rep n g1 (A ++ (a, (behX z r F).1, true) :: (behX z r F).2.1) (behX z r F).2.2 (fun y => y = a) ∧ piecesOf (A ++ (a, (behX z r F).1, true) :: (behX z r F).2.1) = P := by
    cases r with
    | nil =>
      have he : a + z = n := (contig_split h.ct).2.2.2
      exact ⟨g, freedB_none (by rw [he, freeAt_end]), h, hP⟩
    | cons y r' =>
      obtain ⟨b, s, f⟩ := y
      have hb : b = a + z := contig_next h.ct
      have hmb : (b, s, f) ∈ A ++ (a, z, true) :: (b, s, f) :: r' := by simp
      have hma : (a, z, true) ∈ A ++ (a, z, true) :: (b, s, f) :: r' := by simp
      have mb := h.blk hmb
      have ma := h.blk hma
      simp only at mb ma
      have hba : b ≠ a := by omega
      cases f with
      | false =>
        have := freeAt_taken (n := n) (g := g) hmb rfl
        rw [hP] at this
        simp only at this
        exact ⟨g, freedB_none (by rw [← hb, this]), h, hP⟩
      | true =>
        have hfr := h.free hmb hba
        rw [hP] at hfr
        have h1 := rep_outX h hmb hba
        have h2 := rep_join h1 (.inl rfl) (.inr rfl)
        refine ⟨takeOut n g b s, ?_, ?_, ?_⟩
        · rw [hb] at hfr ⊢
          exact freedB_some hfr
        · refine h2.iff fun y => ?_
          constructor
          · rintro ⟨q | q, q2⟩
            · exact q
            · exact absurd q q2
          · intro q; exact ⟨.inl q, by omega⟩
        · show piecesOf (A ++ (a, z + s, true) :: r') = P
          rw [← hP, pieces_app, pieces_app]; rfl
  obtain ⟨g1, e1, h1, hP1⟩ := step
  unfold freedX
  obtain ⟨z1, hz1⟩ : ∃ z1, (behX z r F).1 = z1 := ⟨_, rfl⟩
  obtain ⟨r1, hr1⟩ : ∃ r1, (behX z r F).2.1 = r1 := ⟨_, rfl⟩
  obtain ⟨F1, hF1⟩ : ∃ F1, (behX z r F).2.2 = F1 := ⟨_, rfl⟩
  rw [hz1, hr1, hF1] at h1
  rw [hz1, hr1] at hP1
  rw [hz1] at e1
  rw [hz1, hr1, hF1]
  have hma : (a, z1, true) ∈ A ++ (a, z1, true) :: r1 := by simp
  have ma := h1.blk hma
  simp only at ma
  have put : Rep n (putIn n g1 a z1) (A ++ (a, z1, true) :: r1) (adF F1 (kl z1) a) (fun _ => False) := (rep_inX h1 hma rfl).iff fun y => ⟨fun q => q.2 q.1, fun q => q.elim⟩
  rw [hP, e1]
  unfold freedB
  rcases List.eq_nil_or_concat A with rfl | ⟨A', x, hA⟩
  · have ha : a = 112 := h1.ct.1
    cases hf : freeAt n g1 P (rd n g1 (a + 4)) with
    | none => exact put
    | some s =>
      have := freeAt_may hf
      simp only
      rw [if_neg (by omega)]
      exact put
  · obtain ⟨p, s, f⟩ := x
    rw [List.concat_eq_append] at hA
    subst hA
    have hL : (A' ++ [(p, s, f)]) ++ (a, z1, true) :: r1 = A' ++ (p, s, f) :: (a, z1, true) :: r1 := by simp
    have hgl : (A' ++ [(p, s, f)]).getLast? = some (p, s, f) := by simp
    have hdl : (A' ++ [(p, s, f)]).dropLast = A' := by simp
    rw [hL] at h1 hP1 hma
    have hpa : a = p + s := contig_next h1.ct
    have hmp : (p, s, f) ∈ A' ++ (p, s, f) :: (a, z1, true) :: r1 := by simp
    have mp := h1.blk hmp
    simp only at mp
    have hne : p ≠ a := by omega
    have hw : hasW n (a + 4) = true := by unfold hasW; simp only [decide_eq_true_eq]; omega
    have hr : rd n g1 (a + 4) = p := by
      unfold rd
      rw [if_pos hw]
      exact h1.ah _ hmp _ hma hpa hne
    rw [hr, hgl, hdl]
    cases f with
    | false =>
      have := freeAt_taken (n := n) (g := g1) hmp rfl
      rw [hP1] at this
      simp only at this
      rw [this]
      exact put
    | true =>
      have hfr := h1.free hmp hne
      rw [hP1] at hfr
      rw [hfr]
      simp only
      rw [if_pos hpa.symm]
      have h2 := rep_outX h1 hmp hne
      have h3 := rep_join h2 (.inr rfl) (.inl rfl)
      have hm3 : (p, s + z1, true) ∈ A' ++ (p, s + z1, true) :: r1 := by simp
      have h4 := rep_inX h3 hm3 ⟨.inr rfl, hne⟩
      refine h4.iff fun y => ⟨?_, fun q => q.elim⟩
      rintro ⟨⟨q | q, q1⟩, q2⟩
      · exact q1 q
      · exact q2 q

theorem lowBit_none {x fr c : Nat} (h : lowBit x fr = c) (hc : 24 ≤ c) : ∀ d, fr ≤ d → d < 24 → x.testBit d = false := by
  intro d h1 h2
  unfold lowBit at h
  cases e : (List.range 32).find? (fun c => decide (fr ≤ c) && x.testBit c) with
  | none =>
    have := List.find?_eq_none.1 e d (List.mem_range.2 (by omega))
    simpa [h1] using this
  | some k =>
    rw [e] at h
    simp only [Option.getD_some] at h
    subst h
    cases hb : x.testBit d with
    | false => rfl
    | true =>
      exfalso
      rw [List.find?_eq_some_iff_append] at e
      obtain ⟨-, xs, bs, hab, has⟩ := e
      have hd : d ∈ xs := by
        have hm : d ∈ List.range 32 := List.mem_range.2 (by omega)
        rw [hab] at hm
        rcases List.mem_append.1 hm with q | q
        · exact q
        · have hs : (List.range 32).Pairwise (· < ·) := List.pairwise_lt_range
          rw [hab] at hs
          have := (List.pairwise_append.1 hs).2.1
          rcases List.mem_cons.1 q with rfl | q
          · omega
          · have := (List.pairwise_cons.1 this).1 d q
            omega
      have := has d hd
      simp [h1, hb] at this
theorem lowBit_least {x fr c : Nat} (h : lowBit x fr = c) (hc : c < 32) : ∀ d, fr ≤ d → d < c → x.testBit d = false := by
  intro d h1 h2
  unfold lowBit at h
  cases e : (List.range 32).find? (fun c => decide (fr ≤ c) && x.testBit c) with
  | none => rw [e] at h; simp at h; omega
  | some k =>
    rw [e] at h
    simp only [Option.getD_some] at h
    subst h
    cases hb : x.testBit d with
    | false => rfl
    | true =>
      exfalso
      rw [List.find?_eq_some_iff_append] at e
      obtain ⟨-, xs, bs, hab, has⟩ := e
      have hd : d ∈ xs := by
        have hm : d ∈ List.range 32 := List.mem_range.2 (by omega)
        rw [hab] at hm
        rcases List.mem_append.1 hm with q | q
        · exact q
        · have hs : (List.range 32).Pairwise (· < ·) := List.pairwise_lt_range
          rw [hab] at hs
          have := (List.pairwise_append.1 hs).2.1
          rcases List.mem_cons.1 q with rfl | q
          · omega
          · have := (List.pairwise_cons.1 this).1 d q
            omega
      have := has d hd
      simp [h1, hb] at this
/-- find, exactly: the head of the first list that has one, from a class on. -/
theorem rep_findX {n : Nat} {g : Mem} {L : List Bl} {F : Nat → List Int} (h : Rep n g L F (fun _ => False)) (z : Int) :
    (find n g (piecesOf L) z = none ∧ ∀ c, (clsFor z).toNat ≤ c → c < 24 → F c = []) ∨
    ∃ c a s r, c < 24 ∧ (clsFor z).toNat ≤ c ∧ (∀ d, (clsFor z).toNat ≤ d → d < c → F d = []) ∧ F c = a :: r ∧ kl s = c ∧ (a, s, true) ∈ L ∧ find n g (piecesOf L) z = some (a, s, takeOut n g a s) ∧ Rep n (takeOut n g a s) L (rmF F c a) (fun y => y = a) := by
  have hn : 112 ≤ n := by have := contig_le h.ct; omega
  obtain ⟨y, hy, hy2, hbits⟩ := h.bt
  have r0 : rd n g 0 = y := by unfold rd; rw [if_pos (hasW_zero hn)]; exact hy
  have emp : ∀ d, d < 24 → y.testBit d = false → F d = [] := fun d hd hb => by
    rw [hbits d hd] at hb
    cases hF : F d with
    | nil => rfl
    | cons u v => rw [hF] at hb; simp at hb
  unfold find
  rw [r0]
  simp only [Int.toNat_natCast]
  obtain ⟨c, hc⟩ : ∃ c, lowBit y (clsFor z).toNat = c := ⟨_, rfl⟩
  rw [hc]
  by_cases h24 : 24 ≤ c
  · left
    rw [if_pos h24]
    exact ⟨rfl, fun d h1 h2 => emp d h2 (lowBit_none hc h24 d h1 h2)⟩
  · right
    rw [if_neg h24]
    obtain ⟨hb, hle⟩ := lowBit_bit hc (by omega)
    have hc24 : c < 24 := by omega
    rw [hbits c hc24] at hb
    have rh : rd n g (4 + (c : Int) * 4) = (F c).headD 0 := by
      unfold rd
      rw [if_pos (hasW_head hn (by omega) (by omega)), show (4 + (c : Int) * 4).toNat = 4 + c * 4 by omega, h.hd c hc24]
    rw [rh]
    cases hF : F c with
    | nil => rw [hF] at hb; simp at hb
    | cons a r =>
      obtain ⟨s, hs, hcs⟩ := h.mem hc24 (show a ∈ F c by rw [hF]; simp)
      have hfr := h.free hs (fun q => q)
      have hk : kl s = c := by unfold kl; rw [hcs]; rfl
      simp only [List.headD_cons]
      rw [hfr]
      simp only
      rw [if_pos hcs]
      have h1 := rep_outX h hs (fun q => q)
      rw [hk] at h1
      exact ⟨c, a, s, r, hc24, hle, fun d h2 h3 => emp d (by omega) (lowBit_least hc (by omega) d h2 h3), hF, hk, hs, rfl, h1.iff fun y => ⟨fun q => q.elim (fun e => e.elim) id, .inr⟩⟩

/-- A block in no list is given, whole or its front. -/
def giveX (A : List Bl) (a z s : Int) (r : List Bl) (F : Nat → List Int) : List Bl × (Nat → List Int) :=
  if 16 ≤ z - s then freedX (A ++ [(a, s, false)]) (a + s) (z - s) r F else (A ++ (a, z, false) :: r, F)
theorem rep_givenX {n : Nat} {g : Mem} {A r : List Bl} {F : Nat → List Int} {a z s : Int} (h : Rep n g (A ++ (a, z, true) :: r) F (fun y => y = a)) (h1 : 16 ≤ s) (h2 : s % 8 = 0) :
    Rep n (give n g (piecesOf (A ++ (a, z, true) :: r)) a z s).1 (giveX A a z s r F).1 (giveX A a z s r F).2 (fun _ => False) ∧
      (give n g (piecesOf (A ++ (a, z, true) :: r)) a z s).2 = piecesOf A ++ (a + 8, if 16 ≤ z - s then s else z) :: piecesOf r := by
  unfold give giveX
  by_cases hb : 16 ≤ z - s
  · rw [if_pos hb, if_pos hb, if_pos hb]
    simp only
    rw [pieces_put h.ct]
    have q1 := rep_part h rfl h1 h2 hb
    have q2 := (rep_give q1 (.inl rfl)).iff (Y := fun y => y = a + s) fun y => ⟨fun q => q.1.elim (fun e => absurd e q.2) id, fun q => ⟨.inr q, by omega⟩⟩
    have hL : A ++ (a, s, false) :: (a + s, z - s, true) :: r = (A ++ [(a, s, false)]) ++ (a + s, z - s, true) :: r := by simp
    rw [hL] at q2
    have hP : piecesOf ((A ++ [(a, s, false)]) ++ (a + s, z - s, true) :: r) = piecesOf A ++ (a + 8, s) :: piecesOf r := by
      rw [pieces_app, pieces_app]
      show (piecesOf A ++ [(a + 8, s)]) ++ piecesOf r = _
      simp
    have w1 := rep_freedX q2
    rw [hP] at w1
    exact ⟨w1, rfl⟩
  · rw [if_neg hb, if_neg hb, if_neg hb]
    simp only
    rw [pieces_put h.ct]
    exact ⟨(rep_give h rfl).iff (Y := fun _ => False) fun y => ⟨fun q => q.2 q.1, fun q => q.elim⟩, rfl⟩
/-- A piece is freed. -/
theorem rep_freeX {n : Nat} {g : Mem} {A r : List Bl} {F : Nat → List Int} {a z : Int} (h : Rep n g (A ++ (a, z, false) :: r) F (fun _ => False)) :
    Rep n (freed n g (delP (piecesOf (A ++ (a, z, false) :: r)) (a + 8)) a z) (freedX A a z r F).1 (freedX A a z r F).2 (fun _ => False) := by
  rw [pieces_del h.ct]
  exact rep_freedX ((rep_back h).iff (Y := fun y => y = a) fun y => ⟨fun q => q.elim (fun e => e.elim) id, .inr⟩)
end Go.Proofs.YtgefmnnkpffpcaaGreatDoor
