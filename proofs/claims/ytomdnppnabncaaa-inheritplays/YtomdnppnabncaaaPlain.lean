/- Effective priorities, plainly: numbers that bases, ceilings and waiting ask for, the least ones. No Go is walked here. -/
import Derived.Test.YtomdnppnabncaaaOwn
namespace Go.Proofs.Ytomdnppnabncaaa

/-- Where one comes from s in k steps of waiting; below 0: nowhere. -/
def it (w : Nat → Int) : Nat → Nat → Int
  | 0, s => s
  | k + 1, s => if it w k s < 0 then it w k s else w (it w k s).toNat
/-- Who waits waits for one of n, or for nobody. -/
def Wt (n : Nat) (w : Nat → Int) : Prop := ∀ t, t < n → -1 ≤ w t ∧ w t < n
/-- Numbers as they are asked for. -/
def Sol (n : Nat) (own : Nat → Int) (w l : Nat → Int) : Prop := ∀ t, t < n → own t ≤ l t ∧ (0 ≤ w t → l t ≤ l (w t).toNat)
/-- Each is some thread's own from which waiting leads there. -/
def Att (n : Nat) (own : Nat → Int) (w l : Nat → Int) : Prop := ∀ t, t < n → ∃ s, s < n ∧ ∃ k, it w k s = (t : Int) ∧ l t = own s
section
variable {n : Nat} {own own' w w' l l' : Nat → Int}
theorem it_bd (hw : Wt n w) {s : Nat} (hs : s < n) : ∀ k, -1 ≤ it w k s ∧ it w k s < n
  | 0 => by show -1 ≤ (s : Int) ∧ (s : Int) < n; omega
  | k + 1 => by
    have ih := it_bd hw hs k
    unfold it
    split
    · exact ih
    · exact hw _ (by omega)
theorem it_back {s k : Nat} (h : 0 ≤ it w (k + 1) s) : 0 ≤ it w k s := by
  unfold it at h
  split at h
  · exact h
  · omega
theorem it_low {s k : Nat} (h : 0 ≤ it w k s) : ∀ j, j ≤ k → 0 ≤ it w j s := by
  induction k with
  | zero => intro j hj; rw [show j = 0 by omega]; exact h
  | succ k ih =>
    intro j hj
    by_cases e : j = k + 1
    · rw [e]; exact h
    · exact ih (it_back h) j (by omega)
theorem it_add {s k : Nat} (h : 0 ≤ it w k s) : ∀ j, it w (k + j) s = it w j (it w k s).toNat
  | 0 => by show it w k s = (((it w k s).toNat : Nat) : Int); omega
  | j + 1 => by
    have ih := it_add h j
    show (if it w (k + j) s < 0 then it w (k + j) s else w (it w (k + j) s).toNat) = _
    rw [ih]
    rfl
theorem sol_le (hw : Wt n w) (h : Sol n own w l) {s : Nat} (hs : s < n) : ∀ k, 0 ≤ it w k s → l s ≤ l (it w k s).toNat
  | 0, _ => by show l s ≤ l ((s : Int)).toNat; simp
  | k + 1, hk => by
    have h0 := it_back hk
    have ih := sol_le hw h hs k h0
    have hb := it_bd hw hs k
    have e : it w (k + 1) s = w (it w k s).toNat := by
      show (if it w k s < 0 then _ else _) = _
      rw [if_neg (by omega)]
    rw [e] at hk ⊢
    have := (h (it w k s).toNat (by omega)).2 hk
    omega
/-- Numbers that are asked for are no less than those that are some thread's own. -/
theorem least (hw : Wt n w) (h : Sol n own w l) (h' : Att n own w l') {t : Nat} (ht : t < n) : l' t ≤ l t := by
  obtain ⟨s, hs, k, e, q⟩ := h' t ht
  have := sol_le hw h hs k (by omega)
  rw [e, Int.toNat_natCast] at this
  have := (h s hs).1
  omega
theorem only (hw : Wt n w) (h : Sol n own w l) (a : Att n own w l) (h' : Sol n own w l') (a' : Att n own w l') {t : Nat} (ht : t < n) : l t = l' t :=
  Int.le_antisymm (least hw h' a ht) (least hw h a' ht)
/-- More is asked for: no number is less. -/
theorem more (hw' : Wt n w') (h' : Sol n own' w' l') (a : Att n own w l) (ho : ∀ t, t < n → own t ≤ own' t) (hm : ∀ t, t < n → 0 ≤ w t → w' t = w t) (hw : Wt n w) {t : Nat} (ht : t < n) : l t ≤ l' t := by
  obtain ⟨s, hs, k, e, q⟩ := a t ht
  have same : ∀ j, 0 ≤ it w j s → it w' j s = it w j s := by
    intro j
    induction j with
    | zero => intro _; rfl
    | succ j ih =>
      intro hj
      have h0 := it_back hj
      have hb := it_bd hw hs j
      show (if it w' j s < 0 then it w' j s else w' (it w' j s).toNat) = (if it w j s < 0 then it w j s else w (it w j s).toNat)
      rw [ih h0, if_neg (by omega), if_neg (by omega)]
      apply hm _ (by omega)
      have e2 : it w (j + 1) s = w (it w j s).toNat := by
        show (if it w j s < 0 then _ else _) = _
        rw [if_neg (by omega)]
      rw [← e2]
      exact hj
  have h1 := same k (by omega)
  have h2 := sol_le hw' h' hs k (by omega)
  rw [h1, e, Int.toNat_natCast] at h2
  have := (h' s hs).1
  have := ho s hs
  omega
/-- The first time that one comes there. -/
theorem first {s t : Nat} : ∀ k, it w k s = (t : Int) → ∃ j, j ≤ k ∧ it w j s = (t : Int) ∧ ∀ i, i < j → it w i s ≠ (t : Int)
  | 0, h => ⟨0, Nat.le_refl _, h, fun i hi => by omega⟩
  | k + 1, h => by
    by_cases hx : ∃ j, j ≤ k ∧ it w j s = (t : Int)
    · obtain ⟨j, hj, e⟩ := hx
      obtain ⟨i, hi, r⟩ := first j e
      exact ⟨i, by omega, r⟩
    · exact ⟨k + 1, Nat.le_refl _, h, fun i hi e => hx ⟨i, by omega, e⟩⟩
  termination_by k => k
/-- Who stops waiting has its own number as before. -/
theorem stops (a : Att n own w l) {t : Nat} (ht : t < n) (hm : ∀ s, s ≠ t → w' s = w s) (hw' : Wt n w') (h' : Sol n own w' l') : l t ≤ l' t := by
  obtain ⟨s, hs, k, e, q⟩ := a t ht
  obtain ⟨j, -, ej, hf⟩ := first k e
  have hl := it_low (w := w) (s := s) (k := j) (by omega)
  have same : ∀ i, i ≤ j → it w' i s = it w i s := by
    intro i
    induction i with
    | zero => intro _; rfl
    | succ i ih =>
      intro hi
      have h0 := hl i (by omega)
      show (if it w' i s < 0 then it w' i s else w' (it w' i s).toNat) = (if it w i s < 0 then it w i s else w (it w i s).toNat)
      rw [ih (by omega), if_neg (by omega), if_neg (by omega)]
      apply hm
      intro e2
      exact hf i (by omega) (by omega)
  have h1 := same j (Nat.le_refl _)
  have h2 := sol_le hw' h' hs j (by omega)
  rw [h1, ej, Int.toNat_natCast] at h2
  have := (h' s hs).1
  omega
/-- Of more places than there are numbers two are the same. -/
theorem pigeon : ∀ (n : Nat) (f : Nat → Nat), (∀ i, i ≤ n → f i < n) → ∃ i j, i < j ∧ j ≤ n ∧ f i = f j
  | 0, f, h => by have := h 0 (Nat.le_refl _); omega
  | n + 1, f, h => by
    by_cases hx : ∃ i, i ≤ n ∧ f i = f (n + 1)
    · obtain ⟨i, hi, e⟩ := hx
      exact ⟨i, n + 1, by omega, Nat.le_refl _, e⟩
    · have hne : ∀ i, i ≤ n → f i ≠ f (n + 1) := fun i hi e => hx ⟨i, hi, e⟩
      obtain ⟨i, j, hij, hj, e⟩ := pigeon n (fun i => if f i < f (n + 1) then f i else f i - 1) (fun i hi => by
        have h1 := h i (by omega)
        have h2 := h (n + 1) (Nat.le_refl _)
        have h3 := hne i hi
        show (if f i < f (n + 1) then f i else f i - 1) < n
        split <;> omega)
      refine ⟨i, j, hij, by omega, ?_⟩
      have h3 := hne i (by omega)
      have h4 := hne j (by omega)
      have e' : (if f i < f (n + 1) then f i else f i - 1) = (if f j < f (n + 1) then f j else f j - 1) := e
      split at e' <;> split at e' <;> omega
/-- Where one comes one comes within n steps. -/
theorem within (hw : Wt n w) {s : Nat} (hs : s < n) {t : Nat} : ∀ k, it w k s = (t : Int) → ∃ j, j < n ∧ it w j s = (t : Int) := by
  intro k
  induction k using Nat.strongRecOn with
  | _ k ih =>
    intro h
    by_cases hk : k < n
    · exact ⟨k, hk, h⟩
    · have hl := it_low (w := w) (s := s) (k := k) (by omega)
      obtain ⟨i, j, hij, hj, e⟩ := pigeon n (fun i => (it w i s).toNat) (fun i hi => by
        have := it_bd hw hs i
        have := hl i (by omega)
        show (it w i s).toNat < n
        omega)
      have hi0 := hl i (by omega)
      have hj0 := hl j (by omega)
      have e' : (it w i s).toNat = (it w j s).toNat := e
      have h1 := it_add (w := w) hj0 (k - j)
      have h2 := it_add (w := w) hi0 (k - j)
      rw [show j + (k - j) = k by omega] at h1
      rw [e', ← h1, h] at h2
      exact ih (i + (k - j)) (by omega) h2
/-- All of a ring have one number. -/
theorem ring_one (hw : Wt n w) (h : Sol n own w l) {t k : Nat} (ht : t < n) (hk : it w k t = (t : Int)) {j : Nat} (hj : j ≤ k) : l (it w j t).toNat = l t := by
  have h0 := it_low (w := w) (s := t) (k := k) (by omega) j hj
  have h1 := sol_le hw h ht j h0
  have hb := it_bd hw ht j
  have h2 := it_add (w := w) h0 (k - j)
  rw [show j + (k - j) = k by omega, hk] at h2
  have h3 := sol_le hw h (s := (it w j t).toNat) (by omega) (k - j) (by omega)
  rw [← h2, Int.toNat_natCast] at h3
  omega
end
/-- A graph: how many threads; bases, ceilings, for whom each waits (-1: for nobody). -/
structure Gs where
  n : Nat
  b : Nat → Int
  c : Nat → Int
  w : Nat → Int
/-- What a graph is between calls. -/
structure Gok (G : Gs) : Prop where
  n1 : 1 ≤ G.n
  n2 : G.n ≤ 16
  b : ∀ t, t < 16 → 0 ≤ G.b t ∧ G.b t ≤ 31
  c : ∀ t, t < 16 → 0 ≤ G.c t ∧ G.c t ≤ 31
  w : ∀ t, t < 16 → -1 ≤ G.w t ∧ G.w t < G.n
def upd (f : Nat → Int) (i : Nat) (v : Int) : Nat → Int := fun j => if j = i then v else f j
theorem upd_same (f : Nat → Int) (i : Nat) (v : Int) : upd f i v i = v := by simp [upd]
theorem upd_ne (f : Nat → Int) {i j : Nat} (v : Int) (h : j ≠ i) : upd f i v j = f j := by simp [upd, h]
def newG (n : Nat) : Gs := ⟨n, fun _ => 0, fun _ => 0, fun _ => -1⟩
theorem ok_new {n : Nat} (h1 : 1 ≤ n) (h2 : n ≤ 16) : Gok (newG n) :=
  ⟨h1, h2, fun _ _ => by simp [newG], fun _ _ => by simp [newG], fun _ _ => by simp [newG]; omega⟩
/-- May a thread, a priority, an owner be? -/
def mayT (G : Gs) (t : Int) : Prop := 0 ≤ t ∧ t < G.n
def mayP (p : Int) : Prop := 0 ≤ p ∧ p ≤ 31
def mayO (G : Gs) (o : Int) : Prop := -1 ≤ o ∧ o < G.n
instance (G : Gs) (t : Int) : Decidable (mayT G t) := by unfold mayT; exact inferInstance
instance (p : Int) : Decidable (mayP p) := by unfold mayP; exact inferInstance
instance (G : Gs) (o : Int) : Decidable (mayO G o) := by unfold mayO; exact inferInstance
def baE (G : Gs) (t p : Int) : Int := if mayT G t ∧ mayP p then 0 else 2
def baG (G : Gs) (t p : Int) : Gs := if mayT G t ∧ mayP p then { G with b := upd G.b t.toNat p } else G
def ceG (G : Gs) (t p : Int) : Gs := if mayT G t ∧ mayP p then { G with c := upd G.c t.toNat p } else G
def waE (G : Gs) (t o : Int) : Int := if mayT G t ∧ mayO G o then 0 else 2
def waG (G : Gs) (t o : Int) : Gs := if mayT G t ∧ mayO G o then { G with w := upd G.w t.toNat o } else G
theorem ba_n (G : Gs) (t p : Int) : (baG G t p).n = G.n := by unfold baG; split <;> rfl
theorem ce_n (G : Gs) (t p : Int) : (ceG G t p).n = G.n := by unfold ceG; split <;> rfl
theorem wa_n (G : Gs) (t p : Int) : (waG G t p).n = G.n := by unfold waG; split <;> rfl
theorem ok_ba {G : Gs} (h : Gok G) (t p : Int) : Gok (baG G t p) := by
  unfold baG
  split
  · rename_i q
    refine ⟨h.n1, h.n2, fun k hk => ?_, h.c, h.w⟩
    show 0 ≤ upd G.b t.toNat p k ∧ upd G.b t.toNat p k ≤ 31
    unfold upd
    split
    · exact q.2
    · exact h.b k hk
  · exact h
theorem ok_ce {G : Gs} (h : Gok G) (t p : Int) : Gok (ceG G t p) := by
  unfold ceG
  split
  · rename_i q
    refine ⟨h.n1, h.n2, h.b, fun k hk => ?_, h.w⟩
    show 0 ≤ upd G.c t.toNat p k ∧ upd G.c t.toNat p k ≤ 31
    unfold upd
    split
    · exact q.2
    · exact h.c k hk
  · exact h
theorem ok_wa {G : Gs} (h : Gok G) (t p : Int) : Gok (waG G t p) := by
  unfold waG
  split
  · rename_i q
    refine ⟨h.n1, h.n2, h.b, h.c, fun k hk => ?_⟩
    show -1 ≤ upd G.w t.toNat p k ∧ upd G.w t.toNat p k < G.n
    unfold upd
    split
    · exact q.2
    · exact h.w k hk
  · exact h
theorem Gok.wt {G : Gs} (h : Gok G) : Wt G.n G.w := fun t ht => h.w t (by have := h.n2; omega)
/-- What a thread has by itself. -/
def ownP (G : Gs) (t : Nat) : Int := max (G.b t) (G.c t)
theorem Gok.own {G : Gs} (h : Gok G) {t : Nat} (ht : t < G.n) : 0 ≤ ownP G t ∧ ownP G t ≤ 31 := by
  have h1 := h.b t (by have := h.n2; omega)
  have h2 := h.c t (by have := h.n2; omega)
  unfold ownP
  omega
/-- These are the effective priorities. -/
structure Eff (G : Gs) (L : List Int) : Prop where
  len : L.length = G.n
  sol : Sol G.n (ownP G) G.w (fun t => L[t]!)
  att : Att G.n (ownP G) G.w (fun t => L[t]!)
theorem Eff.one {G : Gs} (hG : Gok G) {L M : List Int} (h : Eff G L) (h' : Eff G M) : L = M := by
  apply List.ext_getElem
  · rw [h.len, h'.len]
  · intro t h1 h2
    have := only hG.wt h.sol h.att h'.sol h'.att (t := t) (by rw [← h.len]; exact h1)
    simpa [getElem!_pos, h1, h2] using this
theorem Eff.bd {G : Gs} (hG : Gok G) {L : List Int} (h : Eff G L) {t : Nat} (ht : t < G.n) : 0 ≤ L[t]! ∧ L[t]! ≤ 31 := by
  obtain ⟨s, hs, k, -, e⟩ := h.att t ht
  have := hG.own hs
  simp only at e
  omega
/-- What is looked at to see them (closed rows). -/
def effB (G : Gs) (L : List Int) : Bool :=
  decide (L.length = G.n) && (List.range G.n).all (fun t => decide (ownP G t ≤ L[t]!) && (decide (G.w t < 0) || decide (L[t]! ≤ L[(G.w t).toNat]!)) &&
    (List.range G.n).any fun s => (List.range G.n).any fun k => decide (it G.w k s = (t : Int)) && decide (L[t]! = ownP G s))
theorem eff_of {G : Gs} {L : List Int} (h : effB G L = true) : Eff G L := by
  simp only [effB, Bool.and_eq_true, decide_eq_true_eq, List.all_eq_true, List.any_eq_true, List.mem_range, Bool.or_eq_true] at h
  obtain ⟨h1, h2⟩ := h
  refine ⟨h1, fun t ht => ?_, fun t ht => ?_⟩
  · obtain ⟨⟨a, b⟩, -⟩ := h2 t ht
    refine ⟨a, fun q => ?_⟩
    rcases b with b | b
    · omega
    · exact b
  · obtain ⟨-, s, hs, k, -, e1, e2⟩ := h2 t ht
    exact ⟨s, hs, k, e1, e2⟩
/-- It is one of a ring, and these are its threads. -/
def IsRing (w : Nat → Int) (t : Nat) (L : List Int) : Prop :=
  ∃ k, 0 < k ∧ it w k t = (t : Int) ∧ (∀ j, 0 < j → j < k → it w j t ≠ (t : Int)) ∧ L = (List.range k).map fun j => it w j t
def NoRing (w : Nat → Int) (t : Nat) : Prop := ∀ k, 0 < k → it w k t ≠ (t : Int)
/-- What Ring tells. -/
def Rg (G : Gs) (t : Nat) (L : List Int) (b : Bool) : Prop := (b = true ∧ IsRing G.w t L) ∨ (b = false ∧ L = [] ∧ NoRing G.w t)
theorem IsRing.one {w : Nat → Int} {t : Nat} {L M : List Int} (h : IsRing w t L) (h' : IsRing w t M) : L = M := by
  obtain ⟨k, k0, e, m, rfl⟩ := h
  obtain ⟨k', k0', e', m', rfl⟩ := h'
  have : k = k' := by
    rcases Nat.lt_trichotomy k k' with q | q | q
    · exact absurd e (m' k k0 q)
    · exact q
    · exact absurd e' (m k' k0' q)
  rw [this]
theorem IsRing.ne {w : Nat → Int} {t : Nat} {L : List Int} (h : IsRing w t L) : L ≠ [] := by
  obtain ⟨k, k0, e, m, rfl⟩ := h
  intro q
  have := congrArg List.length q
  simp at this
  omega
theorem IsRing.not {w : Nat → Int} {t : Nat} {L : List Int} (h : IsRing w t L) (h' : NoRing w t) : False := by
  obtain ⟨k, k0, e, -⟩ := h
  exact h' k k0 e
theorem Rg.one {G : Gs} {t : Nat} {L M : List Int} {b b' : Bool} (h : Rg G t L b) (h' : Rg G t M b') : L = M ∧ b = b' := by
  rcases h with ⟨rfl, h⟩ | ⟨rfl, rfl, h⟩ <;> rcases h' with ⟨rfl, h'⟩ | ⟨rfl, rfl, h'⟩
  · exact ⟨h.one h', rfl⟩
  · exact (h.not h').elim
  · exact (h'.not h).elim
  · exact ⟨rfl, rfl⟩
theorem Rg.some_iff {G : Gs} {t : Nat} {L : List Int} {b : Bool} (h : Rg G t L b) : b = decide (0 < L.length) := by
  rcases h with ⟨rfl, h⟩ | ⟨rfl, rfl, h⟩
  · have := List.length_pos_iff.2 h.ne
    simp [this]
  · simp
/-- A ring has no more threads than there are. -/
theorem it_neg {w : Nat → Int} {s k : Nat} (h : it w k s < 0) : ∀ j, k ≤ j → it w j s < 0 := by
  intro j hj
  by_cases q : it w j s < 0
  · exact q
  · have := it_low (w := w) (s := s) (k := j) (by omega) k hj
    omega
theorem IsRing.le {G : Gs} (hG : Gok G) {t : Nat} (ht : t < G.n) {L : List Int} (h : IsRing G.w t L) : L.length ≤ G.n := by
  obtain ⟨k, k0, e, m, rfl⟩ := h
  rw [List.length_map, List.length_range]
  by_cases q : k ≤ G.n
  · exact q
  · have hl := it_low (w := G.w) (s := t) (k := k) (by omega)
    obtain ⟨i, j, hij, hj, q2⟩ := pigeon G.n (fun i => (it G.w (i + 1) t).toNat) (fun i hi => by
      have := it_bd hG.wt ht (i + 1)
      have := hl (i + 1) (by omega)
      show (it G.w (i + 1) t).toNat < G.n
      omega)
    have hi0 := hl (i + 1) (by omega)
    have hj0 := hl (j + 1) (by omega)
    have q3 : (it G.w (i + 1) t).toNat = (it G.w (j + 1) t).toNat := q2
    have a1 := it_add (w := G.w) hj0 (k - (j + 1))
    have a2 := it_add (w := G.w) hi0 (k - (j + 1))
    rw [show j + 1 + (k - (j + 1)) = k by omega] at a1
    rw [q3, ← a1, e] at a2
    exact absurd a2 (m _ (by omega) (by omega))
/-- No way back within so many steps: there is none. -/
theorem noRing_of {G : Gs} (hG : Gok G) {t : Nat} (ht : t < G.n) (h : ∀ k, 0 < k → k ≤ G.n → it G.w k t ≠ (t : Int)) : NoRing G.w t := by
  intro k k0 e
  obtain ⟨j, j0, hj, hm⟩ : ∃ j, 0 < j ∧ it G.w j t = (t : Int) ∧ ∀ i, 0 < i → i < j → it G.w i t ≠ (t : Int) := by
    clear h
    induction k using Nat.strongRecOn with
    | _ k ih =>
      by_cases q : ∃ i, 0 < i ∧ i < k ∧ it G.w i t = (t : Int)
      · obtain ⟨i, i0, ik, ei⟩ := q
        exact ih i ik i0 ei
      · exact ⟨k, k0, e, fun i i0 ik ei => q ⟨i, i0, ik, ei⟩⟩
  have := IsRing.le hG ht ⟨j, j0, hj, hm, rfl⟩
  rw [List.length_map, List.length_range] at this
  exact h j j0 this hj
theorem noRing_neg {w : Nat → Int} {t k : Nat} (h : it w k t < 0) (h' : ∀ j, 0 < j → j < k → it w j t ≠ (t : Int)) : NoRing w t := by
  intro j j0 e
  by_cases q : j < k
  · exact h' j j0 q e
  · have := it_neg h j (by omega)
    omega
/-- Who waits for it, rising. -/
def forL (G : Gs) (t : Int) : List Int := if mayT G t then ((List.range G.n).filter fun i => decide (G.w i = t)).map Int.ofNat else []
theorem forL_no {G : Gs} {t : Int} (h : ¬ mayT G t) : forL G t = [] := by unfold forL; rw [if_neg h]
/-- The first k of them. -/
def forK (G : Gs) (t : Int) (k : Nat) : List Int := ((List.range k).filter fun i => decide (G.w i = t)).map Int.ofNat
theorem forK_all {G : Gs} {t : Int} (h : mayT G t) : forK G t G.n = forL G t := by unfold forL forK; rw [if_pos h]
theorem forK_zero (G : Gs) (t : Int) : forK G t 0 = [] := rfl
theorem forK_step (G : Gs) (t : Int) (k : Nat) : forK G t (k + 1) = if G.w k = t then forK G t k ++ [(k : Int)] else forK G t k := by
  unfold forK
  rw [List.range_succ, List.filter_append, List.map_append]
  by_cases h : G.w k = t
  · simp [h]
  · simp [h]
theorem forK_len (G : Gs) (t : Int) (k : Nat) : (forK G t k).length ≤ k := by
  unfold forK
  rw [List.length_map]
  exact Nat.le_trans (List.length_filter_le _ _) (by simp)
theorem forL_len (G : Gs) (t : Int) : (forL G t).length ≤ G.n := by
  unfold forL
  split
  · exact forK_len G t G.n
  · simp
/-- Are two the same in all? -/
def sameG (G H : Gs) : Bool := decide (G.n = H.n) && (List.range 16).all fun t => decide (G.b t = H.b t) && decide (G.c t = H.c t) && decide (G.w t = H.w t)
theorem sameG_iff {G H : Gs} : sameG G H = true ↔ G.n = H.n ∧ ∀ t, t < 16 → G.b t = H.b t ∧ G.c t = H.c t ∧ G.w t = H.w t := by
  simp only [sameG, Bool.and_eq_true, decide_eq_true_eq, List.all_eq_true, List.mem_range]
  constructor
  · rintro ⟨a, b⟩
    exact ⟨a, fun t ht => ⟨(b t ht).1.1, (b t ht).1.2, (b t ht).2⟩⟩
  · rintro ⟨a, b⟩
    exact ⟨a, fun t ht => ⟨⟨(b t ht).1, (b t ht).2.1⟩, (b t ht).2.2⟩⟩
theorem sameG_refl (G : Gs) : sameG G G = true := sameG_iff.2 ⟨rfl, fun _ _ => ⟨rfl, rfl, rfl⟩⟩
theorem sameG_symm (G H : Gs) : sameG G H = sameG H G := by
  rw [Bool.eq_iff_iff, sameG_iff, sameG_iff]
  exact ⟨fun h => ⟨h.1.symm, fun t ht => ⟨(h.2 t ht).1.symm, (h.2 t ht).2.1.symm, (h.2 t ht).2.2.symm⟩⟩, fun h => ⟨h.1.symm, fun t ht => ⟨(h.2 t ht).1.symm, (h.2 t ht).2.1.symm, (h.2 t ht).2.2.symm⟩⟩⟩
/-- What is still to be raised, at most. -/
def gap (L : List Int) : Nat := (L.map fun x => (31 - x).toNat).sum
theorem gap_set : ∀ (L : List Int) (i : Nat) (x : Int), i < L.length → L[i]! < x → x ≤ 31 → gap (L.set i x) < gap L
  | [], i, x, h, _, _ => by simp at h
  | y :: r, 0, x, _, h1, h2 => by
    have h1' : y < x := by simpa using h1
    simp only [gap, List.set_cons_zero, List.map_cons, List.sum_cons]
    omega
  | y :: r, i + 1, x, h, h1, h2 => by
    have ih := gap_set r i x (by simpa using h) (by simpa using h1) h2
    simp only [gap, List.set_cons_succ, List.map_cons, List.sum_cons] at ih ⊢
    omega
/-- Numbers under way: none below its own, each some thread's. -/
structure Way (G : Gs) (L : List Int) : Prop where
  len : L.length = G.n
  low : ∀ t, t < G.n → ownP G t ≤ L[t]!
  att : Att G.n (ownP G) G.w (fun t => L[t]!)
theorem Way.bd {G : Gs} (hG : Gok G) {L : List Int} (h : Way G L) {t : Nat} (ht : t < G.n) : 0 ≤ L[t]! ∧ L[t]! ≤ 31 := by
  obtain ⟨s, hs, k, -, e⟩ := h.att t ht
  have := hG.own hs
  simp only at e
  omega
theorem set_get {L : List Int} {i j : Nat} {x : Int} (hi : i < L.length) : (L.set i x)[j]! = if j = i then x else L[j]! := by
  by_cases h : j = i
  · subst h
    simp [getElem!_pos, hi]
  · rw [if_neg h]
    by_cases hj : j < L.length
    · simp only [getElem!_pos, hj, List.length_set]
      rw [List.getElem_set_ne (fun e => h e.symm)]
    · rw [getElem!_neg _ j (by simpa using hj), getElem!_neg _ j hj]
theorem Way.raise {G : Gs} (hG : Gok G) {L : List Int} (h : Way G L) {t : Nat} (ht : t < G.n) (hw : 0 ≤ G.w t) (hlt : L[(G.w t).toNat]! < L[t]!) : Way G (L.set (G.w t).toNat L[t]!) ∧ gap (L.set (G.w t).toNat L[t]!) < gap L := by
  have hb := hG.wt t ht
  have hi : (G.w t).toNat < L.length := by rw [h.len]; omega
  refine ⟨⟨by rw [List.length_set]; exact h.len, fun s hs => ?_, fun s hs => ?_⟩, gap_set _ _ _ hi hlt (h.bd hG ht).2⟩
  · rw [set_get hi]
    have := h.low s hs
    split
    · rename_i e
      subst e
      omega
    · exact this
  · simp only [set_get hi]
    split
    · rename_i e
      obtain ⟨u, hu, k, e1, e2⟩ := h.att t ht
      refine ⟨u, hu, k + 1, ?_, e2⟩
      show (if it G.w k u < 0 then it G.w k u else G.w (it G.w k u).toNat) = _
      rw [e1, if_neg (by omega), Int.toNat_natCast, e]
      omega
    · exact h.att s hs
theorem Way.eff {G : Gs} {L : List Int} (h : Way G L) (hc : ∀ t, t < G.n → 0 ≤ G.w t → L[t]! ≤ L[(G.w t).toNat]!) : Eff G L := ⟨h.len, fun t ht => ⟨h.low t ht, hc t ht⟩, h.att⟩
/-- Where they begin. -/
theorem way_own {G : Gs} {L : List Int} (hl : L.length = G.n) (h : ∀ t, t < G.n → L[t]! = ownP G t) : Way G L :=
  ⟨hl, fun t ht => by rw [h t ht]; exact Int.le_refl _, fun t ht => ⟨t, ht, 0, rfl, h t ht⟩⟩
end Go.Proofs.Ytomdnppnabncaaa
