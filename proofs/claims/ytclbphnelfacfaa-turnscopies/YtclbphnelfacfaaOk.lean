/- Sequences: each thread in one at most. No Go is walked here. -/
import Derived.Test.YtclbphnelfacfaaKn
namespace Go.Proofs.Ytclbphnelfacfaa
open Go.RowKit Go.Shelf

structure okL (L : Ls) : Prop where
  thr : ∀ p t, t ∈ L p → t < 16 ∧ 1 ≤ p ∧ p ≤ 31
  uni : ∀ p p' t, t ∈ L p → t ∈ L p' → p = p'
  len : ∀ p, (L p).length ≤ 16
theorem Rd.ok {w : World} {rb s : Nat} {L : Ls} (h : Rd w rb L s) : okL L := by
  obtain ⟨c, u, -, hP⟩ := h
  exact ⟨fun p t ht => ⟨(hP.thr p t ht).1, (hP.thr p t ht).2.1, (hP.thr p t ht).2.2.1⟩, fun p p' t h1 h2 => (hP.thr p t h1).2.2.2.symm.trans (hP.thr p' t h2).2.2.2, fun p => hP.seq16 p⟩
theorem Kn.ok {w W : World} {xb rb q m : Nat} {S : Sh} {L : Ls} (h : Kn w W xb rb q S L m) : okL L := by
  obtain ⟨s, -, hT⟩ := h.tn
  exact hT.rd.ok
section
variable {L L' : Ls}
theorem okL.at0 (h : okL L) {p : Nat} (hp : ¬ (1 ≤ p ∧ p ≤ 31)) : L p = [] := by
  cases e : L p with
  | nil => rfl
  | cons t l => have := h.thr p t (by simp [e]); omega
theorem okL.pr (h : okL L) {t p : Nat} (ht : t ∈ L p) : prN L t 31 = p :=
  prN_some (h.thr p t ht).2.1 (h.thr p t ht).2.2 ht (fun p' hp => h.uni p' p t hp ht)
theorem okL.none {t : Nat} (ht : ∀ p, t ∉ L p) : prN L t 31 = 0 := prN_none fun p _ _ => ht p
theorem okL.mem (h : okL L) {t : Nat} (ht : prN L t 31 ≠ 0) : t ∈ L (prN L t 31) := by
  by_cases hx : ∃ p, t ∈ L p
  · obtain ⟨p, hp⟩ := hx
    rw [h.pr hp]
    exact hp
  · exact absurd (okL.none fun p hp => hx ⟨p, hp⟩) ht
theorem okL.off (h : okL L) {t : Nat} (ht : prN L t 31 = 0) (p : Nat) : t ∉ L p := fun hp => by
  have h1 := h.pr hp
  have h2 := (h.thr p t hp).2.1
  omega
theorem pr_same (h : okL L) (h' : okL L') {t : Nat} (e : ∀ p, t ∈ L p ↔ t ∈ L' p) : prN L t 31 = prN L' t 31 := by
  by_cases hx : ∃ p, t ∈ L p
  · obtain ⟨p, hp⟩ := hx
    rw [h.pr hp, h'.pr ((e p).1 hp)]
  · rw [okL.none fun p hp => hx ⟨p, hp⟩, okL.none fun p hp => hx ⟨p, (e p).2 hp⟩]
/-- A thread is taken out of its sequence. -/
theorem cut_mem (h : okL L) (T p t : Nat) : t ∈ updL L (prN L T 31) ((L (prN L T 31)).filter (fun x => decide (x ≠ T))) p ↔ t ∈ L p ∧ t ≠ T := by
  by_cases e : p = prN L T 31
  · rw [e, updL_same, List.mem_filter]
    simp
  · rw [updL_ne _ _ e]
    refine ⟨fun ht => ⟨ht, ?_⟩, fun ht => ht.1⟩
    rintro rfl
    exact e (h.pr ht).symm
theorem okL.cut (h : okL L) (T : Nat) : okL (updL L (prN L T 31) ((L (prN L T 31)).filter (fun x => decide (x ≠ T)))) :=
  ⟨fun p t ht => h.thr p t ((cut_mem h T p t).1 ht).1, fun p p' t h1 h2 => h.uni p p' t ((cut_mem h T p t).1 h1).1 ((cut_mem h T p' t).1 h2).1, fun p => by
    by_cases e : p = prN L T 31
    · rw [e, updL_same]
      exact Nat.le_trans (List.length_filter_le _ _) (h.len _)
    · rw [updL_ne _ _ e]
      exact h.len p⟩
theorem cut_pr (h : okL L) (T t : Nat) : prN (updL L (prN L T 31) ((L (prN L T 31)).filter (fun x => decide (x ≠ T)))) t 31 = if t = T then 0 else prN L t 31 := by
  by_cases e : t = T
  · rw [if_pos e]
    exact okL.none fun p hp => ((cut_mem h T p t).1 hp).2 e
  · rw [if_neg e]
    exact pr_same (h.cut T) h fun p => by rw [cut_mem h]; simp [e]
/-- One that is in none is put in. -/
theorem in_mem (b : Bool) (P T p t : Nat) : t ∈ updL L P (if b then T :: L P else L P ++ [T]) p ↔ t ∈ L p ∨ (t = T ∧ p = P) := by
  by_cases e : p = P
  · subst e
    rw [updL_same]
    cases b <;> simp [or_comm]
  · rw [updL_ne _ _ e]
    simp [e]
theorem rem_cut (h : okL L) {T : Nat} (ht : T < 16) : remL L T = updL L (prN L T 31) ((L (prN L T 31)).filter (fun x => decide (x ≠ T))) := by
  rcases rem_cases L T with ⟨ha, -, -⟩ | ⟨T', e, -, ⟨h0, -, e2⟩ | ⟨-, -, e2⟩⟩
  · exact absurd ⟨by omega, by omega⟩ ha
  · have hT : T' = T := (Int.ofNat_inj.1 e).symm
    subst hT
    rw [e2]
    funext p
    by_cases ep : p = prN L T' 31
    · rw [ep, updL_same, h0, h.at0 (by omega)]
      rfl
    · rw [updL_ne _ _ ep]
  · have hT : T' = T := (Int.ofNat_inj.1 e).symm
    subst hT
    exact e2
theorem rem_E (L : Ls) {T : Nat} (ht : T < 16) : remE L T = if prN L T 31 = 0 then 6 else 0 := by
  unfold remE
  rw [if_pos ⟨by omega, by omega⟩, prI_nat]
theorem put_in {T P : Nat} (ht : T < 16) (p1 : 1 ≤ P) (p2 : P ≤ 31) (h0 : prN L T 31 = 0) (b : Bool) : putE L P T = 0 ∧ putL b L P T = updL L P (if b then T :: L P else L P ++ [T]) := by
  rcases put_cases b L P T with ⟨ha, -, -⟩ | ⟨P', T', e1, e2, -, -, -, ⟨h1, -, -⟩ | ⟨-, e3, e4⟩⟩
  · exact absurd ⟨⟨by omega, by omega⟩, by omega, by omega⟩ ha
  · have hT : T' = T := (Int.ofNat_inj.1 e2).symm
    subst hT
    exact absurd h0 h1
  · have hT : T' = T := (Int.ofNat_inj.1 e2).symm
    subst hT
    have hP : P' = P := (Int.ofNat_inj.1 e1).symm
    subst hP
    exact ⟨e3, e4⟩
/-- Going elsewhere, told plainly. -/
theorem go_eq (h : okL L) {T P : Nat} (ht : T < 16) (p1 : 1 ≤ P) (p2 : P ≤ 31) (b : Bool) : goL b L T P = updL (updL L (prN L T 31) ((L (prN L T 31)).filter (fun x => decide (x ≠ T)))) P (if b then T :: (updL L (prN L T 31) ((L (prN L T 31)).filter (fun x => decide (x ≠ T)))) P else (updL L (prN L T 31) ((L (prN L T 31)).filter (fun x => decide (x ≠ T)))) P ++ [T]) := by
  unfold goL
  rw [rem_cut h ht]
  exact (put_in ht p1 p2 (by rw [cut_pr h, if_pos rfl]) b).2
theorem go_mem (h : okL L) {T P : Nat} (ht : T < 16) (p1 : 1 ≤ P) (p2 : P ≤ 31) (b : Bool) (p t : Nat) : t ∈ goL b L T P p ↔ (t ∈ L p ∧ t ≠ T) ∨ (t = T ∧ p = P) := by
  rw [go_eq h ht p1 p2 b, in_mem, cut_mem h]
theorem go_pr (h : okL L) {T P : Nat} (ht : T < 16) (p1 : 1 ≤ P) (p2 : P ≤ 31) (b : Bool) (t : Nat) : prN (goL b L T P) t 31 = if t = T then P else prN L t 31 := by
  have hm := go_mem h ht p1 p2 b
  have hth : ∀ p t, t ∈ goL b L T P p → t < 16 ∧ 1 ≤ p ∧ p ≤ 31 := fun p t hx => by
    rcases (hm p t).1 hx with hx | ⟨rfl, rfl⟩
    · exact h.thr p t hx.1
    · exact ⟨ht, p1, p2⟩
  have hun : ∀ p p' t, t ∈ goL b L T P p → t ∈ goL b L T P p' → p = p' := fun p p' t h1 h2 => by
    rcases (hm p t).1 h1 with h1 | ⟨e1, e2⟩ <;> rcases (hm p' t).1 h2 with h2 | ⟨e3, e4⟩
    · exact h.uni p p' t h1.1 h2.1
    · exact absurd e3 h1.2
    · exact absurd e1 h2.2
    · rw [e2, e4]
  by_cases e : t = T
  · rw [if_pos e]
    have hx : t ∈ goL b L T P P := (hm P t).2 (.inr ⟨e, rfl⟩)
    exact prN_some p1 p2 hx (fun p' hp => hun p' P t hp hx)
  · rw [if_neg e]
    by_cases hx : ∃ p, t ∈ L p
    · obtain ⟨p, hp⟩ := hx
      have hy : t ∈ goL b L T P p := (hm p t).2 (.inl ⟨hp, e⟩)
      rw [h.pr hp]
      exact prN_some (hth p t hy).2.1 (hth p t hy).2.2 hy (fun p' hp' => hun p' p t hp' hy)
    · rw [okL.none fun p hp => hx ⟨p, hp⟩]
      exact prN_none fun p _ _ hp => by
        rcases (hm p t).1 hp with h1 | h1
        · exact hx ⟨p, h1.1⟩
        · exact e h1.1
/-- Added, told as going elsewhere. -/
theorem add_go (h : okL L) {T P : Nat} (ht : T < 16) (p1 : 1 ≤ P) (p2 : P ≤ 31) (h0 : prN L T 31 = 0) : putE L P T = 0 ∧ putL false L P T = goL false L T P := by
  obtain ⟨e1, e2⟩ := put_in (L := L) ht p1 p2 h0 false
  refine ⟨e1, e2.trans ?_⟩
  have hc : updL L (prN L T 31) ((L (prN L T 31)).filter (fun x => decide (x ≠ T))) = L := by
    funext p
    by_cases ep : p = prN L T 31
    · rw [ep, updL_same, h0, h.at0 (by omega)]
      rfl
    · rw [updL_ne _ _ ep]
  rw [go_eq h ht p1 p2 false, hc]
end
end Go.Proofs.Ytclbphnelfacfaa
