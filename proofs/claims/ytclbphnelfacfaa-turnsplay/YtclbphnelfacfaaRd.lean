/- A ready list by its sequences: what each call answers, what it leaves. -/
import Derived.Test.YtclbphnelfacfaaZero
namespace Go.Proofs.Ytclbphnelfacfaa
open Go.RowKit Go.Shelf

abbrev Ls := Nat → List Nat
/-- A ready list at block rb: the sequences L, s steps. -/
def Rd (w : World) (rb : Nat) (L : Ls) (s : Nat) : Prop := ∃ c u, Rr w rb c u s ∧ Rep c u L
theorem Rd.keep {w w' : World} {rb s : Nat} {L : Ls} {rows : List Nat} (h : Rd w rb L s) (hk : Kp w w' rows) (hr : rb ∉ rows) : Rd w' rb L s := by
  obtain ⟨c, u, h1, h2⟩ := h
  exact ⟨c, u, h1.keep hk hr, h2⟩
theorem Rd.lt {w : World} {rb s : Nat} {L : Ls} (h : Rd w rb L s) : rb < w.heap.size := by
  obtain ⟨c, u, h1, -⟩ := h
  exact h1.lt

/-- The priority in whose sequence t stands; 0 if in none. -/
def prN (L : Ls) (t : Nat) : Nat → Nat
  | 0 => 0
  | k + 1 => if prN L t k = 0 then (if t ∈ L (k + 1) then k + 1 else 0) else prN L t k
def prI (L : Ls) (t : Int) : Nat := if 0 ≤ t then prN L t.toNat 31 else 0
theorem prN_none {L : Ls} {t k : Nat} (h : ∀ p, 1 ≤ p → p ≤ k → t ∉ L p) : prN L t k = 0 := by
  induction k with
  | zero => rfl
  | succ k ih => rw [prN, ih (fun p h1 h2 => h p h1 (by omega)), if_pos rfl, if_neg (h (k + 1) (by omega) (Nat.le_refl _))]
theorem prN_some {L : Ls} {t k q : Nat} (h1 : 1 ≤ q) (h2 : q ≤ k) (hq : t ∈ L q) (hu : ∀ p, t ∈ L p → p = q) : prN L t k = q := by
  induction k with
  | zero => omega
  | succ k ih =>
    rw [prN]
    by_cases e : q = k + 1
    · rw [prN_none (fun p _ _ hm => by have := hu p hm; omega), if_pos rfl, if_pos (e ▸ hq), e]
    · rw [ih (by omega), if_neg (by omega)]
section
variable {c : Nat → Nat} {u : Nat} {L : Ls}
theorem Rep.prio (h : Rep c u L) {t : Nat} (ht : t < 16) : prN L t 31 = c (96 + t) := by
  by_cases h0 : c (96 + t) = 0
  · rw [h0]
    exact prN_none fun p _ _ hm => by have := h.thr p t hm; omega
  · have hm := h.pri t ht h0
    have h3 := h.thr _ t hm
    exact prN_some h3.2.1 h3.2.2.1 hm (fun p hp => ((h.thr p t hp).2.2.2).symm)
theorem Rep.prio_far (h : Rep c u L) {t : Nat} (ht : 16 ≤ t) : prN L t 31 = 0 := prN_none fun p _ _ hm => by have := h.thr p t hm; omega
theorem Rep.prI (h : Rep c u L) (t : Int) : prI L t = prV c t ∧ decide (prI L t ≠ 0) = prB c t := by
  unfold Ytclbphnelfacfaa.prI prV prB
  by_cases h0 : 0 ≤ t
  · rw [if_pos h0]
    by_cases h1 : t < 16
    · rw [h.prio (t := t.toNat) (by omega)]
      by_cases e : c (96 + t.toNat) = 0 <;> simp [h0, h1, e]
    · rw [h.prio_far (t := t.toNat) (by omega)]
      simp [h1]
  · rw [if_neg h0]
    simp [h0]
end

/-- What Tail and Head answer, and what they leave. -/
def putE (L : Ls) (p t : Int) : Int := if (1 ≤ p ∧ p ≤ 31) ∧ (0 ≤ t ∧ t < 16) then (if prI L t = 0 then 0 else 7) else 2
def putL (front : Bool) (L : Ls) (p t : Int) : Ls := if putE L p t = 0 then updL L p.toNat (if front then t.toNat :: L p.toNat else L p.toNat ++ [t.toNat]) else L
def remE (L : Ls) (t : Int) : Int := if 0 ≤ t ∧ t < 16 then (if prI L t = 0 then 6 else 0) else 2
def remL (L : Ls) (t : Int) : Ls := if remE L t = 0 then updL L (prI L t) ((L (prI L t)).filter (fun x => decide (x ≠ t.toNat))) else L
/-- The first one, and whether there is one. -/
def fstV (L : Ls) : Nat := (((seqs L 31).head?).map (·.2)).getD 0
def fstB (L : Ls) : Bool := ((seqs L 31).head?).isSome

theorem put_cases (front : Bool) (L : Ls) (p t : Int) : (¬ ((1 ≤ p ∧ p ≤ 31) ∧ (0 ≤ t ∧ t < 16)) ∧ putE L p t = 2 ∧ putL front L p t = L) ∨
    (∃ P T : Nat, p = P ∧ t = T ∧ 1 ≤ P ∧ P ≤ 31 ∧ T < 16 ∧ ((prN L T 31 ≠ 0 ∧ putE L p t = 7 ∧ putL front L p t = L) ∨ (prN L T 31 = 0 ∧ putE L p t = 0 ∧ putL front L p t = updL L P (if front then T :: L P else L P ++ [T])))) := by
  by_cases h : (1 ≤ p ∧ p ≤ 31) ∧ (0 ≤ t ∧ t < 16)
  · obtain ⟨P, rfl⟩ : ∃ P : Nat, p = P := ⟨p.toNat, by omega⟩
    obtain ⟨T, rfl⟩ : ∃ T : Nat, t = T := ⟨t.toNat, by omega⟩
    have hI : prI L (T : Int) = prN L T 31 := by unfold prI; rw [if_pos (by omega), Int.toNat_natCast]
    refine .inr ⟨P, T, rfl, rfl, by omega, by omega, by omega, ?_⟩
    by_cases e : prN L T 31 = 0
    · have he : putE L P T = 0 := by unfold putE; rw [if_pos h, hI, if_pos e]
      exact .inr ⟨e, he, by unfold putL; rw [if_pos he]; simp⟩
    · have he : putE L P T = 7 := by unfold putE; rw [if_pos h, hI, if_neg e]
      exact .inl ⟨e, he, by unfold putL; rw [he]; rfl⟩
  · have he : putE L p t = 2 := by unfold putE; rw [if_neg h]
    exact .inl ⟨h, he, by unfold putL; rw [he]; rfl⟩
theorem rem_cases (L : Ls) (t : Int) : (¬ (0 ≤ t ∧ t < 16) ∧ remE L t = 2 ∧ remL L t = L) ∨
    (∃ T : Nat, t = T ∧ T < 16 ∧ ((prN L T 31 = 0 ∧ remE L t = 6 ∧ remL L t = L) ∨ (prN L T 31 ≠ 0 ∧ remE L t = 0 ∧ remL L t = updL L (prN L T 31) ((L (prN L T 31)).filter (fun x => decide (x ≠ T)))))) := by
  by_cases h : 0 ≤ t ∧ t < 16
  · obtain ⟨T, rfl⟩ : ∃ T : Nat, t = T := ⟨t.toNat, by omega⟩
    have hI : prI L (T : Int) = prN L T 31 := by unfold prI; rw [if_pos (by omega), Int.toNat_natCast]
    refine .inr ⟨T, rfl, by omega, ?_⟩
    by_cases e : prN L T 31 = 0
    · have he : remE L T = 6 := by unfold remE; rw [if_pos h, hI, if_pos e]
      exact .inl ⟨e, he, by unfold remL; rw [he]; rfl⟩
    · have he : remE L T = 0 := by unfold remE; rw [if_pos h, hI, if_neg e]
      exact .inr ⟨e, he, by unfold remL; rw [if_pos he, hI, Int.toNat_natCast]⟩
  · have he : remE L t = 2 := by unfold remE; rw [if_neg h]
    exact .inl ⟨h, he, by unfold remL; rw [he]; rfl⟩

section
variable {w : World} {rb s : Nat} {L : Ls}
theorem Rd.tail (h : Rd w rb L s) (hs : s ≤ 900000) (p t : Int) : Calls Try.prog 43 #[.pointer (some ⟨rb, 0, none⟩), .int .i64 p, .int .i64 t] w fun e w' => e = .returned (.int .i64 (putE L p t)) ∧ (∃ s', s ≤ s' ∧ s' ≤ s + 6 ∧ Rd w' rb (putL false L p t) s') ∧ Kp w w' [rb] := by
  obtain ⟨c, u, hR, hP⟩ := h
  rcases put_cases false L p t with ⟨ha, e1, e2⟩ | ⟨P, T, rfl, rfl, p1, p2, t1, ⟨h0, e1, e2⟩ | ⟨h0, e1, e2⟩⟩
  · rw [e1, e2]
    refine (tail_arg w rb c u s p t hR hP.not_zero ha).mono ?_
    rintro e w' ⟨rfl, hK⟩
    exact ⟨rfl, ⟨s, Nat.le_refl _, by omega, c, u, hR.keep hK (by simp), hP⟩, hK.nil⟩
  · rw [e1, e2]
    rw [hP.prio t1] at h0
    refine (tail_state w rb c u s P T hR hP.not_zero ⟨p1, p2⟩ t1 h0).mono ?_
    rintro e w' ⟨rfl, hK⟩
    exact ⟨rfl, ⟨s, Nat.le_refl _, by omega, c, u, hR.keep hK (by simp), hP⟩, hK.nil⟩
  · rw [e1, e2]
    rw [hP.prio t1] at h0
    have hb := (hP.lo P (by omega)).2
    refine (tail_ok w rb c u s P T hR hP.not_zero hs ⟨p1, p2⟩ t1 h0 hb (hP.lo _ hb).1 hP.u32).mono ?_
    rintro e w' ⟨rfl, hR', hK⟩
    exact ⟨rfl, ⟨s + 6, by omega, Nat.le_refl _, _, _, hR', hP.tail p1 p2 t1 h0⟩, hK⟩
theorem Rd.head (h : Rd w rb L s) (hs : s ≤ 900000) (p t : Int) : Calls Try.prog 77 #[.pointer (some ⟨rb, 0, none⟩), .int .i64 p, .int .i64 t] w fun e w' => e = .returned (.int .i64 (putE L p t)) ∧ (∃ s', s ≤ s' ∧ s' ≤ s + 6 ∧ Rd w' rb (putL true L p t) s') ∧ Kp w w' [rb] := by
  obtain ⟨c, u, hR, hP⟩ := h
  rcases put_cases true L p t with ⟨ha, e1, e2⟩ | ⟨P, T, rfl, rfl, p1, p2, t1, ⟨h0, e1, e2⟩ | ⟨h0, e1, e2⟩⟩
  · rw [e1, e2]
    refine (head_arg w rb c u s p t hR hP.not_zero ha).mono ?_
    rintro e w' ⟨rfl, hK⟩
    exact ⟨rfl, ⟨s, Nat.le_refl _, by omega, c, u, hR.keep hK (by simp), hP⟩, hK.nil⟩
  · rw [e1, e2]
    rw [hP.prio t1] at h0
    refine (head_state w rb c u s P T hR hP.not_zero ⟨p1, p2⟩ t1 h0).mono ?_
    rintro e w' ⟨rfl, hK⟩
    exact ⟨rfl, ⟨s, Nat.le_refl _, by omega, c, u, hR.keep hK (by simp), hP⟩, hK.nil⟩
  · rw [e1, e2]
    rw [hP.prio t1] at h0
    refine (head_ok w rb c u s P T hR hP.not_zero hs ⟨p1, p2⟩ t1 h0 (hP.lo P (by omega)).1 hP.u32).mono ?_
    rintro e w' ⟨rfl, hR', hK⟩
    exact ⟨rfl, ⟨s + 5, by omega, by omega, _, _, hR', hP.head p1 p2 t1 h0⟩, hK⟩
theorem Rd.remove (h : Rd w rb L s) (hs : s ≤ 900000) (t : Int) : Calls Try.prog 53 #[.pointer (some ⟨rb, 0, none⟩), .int .i64 t] w fun e w' => e = .returned (.int .i64 (remE L t)) ∧ (∃ s', s ≤ s' ∧ s' ≤ s + 6 ∧ Rd w' rb (remL L t) s') ∧ Kp w w' [rb] := by
  obtain ⟨c, u, hR, hP⟩ := h
  rcases rem_cases L t with ⟨ha, e1, e2⟩ | ⟨T, rfl, t1, ⟨h0, e1, e2⟩ | ⟨h0, e1, e2⟩⟩
  · rw [e1, e2]
    refine (remove_arg w rb c u s t hR hP.not_zero ha).mono ?_
    rintro e w' ⟨rfl, rfl⟩
    exact ⟨rfl, ⟨s, Nat.le_refl _, by omega, c, u, hR, hP⟩, Kp.refl _ _⟩
  · rw [e1, e2]
    rw [hP.prio t1] at h0
    refine (remove_none w rb c u s T hR hP.not_zero t1 h0).mono ?_
    rintro e w' ⟨rfl, rfl⟩
    exact ⟨rfl, ⟨s, Nat.le_refl _, by omega, c, u, hR, hP⟩, Kp.refl _ _⟩
  · rw [e1, e2]
    rw [hP.prio t1] at h0 ⊢
    have hm := hP.pri T t1 h0
    have h3 := hP.thr _ T hm
    refine (remove_ok w rb c u s T _ _ _ hR hP.not_zero hs t1 rfl h3.2.1 h3.2.2.1 rfl (hP.lo _ (by omega)).2 rfl (hP.lo _ (by omega)).1 hP.u32).mono ?_
    rintro e w' ⟨rfl, hR', hK⟩
    refine ⟨rfl, ⟨s + 6, by omega, Nat.le_refl _, _, _, hR', hP.take hm ?_ ?_⟩, hK⟩
    · intro q hq
      by_cases hba : c (48 + (32 + T)) = c (32 + T)
      · rw [if_pos hba, noBit_testBit (by omega) q hq]
        by_cases hqp : q = c (96 + T)
        · rw [if_pos ⟨hqp, hba⟩]; simp [hqp]
        · rw [if_neg (fun hh => hqp hh.1)]; simp [hqp]
      · rw [if_neg hba, if_neg (fun hh => hba hh.2)]
    · split
      · exact noBit_lt _ hP.u32
      · exact hP.u32
theorem Rd.first (h : Rd w rb L s) (hs : s ≤ 900000) : Calls Try.prog 46 #[.pointer (some ⟨rb, 0, none⟩)] w fun e w' => e = .returned (.tuple #[.int .i64 (fstV L : Nat), .bool (fstB L)]) ∧ (∃ s', s ≤ s' ∧ s' ≤ s + 1 ∧ Rd w' rb L s') ∧ Kp w w' [rb] := by
  obtain ⟨c, u, hR, hP⟩ := h
  by_cases hu : u = 0
  · subst hu
    have e := hP.first_none
    have e1 : fstV L = 0 := by unfold fstV; rw [e]; rfl
    have e2 : fstB L = false := by unfold fstB; rw [e]; rfl
    rw [e1, e2]
    refine (first_no w rb c s hR hP.not_zero).mono ?_
    rintro e w' ⟨rfl, rfl⟩
    exact ⟨rfl, ⟨s, Nat.le_refl _, by omega, c, 0, hR, hP⟩, Kp.refl _ _⟩
  · obtain ⟨g1, g2, t, l, hL, hh, hc, ht⟩ := hP.first_some hu
    have e1 : fstV L = t := by unfold fstV; rw [hh]; rfl
    have e2 : fstB L = true := by unfold fstB; rw [hh]; rfl
    rw [e1, e2]
    refine (first_yes w rb c u s t hR hP.not_zero hs hu hP.u32 hc ht g2).mono ?_
    rintro e w' ⟨rfl, hR', hK⟩
    exact ⟨rfl, ⟨s + 1, by omega, Nat.le_refl _, c, u, hR', hP⟩, hK⟩
theorem Rd.prio (h : Rd w rb L s) (t : Int) : Calls Try.prog 50 #[.pointer (some ⟨rb, 0, none⟩), .int .i64 t] w fun e w' => e = .returned (.tuple #[.int .i64 (prI L t : Nat), .bool (decide (prI L t ≠ 0))]) ∧ w' = w := by
  obtain ⟨c, u, hR, hP⟩ := h
  have := hP.prI t
  rw [this.2, this.1]
  exact prio_any w rb c u s t hR hP.not_zero
theorem Rd.vw (h : Rd w rb L s) : ∃ c, Vw w (some ⟨rb, 0, none⟩) c L := by
  obtain ⟨c, u, hR, hP⟩ := h
  exact ⟨c, .inl ⟨rb, u, s, rfl, hR, hP⟩⟩
end
/-! ### How many -/
theorem short : ∀ (n : Nat) (l : List Nat), l.Nodup → (∀ x ∈ l, x < n) → l.length ≤ n
  | 0, l, _, h => by
    cases l with
    | nil => simp
    | cons x l => have := h x (by simp); omega
  | n + 1, l, hn, h => by
    have h1 := short n (l.filter (fun x => decide (x ≠ n))) (hn.filter _) (fun x hx => by
      have h2 := List.mem_filter.1 hx
      have h3 := h x h2.1
      have h4 : x ≠ n := by simpa using h2.2
      omega)
    have h2 : l.length ≤ (l.filter (fun x => decide (x ≠ n))).length + 1 := by
      clear h1 h
      induction l with
      | nil => simp
      | cons x l ih =>
        have hx := List.nodup_cons.1 hn
        by_cases e : x = n
        · subst e
          rw [List.filter_cons_of_neg (by simp), List.filter_eq_self.2 (fun y hy => by simp; rintro rfl; exact hx.1 hy)]
          simp
        · rw [List.filter_cons_of_pos (by simp [e])]
          have := ih hx.2
          simp only [List.length_cons]
          omega
    omega
theorem Rep.few {c : Nat → Nat} {u : Nat} {L : Ls} (h : Rep c u L) (k : Nat) (hk : k ≤ 31) : ((seqs L k).map (·.2)).Nodup ∧ (∀ x ∈ (seqs L k).map (·.2), x < 16 ∧ 1 ≤ c (96 + x) ∧ c (96 + x) ≤ k) := by
  induction k with
  | zero => exact ⟨List.nodup_nil, by intro x hx; cases hx⟩
  | succ k ih =>
    obtain ⟨i1, i2⟩ := ih (by omega)
    have hmap : ((L (k + 1)).map (fun t => (k + 1, t))).map (·.2) = L (k + 1) := by simp [Function.comp_def]
    rw [seqs, List.map_append, hmap]
    refine ⟨?_, ?_⟩
    · rw [List.nodup_append]
      refine ⟨h.nod _, i1, ?_⟩
      rintro x hx y hy rfl
      have h1 := (h.thr _ x hx).2.2.2
      have h2 := (i2 x hy).2.2
      omega
    · intro x hx
      rcases List.mem_append.1 hx with hx | hx
      · have := h.thr _ x hx
        exact ⟨this.1, by omega, by omega⟩
      · have := i2 x hx
        exact ⟨this.1, this.2.1, by omega⟩
theorem Rep.len16 {c : Nat → Nat} {u : Nat} {L : Ls} (h : Rep c u L) : (seqs L 31).length ≤ 16 := by
  have := short 16 _ (h.few 31 (by decide)).1 (fun x hx => ((h.few 31 (by decide)).2 x hx).1)
  simpa using this
theorem Rep.seq16 {c : Nat → Nat} {u : Nat} {L : Ls} (h : Rep c u L) (p : Nat) : (L p).length ≤ 16 := short 16 _ (h.nod p) (fun x hx => (h.thr p x hx).1)
section
variable {w : World} {rb s : Nat} {L : Ls}
theorem Rd.len (h : Rd w rb L s) : Calls Try.prog 61 #[.pointer (some ⟨rb, 0, none⟩)] w fun e w' => e = .returned (.int .i64 (seqs L 31).length) ∧ Kp w w' [] := by
  obtain ⟨c, u, hR, hP⟩ := h
  exact len_vw w _ c L (.inl ⟨rb, u, s, rfl, hR, hP⟩) (by have := hP.len16; omega)
/-- The sequence of a priority, whatever it is. -/
def seqI (L : Ls) (p : Int) : List Nat := if 1 ≤ p ∧ p ≤ 31 then L p.toNat else []
theorem Rd.list (h : Rd w rb L s) (p : Int) : Calls Try.prog 45 #[.pointer (some ⟨rb, 0, none⟩), .int .i64 p] w fun e w' => (∃ V, e = .returned V ∧ Ns w' w.heap.size V (seqI L p)) ∧ Kp w w' [] := by
  obtain ⟨c, u, hR, hP⟩ := h
  by_cases hp : 1 ≤ p ∧ p ≤ 31
  · obtain ⟨k, rfl⟩ : ∃ k : Nat, p = k := ⟨p.toNat, by omega⟩
    rw [show seqI L (k : Int) = L k by unfold seqI; rw [if_pos hp, Int.toNat_natCast]]
    exact list_vw w _ c L (.inl ⟨rb, u, s, rfl, hR, hP⟩) k (by omega) (by omega) (by have := hP.seq16 k; omega)
  · rw [show seqI L p = [] by unfold seqI; rw [if_neg hp]]
    refine (list_no w _ p hp).mono ?_
    rintro e w' ⟨rfl, rfl⟩
    exact ⟨⟨_, rfl, Ns.nil _ _⟩, Kp.refl _ _⟩
end
theorem new_rd (w : World) : Calls Try.prog 33 #[] w fun e w' => e = .returned (.pointer (some ⟨w.heap.size, 0, none⟩)) ∧ Rd w' w.heap.size (fun _ => []) 0 ∧ Kp w w' [] :=
  (new_ok w).mono (by rintro e w' ⟨rfl, h, hK⟩; exact ⟨rfl, ⟨_, _, h, rep0⟩, hK⟩)
end Go.Proofs.Ytclbphnelfacfaa
