/- A thread is taken out; who is first; what two have in common: plain. -/
import Derived.Test.YtclbphnelfacfaaPlain
namespace Go.Proofs.Ytclbphnelfacfaa

/-- n, between b and a, is taken out. -/
def del (c : Nat → Nat) (b n a : Nat) : Nat → Nat := upd (upd (upd (upd c b a) (48 + a) b) n n) (48 + n) n
theorem del_next (c : Nat → Nat) {b n a y : Nat} (hy : y < 48) : del c b n a y = if y = n then n else if y = b then a else c y := by
  unfold del
  rw [upd_ne _ _ (by omega)]
  by_cases h1 : y = n
  · subst h1; simp [upd]
  · rw [upd_ne _ _ h1, upd_ne _ _ (by omega), if_neg h1]
    rfl
theorem del_prev (c : Nat → Nat) {b n a y : Nat} (hb : b < 48) (hn : n < 48) : del c b n a (48 + y) = if y = n then n else if y = a then b else c (48 + y) := by
  unfold del
  by_cases h1 : y = n
  · subst h1; simp [upd]
  · rw [upd_ne _ _ (by omega), upd_ne _ _ (by omega), if_neg h1]
    by_cases h2 : y = a
    · subst h2; simp [upd]
    · rw [upd_ne _ _ (by omega), upd_ne _ _ (by omega), if_neg h2]
theorem del_far (c : Nat → Nat) {b n a y : Nat} (hb : b < 48) (hn : n < 48) (ha : a < 48) (hy : 96 ≤ y) : del c b n a y = c y := by
  unfold del
  rw [upd_ne _ _ (by omega), upd_ne _ _ (by omega), upd_ne _ _ (by omega), upd_ne _ _ (by omega)]

theorem chain_split {f : Nat → Nat} {a b t : Nat} {l : List Nat} (h : Chain f a l b) (ht : t ∈ l) : ∃ pre l', l = pre ++ t :: l' ∧ Chain f (32 + t) l' b := by
  induction l generalizing a with
  | nil => cases ht
  | cons x l ih =>
    rcases List.mem_cons.1 ht with rfl | ht
    · exact ⟨[], l, rfl, h.2⟩
    · obtain ⟨pre, l', e, h'⟩ := ih h.2 ht
      exact ⟨x :: pre, l', by rw [e]; rfl, h'⟩
theorem chain_to {f : Nat → Nat} {a b t : Nat} {l : List Nat} (h : Chain f a l b) (ht : t ∈ l) : ∃ y, (y = a ∨ ∃ x ∈ l, y = 32 + x) ∧ f y = 32 + t := by
  induction l generalizing a with
  | nil => cases ht
  | cons x l ih =>
    rcases List.mem_cons.1 ht with rfl | ht
    · exact ⟨a, .inl rfl, h.1⟩
    · obtain ⟨y, hy, e⟩ := ih h.2 ht
      refine ⟨y, .inr ?_, e⟩
      rcases hy with rfl | ⟨z, hz, rfl⟩
      · exact ⟨x, by simp, rfl⟩
      · exact ⟨z, by simp [hz], rfl⟩

theorem Rep.alone {c : Nat → Nat} {u : Nat} {L : Nat → List Nat} (h : Rep c u L) {p t : Nat} (ht : t ∈ L p) : c (48 + (32 + t)) = c (32 + t) ↔ (L p).filter (fun x => decide (x ≠ t)) = [] := by
  obtain ⟨ht16, hp1, hp2, hpr⟩ := h.thr p t ht
  have hch := h.chain p (by omega)
  have hn := h.nod p
  constructor
  · intro e
    have h1 : c (c (32 + t)) = 32 + t := by rw [← e]; exact h.inv' _ (by omega)
    obtain ⟨pre, l', hl, hc'⟩ := chain_split hch ht
    rw [hl] at hn
    cases l' with
    | nil =>
      have h2 : c (32 + t) = p := hc'
      rw [h2] at h1
      cases pre with
      | nil => rw [hl]; simp
      | cons x pre =>
        rw [hl] at hch
        have h3 := hch.1
        have : x = t := by omega
        subst this
        simp at hn
    | cons z l'' =>
      have h2 := hc'.1
      rw [h2] at h1
      have h3 := hc'.2
      cases l'' with
      | nil => have : c (32 + z) = p := h3; omega
      | cons v l'' =>
        have h4 := h3.1
        have : v = t := by omega
        subst this
        rw [List.nodup_append] at hn
        simp at hn
  · intro e
    have hall : ∀ x ∈ L p, x = t := by
      intro x hx
      by_cases hxt : x = t
      · exact hxt
      · have : x ∈ (L p).filter (fun x => decide (x ≠ t)) := List.mem_filter.2 ⟨hx, by simp [hxt]⟩
        rw [e] at this
        cases this
    have hL : L p = [t] := by
      cases hc : L p with
      | nil => rw [hc] at ht; cases ht
      | cons x l =>
        rw [hc] at hall hn
        have hx := hall x (by simp)
        subst hx
        cases l with
        | nil => rfl
        | cons y l =>
          have hy := hall y (by simp)
          subst hy
          simp at hn
    rw [hL] at hch
    have h1 : c p = 32 + t := hch.1
    have h2 : c (32 + t) = p := hch.2
    have h3 := h.inv p (by omega)
    rw [h1] at h3
    rw [h3, h2]

theorem Rep.take {c : Nat → Nat} {u u' : Nat} {L : Nat → List Nat} (h : Rep c u L) {p t : Nat} (ht : t ∈ L p)
    (hu : ∀ q, q < 32 → u'.testBit q = if q = p ∧ c (48 + (32 + t)) = c (32 + t) then false else u.testBit q) (hu32 : u' < 2 ^ 32) :
    Rep (upd (del c (c (48 + (32 + t))) (32 + t) (c (32 + t))) (96 + t) 0) u' (updL L p ((L p).filter (fun x => decide (x ≠ t)))) := by
  obtain ⟨ht16, hp1, hp2, hpr⟩ := h.thr p t ht
  have hal := h.alone ht
  have hch := h.chain p (by omega)
  obtain ⟨e, he⟩ : ∃ e, c (48 + (32 + t)) = e := ⟨_, rfl⟩
  obtain ⟨a, ha⟩ : ∃ a, c (32 + t) = a := ⟨_, rfl⟩
  have he48 : e < 48 := by rw [← he]; exact (h.lo _ (by omega)).2
  have ha48 : a < 48 := by rw [← ha]; exact (h.lo _ (by omega)).1
  have hce : c e = 32 + t := by rw [← he]; exact h.inv' _ (by omega)
  have hpa : c (48 + a) = 32 + t := by rw [← ha]; exact h.inv _ (by omega)
  have hnoself : a ≠ 32 + t := by
    intro ea
    obtain ⟨pre, l', hl, hc'⟩ := chain_split hch ht
    have hn := h.nod p
    rw [hl] at hn
    cases l' with
    | nil => have : c (32 + t) = p := hc'; omega
    | cons z l'' =>
      have h2 := hc'.1
      have : z = t := by omega
      subst this
      rw [List.nodup_append] at hn
      simp at hn
  have henot : e ≠ 32 + t := by
    intro ee
    rw [ee] at hce
    exact hnoself (ha.symm.trans hce)
  have hem : e = p ∨ ∃ x ∈ L p, e = 32 + x := by
    obtain ⟨y, hy, hy2⟩ := chain_to hch ht
    have hy48 : y < 48 := by
      rcases hy with rfl | ⟨x, hx, rfl⟩
      · omega
      · have := (h.thr p x hx).1; omega
    have : y = e := h.inj hy48 he48 (hy2.trans hce.symm)
    rwa [this] at hy
  rw [he, ha] at hal hu ⊢
  have hN : ∀ y, y < 48 → upd (del c e (32 + t) a) (96 + t) 0 y = if y = 32 + t then 32 + t else if y = e then a else c y := fun y hy => by
    rw [upd_ne _ _ (by omega), del_next c hy]
  have hP : ∀ y, y < 48 → upd (del c e (32 + t) a) (96 + t) 0 (48 + y) = if y = 32 + t then 32 + t else if y = a then e else c (48 + y) := fun y hy => by
    rw [upd_ne _ _ (by omega), del_prev c he48 (by omega)]
  have hR : ∀ y, y < 16 → upd (del c e (32 + t) a) (96 + t) 0 (96 + y) = if y = t then 0 else c (96 + y) := fun y hy => by
    by_cases e' : y = t
    · subst e'; simp [upd]
    · rw [upd_ne _ _ (by omega), del_far c he48 (by omega) ha48 (by omega), if_neg e']
  have hmf : ∀ x, x ∈ (L p).filter (fun x => decide (x ≠ t)) ↔ x ∈ L p ∧ x ≠ t := by intro x; simp [List.mem_filter]
  refine ⟨?_, ?_, ?_, ?_, ?_, ?_, ?_, ?_, ?_, hu32⟩
  · intro x hx
    rw [hN x hx, hP x hx]
    have := h.lo x hx
    refine ⟨?_, ?_⟩ <;> (split <;> (try split)) <;> omega
  · intro x hx
    rw [hN x hx]
    by_cases h1 : x = 32 + t
    · rw [if_pos h1, hP _ (by omega), if_pos rfl, h1]
    · rw [if_neg h1]
      by_cases h2 : x = e
      · rw [if_pos h2, hP _ ha48, if_neg hnoself, if_pos rfl, h2]
      · rw [if_neg h2, hP _ (h.lo x hx).1, if_neg (fun e' => h2 (h.inj hx he48 (e'.trans hce.symm))), if_neg (fun e' => h1 (h.inj hx (by omega) (e'.trans ha.symm))), h.inv x hx]
  · intro x hx
    rw [hP x hx]
    by_cases h1 : x = 32 + t
    · rw [if_pos h1, hN _ (by omega), if_pos rfl, h1]
    · rw [if_neg h1]
      by_cases h2 : x = a
      · rw [if_pos h2, hN _ he48, if_neg henot, if_pos rfl, h2]
      · rw [if_neg h2, hN _ (h.lo x hx).2]
        have e1 := h.inv' x hx
        rw [if_neg, if_neg, e1]
        · intro e'; rw [e', hce] at e1; exact h1 e1.symm
        · intro e'; rw [e', ha] at e1; exact h2 e1.symm
  · intro q hq
    by_cases hqp : q = p
    · subst hqp
      rw [updL_same]
      refine chain_take hch (h.nod q) ht (by omega) (fun x _ => by omega) ?_ hce ?_ ?_
      · intro y hy e'
        have hy48 : y < 48 := by
          rcases hy with rfl | ⟨x, hx, rfl⟩
          · omega
          · have := (h.thr q x hx).1; omega
        exact h.inj hy48 he48 (e'.trans hce.symm)
      · rw [hN e he48, if_neg henot, if_pos rfl, ha]
      · intro y hy h1 h2
        have hy48 : y < 48 := by
          rcases hy with rfl | ⟨x, hx, rfl⟩
          · omega
          · have := (h.thr q x hx).1; omega
        rw [hN y hy48, if_neg h2, if_neg h1]
    · rw [updL_ne _ _ hqp]
      have hne : ∀ y, (y = q ∨ ∃ x ∈ L q, y = 32 + x) → y ≠ e ∧ y ≠ 32 + t := by
        intro y hy
        refine ⟨?_, ?_⟩
        · rintro rfl
          rcases hy with rfl | ⟨x, hx, e'⟩
          · rcases hem with e' | ⟨z, hz, e'⟩ <;> omega
          · rcases hem with rfl | ⟨z, hz, e2⟩
            · omega
            · have : x = z := by omega
              subst this
              have h1 := (h.thr q x hx).2.2.2
              have h2 := (h.thr p x hz).2.2.2
              omega
        · rcases hy with rfl | ⟨x, hx, rfl⟩
          · omega
          · intro e'
            have : x = t := by omega
            subst this
            have h1 := (h.thr q x hx).2.2.2
            omega
      have hA := hne q (.inl rfl)
      refine chain_start (h.chain q hq) ?_ ?_
      · rw [hN q (by omega), if_neg hA.2, if_neg hA.1]
      · intro x hx
        have hB := hne (32 + x) (.inr ⟨x, hx, rfl⟩)
        have := (h.thr q x hx).1
        rw [hN _ (by omega), if_neg hB.2, if_neg hB.1]
  · intro q x hx
    have hxL : x ∈ L q ∧ x ≠ t := by
      by_cases hqp : q = p
      · subst hqp
        rw [updL_same] at hx
        exact (hmf x).1 hx
      · rw [updL_ne _ _ hqp] at hx
        refine ⟨hx, ?_⟩
        rintro rfl
        have := (h.thr q x hx).2.2.2
        omega
    have := h.thr q x hxL.1
    refine ⟨this.1, this.2.1, this.2.2.1, ?_⟩
    rw [hR _ this.1, if_neg hxL.2]
    exact this.2.2.2
  · intro x hx hne0
    rw [hR x hx] at hne0 ⊢
    by_cases e' : x = t
    · rw [if_pos e'] at hne0
      exact absurd rfl hne0
    · rw [if_neg e'] at hne0 ⊢
      have hm := h.pri x hx hne0
      by_cases hqp : c (96 + x) = p
      · rw [hqp] at hm ⊢
        rw [updL_same]
        exact (hmf x).2 ⟨hm, e'⟩
      · rw [updL_ne _ _ hqp]
        exact hm
  · intro x hx he0
    rw [hR x hx] at he0
    rw [hN _ (by omega)]
    by_cases hxt : x = t
    · rw [if_pos (by omega), hxt]
    · rw [if_neg hxt] at he0
      have hxe : 32 + x ≠ e := by
        rintro rfl
        rcases hem with e' | ⟨z, hz, e'⟩
        · omega
        · have : x = z := by omega
          subst this
          have := h.thr p x hz
          omega
      rw [if_neg (by omega), if_neg hxe]
      exact h.idle x hx he0
  · intro q
    by_cases hqp : q = p
    · subst hqp; rw [updL_same]; exact (h.nod q).filter _
    · rw [updL_ne _ _ hqp]; exact h.nod q
  · intro q hq
    rw [hu q hq]
    by_cases hqp : q = p
    · subst hqp
      rw [updL_same]
      by_cases hea : e = a
      · rw [if_pos ⟨rfl, hea⟩]
        rw [hal.1 hea]
        simp
      · rw [if_neg (fun hh => hea hh.2)]
        have h1 : ¬ (L q).filter (fun x => decide (x ≠ t)) = [] := fun hh => hea (hal.2 hh)
        have h2 : L q ≠ [] := by intro hh; rw [hh] at ht; cases ht
        simp only [h1, ne_eq, not_false_eq_true, iff_true]
        exact (h.bit q hq).2 h2
    · rw [updL_ne _ _ hqp, if_neg (fun hh => hqp hh.1)]
      exact h.bit q hq

/-! ### All, the first one first -/
def seqs (L : Nat → List Nat) : Nat → List (Nat × Nat)
  | 0 => []
  | k + 1 => (L (k + 1)).map (fun t => (k + 1, t)) ++ seqs L k
theorem seqs_none {L : Nat → List Nat} {k : Nat} (h : ∀ p, 1 ≤ p → p ≤ k → L p = []) : seqs L k = [] := by
  induction k with
  | zero => rfl
  | succ k ih => rw [seqs, h (k + 1) (by omega) (by omega), ih (fun p h1 h2 => h p h1 (by omega))]; rfl
theorem seqs_head {L : Nat → List Nat} {k g t : Nat} {l : List Nat} (hg1 : 1 ≤ g) (hgk : g ≤ k) (hg : L g = t :: l) (h : ∀ p, g < p → p ≤ k → L p = []) : (seqs L k).head? = some (g, t) := by
  induction k with
  | zero => omega
  | succ k ih =>
    rw [seqs]
    by_cases e : g = k + 1
    · subst e; rw [hg]; rfl
    · rw [h (k + 1) (by omega) (by omega)]
      exact ih (by omega) (fun p h1 h2 => h p h1 (by omega))
theorem seqs_filter (L : Nat → List Nat) (k p : Nat) : ((seqs L k).filter (fun x => decide (x.1 = p))).map (·.2) = if 1 ≤ p ∧ p ≤ k then L p else [] := by
  induction k with
  | zero => rw [if_neg (by omega)]; rfl
  | succ k ih =>
    rw [seqs, List.filter_append, List.map_append, ih]
    by_cases e : p = k + 1
    · subst e
      rw [if_neg (by omega), if_pos (by omega), List.filter_eq_self.2 (by intro x hx; obtain ⟨y, -, rfl⟩ := List.mem_map.1 hx; simp)]
      simp [Function.comp_def]
    · rw [show List.filter (fun x => decide (x.1 = p)) (List.map (fun t => (k + 1, t)) (L (k + 1))) = [] from List.filter_eq_nil_iff.2 (by intro x hx; obtain ⟨y, -, rfl⟩ := List.mem_map.1 hx; simp; omega)]
      by_cases h : 1 ≤ p ∧ p ≤ k
      · rw [if_pos h, if_pos (by omega)]; rfl
      · rw [if_neg h, if_neg (by omega)]; rfl
theorem seqs_inj {L M : Nat → List Nat} {k : Nat} (h : seqs L k = seqs M k) : ∀ p, 1 ≤ p → p ≤ k → L p = M p := by
  intro p h1 h2
  have a := seqs_filter L k p
  have b := seqs_filter M k p
  rw [if_pos ⟨h1, h2⟩] at a b
  rw [← a, ← b, h]
theorem seqs_congr {L M : Nat → List Nat} {k : Nat} (h : ∀ p, 1 ≤ p → p ≤ k → L p = M p) : seqs L k = seqs M k := by
  induction k with
  | zero => rfl
  | succ k ih => rw [seqs, seqs, h (k + 1) (by omega) (by omega), ih (fun p h1 h2 => h p h1 (by omega))]
theorem seqs_mem {L : Nat → List Nat} {k p t : Nat} (h : (p, t) ∈ seqs L k) : 1 ≤ p ∧ p ≤ k ∧ t ∈ L p := by
  induction k with
  | zero => cases h
  | succ k ih =>
    rw [seqs, List.mem_append] at h
    rcases h with h | h
    · obtain ⟨y, hy, e⟩ := List.mem_map.1 h
      cases e
      exact ⟨by omega, Nat.le_refl _, hy⟩
    · have := ih h
      exact ⟨this.1, by omega, this.2.2⟩
theorem mem_seqs {L : Nat → List Nat} {k p t : Nat} (h1 : 1 ≤ p) (h2 : p ≤ k) (h : t ∈ L p) : (p, t) ∈ seqs L k := by
  induction k with
  | zero => omega
  | succ k ih =>
    rw [seqs, List.mem_append]
    by_cases e : p = k + 1
    · subst e; exact .inl (List.mem_map.2 ⟨t, h, rfl⟩)
    · exact .inr (ih (by omega))

theorem Rep.empty {c : Nat → Nat} {u : Nat} {L : Nat → List Nat} (h : Rep c u L) {p : Nat} (hp : ¬ (1 ≤ p ∧ p ≤ 31)) : L p = [] := by
  cases e : L p with
  | nil => rfl
  | cons t l => have := h.thr p t (by simp [e]); omega
theorem Rep.first_none {c : Nat → Nat} {L : Nat → List Nat} (h : Rep c 0 L) : seqs L 31 = [] := by
  refine seqs_none fun p h1 h2 => ?_
  have := h.bit p (by omega)
  simpa using this
theorem Rep.first_some {c : Nat → Nat} {u : Nat} {L : Nat → List Nat} (h : Rep c u L) (hu : u ≠ 0) : 1 ≤ u.log2 ∧ u.log2 ≤ 31 ∧ ∃ t l, L u.log2 = t :: l ∧ (seqs L 31).head? = some (u.log2, t) ∧ c u.log2 = 32 + t ∧ t < 16 := by
  have hlt : u.log2 < 32 := by
    have := (Nat.log2_lt hu).2 h.u32
    exact this
  have hb : u.testBit u.log2 = true := Nat.testBit_log2 hu
  have hne := (h.bit _ hlt).1 hb
  cases hL : L u.log2 with
  | nil => exact absurd hL hne
  | cons t l =>
    have ht := h.thr u.log2 t (by simp [hL])
    refine ⟨ht.2.1, ht.2.2.1, t, l, rfl, ?_, ?_, ht.1⟩
    · refine seqs_head ht.2.1 ht.2.2.1 hL ?_
      intro p h1 h2
      have hp := h.bit p (by omega)
      have hf : u.testBit p = false := Nat.testBit_lt_two_pow (Nat.lt_of_lt_of_le Nat.lt_log2_self (Nat.pow_le_pow_right (by decide) h1))
      rw [hf] at hp
      simpa using hp
    · have := h.chain u.log2 hlt
      rw [hL] at this
      exact this.1

theorem Rep.same {c c' : Nat → Nat} {u u' : Nat} {L L' : Nat → List Nat} (h : Rep c u L) (h' : Rep c' u' L') : (∀ i, i < 48 → c i = c' i) ↔ seqs L 31 = seqs L' 31 := by
  constructor
  · intro e
    refine seqs_congr fun p h1 h2 => ?_
    refine chain_eq (h.chain p (by omega)) (chain_start (h'.chain p (by omega)) (e p (by omega)) ?_) (by omega)
    intro x hx
    have := (h'.thr p x hx).1
    exact e _ (by omega)
  · intro e
    have hL : ∀ p, L p = L' p := fun p => by
      by_cases hp : 1 ≤ p ∧ p ≤ 31
      · exact seqs_inj e p hp.1 hp.2
      · rw [h.empty hp, h'.empty hp]
    have hS : ∀ p, p < 32 → c p = c' p ∧ ∀ x ∈ L p, c (32 + x) = c' (32 + x) := fun p hp => chain_same (h.chain p hp) (by rw [hL p]; exact h'.chain p hp)
    intro i hi
    by_cases hi32 : i < 32
    · exact (hS i hi32).1
    · obtain ⟨t, rfl⟩ : ∃ t, i = 32 + t := ⟨i - 32, by omega⟩
      by_cases h0 : c (96 + t) = 0
      · have h0' : c' (96 + t) = 0 := by
          by_cases hz : c' (96 + t) = 0
          · exact hz
          · have hm := h'.pri t (by omega) hz
            rw [← hL] at hm
            have := h.thr _ t hm
            omega
        rw [h.idle t (by omega) h0, h'.idle t (by omega) h0']
      · have hm := h.pri t (by omega) h0
        have := h.thr _ t hm
        exact (hS _ (by omega)).2 t hm

def c0 : Nat → Nat := fun x => if x < 48 then x else if x < 96 then x - 48 else 0
theorem rep0 : Rep c0 0 (fun _ => []) := by
  have h1 : ∀ x, x < 48 → c0 x = x := fun x hx => by simp [c0, hx]
  have h2 : ∀ x, x < 48 → c0 (48 + x) = x := fun x hx => by
    unfold c0; rw [if_neg (by omega), if_pos (by omega)]; omega
  have h3 : ∀ x, c0 (96 + x) = 0 := fun x => by unfold c0; rw [if_neg (by omega), if_neg (by omega)]
  refine ⟨?_, ?_, ?_, ?_, ?_, ?_, ?_, ?_, ?_, by decide⟩
  · intro x hx; rw [h1 x hx, h2 x hx]; exact ⟨hx, hx⟩
  · intro x hx; rw [h1 x hx, h2 x hx]
  · intro x hx; rw [h2 x hx, h1 x hx]
  · intro p hp; exact h1 p (by omega)
  · intro p t ht; cases ht
  · intro t _ h; exact absurd (h3 t) h
  · intro t ht _; exact h1 _ (by omega)
  · intro p; exact List.nodup_nil
  · intro p _; simp
end Go.Proofs.Ytclbphnelfacfaa
