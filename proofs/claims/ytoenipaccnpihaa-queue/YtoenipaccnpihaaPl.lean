/- Signals as a list of what was sent: plain. -/



namespace Go.Proofs.Ytoenipaccnpihaa

/-- What was sent: to whom, which number, which value; in the order in which it was sent. -/
abbrev El := List (Nat × Nat × Int)
/-- The values of one number that are pending for one thread. -/
def q (L : El) (t n : Nat) : List Int := (L.filter fun x => x.1 == t && x.2.1 == n).map (·.2.2)
theorem q_nil (t n : Nat) : q [] t n = [] := rfl
theorem q_cons (x : Nat × Nat × Int) (L : El) (t n : Nat) : q (x :: L) t n = if x.1 = t ∧ x.2.1 = n then x.2.2 :: q L t n else q L t n := by
  unfold q
  by_cases h : x.1 = t ∧ x.2.1 = n
  · rw [if_pos h, List.filter_cons_of_pos (by simp [h.1, h.2])]
    rfl
  · rw [if_neg h, List.filter_cons_of_neg (by simpa using h)]
theorem q_append (A B : El) (t n : Nat) : q (A ++ B) t n = q A t n ++ q B t n := by simp [q]
theorem q_send (L : El) (t n : Nat) (v : Int) (t' n' : Nat) : q (L ++ [(t, n, v)]) t' n' = if t' = t ∧ n' = n then q L t n ++ [v] else q L t' n' := by
  rw [q_append, q_cons, q_nil]
  by_cases h : t' = t ∧ n' = n
  · obtain ⟨rfl, rfl⟩ := h
    simp
  · rw [if_neg h, if_neg (fun e => h ⟨e.1.symm, e.2.symm⟩), List.append_nil]
theorem q_ne {L : El} {t n : Nat} : q L t n ≠ [] ↔ ∃ x ∈ L, x.1 = t ∧ x.2.1 = n := by
  induction L with
  | nil => simp [q_nil]
  | cons x L ih =>
    rw [q_cons]
    by_cases h : x.1 = t ∧ x.2.1 = n
    · rw [if_pos h]
      simp [h.1, h.2]
    · rw [if_neg h, ih]
      constructor
      · rintro ⟨y, hy, e⟩
        exact ⟨y, by simp [hy], e⟩
      · rintro ⟨y, hy, e⟩
        rcases List.mem_cons.1 hy with rfl | hy
        · exact (h e).elim
        · exact ⟨y, hy, e⟩
/-- Which are pending: a set of bits. -/
def pend (L : El) (t : Nat) : Nat := L.foldl (fun s x => if x.1 = t then s ||| 2 ^ x.2.1 else s) 0
theorem fold_bit (t n : Nat) : ∀ (L : El) (s : Nat), (L.foldl (fun s x => if x.1 = t then s ||| 2 ^ x.2.1 else s) s).testBit n = (s.testBit n || L.any fun x => x.1 == t && x.2.1 == n)
  | [], s => by simp
  | x :: L, s => by
    rw [List.foldl_cons, fold_bit t n L]
    by_cases h : x.1 = t
    · rw [if_pos h, Nat.testBit_or, Nat.testBit_two_pow, List.any_cons]
      subst h
      have e : (x.1 == x.1) = true := by simp
      rw [e, Bool.true_and, Bool.or_assoc]
      congr 1
    · rw [if_neg h, List.any_cons]
      have e : (x.1 == t) = false := by simpa using h
      rw [e, Bool.false_and, Bool.false_or]
theorem pend_bit (L : El) (t n : Nat) : (pend L t).testBit n = decide (q L t n ≠ []) := by
  unfold pend
  rw [fold_bit, Nat.zero_testBit, Bool.false_or, Bool.eq_iff_iff, decide_eq_true_iff, q_ne, List.any_eq_true]
  constructor
  · rintro ⟨x, hx, e⟩
    simp at e
    exact ⟨x, hx, e⟩
  · rintro ⟨x, hx, e⟩
    exact ⟨x, hx, by simp [e]⟩
theorem pend_send (L : El) (t n : Nat) (v : Int) : pend (L ++ [(t, n, v)]) t = pend L t ||| 2 ^ n := by
  unfold pend
  rw [List.foldl_append]
  simp
theorem pend_other (L : El) (t n t' : Nat) (v : Int) (h : t' ≠ t) : pend (L ++ [(t, n, v)]) t' = pend L t' := by
  unfold pend
  rw [List.foldl_append]
  simp [Ne.symm h]
/-- How many queue. -/
def used (L : El) : Nat := L.countP fun x => decide (16 ≤ x.2.1)
/-- What holds between calls. -/
structure Ok (T S : Nat) (L : El) : Prop where
  inn : ∀ x ∈ L, x.1 < T ∧ 1 ≤ x.2.1 ∧ x.2.1 ≤ 31
  nul : ∀ x ∈ L, x.2.1 < 16 → x.2.2 = 0
  one : ∀ t n, n < 16 → (q L t n).length ≤ 1
  few : used L ≤ S
theorem Ok.nil (T S : Nat) : Ok T S [] := ⟨by simp, by simp, by simp [q_nil], by simp [used]⟩
theorem Ok.qin {T S : Nat} {L : El} (h : Ok T S L) {t n : Nat} (hq : q L t n ≠ []) : t < T ∧ 1 ≤ n ∧ n ≤ 31 := by
  obtain ⟨x, hx, rfl, rfl⟩ := q_ne.1 hq
  exact h.inn x hx
theorem Ok.qno {T S : Nat} {L : El} (h : Ok T S L) {t n : Nat} (hq : ¬ (t < T ∧ 1 ≤ n ∧ n ≤ 31)) : q L t n = [] := by
  apply Classical.byContradiction
  intro hne
  exact hq (h.qin hne)
theorem lt_two {s k : Nat} (h : ∀ n, k ≤ n → s.testBit n = false) : s < 2 ^ k := Nat.lt_pow_two_of_testBit s h
theorem Ok.pend {T S : Nat} {L : El} (h : Ok T S L) (t : Nat) : pend L t < 2 ^ 32 := lt_two fun n hn => by
  rw [pend_bit, h.qno (by omega)]
  rfl
theorem Ok.zero {T S : Nat} {L : El} (h : Ok T S L) (t : Nat) (ht : T ≤ t) : Ytoenipaccnpihaa.pend L t = 0 := Nat.eq_of_testBit_eq fun n => by
  rw [pend_bit, h.qno (by omega)]
  simp
theorem Ok.plain {T S : Nat} {L : El} (h : Ok T S L) {t n : Nat} (hn : n < 16) (hq : q L t n ≠ []) : q L t n = [0] := by
  have h1 := h.one t n hn
  have h2 : ∀ v ∈ q L t n, v = 0 := by
    intro v hv
    unfold q at hv
    obtain ⟨x, hx, rfl⟩ := List.mem_map.1 hv
    obtain ⟨hx, e⟩ := List.mem_filter.1 hx
    simp at e
    exact h.nul x hx (by omega)
  match hc : q L t n with
  | [] => exact (hq hc).elim
  | [a] => rw [h2 a (by simp [hc])]
  | a :: b :: r => rw [hc] at h1; simp at h1
theorem Ok.send {T S : Nat} {L : El} (h : Ok T S L) {t n : Nat} {v : Int} (ht : t < T) (h1 : 1 ≤ n) (h2 : n ≤ 31) (hq : n < 16 → q L t n = [] ∧ v = 0) (hu : 16 ≤ n → used L < S) : Ok T S (L ++ [(t, n, v)]) := by
  refine ⟨fun x hx => ?_, fun x hx hn => ?_, fun t' n' hn => ?_, ?_⟩
  · rcases List.mem_append.1 hx with hx | hx
    · exact h.inn x hx
    · obtain rfl : x = (t, n, v) := by simpa using hx
      exact ⟨ht, h1, h2⟩
  · rcases List.mem_append.1 hx with hx | hx
    · exact h.nul x hx hn
    · obtain rfl : x = (t, n, v) := by simpa using hx
      exact (hq hn).2
  · rw [q_send]
    split
    · rename_i e
      obtain ⟨rfl, rfl⟩ := e
      rw [(hq hn).1]
      simp
    · exact h.one t' n' hn
  · have := h.few
    unfold used at this hu ⊢
    rw [List.countP_append]
    by_cases h16 : 16 ≤ n
    · have := hu h16
      simp [h16]
      omega
    · simp [h16]
      omega
/-- One is taken: the first one of its number. -/
def rm (L : El) (t n : Nat) : El := L.eraseP fun x => x.1 == t && x.2.1 == n
theorem q_rm (t n t' n' : Nat) : ∀ (L : El), q (rm L t n) t' n' = if t' = t ∧ n' = n then (q L t n).tail else q L t' n'
  | [] => by simp [rm, q_nil]
  | x :: L => by
    unfold rm
    by_cases h : x.1 = t ∧ x.2.1 = n
    · rw [List.eraseP_cons_of_pos (by simp [h.1, h.2]), q_cons x L t n, if_pos h, List.tail_cons, q_cons]
      by_cases h2 : t' = t ∧ n' = n
      · obtain ⟨rfl, rfl⟩ := h2
        simp
      · rw [if_neg h2, if_neg (by rw [h.1, h.2]; exact fun e => h2 ⟨e.1.symm, e.2.symm⟩)]
    · rw [List.eraseP_cons_of_neg (by simpa using h), q_cons, q_cons x L t n, q_cons x L t' n', if_neg h]
      have ih := q_rm t n t' n' L
      unfold rm at ih
      rw [ih]
      by_cases h2 : t' = t ∧ n' = n
      · obtain ⟨rfl, rfl⟩ := h2
        rw [if_neg h]
        simp
      · rw [if_neg h2, if_neg h2]
theorem rm_mem {L : El} {t n : Nat} {x : Nat × Nat × Int} (h : x ∈ rm L t n) : x ∈ L := List.mem_of_mem_eraseP h
theorem rm_used {L : El} {t n : Nat} (hq : q L t n ≠ []) : used (rm L t n) = if 16 ≤ n then used L - 1 else used L := by
  induction L with
  | nil => simp [q_nil] at hq
  | cons x L ih =>
    unfold rm at ih ⊢
    rw [q_cons] at hq
    unfold used at ih ⊢
    by_cases h : x.1 = t ∧ x.2.1 = n
    · rw [List.eraseP_cons_of_pos (by simp [h.1, h.2]), List.countP_cons]
      by_cases h16 : 16 ≤ n
      · simp [h16, h.2]
      · simp [h16, h.2]
    · rw [if_neg h] at hq
      rw [List.eraseP_cons_of_neg (by simpa using h), List.countP_cons, List.countP_cons, ih hq]
      by_cases h16 : 16 ≤ n
      · rw [if_pos h16, if_pos h16]
        have : 0 < L.countP fun x => decide (16 ≤ x.2.1) := by
          obtain ⟨y, hy, e1, e2⟩ := q_ne.1 hq
          exact List.countP_pos_iff.2 ⟨y, hy, by simp; omega⟩
        omega
      · rw [if_neg h16, if_neg h16]
theorem Ok.rm {T S : Nat} {L : El} (h : Ok T S L) (t n : Nat) : Ok T S (rm L t n) := by
  refine ⟨fun x hx => h.inn x (rm_mem hx), fun x hx => h.nul x (rm_mem hx), fun t' n' hn => ?_, ?_⟩
  · rw [q_rm]
    split
    · have := h.one t n (by omega)
      simp
      omega
    · exact h.one t' n' hn
  · exact Nat.le_trans (List.Sublist.countP_le (List.eraseP_sublist)) h.few
theorem pend_rm (L : El) (t n : Nat) (h : (q L t n).length ≤ 1) : ∀ k, (pend (Ytoenipaccnpihaa.rm L t n) t).testBit k = ((pend L t).testBit k && !(decide (k = n))) := by
  intro k
  rw [pend_bit, pend_bit, q_rm]
  by_cases e : k = n
  · subst e
    simp
    match hc : q L t k with
    | [] => rfl
    | [a] => rfl
    | a :: b :: r => rw [hc] at h; simp at h
  · simp [e]
theorem pend_rm_more (L : El) (t n : Nat) (h : 1 < (q L t n).length) : pend (Ytoenipaccnpihaa.rm L t n) t = pend L t := Nat.eq_of_testBit_eq fun k => by
  rw [pend_bit, pend_bit, q_rm]
  by_cases e : k = n
  · subst e
    simp
    match hc : q L t k with
    | [] => rw [hc] at h; simp at h
    | [a] => rw [hc] at h; simp at h
    | a :: b :: r => simp
  · simp [e]
theorem pend_rm_other (L : El) (t n t' : Nat) (h : t' ≠ t) : pend (Ytoenipaccnpihaa.rm L t n) t' = pend L t' := Nat.eq_of_testBit_eq fun k => by
  rw [pend_bit, pend_bit, q_rm]
  simp [h]

/-- The lowest one that is pending within a set; 32: none. -/
def low (L : El) (t W : Nat) : Nat := ((List.range' 1 31).find? fun n => W.testBit n && (pend L t).testBit n).getD 32
theorem low_some {L : El} {t W : Nat} (h : low L t W < 32) : 1 ≤ low L t W ∧ W.testBit (low L t W) = true ∧ q L t (low L t W) ≠ [] ∧ ∀ m, 1 ≤ m → m < low L t W → ¬ (W.testBit m = true ∧ q L t m ≠ []) := by
  unfold low at h ⊢
  cases hf : (List.range' 1 31).find? fun n => W.testBit n && (pend L t).testBit n with
  | none => rw [hf] at h; simp at h
  | some n =>
    simp only [Option.getD_some]
    have h1 := List.find?_some hf
    simp only [Bool.and_eq_true, pend_bit, decide_eq_true_eq] at h1
    rw [List.find?_range'_eq_some] at hf
    obtain ⟨-, hm, hall⟩ := hf
    refine ⟨(List.mem_range'_1.1 hm).1, h1.1, h1.2, fun m hm1 hm2 e => ?_⟩
    have := hall m hm1 hm2
    rw [pend_bit] at this
    simp [e.1, e.2] at this
theorem low_le {L : El} {t W : Nat} : low L t W ≤ 32 := by
  unfold low
  cases hf : (List.range' 1 31).find? fun n => W.testBit n && (pend L t).testBit n with
  | none => simp
  | some n =>
    have := List.mem_range'_1.1 (List.mem_of_find?_eq_some hf)
    simp
    omega
theorem low_none {L : El} {t W : Nat} (h : low L t W = 32) : ∀ m, 1 ≤ m → m ≤ 31 → ¬ (W.testBit m = true ∧ q L t m ≠ []) := by
  unfold low at h
  cases hf : (List.range' 1 31).find? fun n => W.testBit n && (pend L t).testBit n with
  | none =>
    intro m h1 h2 e
    have := List.find?_eq_none.1 hf m (List.mem_range'_1.2 ⟨h1, by omega⟩)
    rw [pend_bit] at this
    simp [e.1, e.2] at this
  | some n =>
    rw [hf] at h
    have := List.mem_range'_1.1 (List.mem_of_find?_eq_some hf)
    simp at h
    omega
/-- It is the only one such. -/
theorem low_of {L : El} {t W n : Nat} (h1 : 1 ≤ n) (h31 : n ≤ 31) (hw : W.testBit n = true) (hq : q L t n ≠ []) (hm : ∀ m, 1 ≤ m → m < n → ¬ (W.testBit m = true ∧ q L t m ≠ [])) : low L t W = n := by
  by_cases h : low L t W < 32
  · obtain ⟨a1, a2, a3, a4⟩ := low_some h
    rcases Nat.lt_trichotomy (low L t W) n with h' | h' | h'
    · exact (hm _ a1 h' ⟨a2, a3⟩).elim
    · exact h'
    · exact (a4 n h1 h' ⟨hw, hq⟩).elim
  · have := low_le (L := L) (t := t) (W := W)
    exact (low_none (by omega) n h1 h31 ⟨hw, hq⟩).elim
theorem low_no {L : El} {t W : Nat} (h : ∀ m, 1 ≤ m → m ≤ 31 → ¬ (W.testBit m = true ∧ q L t m ≠ [])) : low L t W = 32 := by
  have := low_le (L := L) (t := t) (W := W)
  by_cases hlt : low L t W < 32
  · obtain ⟨a1, a2, a3, -⟩ := low_some hlt
    exact (h _ a1 (by omega) ⟨a2, a3⟩).elim
  · omega
/-- The value of the first one of a number. -/
def hdv (L : El) (t n : Nat) : Int := (q L t n).headD 0
/-- What is pending for a thread, as it is taken; and what is left behind it: within a number of rounds. -/
def drainN (t : Nat) : Nat → El → List (Nat × Int) × El
  | 0, L => ([], L)
  | k + 1, L => if low L t (2 ^ 32 - 1) < 32 then
      let n := low L t (2 ^ 32 - 1)
      let r := drainN t k (rm L t n)
      ((n, hdv L t n) :: r.1, r.2)
    else ([], L)
theorem rm_length {L : El} {t n : Nat} (hq : q L t n ≠ []) : (rm L t n).length + 1 = L.length := by
  obtain ⟨x, hx, e1, e2⟩ := q_ne.1 hq
  have hp : 0 < L.length := List.length_pos_of_mem hx
  unfold rm
  rw [List.length_eraseP_of_mem hx (by simp [e1, e2])]
  omega
/-- All that is pending for a thread. -/
def allP (L : El) (t : Nat) : List (Nat × Int) := (drainN t L.length L).1
/-- What is left when all was taken. -/
def left (L : El) (t : Nat) : El := (drainN t L.length L).2
theorem allP_some {L : El} {t : Nat} (h : low L t (2 ^ 32 - 1) < 32) : allP L t = (low L t (2 ^ 32 - 1), hdv L t (low L t (2 ^ 32 - 1))) :: allP (rm L t (low L t (2 ^ 32 - 1))) t ∧ left L t = left (rm L t (low L t (2 ^ 32 - 1))) t := by
  have := rm_length (low_some h).2.2.1
  unfold allP left
  rw [← this]
  conv => lhs; lhs; unfold drainN
  conv => rhs; lhs; unfold drainN
  rw [if_pos h]
  exact ⟨rfl, rfl⟩
theorem allP_none {L : El} {t : Nat} (h : ¬ low L t (2 ^ 32 - 1) < 32) : allP L t = [] ∧ left L t = L := by
  unfold allP left
  cases L.length with
  | zero => exact ⟨rfl, rfl⟩
  | succ k =>
    unfold drainN
    rw [if_neg h]
    exact ⟨rfl, rfl⟩
theorem every_bit {n : Nat} (h : n < 32) : (2 ^ 32 - 1).testBit n = true := by
  rw [Nat.testBit_two_pow_sub_one]
  simp [h]
theorem Ok.left {T S : Nat} {t : Nat} : ∀ (k : Nat) {L : El}, L.length ≤ k → Ok T S L → Ok T S (left L t)
  | 0, L, hl, h => by
    have : L = [] := List.eq_nil_of_length_eq_zero (by omega)
    subst this
    exact h
  | k + 1, L, hl, h => by
    by_cases hlo : low L t (2 ^ 32 - 1) < 32
    · rw [(allP_some hlo).2]
      have := rm_length (low_some hlo).2.2.1
      exact Ok.left k (by omega) (h.rm _ _)
    · rw [(allP_none hlo).2]
      exact h
/-- Of each number what was pending is in it, in its order. -/
theorem allP_q {t n : Nat} (hn : 1 ≤ n ∧ n ≤ 31) : ∀ (k : Nat) (L : El), L.length ≤ k → ((allP L t).filter fun x => x.1 == n).map (·.2) = q L t n
  | 0, L, hl => by
    have : L = [] := List.eq_nil_of_length_eq_zero (by omega)
    subst this
    rfl
  | k + 1, L, hl => by
    by_cases hlo : low L t (2 ^ 32 - 1) < 32
    · have hs := low_some hlo
      have := rm_length hs.2.2.1
      rw [(allP_some hlo).1]
      have ih := allP_q (t := t) hn k (rm L t (low L t (2 ^ 32 - 1))) (by omega)
      generalize low L t (2 ^ 32 - 1) = m at hs ih ⊢
      by_cases e : m = n
      · subst e
        rw [List.filter_cons_of_pos (by simp), List.map_cons, ih, q_rm, if_pos ⟨rfl, rfl⟩]
        unfold hdv
        cases hc : q L t m with
        | nil => exact (hs.2.2.1 hc).elim
        | cons a r => rfl
      · rw [List.filter_cons_of_neg (by simpa using e), ih, q_rm, if_neg (by omega)]
    · rw [(allP_none hlo).1]
      have hlo' := low_le (L := L) (t := t) (W := 2 ^ 32 - 1)
      have := low_none (L := L) (t := t) (W := 2 ^ 32 - 1) (by omega) n hn.1 hn.2
      rw [every_bit (by omega)] at this
      simp at this
      rw [this]
      rfl
theorem allP_of_q {t : Nat} : ∀ (k : Nat) (L L' : El), L.length ≤ k → (∀ n, 1 ≤ n → n ≤ 31 → q L t n = q L' t n) → allP L t = allP L' t
  | 0, L, L', hl, h => by
    have : L = [] := List.eq_nil_of_length_eq_zero (by omega)
    subst this
    have hlo : low L' t (2 ^ 32 - 1) = 32 := low_no fun m h1 h2 e => e.2 (by rw [← h m h1 h2]; rfl)
    rw [(allP_none (L := L') (by omega)).1]
    rfl
  | k + 1, L, L', hl, h => by
    have e : low L t (2 ^ 32 - 1) = low L' t (2 ^ 32 - 1) := by
      by_cases hlo : low L' t (2 ^ 32 - 1) < 32
      · obtain ⟨a1, a2, a3, a4⟩ := low_some hlo
        exact low_of a1 (by omega) a2 (by rw [h _ a1 (by omega)]; exact a3) fun m h1 h2 => by
          rw [h m h1 (by omega)]
          exact a4 m h1 h2
      · have hlo' := low_le (L := L') (t := t) (W := 2 ^ 32 - 1)
        have e32 : low L' t (2 ^ 32 - 1) = 32 := by omega
        rw [e32]
        exact low_no fun m h1 h2 => by
          rw [h m h1 h2]
          exact low_none e32 m h1 h2
    by_cases hlo : low L t (2 ^ 32 - 1) < 32
    · have hs := low_some hlo
      have hlen := rm_length hs.2.2.1
      rw [(allP_some hlo).1, (allP_some (L := L') (by omega)).1, ← e]
      generalize low L t (2 ^ 32 - 1) = m at hs hlen hlo ⊢
      unfold hdv
      rw [h m hs.1 (by omega), allP_of_q k (rm L t m) (rm L' t m) (by omega) fun n h1 h2 => by
        rw [q_rm, q_rm, h n h1 h2, h m hs.1 (by omega)]]
    · rw [(allP_none hlo).1, (allP_none (L := L') (by omega)).1]
theorem allP_eq (L L' : El) (t : Nat) : allP L t = allP L' t ↔ ∀ n, 1 ≤ n → n ≤ 31 → q L t n = q L' t n := by
  constructor
  · intro h n h1 h2
    rw [← allP_q ⟨h1, h2⟩ _ L (Nat.le_refl _), ← allP_q ⟨h1, h2⟩ _ L' (Nat.le_refl _), h]
  · exact allP_of_q _ L L' (Nat.le_refl _)
theorem left_q {t : Nat} : ∀ (k : Nat) (L : El), L.length ≤ k → ∀ t' n, q (left L t) t' n = if t' = t ∧ 1 ≤ n ∧ n ≤ 31 then [] else q L t' n
  | 0, L, hl, t', n => by
    have : L = [] := List.eq_nil_of_length_eq_zero (by omega)
    subst this
    simp [left, drainN, q_nil]
  | k + 1, L, hl, t', n => by
    by_cases hlo : low L t (2 ^ 32 - 1) < 32
    · have hs := low_some hlo
      have := rm_length hs.2.2.1
      rw [(allP_some hlo).2, left_q k _ (by omega), q_rm]
      split
      · rfl
      · rename_i h1
        rw [if_neg]
        rintro ⟨rfl, rfl⟩
        exact h1 ⟨rfl, hs.1, by omega⟩
    · rw [(allP_none hlo).2]
      split
      · rename_i h1
        obtain ⟨rfl, h1, h2⟩ := h1
        have hlo' := low_le (L := L) (t := t') (W := 2 ^ 32 - 1)
        have := low_none (L := L) (t := t') (W := 2 ^ 32 - 1) (by omega) n h1 h2
        rw [every_bit (by omega)] at this
        simpa using this
      · rfl
end Go.Proofs.Ytoenipaccnpihaa
