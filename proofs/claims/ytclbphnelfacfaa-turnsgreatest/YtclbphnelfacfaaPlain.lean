/- Rings of links, as functions on numbers: no memory, no Go. -/
import Derived.Test.YtclbphnelfacfaaRows
namespace Go.Proofs.Ytclbphnelfacfaa

def upd (c : Nat → Nat) (i v : Nat) : Nat → Nat := fun j => if j = i then v else c j
theorem upd_same (c : Nat → Nat) (i v : Nat) : upd c i v i = v := by simp [upd]
theorem upd_ne (c : Nat → Nat) {i j : Nat} (v : Nat) (h : j ≠ i) : upd c i v j = c j := by simp [upd, h]

/-- From node a over the threads l to node b. -/
def Chain (f : Nat → Nat) : Nat → List Nat → Nat → Prop
  | a, [], b => f a = b
  | a, x :: l, b => f a = 32 + x ∧ Chain f (32 + x) l b
def lastN : Nat → List Nat → Nat
  | a, [] => a
  | _, x :: l => lastN (32 + x) l

theorem chain_start {f g : Nat → Nat} {a a' b : Nat} {l : List Nat} (h : Chain f a l b) (h0 : g a' = f a) (hl : ∀ x ∈ l, g (32 + x) = f (32 + x)) : Chain g a' l b := by
  induction l generalizing a a' with
  | nil => exact h0.trans h
  | cons x l ih => exact ⟨h0.trans h.1, ih h.2 (hl x (by simp)) (fun y hy => hl y (by simp [hy]))⟩
theorem chain_last {f : Nat → Nat} {a b : Nat} {l : List Nat} (h : Chain f a l b) : f (lastN a l) = b := by
  induction l generalizing a with
  | nil => exact h
  | cons x l ih => exact ih h.2
theorem lastN_mem (a : Nat) (l : List Nat) : lastN a l = a ∨ ∃ x ∈ l, lastN a l = 32 + x := by
  induction l generalizing a with
  | nil => exact .inl rfl
  | cons x l ih =>
    rcases ih (32 + x) with h | ⟨y, hy, h⟩
    · exact .inr ⟨x, by simp, h⟩
    · exact .inr ⟨y, by simp [hy], h⟩
theorem chain_head {f g : Nat → Nat} {a b t : Nat} {l : List Nat} (h : Chain f a l b) (h0 : g a = 32 + t) (h1 : g (32 + t) = f a) (hl : ∀ x ∈ l, g (32 + x) = f (32 + x)) : Chain g a (t :: l) b :=
  ⟨h0, chain_start h h1 hl⟩
theorem chain_tail {f g : Nat → Nat} {a b t : Nat} {l : List Nat} (h : Chain f a l b) (hn : l.Nodup) (ha : ∀ x ∈ l, a ≠ 32 + x) (ht : t ∉ l) (hat : a ≠ 32 + t)
    (h0 : g (lastN a l) = 32 + t) (h1 : g (32 + t) = b) (hl : ∀ y, (y = a ∨ ∃ x ∈ l, y = 32 + x) → y ≠ lastN a l → y ≠ 32 + t → g y = f y) : Chain g a (l ++ [t]) b := by
  induction l generalizing a with
  | nil => exact ⟨h0, h1⟩
  | cons x l ih =>
    have hx : x ∉ l := (List.nodup_cons.1 hn).1
    refine ⟨(hl a (.inl rfl) ?_ hat).trans h.1, ih h.2 (List.nodup_cons.1 hn).2 ?_ (fun hm => ht (by simp [hm])) ?_ h0 (fun y hy => hl y (by
        rcases hy with rfl | ⟨z, hz, rfl⟩
        · exact .inr ⟨x, by simp, rfl⟩
        · exact .inr ⟨z, by simp [hz], rfl⟩))⟩
    · intro e
      rcases lastN_mem (32 + x) l with h' | ⟨y, hy, h'⟩
      · exact ha x (by simp) (e.trans h')
      · exact ha y (by simp [hy]) (e.trans h')
    · intro y hy e
      have : x = y := by omega
      subst this
      exact hx hy
    · intro e
      have : x = t := by omega
      subst this
      exact ht (by simp)
theorem chain_take {f g : Nat → Nat} {a b t e : Nat} {l : List Nat} (h : Chain f a l b) (hn : l.Nodup) (ht : t ∈ l) (hat : a ≠ 32 + t) (ha : ∀ x ∈ l, a ≠ 32 + x)
    (he : ∀ y, (y = a ∨ ∃ x ∈ l, y = 32 + x) → f y = 32 + t → y = e) (hfe : f e = 32 + t) (h0 : g e = f (32 + t)) (hl : ∀ y, (y = a ∨ ∃ x ∈ l, y = 32 + x) → y ≠ e → y ≠ 32 + t → g y = f y) : Chain g a (l.filter (fun x => decide (x ≠ t))) b := by
  induction l generalizing a with
  | nil => cases ht
  | cons x l ih =>
    have hx : x ∉ l := (List.nodup_cons.1 hn).1
    by_cases hxt : x = t
    · subst hxt
      have hf : List.filter (fun y => decide (y ≠ x)) (x :: l) = l := by
        rw [List.filter_cons_of_neg (by simp), List.filter_eq_self.2]
        intro y hy
        have : y ≠ x := fun e => hx (e ▸ hy)
        simp [this]
      rw [hf]
      have hae : a = e := he a (.inl rfl) h.1
      subst hae
      refine chain_start h.2 h0 ?_
      intro y hy
      have hyx : y ≠ x := fun e => hx (e ▸ hy)
      exact hl _ (.inr ⟨y, by simp [hy], rfl⟩) (fun e => ha y (by simp [hy]) e.symm) (by omega)
    · rw [List.filter_cons_of_pos (by simp [hxt])]
      have htl : t ∈ l := by
        rcases List.mem_cons.1 ht with h' | h'
        · exact absurd h'.symm hxt
        · exact h'
      refine ⟨(hl a (.inl rfl) ?_ hat).trans h.1, ih h.2 (List.nodup_cons.1 hn).2 htl (by omega) ?_ ?_ (fun y hy => hl y (by
        rcases hy with rfl | ⟨z, hz, rfl⟩
        · exact .inr ⟨x, by simp, rfl⟩
        · exact .inr ⟨z, by simp [hz], rfl⟩))⟩
      · rintro rfl
        have := h.1
        rw [hfe] at this
        omega
      · intro y hy e
        have : x = y := by omega
        subst this
        exact hx hy
      · rintro y (rfl | ⟨z, hz, rfl⟩)
        · exact he _ (.inr ⟨x, by simp, rfl⟩)
        · exact he _ (.inr ⟨z, by simp [hz], rfl⟩)
theorem chain_eq {f : Nat → Nat} {a b : Nat} {l m : List Nat} (h : Chain f a l b) (h' : Chain f a m b) (hb : b < 32) : l = m := by
  induction l generalizing a m with
  | nil =>
    cases m with
    | nil => rfl
    | cons x m => have h1 : f a = b := h; have h2 := h'.1; omega
  | cons x l ih =>
    cases m with
    | nil => have h1 : f a = b := h'; have h2 := h.1; omega
    | cons y m =>
      have : x = y := by have h1 := h.1; have h2 := h'.1; omega
      subst this
      rw [ih h.2 h'.2]
theorem chain_same {f g : Nat → Nat} {a b : Nat} {l : List Nat} (h : Chain f a l b) (h' : Chain g a l b) : f a = g a ∧ ∀ x ∈ l, f (32 + x) = g (32 + x) := by
  induction l generalizing a with
  | nil => exact ⟨h.trans h'.symm, by simp⟩
  | cons x l ih =>
    obtain ⟨h1, h2⟩ := ih h.2 h'.2
    refine ⟨h.1.trans h'.1.symm, fun y hy => ?_⟩
    rcases List.mem_cons.1 hy with rfl | hy
    · exact h1
    · exact h2 y hy

/-! ### A ready list -/
/-- The links (next at 0, prev at 48), the priorities (at 96), the bits: they hold the sequences L. -/
structure Rep (c : Nat → Nat) (u : Nat) (L : Nat → List Nat) : Prop where
  lo : ∀ x, x < 48 → c x < 48 ∧ c (48 + x) < 48
  inv : ∀ x, x < 48 → c (48 + c x) = x
  inv' : ∀ x, x < 48 → c (c (48 + x)) = x
  chain : ∀ p, p < 32 → Chain c p (L p) p
  thr : ∀ p t, t ∈ L p → t < 16 ∧ 1 ≤ p ∧ p ≤ 31 ∧ c (96 + t) = p
  pri : ∀ t, t < 16 → c (96 + t) ≠ 0 → t ∈ L (c (96 + t))
  idle : ∀ t, t < 16 → c (96 + t) = 0 → c (32 + t) = 32 + t
  nod : ∀ p, (L p).Nodup
  bit : ∀ p, p < 32 → (u.testBit p = true ↔ L p ≠ [])
  u32 : u < 2 ^ 32

def updL (L : Nat → List Nat) (p : Nat) (l : List Nat) : Nat → List Nat := fun q => if q = p then l else L q
theorem updL_same (L : Nat → List Nat) (p : Nat) (l : List Nat) : updL L p l p = l := by simp [updL]
theorem updL_ne (L : Nat → List Nat) {p q : Nat} (l : List Nat) (h : q ≠ p) : updL L p l q = L q := by simp [updL, h]

theorem Rep.inj {c : Nat → Nat} {u : Nat} {L : Nat → List Nat} (h : Rep c u L) {x y : Nat} (hx : x < 48) (hy : y < 48) (e : c x = c y) : x = y := by
  rw [← h.inv x hx, ← h.inv y hy, e]

/-- n is laid between b and a. -/
def ins (c : Nat → Nat) (b n a : Nat) : Nat → Nat := upd (upd (upd (upd c b n) (48 + n) b) n a) (48 + a) n
theorem ins_next (c : Nat → Nat) {b n a y : Nat} (hy : y < 48) (hbn : b ≠ n) : ins c b n a y = if y = n then a else if y = b then n else c y := by
  unfold ins
  rw [upd_ne _ _ (by omega)]
  by_cases h1 : y = n
  · subst h1; simp [upd]
  · rw [upd_ne _ _ h1, upd_ne _ _ (by omega), if_neg h1]
    rfl
theorem ins_prev (c : Nat → Nat) {b n a y : Nat} (hb : b < 48) (hn : n < 48) (han : a ≠ n) : ins c b n a (48 + y) = if y = a then n else if y = n then b else c (48 + y) := by
  unfold ins
  by_cases h1 : y = a
  · subst h1; simp [upd]
  · rw [upd_ne _ _ (by omega), upd_ne _ _ (by omega), if_neg h1]
    by_cases h2 : y = n
    · subst h2; simp [upd]
    · rw [upd_ne _ _ (by omega), upd_ne _ _ (by omega), if_neg h2]
theorem ins_far (c : Nat → Nat) {b n a y : Nat} (hb : b < 48) (hn : n < 48) (ha : a < 48) (hy : 96 ≤ y) : ins c b n a y = c y := by
  unfold ins
  rw [upd_ne _ _ (by omega), upd_ne _ _ (by omega), upd_ne _ _ (by omega), upd_ne _ _ (by omega)]

theorem testBit_or_one (u p q : Nat) : (u ||| 1 <<< p).testBit q = (u.testBit q || decide (q = p)) := by
  rw [Nat.testBit_or, Nat.one_shiftLeft, Nat.testBit_two_pow]
  congr 1
  by_cases h : p = q
  · subst h; simp
  · have : q ≠ p := fun e => h e.symm
    simp [h, this]

/-- A thread that stands nowhere is put behind node b. -/
theorem Rep.put {c : Nat → Nat} {u : Nat} {L : Nat → List Nat} (h : Rep c u L) {p t b : Nat} {l : List Nat} (hp1 : 1 ≤ p) (hp2 : p ≤ 31) (ht : t < 16) (h0 : c (96 + t) = 0) (hb : b < 48) (hbn : b = p ∨ ∃ x ∈ L p, b = 32 + x)
    (hch : Chain (ins c b (32 + t) (c b)) p l p) (hl : ∀ x, x ∈ l ↔ x = t ∨ x ∈ L p) (hnod : l.Nodup) : Rep (upd (ins c b (32 + t) (c b)) (96 + t) p) (u ||| 1 <<< p) (updL L p l) := by
  have htn : ∀ q, t ∉ L q := fun q hq => by have := h.thr q t hq; omega
  have hbt : b ≠ 32 + t := by
    rcases hbn with rfl | ⟨x, hx, rfl⟩
    · omega
    · intro e
      have : x = t := by omega
      subst this
      exact htn _ hx
  have hid := h.idle t ht h0
  have hca : c b ≠ 32 + t := fun e => hbt (h.inj hb (by omega) (e.trans hid.symm))
  have hcb := (h.lo b hb).1
  have hfar : ∀ y, 96 ≤ y → ins c b (32 + t) (c b) y = c y := fun y hy => ins_far c hb (by omega) hcb hy
  have hN : ∀ y, y < 48 → upd (ins c b (32 + t) (c b)) (96 + t) p y = if y = 32 + t then c b else if y = b then 32 + t else c y := fun y hy => by
    rw [upd_ne _ _ (by omega), ins_next c hy hbt]
  have hP : ∀ y, y < 48 → upd (ins c b (32 + t) (c b)) (96 + t) p (48 + y) = if y = c b then 32 + t else if y = 32 + t then b else c (48 + y) := fun y hy => by
    rw [upd_ne _ _ (by omega), ins_prev c hb (by omega) hca]
  have hR : ∀ y, y < 16 → upd (ins c b (32 + t) (c b)) (96 + t) p (96 + y) = if y = t then p else c (96 + y) := fun y hy => by
    by_cases e : y = t
    · subst e; simp [upd]
    · rw [upd_ne _ _ (by omega), hfar _ (by omega), if_neg e]
  have hne : ∀ q y, q < 32 → q ≠ p → (y = q ∨ ∃ x ∈ L q, y = 32 + x) → y ≠ b ∧ y ≠ 32 + t := by
    intro q y hq32 hq hm
    refine ⟨?_, ?_⟩
    · rintro rfl
      rcases hm with rfl | ⟨x, hx, e⟩
      · rcases hbn with e | ⟨z, hz, e⟩
        · exact hq e
        · omega
      · rcases hbn with rfl | ⟨z, hz, e2⟩
        · omega
        · have : x = z := by omega
          subst this
          have h1 := (h.thr q x hx).2.2.2
          have h2 := (h.thr p x hz).2.2.2
          omega
    · rcases hm with rfl | ⟨x, hx, rfl⟩
      · omega
      · intro e
        have : x = t := by omega
        subst this
        exact htn _ hx
  refine ⟨?_, ?_, ?_, ?_, ?_, ?_, ?_, ?_, ?_, ?_⟩
  · intro x hx
    rw [hN x hx, hP x hx]
    have := h.lo x hx
    refine ⟨?_, ?_⟩ <;> (split <;> (try split)) <;> omega
  · intro x hx
    rw [hN x hx]
    by_cases h1 : x = 32 + t
    · rw [if_pos h1, hP _ hcb, if_pos rfl, h1]
    · rw [if_neg h1]
      by_cases h2 : x = b
      · rw [if_pos h2, hP _ (by omega), if_neg (fun e => hca e.symm), if_pos rfl, h2]
      · rw [if_neg h2, hP _ (h.lo x hx).1, if_neg (fun e => h2 (h.inj hx hb e)), if_neg (fun e => h1 (h.inj hx (by omega) (e.trans hid.symm))), h.inv x hx]
  · intro x hx
    rw [hP x hx]
    by_cases h1 : x = c b
    · rw [if_pos h1, hN _ (by omega), if_pos rfl, h1]
    · rw [if_neg h1]
      by_cases h2 : x = 32 + t
      · rw [if_pos h2, hN _ hb, if_neg hbt, if_pos rfl, h2]
      · rw [if_neg h2, hN _ (h.lo x hx).2]
        have e1 := h.inv' x hx
        rw [if_neg, if_neg, e1]
        · intro e; rw [e] at e1; exact h1 e1.symm
        · intro e; rw [e, hid] at e1; exact h2 e1.symm
  · intro q hq
    by_cases hqp : q = p
    · subst hqp
      rw [updL_same]
      refine chain_start hch (upd_ne _ _ (by omega)) ?_
      intro x hx
      have hx16 : x < 16 := by
        rcases (hl x).1 hx with rfl | hx
        · exact ht
        · exact (h.thr q x hx).1
      exact upd_ne _ _ (by omega)
    · rw [updL_ne _ _ hqp]
      have hA := hne q q hq hqp (.inl rfl)
      refine chain_start (h.chain q hq) ?_ ?_
      · rw [hN q (by omega), if_neg hA.2, if_neg hA.1]
      · intro x hx
        have hB := hne q (32 + x) hq hqp (.inr ⟨x, hx, rfl⟩)
        have := (h.thr q x hx).1
        rw [hN _ (by omega), if_neg hB.2, if_neg hB.1]
  · intro q x hx
    by_cases hqp : q = p
    · subst hqp
      rw [updL_same] at hx
      rcases (hl x).1 hx with rfl | hx
      · exact ⟨ht, hp1, hp2, by rw [hR _ ht, if_pos rfl]⟩
      · have := h.thr q x hx
        refine ⟨this.1, hp1, hp2, ?_⟩
        rw [hR _ this.1]
        split
        · rfl
        · exact this.2.2.2
    · rw [updL_ne _ _ hqp] at hx
      have := h.thr q x hx
      refine ⟨this.1, this.2.1, this.2.2.1, ?_⟩
      rw [hR _ this.1, if_neg (fun (e : x = t) => htn q (e ▸ hx))]
      exact this.2.2.2
  · intro x hx hne0
    rw [hR x hx] at hne0 ⊢
    by_cases e : x = t
    · rw [if_pos e, updL_same]
      exact (hl x).2 (.inl e)
    · rw [if_neg e] at hne0 ⊢
      have hm := h.pri x hx hne0
      by_cases hqp : c (96 + x) = p
      · rw [hqp] at hm ⊢
        rw [updL_same]
        exact (hl x).2 (.inr hm)
      · rw [updL_ne _ _ hqp]
        exact hm
  · intro x hx he0
    rw [hR x hx] at he0
    have hxt : x ≠ t := by
      rintro rfl
      rw [if_pos rfl] at he0
      omega
    rw [if_neg hxt] at he0
    have hxb : 32 + x ≠ b := by
      rintro rfl
      rcases hbn with e | ⟨z, hz, e⟩
      · omega
      · have : x = z := by omega
        subst this
        have := h.thr p x hz
        omega
    rw [hN _ (by omega), if_neg (by omega), if_neg hxb]
    exact h.idle x hx he0
  · intro q
    by_cases hqp : q = p
    · subst hqp; rw [updL_same]; exact hnod
    · rw [updL_ne _ _ hqp]; exact h.nod q
  · intro q hq
    rw [testBit_or_one]
    by_cases hqp : q = p
    · subst hqp
      rw [updL_same]
      simp only [decide_true, Bool.or_true, true_iff]
      intro e
      have := (hl t).2 (.inl rfl)
      rw [e] at this
      cases this
    · rw [updL_ne _ _ hqp, show decide (q = p) = false by simp [hqp], Bool.or_false]
      exact h.bit q hq
  · refine Nat.or_lt_two_pow h.u32 ?_
    rw [Nat.one_shiftLeft]
    exact Nat.pow_lt_pow_right (by decide) (by omega)

theorem Rep.last_lt {c : Nat → Nat} {u : Nat} {L : Nat → List Nat} (h : Rep c u L) {p : Nat} (hp : p < 32) : lastN p (L p) < 48 ∧ c (48 + p) = lastN p (L p) := by
  have h1 : lastN p (L p) < 48 := by
    rcases lastN_mem p (L p) with e | ⟨x, hx, e⟩
    · omega
    · have := (h.thr p x hx).1; omega
  refine ⟨h1, ?_⟩
  have := h.inv _ h1
  rwa [chain_last (h.chain p hp)] at this
theorem Rep.tail {c : Nat → Nat} {u : Nat} {L : Nat → List Nat} (h : Rep c u L) {p t : Nat} (hp1 : 1 ≤ p) (hp2 : p ≤ 31) (ht : t < 16) (h0 : c (96 + t) = 0) :
    Rep (upd (ins c (c (48 + p)) (32 + t) (c (c (48 + p)))) (96 + t) p) (u ||| 1 <<< p) (updL L p (L p ++ [t])) := by
  obtain ⟨hlt, hlast⟩ := h.last_lt (p := p) (by omega)
  have htn : ∀ q, t ∉ L q := fun q hq => by have := h.thr q t hq; omega
  have hch := h.chain p (by omega)
  rw [hlast]
  have hm := lastN_mem p (L p)
  have hbt : lastN p (L p) ≠ 32 + t := by
    rcases hm with e | ⟨x, hx, e⟩
    · omega
    · intro e'
      have : x = t := by omega
      subst this
      exact htn _ hx
  refine h.put hp1 hp2 ht h0 hlt hm ?_ (by intro x; simp [or_comm]) ?_
  · have hc : c (lastN p (L p)) = p := chain_last hch
    rw [hc]
    refine chain_tail hch (h.nod p) (fun x hx => by omega) (htn p) (by omega) ?_ ?_ ?_
    · rw [ins_next c hlt hbt, if_neg hbt, if_pos rfl]
    · rw [ins_next c (by omega) hbt, if_pos rfl]
    · intro y hm h1 h2
      have hy : y < 48 := by
        rcases hm with rfl | ⟨x, hx, rfl⟩
        · omega
        · have := (h.thr p x hx).1; omega
      rw [ins_next c hy hbt, if_neg h2, if_neg h1]
  · rw [List.nodup_append]
    exact ⟨h.nod p, by simp, by intro x hx y hy; simp at hy; subst hy; intro e; subst e; exact htn _ hx⟩
theorem Rep.head {c : Nat → Nat} {u : Nat} {L : Nat → List Nat} (h : Rep c u L) {p t : Nat} (hp1 : 1 ≤ p) (hp2 : p ≤ 31) (ht : t < 16) (h0 : c (96 + t) = 0) :
    Rep (upd (ins c p (32 + t) (c p)) (96 + t) p) (u ||| 1 <<< p) (updL L p (t :: L p)) := by
  have htn : ∀ q, t ∉ L q := fun q hq => by have := h.thr q t hq; omega
  have hch := h.chain p (by omega)
  refine h.put hp1 hp2 ht h0 (by omega) (.inl rfl) ?_ (by intro x; simp) (List.nodup_cons.2 ⟨htn p, h.nod p⟩)
  refine chain_head hch ?_ ?_ ?_
  · rw [ins_next c (by omega) (by omega), if_neg (by omega), if_pos rfl]
  · rw [ins_next c (by omega) (by omega), if_pos rfl]
  · intro x hx
    have := (h.thr p x hx).1
    rw [ins_next c (by omega) (by omega), if_neg, if_neg (by omega)]
    intro e
    have : x = t := by omega
    subst this
    exact htn _ hx
end Go.Proofs.Ytclbphnelfacfaa
