/- A lock for readers and writers, plainly: who holds it, how often, who waits; what each call answers and leaves. No Go is walked here. -/
import Derived.Test.YtcfjlmkeomiiaaaWr
namespace Go.Proofs.Ytcfjlmkeomiiaaa

structure Lk where
  w : Int
  c : Nat → Int
  r : List Dl
  q : List Dl
def anyC (c : Nat → Int) : Nat → Bool
  | 0 => false
  | n + 1 => anyC c n || decide (0 < c n)
theorem anyC_succ (c : Nat → Int) (n : Nat) : anyC c (n + 1) = (anyC c n || decide (0 < c n)) := rfl
theorem anyC_iff {c : Nat → Int} : ∀ n, anyC c n = true ↔ ∃ t, t < n ∧ 0 < c t
  | 0 => by simp [anyC]
  | n + 1 => by
    unfold anyC
    rw [Bool.or_eq_true, anyC_iff n, decide_eq_true_iff]
    constructor
    · rintro (⟨t, h1, h2⟩ | h)
      · exact ⟨t, by omega, h2⟩
      · exact ⟨n, by omega, h⟩
    · rintro ⟨t, h1, h2⟩
      by_cases e : t = n
      · exact .inr (e ▸ h2)
      · exact .inl ⟨t, by omega, h2⟩
/-- Does anybody hold it? -/
def heldL (M : Lk) : Bool := decide (0 ≤ M.w) || anyC M.c 16
/-- The first one's priority. -/
noncomputable def fstP (L : List Dl) : Int := ((ordL L).headD (0, 0)).2
def updC (c : Nat → Int) (t : Int) (v : Int) : Nat → Int := fun k => if k = t.toNat then v else c k
theorem updC_at (c : Nat → Int) (t v : Int) : updC c t v t.toNat = v := by simp [updC]
theorem updC_off (c : Nat → Int) (t v : Int) {k : Nat} (h : k ≠ t.toNat) : updC c t v k = c k := by simp [updC, h]
/-- May a reader have it? -/
noncomputable def mayR (M : Lk) (t p : Int) : Bool := decide (M.w < 0) && (decide (0 < M.c t.toNat) || !fstB M.q || decide (fstP M.q < p))
def askE (M : Lk) (t p : Int) (wr : Bool) : Int := if mayT t && mayP p then (if hasP M.r t || hasP M.q t || decide (M.w = t) || (wr && decide (0 < M.c t.toNat)) then 7 else if !wr && decide (32767 ≤ M.c t.toNat) then 5 else 0) else 2
noncomputable def rdB (M : Lk) (t p : Int) : Bool := decide (askE M t p false = 0) && mayR M t p
noncomputable def rdM (M : Lk) (t p : Int) (try_ : Bool) : Lk := if askE M t p false = 0 then (if mayR M t p then { M with c := updC M.c t (M.c t.toNat + 1) } else if try_ then M else { M with r := putL M.r t p }) else M
def wrB (M : Lk) (t p : Int) : Bool := decide (askE M t p true = 0) && !heldL M
def wrM (M : Lk) (t p : Int) (try_ : Bool) : Lk := if askE M t p true = 0 then (if heldL M then (if try_ then M else { M with q := putL M.q t p }) else { M with w := t }) else M
/-- Who is let in next. -/
noncomputable def byW (M : Lk) : Bool := !heldL M && fstB M.q && (!fstB M.r || decide (fstP M.r ≤ fstP M.q))
noncomputable def byR (M : Lk) : Bool := decide (M.w < 0) && fstB M.r && mayR M (fstT M.r) (fstP M.r)
noncomputable def inW (M : Lk) : Lk := { M with w := fstT M.q, q := lvL M.q (fstT M.q) }
noncomputable def inR (M : Lk) : Lk := { M with c := updC M.c (fstT M.r) (M.c (fstT M.r).toNat + 1), r := lvL M.r (fstT M.r) }
noncomputable def nextL (M : Lk) : Option (Int × Lk) := if byW M then some (fstT M.q, inW M) else if byR M then some (fstT M.r, inR M) else none
noncomputable def letF : Nat → Lk → List Int × Lk
  | 0, M => ([], M)
  | n + 1, M => match nextL M with
    | none => ([], M)
    | some x => (x.1 :: (letF n x.2).1, (letF n x.2).2)
def sizeL (M : Lk) : Nat := M.r.length + M.q.length
noncomputable def letN (M : Lk) : List Int × Lk := letF (sizeL M) M
structure Lmid (M : Lk) : Prop where
  lo : -1 ≤ M.w
  hi : M.w < 16
  cs : ∀ t, t < 16 → 0 ≤ M.c t ∧ M.c t ≤ 32767
  rk : okL M.r
  qk : okL M.q
  al : 0 ≤ M.w → ∀ t, t < 16 → M.c t = 0
  ap : ∀ t, hasP M.r t = true → hasP M.q t = false
  rz : ∀ t, hasP M.r t = true → M.c t.toNat = 0 ∧ M.w ≠ t
  qz : ∀ t, hasP M.q t = true → M.c t.toNat = 0 ∧ M.w ≠ t
/-- What holds between calls: nobody is left to be let in. -/
structure Lok (M : Lk) : Prop where
  mid : Lmid M
  no : nextL M = none

theorem fst_mem {L : List Dl} (h : okL L) (hb : fstB L = true) : (fstT L, fstP L) ∈ L := by
  have : (fstT L, fstP L) ∈ ordL L := by
    unfold fstB at hb
    unfold fstT fstP
    cases hz : ordL L with
    | nil => rw [hz] at hb; simp at hb
    | cons y r => simp
  exact (ord_mem h).1 this
theorem fst_rng {L : List Dl} (h : okL L) (hb : fstB L = true) : (0 ≤ fstT L ∧ fstT L < 16) ∧ 1 ≤ fstP L ∧ fstP L ≤ 31 := h.rng _ (fst_mem h hb)
theorem fst_may {L : List Dl} (h : okL L) (hb : fstB L = true) : mayT (fstT L) = true := by
  have := fst_rng h hb
  simp [mayT]
  omega
theorem fst_none {L : List Dl} (h : okL L) (hb : fstB L = false) : L = [] := by
  unfold fstB at hb
  have h0 : (ordL L) = [] := by simpa using hb
  have := ord_len h
  rw [h0] at this
  exact List.eq_nil_of_length_eq_zero this.symm
theorem fst_some {L : List Dl} (h : okL L) : fstB L = !L.isEmpty := by
  cases hb : fstB L
  · rw [fst_none h hb]; rfl
  · cases L with
    | nil => have := fst_mem h hb; simp at this
    | cons x r => rfl
theorem del_lt {L : List Dl} {t : Int} (h : hasP L t = true) : (delP L t).length < L.length := by
  obtain ⟨x, hx, e⟩ := mem_has.1 h
  unfold delP
  rw [List.length_filter_lt_length_iff_exists]
  exact ⟨x, hx, by simp [e]⟩
theorem lv_fst {L : List Dl} (h : okL L) (hb : fstB L = true) : lvL L (fstT L) = delP L (fstT L) := by
  unfold lvL
  rw [fst_may h hb, if_pos rfl]
theorem lv_lt {L : List Dl} (h : okL L) (hb : fstB L = true) : (lvL L (fstT L)).length < L.length := by
  rw [lv_fst h hb]
  exact del_lt (fst_has h hb)
theorem has_del {L : List Dl} {t s : Int} : hasP (delP L t) s = (hasP L s && !(s == t)) := by
  rw [Bool.eq_iff_iff, mem_map_has, del_keys]
  simp only [List.mem_filter, Bool.and_eq_true, mem_map_has]
theorem byW_q {M : Lk} (h : byW M = true) : heldL M = false ∧ fstB M.q = true ∧ (fstB M.r = true → fstP M.r ≤ fstP M.q) := by
  unfold byW at h
  simp only [Bool.and_eq_true, Bool.not_eq_true', Bool.or_eq_true, decide_eq_true_eq] at h
  refine ⟨h.1.1, h.1.2, fun hr => ?_⟩
  rcases h.2 with h | h
  · rw [hr] at h; cases h
  · exact h
theorem byR_r {M : Lk} (h : byR M = true) : M.w < 0 ∧ fstB M.r = true ∧ mayR M (fstT M.r) (fstP M.r) = true := by
  unfold byR at h
  simp only [Bool.and_eq_true, decide_eq_true_eq] at h
  exact ⟨h.1.1, h.1.2, h.2⟩
theorem held_no {M : Lk} (h : heldL M = false) : M.w < 0 ∧ ∀ t, t < 16 → ¬ 0 < M.c t := by
  unfold heldL at h
  simp only [Bool.or_eq_false_iff, decide_eq_false_iff_not] at h
  refine ⟨by omega, fun t ht hc => ?_⟩
  have := (anyC_iff (c := M.c) 16).2 ⟨t, ht, hc⟩
  rw [h.2] at this
  cases this
theorem held_of {M : Lk} (h : heldL M = true) : 0 ≤ M.w ∨ ∃ t, t < 16 ∧ 0 < M.c t := by
  unfold heldL at h
  rw [Bool.or_eq_true, decide_eq_true_iff, anyC_iff] at h
  exact h
theorem Lmid.inW {M : Lk} (h : Lmid M) (hb : byW M = true) : Lmid (inW M) := by
  obtain ⟨h1, h2, -⟩ := byW_q hb
  obtain ⟨hw, hc⟩ := held_no h1
  have hr := fst_rng h.qk h2
  have hz := h.qz _ (fst_has h.qk h2)
  have e : lvL M.q (fstT M.q) = delP M.q (fstT M.q) := lv_fst h.qk h2
  refine ⟨?_, ?_, h.cs, h.rk, ?_, ?_, ?_, ?_, ?_⟩
  · show -1 ≤ fstT M.q; omega
  · show fstT M.q < 16; omega
  · show okL (lvL M.q (fstT M.q)); exact h.qk.lv _
  · intro _ t ht
    show M.c t = 0
    have := hc t ht
    have := (h.cs t ht).1
    omega
  · intro t ht
    show hasP (lvL M.q (fstT M.q)) t = false
    rw [e, has_del, h.ap t ht]
    rfl
  · intro t ht
    refine ⟨(h.rz t ht).1, ?_⟩
    show fstT M.q ≠ t
    rintro rfl
    have := h.ap _ ht
    rw [fst_has h.qk h2] at this
    cases this
  · intro t ht
    have ht' : hasP (lvL M.q (fstT M.q)) t = true := ht
    rw [e, has_del] at ht'
    simp only [Bool.and_eq_true, Bool.not_eq_true', beq_eq_false_iff_ne] at ht'
    exact ⟨(h.qz t ht'.1).1, fun e => ht'.2 e.symm⟩
theorem Lmid.inR {M : Lk} (h : Lmid M) (hb : byR M = true) : Lmid (inR M) := by
  obtain ⟨h1, h2, -⟩ := byR_r hb
  have hr := fst_rng h.rk h2
  have hz := h.rz _ (fst_has h.rk h2)
  have e : lvL M.r (fstT M.r) = delP M.r (fstT M.r) := lv_fst h.rk h2
  have hne : ∀ t : Int, 0 ≤ t → t ≠ fstT M.r → t.toNat ≠ (fstT M.r).toNat := fun t h0 hn he => hn (by omega)
  refine ⟨h.lo, h.hi, ?_, ?_, h.qk, ?_, ?_, ?_, ?_⟩
  · intro t ht
    show 0 ≤ updC M.c (fstT M.r) (M.c (fstT M.r).toNat + 1) t ∧ updC M.c (fstT M.r) (M.c (fstT M.r).toNat + 1) t ≤ 32767
    by_cases he : t = (fstT M.r).toNat
    · subst he
      rw [updC_at, hz.1]
      omega
    · rw [updC_off _ _ _ he]
      exact h.cs t ht
  · show okL (lvL M.r (fstT M.r)); exact h.rk.lv _
  · intro hw
    have hw' : 0 ≤ M.w := hw
    omega
  · intro t ht
    have ht' : hasP (lvL M.r (fstT M.r)) t = true := ht
    rw [e, has_del] at ht'
    simp only [Bool.and_eq_true] at ht'
    exact h.ap t ht'.1
  · intro t ht
    have ht' : hasP (lvL M.r (fstT M.r)) t = true := ht
    rw [e, has_del] at ht'
    simp only [Bool.and_eq_true, Bool.not_eq_true', beq_eq_false_iff_ne] at ht'
    refine ⟨?_, (h.rz t ht'.1).2⟩
    show updC M.c (fstT M.r) (M.c (fstT M.r).toNat + 1) t.toNat = 0
    obtain ⟨x, hx, e2⟩ := mem_has.1 ht'.1
    have h0 := (h.rk.rng x hx).1
    rw [updC_off _ _ _ (hne t (by omega) ht'.2)]
    exact (h.rz t ht'.1).1
  · intro t ht
    have ht' : hasP M.q t = true := ht
    refine ⟨?_, (h.qz t ht').2⟩
    show updC M.c (fstT M.r) (M.c (fstT M.r).toNat + 1) t.toNat = 0
    obtain ⟨x, hx, e2⟩ := mem_has.1 ht'
    have h0 := (h.qk.rng x hx).1
    rw [updC_off _ _ _ (hne t (by omega) (fun he => by
      have := h.ap _ (fst_has h.rk h2)
      rw [← he, ht'] at this
      cases this))]
    exact (h.qz t ht').1
theorem next_mid {M : Lk} (h : Lmid M) {t : Int} {M' : Lk} (hn : nextL M = some (t, M')) : Lmid M' ∧ sizeL M' < sizeL M ∧ ((byW M = true ∧ t = fstT M.q ∧ M' = inW M) ∨ (byW M = false ∧ byR M = true ∧ t = fstT M.r ∧ M' = inR M)) := by
  unfold nextL at hn
  split at hn
  · rename_i hb
    simp only [Option.some.injEq, Prod.mk.injEq] at hn
    obtain ⟨rfl, rfl⟩ := hn
    refine ⟨h.inW hb, ?_, .inl ⟨hb, rfl, rfl⟩⟩
    have := lv_lt h.qk (byW_q hb).2.1
    show M.r.length + (lvL M.q (fstT M.q)).length < M.r.length + M.q.length
    omega
  · rename_i hb
    split at hn
    · rename_i hr
      simp only [Option.some.injEq, Prod.mk.injEq] at hn
      obtain ⟨rfl, rfl⟩ := hn
      refine ⟨h.inR hr, ?_, .inr ⟨by simpa using hb, hr, rfl, rfl⟩⟩
      have := lv_lt h.rk (byR_r hr).2.1
      show (lvL M.r (fstT M.r)).length + M.q.length < M.r.length + M.q.length
      omega
    · cases hn
theorem next_zero {M : Lk} (h : Lmid M) (hs : sizeL M = 0) : nextL M = none := by
  cases hn : nextL M with
  | none => rfl
  | some x =>
    have := (next_mid h (t := x.1) (M' := x.2) hn).2.1
    omega
theorem letF_none {M : Lk} (h : nextL M = none) : ∀ n, letF n M = ([], M)
  | 0 => rfl
  | n + 1 => by unfold letF; rw [h]
theorem letF_more {M : Lk} (h : Lmid M) : ∀ n, sizeL M ≤ n → letF (n + 1) M = letF n M := by
  intro n
  induction n generalizing M with
  | zero =>
    intro hs
    rw [letF_none (next_zero h (by omega)), letF_none (next_zero h (by omega))]
  | succ n ih =>
    intro hs
    cases hn : nextL M with
    | none => rw [letF_none hn, letF_none hn]
    | some x =>
      obtain ⟨h1, h2, -⟩ := next_mid h (t := x.1) (M' := x.2) hn
      have e := ih h1 (by omega)
      have e1 : letF (n + 1 + 1) M = (x.1 :: (letF (n + 1) x.2).1, (letF (n + 1) x.2).2) := by
        conv => lhs; unfold letF
        rw [hn]
      have e2 : letF (n + 1) M = (x.1 :: (letF n x.2).1, (letF n x.2).2) := by
        conv => lhs; unfold letF
        rw [hn]
      rw [e1, e2, e]
theorem letF_enough {M : Lk} (h : Lmid M) (k : Nat) : letF (sizeL M + k) M = letN M := by
  induction k with
  | zero => rfl
  | succ k ih => rw [show sizeL M + (k + 1) = sizeL M + k + 1 from rfl, letF_more h _ (by omega), ih]
theorem let_none {M : Lk} (h : nextL M = none) : letN M = ([], M) := letF_none h _
theorem let_some {M : Lk} (h : Lmid M) {t : Int} {M' : Lk} (hn : nextL M = some (t, M')) : letN M = (t :: (letN M').1, (letN M').2) := by
  obtain ⟨h1, h2, -⟩ := next_mid h hn
  obtain ⟨k, hk⟩ : ∃ k, sizeL M = sizeL M' + k + 1 := ⟨sizeL M - sizeL M' - 1, by omega⟩
  have e : letN M = letF (sizeL M' + k + 1) M := by unfold letN; rw [hk]
  rw [e]
  conv => lhs; unfold letF
  rw [hn]
  simp only
  rw [letF_enough h1]
theorem let_ok : ∀ (n : Nat) {M : Lk}, sizeL M ≤ n → Lmid M → Lok (letN M).2 := by
  intro n
  induction n with
  | zero =>
    intro M hs h
    have hz := next_zero h (by omega)
    rw [let_none hz]
    exact ⟨h, hz⟩
  | succ n ih =>
    intro M hs h
    cases hn : nextL M with
    | none => rw [let_none hn]; exact ⟨h, hn⟩
    | some x =>
      obtain ⟨h1, h2, -⟩ := next_mid h (t := x.1) (M' := x.2) hn
      rw [let_some h (t := x.1) (M' := x.2) hn]
      exact ih (by omega) h1
theorem Lmid.let {M : Lk} (h : Lmid M) : Lok (letN M).2 := let_ok _ (Nat.le_refl _) h
theorem let_len : ∀ (n : Nat) {M : Lk}, sizeL M ≤ n → Lmid M → (letN M).1.length ≤ sizeL M := by
  intro n
  induction n with
  | zero =>
    intro M hs h
    rw [let_none (next_zero h (by omega))]
    simp
  | succ n ih =>
    intro M hs h
    cases hn : nextL M with
    | none => rw [let_none hn]; simp
    | some x =>
      obtain ⟨h1, h2, -⟩ := next_mid h (t := x.1) (M' := x.2) hn
      rw [let_some h (t := x.1) (M' := x.2) hn]
      have := ih (by omega) h1
      simp
      omega
/-- Unlock. -/
def unE (M : Lk) (t : Int) : Int := if mayT t then (if M.w = t then 0 else if 0 < M.c t.toNat then 0 else 6) else 2
def unK (M : Lk) (t : Int) : Lk := if M.w = t then { M with w := -1 } else { M with c := updC M.c t (M.c t.toNat - 1) }
noncomputable def unO (M : Lk) (t : Int) : List Int := if unE M t = 0 then (letN (unK M t)).1 else []
noncomputable def unM (M : Lk) (t : Int) : Lk := if unE M t = 0 then (letN (unK M t)).2 else M
/-- Leave. -/
def leE (M : Lk) (t : Int) : Int := if lvE M.r t = 0 ∨ lvE M.q t = 0 then 0 else lvE M.r t
def leK (M : Lk) (t : Int) : Lk := { M with r := lvL M.r t, q := lvL M.q t }
noncomputable def leO (M : Lk) (t : Int) : List Int := if leE M t = 0 then (letN (leK M t)).1 else []
noncomputable def leM (M : Lk) (t : Int) : Lk := if leE M t = 0 then (letN (leK M t)).2 else M
/-- Change. -/
def chgEL (M : Lk) (t p : Int) : Int := if chgE M.r t p = 0 ∨ chgE M.q t p = 0 then 0 else chgE M.r t p
def chK (M : Lk) (t p : Int) : Lk := { M with r := chgL M.r t p, q := chgL M.q t p }
noncomputable def chO (M : Lk) (t p : Int) : List Int := if chgEL M t p = 0 then (letN (chK M t p)).1 else []
noncomputable def chM (M : Lk) (t p : Int) : Lk := if chgEL M t p = 0 then (letN (chK M t p)).2 else M
def newL : Lk := ⟨-1, fun _ => 0, [], []⟩
end Go.Proofs.Ytcfjlmkeomiiaaa
