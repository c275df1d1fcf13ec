/- Waiting lists, plainly: who waits, with its priority, in the order of coming. No Go is walked here. -/
import Derived.Test.YtllkopekfanfaaaSrt
import Derived.Test.YtllkopekfanfaaaPcs
namespace Go.Proofs.Ytllkopekfanfaaa

def mayT (t : Int) : Bool := decide (0 ≤ t) && decide (t < 16)
def mayP (p : Int) : Bool := decide (1 ≤ p) && decide (p ≤ 31)
structure okL (L : List Dl) : Prop where
  rng : ∀ x ∈ L, (0 ≤ x.1 ∧ x.1 < 16) ∧ 1 ≤ x.2 ∧ x.2 ≤ 31
  one : (L.map (·.1)).Nodup
def chL (L : List Dl) (t p : Int) : List Dl := L.map fun x => if x.1 = t then (t, p) else x
/-- What a call answers, and leaves. -/
def putE (L : List Dl) (t p : Int) : Int := if mayT t && mayP p then (if hasP L t then 7 else 0) else 2
def putL (L : List Dl) (t p : Int) : List Dl := if mayT t && mayP p then (if hasP L t then L else L ++ [(t, p)]) else L
def chgE (L : List Dl) (t p : Int) : Int := if mayT t && mayP p then (if hasP L t then 0 else 6) else 2
def chgL (L : List Dl) (t p : Int) : List Dl := if mayT t && mayP p then (if hasP L t then chL L t p else L) else L
def lvE (L : List Dl) (t : Int) : Int := if mayT t then (if hasP L t then 0 else 6) else 2
def lvL (L : List Dl) (t : Int) : List Dl := if mayT t then delP L t else L
/-- The order. -/
def ordK (L : List Dl) : Nat → List Dl
  | 0 => []
  | k + 1 => ordK L k ++ fk (31 - k) L
theorem ord_ex (L : List Dl) : ∃ z, z = ordK L 31 := ⟨_, rfl⟩
noncomputable def ordL (L : List Dl) : List Dl := Classical.choose (ord_ex L)
theorem ordL_eq (L : List Dl) : ordL L = ordK L 31 := Classical.choose_spec (ord_ex L)

theorem mem_has {L : List Dl} {t : Int} : hasP L t = true ↔ ∃ x ∈ L, x.1 = t := by simp [hasP]
theorem mem_map_has {L : List Dl} {t : Int} : hasP L t = true ↔ t ∈ L.map (·.1) := by simp [hasP]
theorem has_none {L : List Dl} {t : Int} : hasP L t = false ↔ t ∉ L.map (·.1) := by rw [← mem_map_has]; simp
theorem del_keys (L : List Dl) (t : Int) : (delP L t).map (·.1) = (L.map (·.1)).filter fun k => !(k == t) := by
  unfold delP; rw [List.filter_map]; rfl
theorem ch_keys (L : List Dl) (t p : Int) : (chL L t p).map (·.1) = L.map (·.1) := by
  unfold chL
  rw [List.map_map]
  apply List.map_congr_left
  intro x _
  simp only [Function.comp]
  split <;> simp_all
theorem okL.nil : okL [] := ⟨by simp, by simp⟩
theorem okL.put {L : List Dl} (h : okL L) (t p : Int) : okL (putL L t p) := by
  unfold putL
  split
  · rename_i hm
    split
    · exact h
    · rename_i hn
      simp [mayT, mayP] at hm
      refine ⟨fun x hx => ?_, ?_⟩
      · rcases List.mem_append.1 hx with hx | hx
        · exact h.rng x hx
        · rw [List.mem_singleton.1 hx]; exact hm
      · rw [List.map_append, List.nodup_append]
        refine ⟨h.one, by simp, fun a ha b hb => ?_⟩
        simp only [List.map_cons, List.map_nil, List.mem_singleton] at hb
        subst hb
        rintro rfl
        exact hn (mem_map_has.2 ha)
  · exact h
theorem okL.ch {L : List Dl} (h : okL L) {t p : Int} (ht : mayT t = true) (hp : mayP p = true) : okL (chL L t p) := by
  simp [mayT, mayP] at ht hp
  refine ⟨fun x hx => ?_, by rw [ch_keys]; exact h.one⟩
  unfold chL at hx
  obtain ⟨y, hy, rfl⟩ := List.mem_map.1 hx
  split
  · exact ⟨ht, hp⟩
  · exact h.rng y hy
theorem okL.chg {L : List Dl} (h : okL L) (t p : Int) : okL (chgL L t p) := by
  unfold chgL
  split
  · rename_i hm
    rw [Bool.and_eq_true] at hm
    split
    · exact h.ch hm.1 hm.2
    · exact h
  · exact h
theorem okL.del {L : List Dl} (h : okL L) (t : Int) : okL (delP L t) :=
  ⟨fun x hx => h.rng x (List.mem_filter.1 hx).1, by rw [del_keys]; exact h.one.filter _⟩
theorem okL.lv {L : List Dl} (h : okL L) (t : Int) : okL (lvL L t) := by
  unfold lvL; split
  · exact h.del t
  · exact h
theorem del_none {L : List Dl} {t : Int} (h : hasP L t = false) : delP L t = L := by
  unfold delP
  rw [List.filter_eq_self]
  intro x hx
  have := has_none.1 h
  simp
  rintro rfl
  exact this (List.mem_map.2 ⟨x, hx, rfl⟩)
theorem short : ∀ (n : Nat) (l : List Int), l.Nodup → (∀ x ∈ l, 0 ≤ x ∧ x < n) → l.length ≤ n
  | 0, l, _, h => by
    cases l with
    | nil => simp
    | cons x r => have := h x (by simp); omega
  | n + 1, l, hn, h => by
    have h1 := short n (l.erase n) (hn.erase _) (fun x hx => by
      have hx' := hn.mem_erase_iff.1 hx
      have := h x hx'.2
      omega)
    have h2 : l.length ≤ (l.erase (n : Int)).length + 1 := by
      rw [List.length_erase]; split <;> omega
    omega
theorem okL.len {L : List Dl} (h : okL L) : L.length ≤ 16 := by
  have := short 16 (L.map (·.1)) h.one (fun x hx => by
    obtain ⟨y, hy, rfl⟩ := List.mem_map.1 hx
    have := (h.rng y hy).1
    omega)
  simpa using this

/-! ### The order is the list, sorted -/
theorem fk_fk (s t : Int) (L : List Dl) : fk t (fk s L) = if t = s then fk s L else [] := by
  split
  · rename_i h
    subst h
    unfold fk
    rw [List.filter_eq_self]
    intro x hx
    exact (List.mem_filter.1 hx).2
  · rename_i h
    refine fk_none fun x hx => ?_
    have := (mem_fk.1 hx).2
    omega
theorem fk_ordK (L : List Dl) (t : Int) : ∀ k : Nat, k ≤ 31 → fk t (ordK L k) = if 31 - (k : Int) < t ∧ t ≤ 31 then fk t L else []
  | 0, _ => by
    rw [if_neg (by omega)]; rfl
  | k + 1, hk => by
    unfold ordK
    rw [fk_append, fk_ordK L t k (by omega), fk_fk]
    by_cases h1 : 31 - (k : Int) < t ∧ t ≤ 31
    · rw [if_pos h1, if_neg (by omega), if_pos (by omega), List.append_nil]
    · rw [if_neg h1]
      by_cases h2 : t = 31 - (k : Int)
      · rw [if_pos h2, if_pos (by omega), h2, List.nil_append]
      · rw [if_neg h2, if_neg (by omega), List.append_nil]
theorem mem_ordK {L : List Dl} {x : Dl} : ∀ k : Nat, k ≤ 31 → x ∈ ordK L k → x ∈ L ∧ 31 - (k : Int) < x.2
  | 0, _, h => by simp [ordK] at h
  | k + 1, hk, h => by
    unfold ordK at h
    rcases List.mem_append.1 h with h | h
    · have := mem_ordK k (by omega) h
      exact ⟨this.1, by omega⟩
    · have := mem_fk.1 h
      exact ⟨this.1, by omega⟩
theorem asc_ordK (L : List Dl) : ∀ k : Nat, k ≤ 31 → Asc (ordK L k)
  | 0, _ => List.Pairwise.nil
  | k + 1, hk => by
    unfold ordK
    refine asc_append (asc_ordK L k (by omega)) ?_ fun x hx y hy => ?_
    · unfold Asc
      rw [List.pairwise_iff_getElem]
      intro i j hi hj _
      have h1 := (mem_fk.1 (List.getElem_mem hi)).2
      have h2 := (mem_fk.1 (List.getElem_mem hj)).2
      omega
    · have := (mem_ordK k (by omega) hx).2
      have := (mem_fk.1 hy).2
      omega
theorem ord_st {L : List Dl} (h : okL L) : St L (ordL L) := by
  rw [ordL_eq]
  refine ⟨asc_ordK L 31 (by omega), fun t => ?_⟩
  rw [fk_ordK L t 31 (by omega)]
  split
  · rfl
  · rename_i hn
    refine (fk_none fun x hx e => hn ?_).symm
    have := (h.rng x hx).2
    omega
theorem ord_unique {L Z : List Dl} (h : okL L) (hz : St L Z) : Z = ordL L := hz.unique (ord_st h)
theorem ord_len {L : List Dl} (h : okL L) : (ordL L).length = L.length := (ord_st h).length
theorem ord_mem {L : List Dl} (h : okL L) {x : Dl} : x ∈ ordL L ↔ x ∈ L := (ord_st h).mem

/-! ### The map beside the list -/
theorem ins_perm (x : Int × Int) : ∀ P : Pcs, (insP x P).Perm (x :: P)
  | [] => .refl _
  | y :: r => by
    unfold insP
    split
    · exact .refl _
    · exact ((ins_perm x r).cons y).trans (.swap x y r)
theorem perm_has {P L : List Dl} (h : P.Perm L) (t : Int) : hasP P t = hasP L t := by
  rw [Bool.eq_iff_iff, mem_has, mem_has]
  constructor
  · rintro ⟨x, hx, e⟩; exact ⟨x, h.mem_iff.1 hx, e⟩
  · rintro ⟨x, hx, e⟩; exact ⟨x, h.mem_iff.2 hx, e⟩
theorem get_of_mem {L : List Dl} (h : (L.map (·.1)).Nodup) {x : Dl} (hx : x ∈ L) : getP L x.1 = x.2 := by
  induction L with
  | nil => cases hx
  | cons y r ih =>
    rw [List.map_cons, List.nodup_cons] at h
    unfold getP
    rw [List.find?_cons]
    rcases List.mem_cons.1 hx with rfl | hx'
    · simp
    · have hne : (y.1 == x.1) = false := by
        simp
        intro e
        exact h.1 (e ▸ List.mem_map.2 ⟨x, hx', rfl⟩)
      rw [hne]
      exact ih h.2 hx'
theorem get_none {L : List Dl} {t : Int} (h : hasP L t = false) : getP L t = 0 := by
  unfold getP
  have : L.find? (fun p => p.1 == t) = none := by
    rw [List.find?_eq_none]
    intro x hx
    have := has_none.1 h
    simp
    rintro rfl
    exact this (List.mem_map.2 ⟨x, hx, rfl⟩)
  rw [this]; rfl
theorem perm_get {P L : List Dl} (h : P.Perm L) (hn : (L.map (·.1)).Nodup) (t : Int) : getP P t = getP L t := by
  by_cases hm : hasP L t = true
  · obtain ⟨x, hx, rfl⟩ := mem_has.1 hm
    rw [get_of_mem hn hx, get_of_mem ((h.map (·.1)).nodup_iff.2 hn) (h.mem_iff.2 hx)]
  · have hm' : hasP L t = false := by simpa using hm
    rw [get_none hm', get_none ((perm_has h t).trans hm')]
theorem perm_del {P L : List Dl} (h : P.Perm L) (t : Int) : (delP P t).Perm (delP L t) := h.filter _
theorem perm_put {P L : List Dl} (h : P.Perm L) {t p : Int} (hn : hasP L t = false) : (putP P t p).Perm (L ++ [(t, p)]) := by
  unfold putP
  refine (ins_perm _ _).trans ?_
  rw [del_none ((perm_has h t).trans hn)]
  exact (h.cons _).trans (List.perm_append_singleton _ _).symm
theorem ch_none {L : List Dl} {t p : Int} (h : hasP L t = false) : chL L t p = L := by
  unfold chL
  conv => rhs; rw [← List.map_id L]
  apply List.map_congr_left
  intro x hx
  have := has_none.1 h
  rw [if_neg]
  · rfl
  · rintro rfl
    exact this (List.mem_map.2 ⟨x, hx, rfl⟩)
theorem ch_perm {t p : Int} : ∀ {L : List Dl}, (L.map (·.1)).Nodup → hasP L t = true → (chL L t p).Perm ((t, p) :: delP L t)
  | [], _, h => by simp [hasP] at h
  | y :: r, hn, h => by
    rw [List.map_cons, List.nodup_cons] at hn
    by_cases e : y.1 = t
    · subst e
      have hr : hasP r y.1 = false := has_none.2 hn.1
      have e1 : chL (y :: r) y.1 p = (y.1, p) :: chL r y.1 p := by simp [chL]
      have e2 : delP (y :: r) y.1 = delP r y.1 := by simp [delP]
      rw [e1, e2, ch_none hr, del_none hr]
    · have hr : hasP r t = true := by
        have : hasP (y :: r) t = (y.1 == t || hasP r t) := by simp [hasP]
        rw [this] at h
        simpa [e] using h
      have e1 : chL (y :: r) t p = y :: chL r t p := by simp [chL, e]
      have e2 : delP (y :: r) t = y :: delP r t := by simp [delP, e]
      rw [e1, e2]
      exact ((ch_perm hn.2 hr).cons y).trans (.swap _ _ _)
theorem perm_ch {P L : List Dl} (h : P.Perm L) {t p : Int} (hn : (L.map (·.1)).Nodup) (hm : hasP L t = true) : (putP P t p).Perm (chL L t p) := by
  unfold putP
  exact ((ins_perm _ _).trans ((perm_del h t).cons _)).trans (ch_perm hn hm).symm
theorem rises_unique {P Q : Pcs} (hp : Rises P) (hq : Rises Q) (h : P.Perm Q) : P = Q :=
  h.eq_of_pairwise (fun a b _ _ h1 h2 => by omega) hp hq
/-- Two lists are one, if their maps and orders of coming are. -/
theorem list_unique {L M : List Dl} (hk : L.map (·.1) = M.map (·.1)) (hn : (L.map (·.1)).Nodup) (hp : L.Perm M) : L = M := by
  have hg : ∀ t, getP L t = getP M t := fun t => perm_get hp (hk ▸ hn) t
  have e : ∀ N : List Dl, (N.map (·.1)).Nodup → N = (N.map (·.1)).map fun t => (t, getP N t) := fun N h => by
    rw [List.map_map]
    conv => lhs; rw [← List.map_id N]
    apply List.map_congr_left
    intro x hx
    simp only [Function.comp, id]
    rw [get_of_mem h hx]
  rw [e L hn, e M (hk ▸ hn), hk]
  apply List.map_congr_left
  intro t _
  rw [hg]
end Go.Proofs.Ytllkopekfanfaaa
