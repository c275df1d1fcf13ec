/- A condition, plainly: what calls answer, and leave. -/
import Derived.Test.YtpkjnjhbgjgfaaaWr
namespace Go.Proofs.Ytpkjnjhbgjgfaaa
open Go.RowKit Go.Shelf Go.Lib Go.Sort Go.Maps
attribute [local go_sem] Oper.semAt_some

/-- Mutex. -/
def muT (m : Int) (L : List Dl) : Int := if L.isEmpty then 0 else m
def muB (L : List Dl) : Bool := !L.isEmpty
/-- Wait. -/
def cwE (m : Int) (L : List Dl) (t p u : Int) : Int := if mayT t && mayP p && decide (0 ≤ u) then (if hasP L t || (!L.isEmpty && !(m == u)) then 7 else 0) else 2
def cwL (m : Int) (L : List Dl) (t p u : Int) : List Dl := if cwE m L t p u = 0 then L ++ [(t, p)] else L
def cwM (m : Int) (L : List Dl) (t p u : Int) : Int := if cwE m L t p u = 0 then u else m
/-- So many are taken. -/
noncomputable def takeN : Nat → List Dl → List Dl
  | 0, L => L
  | n + 1, L => takeN n (takeL L)
variable {m : Int} {L : List Dl} {t p u : Int}
theorem cw_put (h : cwE m L t p u = 0) : putE L t p = 0 ∧ putL L t p = L ++ [(t, p)] ∧ 0 ≤ u ∧ (mayT t && mayP p) = true ∧ hasP L t = false ∧ (L.isEmpty = true ∨ m = u) := by
  unfold cwE at h
  split at h
  · rename_i h1
    simp only [Bool.and_eq_true, decide_eq_true_eq] at h1
    split at h
    · exact absurd h (by decide)
    · rename_i h2
      have h3 : hasP L t = false ∧ (L.isEmpty = true ∨ m = u) := by
        cases hh : hasP L t <;> simp [hh] at h2 ⊢
        by_cases hl : L = []
        · exact .inl hl
        · exact .inr (h2 hl)
      have h4 : (mayT t && mayP p) = true := by simp [h1.1.1, h1.1.2]
      refine ⟨by unfold putE; rw [if_pos h4, if_neg (by simp [h3.1])], by unfold putL; rw [if_pos h4, if_neg (by simp [h3.1])], h1.2, h4, h3⟩
  · exact absurd h (by decide)
theorem cw_yes (h : cwE m L t p u = 0) : cwL m L t p u = putL L t p ∧ cwM m L t p u = u := by
  unfold cwL cwM
  rw [if_pos h, if_pos h, (cw_put h).2.1]
  exact ⟨rfl, rfl⟩
theorem cw_no (h : cwE m L t p u ≠ 0) : cwL m L t p u = L ∧ cwM m L t p u = m := by
  unfold cwL cwM
  rw [if_neg h, if_neg h]
  exact ⟨rfl, rfl⟩
theorem okL.cw (h : okL L) : okL (cwL m L t p u) := by
  by_cases hE : cwE m L t p u = 0
  · rw [(cw_yes hE).1]; exact h.put t p
  · rw [(cw_no hE).1]; exact h
theorem okL.take (h : okL L) : okL (takeL L) := by
  unfold takeL
  split
  · exact h.del _
  · exact h
theorem okL.takeN : ∀ (n : Nat) {L : List Dl}, okL L → okL (takeN n L)
  | 0, _, h => h
  | n + 1, _, h => okL.takeN n h.take
theorem fst_no (h : okL L) (hb : fstB L = false) : L = [] := by
  unfold fstB at hb
  have h0 : (ordL L) = [] := by simpa using hb
  have := ord_len h
  rw [h0] at this
  exact List.eq_nil_of_length_eq_zero this.symm
theorem take_nil : takeL [] = [] := by
  unfold takeL
  rw [fst_nil.2]
  rfl
theorem takeN_nil : ∀ n : Nat, takeN n [] = []
  | 0 => rfl
  | n + 1 => by rw [takeN, take_nil, takeN_nil n]
theorem fk_del (t k : Int) (L : List Dl) : fk t (delP L k) = delP (fk t L) k := by
  unfold fk delP
  rw [List.filter_filter, List.filter_filter]
  congr 1
  funext x
  rw [Bool.and_comm]
theorem del_head {k q : Int} {Z : List Dl} (hn : (((k, q) :: Z).map (·.1)).Nodup) : delP ((k, q) :: Z) k = Z := by
  have h1 : k ∉ Z.map (·.1) := by
    simp only [List.map_cons, List.nodup_cons] at hn
    exact hn.1
  unfold delP
  rw [List.filter_cons_of_neg (by simp)]
  refine List.filter_eq_self.2 fun x hx => ?_
  have : x.1 ≠ k := fun e => h1 (List.mem_map.2 ⟨x, hx, e⟩)
  simp [this]
/-- Who is taken stands ahead of all others. -/
theorem ord_tail (h : okL L) : ordL (takeL L) = (ordL L).tail := by
  cases hZ : ordL L with
  | nil =>
    have : L = [] := by
      have := ord_len h
      rw [hZ] at this
      exact List.eq_nil_of_length_eq_zero this.symm
    subst this
    rw [take_nil, hZ]
    rfl
  | cons x Z =>
    obtain ⟨k, q⟩ := x
    have hB : fstB L = true := by unfold fstB; rw [hZ]; rfl
    have hT : fstT L = k := by unfold fstT; rw [hZ]; rfl
    have hS := ord_st h
    rw [hZ] at hS
    have hn : (((k, q) :: Z).map (·.1)).Nodup := hS.keys h.one
    have ht : takeL L = delP L k := by unfold takeL; rw [hB, if_pos rfl, hT]
    rw [ht]
    have hok : okL (delP L k) := h.del k
    refine (ord_unique hok ⟨(show Asc ([(k, q)] ++ Z) from hS.1).right, fun t => ?_⟩).symm
    rw [fk_del, ← hS.2 t, ← fk_del, del_head hn]
theorem ord_takeN : ∀ (n : Nat) {L : List Dl}, okL L → ordL (takeN n L) = (ordL L).drop n
  | 0, _, _ => rfl
  | n + 1, L, h => by
    rw [takeN, ord_takeN n h.take, ord_tail h]
    cases ordL L <;> simp
theorem takeN_step : ∀ (n : Nat) (L : List Dl), takeN (n + 1) L = takeL (takeN n L)
  | 0, _ => rfl
  | n + 1, L => by rw [takeN, takeN_step n (takeL L)]; rfl
/-- The next one. -/
theorem takeN_fst (h : okL L) (n : Nat) (hb : fstB (takeN n L) = true) : ((ordL L).take (n + 1)).map (·.1) = ((ordL L).take n).map (·.1) ++ [fstT (takeN n L)] ∧ n < L.length := by
  have e := ord_takeN n h
  have hl := ord_len h
  cases hZ : (ordL L).drop n with
  | nil =>
    unfold fstB at hb
    rw [e, hZ] at hb
    exact absurd hb (by decide)
  | cons x Z =>
    have hT : fstT (takeN n L) = x.1 := by unfold fstT; rw [e, hZ]; rfl
    have hlt : n < (ordL L).length := by
      have := congrArg List.length hZ
      simp at this
      omega
    have hx : (ordL L)[n] = x := by
      have := List.getElem_cons_drop (h := hlt)
      rw [hZ] at this
      simpa using (List.cons.inj this).1
    refine ⟨?_, by omega⟩
    rw [List.take_add_one, List.getElem?_eq_getElem hlt, hx, hT]
    simp
theorem takeN_none (h : okL L) (n k : Nat) (hb : fstB (takeN n L) = false) (hk : n ≤ k) : ((ordL L).take n).map (·.1) = ((ordL L).take k).map (·.1) ∧ takeN n L = takeN k L := by
  have hn := fst_no (h.takeN n) hb
  have e := ord_takeN n h
  rw [hn, ord_nil] at e
  have hl : (ordL L).length ≤ n := by
    have := congrArg List.length e
    simp at this
    omega
  refine ⟨by rw [List.take_of_length_le hl, List.take_of_length_le (by omega)], ?_⟩
  obtain ⟨d, rfl⟩ := Nat.le.dest hk
  clear hk hb e hl
  induction d with
  | zero => rfl
  | succ d ih => rw [Nat.add_succ, takeN_step, ← ih, hn, take_nil]
theorem takeN_all (h : okL L) : takeN 16 L = [] := by
  have hl := h.len
  have e := ord_takeN 16 h
  rw [List.drop_eq_nil_of_le (by rw [ord_len h]; exact hl)] at e
  have := ord_len (h.takeN 16)
  rw [e] at this
  exact List.eq_nil_of_length_eq_zero this.symm
theorem take_all (h : okL L) : ((ordL L).take 16).map (·.1) = (ordL L).map (·.1) := by
  rw [List.take_of_length_le (by rw [ord_len h]; exact h.len)]
theorem lv_nil (t : Int) : lvL [] t = [] := by unfold lvL; split <;> rfl
theorem chg_nil (t p : Int) : chgL [] t p = [] := by
  unfold chgL
  split
  · split <;> rfl
  · rfl
/-- What a step does. -/
def stM (m : Int) (L : List Dl) (k t p u : Int) : Int := if k = 1 then cwM m L t p u else m
noncomputable def stL (m : Int) (L : List Dl) (k t p u : Int) : List Dl := if k = 1 then cwL m L t p u else if k = 2 then takeL L else if k = 3 then [] else if k = 4 then lvL L t else if k = 5 then chgL L t p else L
theorem okL.step (h : okL L) (k : Int) : okL (stL m L k t p u) := by
  unfold stL
  split
  · exact h.cw
  split
  · exact h.take
  split
  · exact okL.nil
  split
  · exact h.lv t
  split
  · exact h.chg t p
  · exact h
end Go.Proofs.Ytpkjnjhbgjgfaaa
