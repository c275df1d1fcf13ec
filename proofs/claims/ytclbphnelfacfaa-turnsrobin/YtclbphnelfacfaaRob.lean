/- Robins of one priority: plainly. -/
import Derived.Test.YtclbphnelfacfaaKnown
namespace Go.Proofs.Ytclbphnelfacfaa
open Go.RowKit Go.Shelf

/-- All are in one sequence. -/
def on (P : Nat) (l : List Nat) : Ls := updL L0 P l
theorem on_nil (P : Nat) : on P [] = L0 := by
  funext x
  unfold on updL L0
  split <;> rfl
theorem on_at (P : Nat) (l : List Nat) : on P l P = l := updL_same _ _ _
theorem on_off {P p : Nat} (l : List Nat) (h : p ≠ P) : on P l p = [] := updL_ne _ _ h
theorem on_upd (P : Nat) (l m : List Nat) : updL (on P l) P m = on P m := by
  funext x
  unfold on updL
  split <;> rfl
theorem prN_on {P : Nat} {l : List Nat} (h1 : 1 ≤ P) (h2 : P ≤ 31) (t : Nat) : prN (on P l) t 31 = if t ∈ l then P else 0 := by
  by_cases ht : t ∈ l
  · rw [if_pos ht]
    refine prN_some h1 h2 (by rw [on_at]; exact ht) (fun p hp => ?_)
    by_cases e : p = P
    · exact e
    · rw [on_off l e] at hp
      cases hp
  · rw [if_neg ht]
    refine prN_none fun p _ _ hp => ?_
    by_cases e : p = P
    · rw [e, on_at] at hp
      exact ht hp
    · rw [on_off l e] at hp
      cases hp
theorem add_on {P t : Nat} {l : List Nat} (h1 : 1 ≤ P) (h2 : P ≤ 31) (ht : t < 16) (hl : t ∉ l) : putE (on P l) P t = 0 ∧ putL false (on P l) P t = on P (l ++ [t]) := by
  have hp : prN (on P l) t 31 = 0 := by rw [prN_on h1 h2, if_neg hl]
  rcases put_cases false (on P l) P t with ⟨ha, -, -⟩ | ⟨P', T, e1, e2, -, -, -, ⟨h0, -, -⟩ | ⟨-, e3, e4⟩⟩
  · exact absurd ⟨⟨by omega, by omega⟩, by omega, by omega⟩ ha
  · have : T = t := (Int.ofNat_inj.1 e2).symm
    subst this
    exact absurd hp h0
  · have : T = t := (Int.ofNat_inj.1 e2).symm
    subst this
    have : P' = P := (Int.ofNat_inj.1 e1).symm
    subst this
    refine ⟨e3, e4.trans ?_⟩
    rw [on_upd, on_at]
    rfl
theorem rem_on {P t : Nat} {l : List Nat} (h1 : 1 ≤ P) (h2 : P ≤ 31) (ht : t < 16) (hl : t ∉ l) : remE (on P (t :: l)) t = 0 ∧ remL (on P (t :: l)) t = on P l := by
  have hp : prN (on P (t :: l)) t 31 = P := by rw [prN_on h1 h2, if_pos (by simp)]
  rcases rem_cases (on P (t :: l)) t with ⟨ha, -, -⟩ | ⟨T, e2, -, ⟨h0, -, -⟩ | ⟨-, e3, e4⟩⟩
  · exact absurd ⟨by omega, by omega⟩ ha
  · have : T = t := (Int.ofNat_inj.1 e2).symm
    subst this
    have h9 : P = 0 := hp.symm.trans h0
    clear hp h0
    omega
  · have : T = t := (Int.ofNat_inj.1 e2).symm
    subst this
    have ef : (T :: l).filter (fun x => decide (x ≠ T)) = l := by
      rw [List.filter_cons_of_neg (by simp), List.filter_eq_self.2]
      intro y hy
      have : y ≠ T := fun e => hl (e ▸ hy)
      simp [this]
    refine ⟨e3, e4.trans ?_⟩
    rw [hp, on_upd, on_at, ef]
theorem yi_on {P t : Nat} {l : List Nat} (h1 : 1 ≤ P) (h2 : P ≤ 31) (ht : t < 16) (hl : t ∉ l) : yiL (on P (t :: l)) t = on P (l ++ [t]) := by
  have hp : prI (on P (t :: l)) (t : Int) = P := by rw [prI_nat, prN_on h1 h2, if_pos (by simp)]
  obtain ⟨he, hr⟩ := rem_on h1 h2 ht hl
  have e1 : yiL (on P (t :: l)) t = goL false (on P (t :: l)) t (prI (on P (t :: l)) t) := by
    unfold yiL
    exact if_pos he
  rw [e1, hp]
  unfold goL
  rw [hr]
  exact (add_on h1 h2 ht hl).2
theorem fst_on {P t : Nat} {l : List Nat} (h1 : 1 ≤ P) (h2 : P ≤ 31) : fstV (on P (t :: l)) = t ∧ fstB (on P (t :: l)) = true := by
  have e := seqs_head (L := on P (t :: l)) (k := 31) h1 h2 (on_at P _) (fun p hp _ => on_off _ (by omega))
  unfold fstV fstB
  rw [e]
  exact ⟨rfl, rfl⟩

/-! ### Round and round -/
def rot (T r : Nat) : List Nat := (List.range T).map fun j => (r + j) % T
theorem rot_zero (T : Nat) : rot T 0 = List.range T := by
  unfold rot
  apply List.ext_getElem?
  intro i
  rw [List.getElem?_map]
  by_cases h : i < T
  · rw [List.getElem?_range h]
    simp [Nat.mod_eq_of_lt h]
  · rw [List.getElem?_eq_none (by simp; omega)]
    rfl
theorem rot_step (T r : Nat) (hT : 1 ≤ T) : ∃ l, rot T r = r % T :: l ∧ rot T (r + 1) = l ++ [r % T] := by
  obtain ⟨k, rfl⟩ : ∃ k, T = k + 1 := ⟨T - 1, by omega⟩
  refine ⟨(List.range k).map fun j => (r + 1 + j) % (k + 1), ?_, ?_⟩
  · unfold rot
    rw [List.range_succ_eq_map, List.map_cons, List.map_map]
    congr 1
    apply List.map_congr_left
    intro a _
    show (r + (a + 1)) % (k + 1) = _
    congr 1
    omega
  · unfold rot
    rw [List.range_succ, List.map_append, List.map_cons, List.map_nil, show r + 1 + k = r + (k + 1) by omega, Nat.add_mod_right]
/-- What robins have behind r quanta and i ticks. -/
def robS (T q r i : Nat) : Sh := fun t => if t < T then (true, if t = r % T then q - i else q) else (false, 0)
def robA (q k : Nat) : Sh := fun t => if t < k then (true, q) else (false, 0)
theorem robA_zero (q : Nat) : robA q 0 = S0 := by
  funext t
  simp [robA, S0]
theorem robA_step (q k : Nat) : updS (robA q k) k (true, q) = robA q (k + 1) := by
  funext t
  unfold updS robA
  by_cases e : t = k
  · rw [if_pos e, if_pos (by omega)]
  · rw [if_neg e]
    by_cases h : t < k
    · rw [if_pos h, if_pos (by omega)]
    · rw [if_neg h, if_neg (by omega)]
theorem robS_zero (T q r : Nat) : robS T q r 0 = robA q T := by
  funext t
  unfold robS robA
  simp
theorem robS_step (T q r i : Nat) (hT : 1 ≤ T) : updS (robS T q r i) (r % T) (true, q - i - 1) = robS T q r (i + 1) := by
  funext t
  have := Nat.mod_lt r (show T > 0 by omega)
  unfold updS robS
  by_cases e : t = r % T
  · rw [if_pos e, if_pos (by omega), if_pos e, Nat.sub_sub]
  · rw [if_neg e, if_neg e, if_neg e]
theorem robS_next (T q r i : Nat) (hT : 1 ≤ T) : updS (robS T q r i) (r % T) (true, q) = robS T q (r + 1) 0 := by
  rw [robS_zero]
  funext t
  have := Nat.mod_lt r (show T > 0 by omega)
  unfold updS robS robA
  by_cases e : t = r % T
  · rw [if_pos e, if_pos (by omega)]
  · rw [if_neg e, if_neg e]
/-- One tick. -/
theorem rob_tick {P T q r i : Nat} (h1 : 1 ≤ P) (h2 : P ≤ 31) (hT : 1 ≤ T) (hT2 : T ≤ 16) (hi : i < q) (hn : (rot T r).Nodup) :
    fstV (on P (rot T r)) = r % T ∧ fstB (on P (rot T r)) = true ∧ tkB (on P (rot T r)) (robS T q r i) = decide (i = q - 1) ∧
    tkL (on P (rot T r)) (robS T q r i) = on P (rot T (if i = q - 1 then r + 1 else r)) ∧
    tkS q (on P (rot T r)) (robS T q r i) = robS T q (if i = q - 1 then r + 1 else r) (if i = q - 1 then 0 else i + 1) := by
  obtain ⟨l, e1, e2⟩ := rot_step T r hT
  have hm := Nat.mod_lt r (show T > 0 by omega)
  obtain ⟨f1, f2⟩ := fst_on (t := r % T) (l := l) h1 h2
  have hl : r % T ∉ l := by
    rw [e1] at hn
    exact (List.nodup_cons.1 hn).1
  have hS : robS T q r i (r % T) = (true, q - i) := by
    unfold robS
    rw [if_pos hm, if_pos rfl]
  have hG : tkG (on P (rot T r)) (robS T q r i) = true := by
    unfold tkG
    rw [e1, f1, f2, hS]
    rfl
  have hB : tkB (on P (rot T r)) (robS T q r i) = decide (i = q - 1) := by
    unfold tkB
    rw [hG, e1, f1, hS]
    simp only [Bool.true_and]
    congr 1
    simp only [eq_iff_iff]
    omega
  refine ⟨by rw [e1]; exact f1, by rw [e1]; exact f2, hB, ?_, ?_⟩
  · unfold tkL
    rw [hB]
    by_cases e : i = q - 1
    · rw [if_pos (by simp [e]), if_pos e, e1, f1, e2, yi_on h1 h2 (by omega) hl]
    · rw [if_neg (by simp [e]), if_neg e]
  · unfold tkS
    rw [hG, if_pos rfl, e1, f1, hS]
    by_cases e : i = q - 1
    · rw [if_pos e, if_pos e, if_pos (show (true, q - i).2 ≤ 1 by show q - i ≤ 1; omega)]
      exact robS_next T q r i hT
    · rw [if_neg e, if_neg e, if_neg (show ¬ (true, q - i).2 ≤ 1 by show ¬ q - i ≤ 1; omega)]
      exact robS_step T q r i hT
end Go.Proofs.Ytclbphnelfacfaa
