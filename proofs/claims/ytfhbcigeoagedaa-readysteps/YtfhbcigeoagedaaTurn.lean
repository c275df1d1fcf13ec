/- The first one is taken out: plain; flags in memory. -/
import Derived.Test.YtfhbcigeoagedaaDo
namespace Go.Proofs.Ytfhbcigeoagedaa
open Go.RowKit Go.Shelf

theorem seqs_filt (L : Ls) (t : Nat) : ∀ k, seqs (fun q => (L q).filter (fun x => decide (x ≠ t))) k = (seqs L k).filter (fun x => decide (x.2 ≠ t))
  | 0 => rfl
  | k + 1 => by
    rw [seqs, seqs, seqs_filt L t k, List.filter_append]
    congr 1
    induction L (k + 1) with
    | nil => rfl
    | cons x l ih =>
      by_cases e : x = t
      · rw [List.filter_cons_of_neg (by simp [e]), List.map_cons, List.filter_cons_of_neg (by simp [e])]
        exact ih
      · rw [List.filter_cons_of_pos (by simp [e]), List.map_cons, List.map_cons, List.filter_cons_of_pos (by simp [e]), ih]
theorem seqs_le {L : Ls} {k : Nat} : ∀ x ∈ seqs L k, x.1 ≤ k := fun _ hx => (seqs_mem hx).2.1
theorem seqs_fall (L : Ls) : ∀ k, (seqs L k).Pairwise (fun a b => b.1 ≤ a.1)
  | 0 => List.Pairwise.nil
  | k + 1 => by
    rw [seqs, List.pairwise_append]
    refine ⟨?_, seqs_fall L k, ?_⟩
    · rw [List.pairwise_map]
      exact List.pairwise_of_forall (fun _ _ => Nat.le_refl _)
    · intro a ha b hb
      obtain ⟨y, -, rfl⟩ := List.mem_map.1 ha
      have := seqs_le b hb
      show b.1 ≤ k + 1
      omega
theorem rep_out {c : Nat → Nat} {u : Nat} {L : Ls} (h : Rep c u L) {p t : Nat} {rest : List (Nat × Nat)} (hs : seqs L 31 = (p, t) :: rest) : fstV L = t ∧ fstB L = true ∧ prI L (t : Int) = p ∧ t < 16 ∧ 1 ≤ p ∧ p ≤ 31 ∧ remE L (t : Int) = 0 ∧ seqs (remL L (t : Int)) 31 = rest := by
  have hm := seqs_mem (L := L) (k := 31) (p := p) (t := t) (by rw [hs]; simp)
  have h3 := h.thr p t hm.2.2
  have hN : prN L t 31 = p := by rw [h.prio h3.1]; exact h3.2.2.2
  have hI : prI L (t : Int) = p := by unfold prI; rw [if_pos (by omega), Int.toNat_natCast, hN]
  refine ⟨by unfold fstV; rw [hs]; rfl, by unfold fstB; rw [hs]; rfl, hI, h3.1, h3.2.1, h3.2.2.1, ?_⟩
  rcases rem_cases L (t : Int) with ⟨ha, -⟩ | ⟨T, e, t1, ⟨h0, -⟩ | ⟨h0, e1, e2⟩⟩
  · omega
  · have : T = t := by omega
    subst this
    omega
  · have : T = t := by omega
    subst this
    refine ⟨e1, ?_⟩
    rw [e2, hN]
    have e3 : seqs (updL L p ((L p).filter (fun x => decide (x ≠ T)))) 31 = seqs (fun q => (L q).filter (fun x => decide (x ≠ T))) 31 := seqs_congr fun q _ _ => by
      by_cases e : q = p
      · subst e; rw [updL_same]
      · rw [updL_ne _ _ e, List.filter_eq_self.2]
        intro x hx
        have : x ≠ T := by rintro rfl; have := (h.thr q x hx).2.2.2; omega
        simp [this]
    rw [e3, seqs_filt, hs, List.filter_cons_of_neg (by simp), List.filter_eq_self.2]
    intro x hx
    have hn := (h.few 31 (by decide)).1
    rw [hs, List.map_cons, List.nodup_cons] at hn
    have : x.2 ≠ T := fun e => hn.1 (List.mem_map.2 ⟨x, hx, e⟩)
    simp [this]

/-! ### Flags -/
def bcl (B : Nat → Bool) : List Value := (List.range 16).map fun i => Value.bool (B i)
def Sn (w : World) (sb : Nat) (B : Nat → Bool) : Prop := w.heap[sb]? = some (.cells (bcl B).toArray 41 (0, 0))
def updB (B : Nat → Bool) (i : Nat) : Nat → Bool := fun j => if j = i then true else B j
theorem Sn.at {w : World} {sb : Nat} {B : Nat → Bool} (h : Sn w sb B) (i : Nat) (hi : i < 16) : w.cell? ⟨sb, i, none⟩ = some (.bool (B i)) := by
  rw [cell_of_row w sb i _ _ _ h]
  simp [bcl, hi]
theorem Sn.free {w : World} {sb : Nat} {B : Nat → Bool} (h : Sn w sb B) (i : Nat) : w.frozen? ⟨sb, i, none⟩ = false := by simp [World.frozen?, show w.heap[sb]? = _ from h]
theorem Sn.set {w : World} {sb : Nat} {B : Nat → Bool} (h : Sn w sb B) (i : Nat) : Sn (w.setCell ⟨sb, i, none⟩ (.bool true)) sb (updB B i) := by
  unfold Sn
  rw [heap_setCell_same w sb i _ 41 _ h, List.setIfInBounds_toArray]
  congr 3
  apply List.ext_getElem?
  intro n
  rw [List.getElem?_set]
  unfold bcl updB
  by_cases e : i = n
  · subst e
    by_cases hi : i < 16 <;> simp [hi]
  · have : n ≠ i := fun h => e h.symm
    rw [if_neg e]
    by_cases hn : n < 16 <;> simp [hn, this]
theorem Sn.keep {w w' : World} {sb : Nat} {B : Nat → Bool} (h : Sn w sb B) {rows : List Nat} (hk : Kp w w' rows) (hr : sb ∉ rows) : Sn w' sb B := (hk.block sb (lt_of_block h) hr).trans h
end Go.Proofs.Ytfhbcigeoagedaa
