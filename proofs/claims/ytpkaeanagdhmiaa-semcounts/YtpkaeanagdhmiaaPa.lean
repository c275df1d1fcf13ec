/- A semaphore or barrier and the reference's, side by side; what a step does, plainly. -/
import Derived.Test.YtpkaeanagdhmiaaRs
namespace Go.Proofs.Ytpkaeanagdhmiaa
open Go.RowKit Go.Shelf Go.Lib Go.Sort Go.Maps

/-- Both, by the blocks that they write. -/
def Pa (T T' : Nat) (w : World) (sb rb : Nat) (R : List Nat) (v : Int) (L : List Dl) : Prop := ∃ R1 q, R = R1 ++ [rb, q] ∧ Sm T w sb R1 v L ∧ Rm T' w rb q v L ∧ rb ∉ R1 ∧ q ∉ R1
variable {T T' : Nat} {w w' : World} {sb rb : Nat} {R : List Nat} {v : Int} {L : List Dl}
theorem Pa.ok (h : Pa T T' w sb rb R v L) : okL L := by
  obtain ⟨R1, q, -, h1, -⟩ := h
  exact h1.ok
theorem Pa.lt (h : Pa T T' w sb rb R v L) : ∀ k ∈ R, k < w.heap.size := by
  obtain ⟨R1, q, rfl, h1, h2, -⟩ := h
  intro k hk
  simp at hk
  have := h2.lt
  rcases hk with hk | rfl | rfl
  · exact h1.lt k hk
  · omega
  · omega
theorem Pa.kind (h : Pa T T' w sb rb R v L) : ∀ k ∈ R, ∀ c, w.heap[k]? ≠ some (.cells c 87 (0, 0)) := by
  obtain ⟨R1, q, rfl, h1, h2, -⟩ := h
  intro k hk c
  rcases List.mem_append.1 hk with hk | hk
  · exact h1.kind k hk c
  · exact h2.kind k hk c
theorem Pa.keep (h : Pa T T' w sb rb R v L) {rs : List Nat} (hk : Kp w w' rs) (hr : ∀ k ∈ R, k ∉ rs) (hd : ∀ k ∈ rs, ∀ c, w.heap[k]? ≠ some (.cells c 87 (0, 0))) : Pa T T' w' sb rb R v L := by
  obtain ⟨R1, q, rfl, h1, h2, h3, h4⟩ := h
  exact ⟨R1, q, rfl, h1.keep hk (fun k hm => hr k (by simp [hm])), h2.keep hk (hr _ (by simp)) (hr _ (by simp)) hd, h3, h4⟩
theorem Pa.same (h : Pa T T' w sb rb R v L) (hk : Kp w w' []) : Pa T T' w' sb rb R v L := h.keep hk (by simp) (by simp)
/-- What a step leaves. -/
def Did (T T' : Nat) (w w' : World) (rb : Nat) (R : List Nat) (v : Int) (L : List Dl) (e : Ending) : Prop := ∃ sb' R', e = .returned (.tuple #[.pointer (some ⟨sb', 0, none⟩), .pointer (some ⟨rb, 0, none⟩), .bool true]) ∧ Pa T T' w' sb' rb R' v L ∧ Nw w R R' ∧ Kp w w' R
/-- The reference, when the program has gone on. -/
theorem Rm.mid {R1 : List Nat} {q : Nat} {u : Int} {M : List Dl} (hs : Sm T w sb R1 v L) (hr : Rm T' w rb q v L) (h3 : rb ∉ R1) (h4 : q ∉ R1) (h : To T w w' sb R1 u M) : Rm T' w' rb q v L := by
  obtain ⟨R2, -, -, k⟩ := h
  exact hr.keep k h3 h4 hs.kind
/-- Both have gone on. -/
theorem pa_fin {w1 w2 : World} {R1 : List Nat} {q : Nat} {u : Int} {M : List Dl} (hr : Rm T' w rb q v L) (h3 : rb ∉ R1) (h4 : q ∉ R1) (h : To T w w1 sb R1 u M) (h' : Rto T' w1 w2 rb q u M) : ∃ R', Pa T T' w2 sb rb R' u M ∧ Nw w (R1 ++ [rb, q]) R' ∧ Kp w w2 (R1 ++ [rb, q]) := by
  obtain ⟨R2, s, n, k⟩ := h
  obtain ⟨q', m, n', k'⟩ := h'
  have hl := hr.lt
  have hs := k.size
  have far : ∀ x ∈ R2, x ∈ R1 ∨ w.heap.size ≤ x := n
  have a1 : rb ∉ R2 := fun hm => (far rb hm).elim h3 (fun h => by omega)
  have a2 : q ∉ R2 := fun hm => (far q hm).elim h4 (fun h => by omega)
  have a3 : q' ∉ R2 := fun hm => by
    rcases n' with rfl | h
    · exact a2 hm
    · have := s.lt q' hm; omega
  refine ⟨R2 ++ [rb, q'], ⟨R2, q', rfl, s.keep k' (fun x hx hm => ?_), m, a1, a3⟩, fun x hx => ?_, (k.mono (fun x hx _ => by simp [hx])).trans (k'.mono (fun x hx _ => by simp at hx; simp [hx]))⟩
  · simp at hm
    rcases hm with rfl | rfl
    · exact a1 hx
    · exact a2 hx
  · simp at hx
    rcases hx with hx | rfl | rfl
    · exact (far x hx).imp (fun h => by simp [h]) id
    · exact .inl (by simp)
    · rcases n' with rfl | h
      · exact .inl (by simp)
      · exact .inr (by omega)
/-- A copy has taken its place. -/
theorem pa_copy {w2 w3 : World} {R1 RC : List Nat} {q cb : Nat} {u : Int} {M : List Dl} (hs : Sm T w sb R1 v L) (hr : Rm T' w rb q v L) (h3 : rb ∉ R1) (h4 : q ∉ R1) (hk : Kp w w2 []) (hc : Sm T w2 cb RC v L) (hf : ∀ k ∈ RC, w.heap.size ≤ k) (h : To T w2 w3 sb R1 u M) : ∃ R', Pa T T' w3 cb rb R' v L ∧ Nw w (R1 ++ [rb, q]) R' ∧ Kp w w3 (R1 ++ [rb, q]) := by
  obtain ⟨R2, -, -, k⟩ := h
  have hl := hr.lt
  refine ⟨RC ++ [rb, q], ⟨RC, q, rfl, hc.keep k (fun x hx hm => ?_), (hr.same hk).keep k h3 h4 (hs.same hk).kind, fun hm => ?_, fun hm => ?_⟩, fun x hx => ?_, (hk.nil).trans (k.mono (fun x hx _ => by simp [hx]))⟩
  · have := hf x hx; have := hs.lt x hm; omega
  · have := hf _ hm; omega
  · have := hf _ hm; omega
  · simp at hx
    rcases hx with hx | rfl | rfl
    · exact .inr (hf x hx)
    · exact .inl (by simp)
    · exact .inl (by simp)

/-! ### Steps, plainly -/
theorem lv_nil (t : Int) : lvL [] t = [] := by unfold lvL; split <;> rfl
theorem chg_nil (t p : Int) : chgL [] t p = [] := by
  unfold chgL
  split
  · split <;> rfl
  · rfl
theorem take_nil : takeL [] = [] := by
  unfold takeL
  rw [fst_nil.2]
  rfl
theorem fst_no {L : List Dl} (h : okL L) (hb : fstB L = false) : L = [] := by
  unfold fstB at hb
  have h0 : (ordL L) = [] := by simpa using hb
  have := ord_len h
  rw [h0] at this
  exact List.eq_nil_of_length_eq_zero this.symm
theorem okL.take {L : List Dl} (h : okL L) : okL (takeL L) := by
  unfold takeL
  split
  · exact h.del _
  · exact h
theorem Sok.wait (h : Sok v L) (t p : Int) : Sok (waV v L t p) (waL v L t p) := by
  have h1 := h.lo
  have h2 := h.hi
  unfold waV waL
  by_cases h0 : 0 < v
  · rw [if_pos h0, h.no h0]
    split <;> exact ⟨by omega, by omega, fun _ => rfl⟩
  · have hb : waB v L t p = false := by unfold waB; simp [h0]
    rw [hb]
    simp only [Bool.false_eq_true, if_false]
    exact ⟨h1, h2, fun h => absurd h h0⟩
theorem Sok.try (h : Sok v L) : Sok (if 0 < v then v - 1 else v) L := by
  have h1 := h.lo
  have h2 := h.hi
  split
  · rename_i h0
    exact ⟨by omega, by omega, fun _ => h.no h0⟩
  · rename_i h0
    exact ⟨h1, h2, fun h => absurd h h0⟩
theorem Sok.post (h : Sok v L) (hok : okL L) : Sok (poV v L) (takeL L) := by
  have h1 := h.lo
  have h2 := h.hi
  unfold poV
  cases hB : fstB L
  · have hL := fst_no hok hB
    simp only [Bool.false_eq_true, if_false]
    rw [hL, take_nil]
    split <;> exact ⟨by omega, by omega, fun _ => rfl⟩
  · simp only [if_true]
    refine ⟨h1, h2, fun h0 => ?_⟩
    rw [h.no h0, take_nil]
theorem Sok.leave (h : Sok v L) (t : Int) : Sok v (lvL L t) := ⟨h.lo, h.hi, fun h0 => by rw [h.no h0, lv_nil]⟩
theorem Sok.change (h : Sok v L) (t p : Int) : Sok v (chgL L t p) := ⟨h.lo, h.hi, fun h0 => by rw [h.no h0, chg_nil]⟩
/-- What a step does to a semaphore. -/
noncomputable def stV (v : Int) (L : List Dl) (k t p : Int) : Int := if k = 1 then waV v L t p else if k = 2 then (if 0 < v then v - 1 else v) else if k = 3 then poV v L else v
noncomputable def stL (v : Int) (L : List Dl) (k t p : Int) : List Dl := if k = 1 then waL v L t p else if k = 3 then takeL L else if k = 4 then lvL L t else if k = 5 then chgL L t p else L
theorem Sok.step (h : Sok v L) (hok : okL L) (k t p : Int) : Sok (stV v L k t p) (stL v L k t p) := by
  unfold stV stL
  by_cases h1 : k = 1
  · rw [if_pos h1, if_pos h1]; exact h.wait t p
  rw [if_neg h1, if_neg h1]
  by_cases h2 : k = 2
  · subst h2
    rw [if_pos rfl, if_neg (show ¬ (2 : Int) = 3 by decide), if_neg (show ¬ (2 : Int) = 4 by decide), if_neg (show ¬ (2 : Int) = 5 by decide)]
    exact h.try
  rw [if_neg h2]
  by_cases h3 : k = 3
  · rw [if_pos h3, if_pos h3]; exact h.post hok
  rw [if_neg h3, if_neg h3]
  split
  · exact h.leave t
  split
  · exact h.change t p
  · exact h
/-- What a step does to a barrier. -/
noncomputable def arL (n : Int) (L : List Dl) (k t p : Int) : List Dl := if k = 1 ∨ k = 2 ∨ k = 3 then baL n L t p else if k = 4 then lvL L t else if k = 5 then chgL L t p else L
theorem put_len {L : List Dl} {t p : Int} (h : putE L t p = 0) : (putL L t p).length = L.length + 1 := by
  unfold putE at h
  unfold putL
  split
  · rename_i hm
    rw [if_pos hm] at h
    split
    · rename_i hh
      rw [if_pos hh] at h
      exact absurd h (by decide)
    · simp
  · rename_i hm
    rw [if_neg hm] at h
    exact absurd h (by decide)
theorem Bok.wait {n : Int} (h : Bok n L) (t p : Int) : Bok n (baL n L t p) := by
  have h1 := h.lo
  have h2 := h.hi
  have h3 := h.few
  unfold baL
  by_cases hE : putE L t p = 0
  · by_cases h0 : n ≤ L.length + 1
    · rw [if_pos ⟨hE, h0⟩]
      exact ⟨h1, h2, by simp; omega⟩
    · rw [if_neg (fun h => h0 h.2)]
      exact ⟨h1, h2, by rw [put_len hE]; omega⟩
  · rw [if_neg (fun h => hE h.1), put_same hE]
    exact h
theorem Bok.less {n : Int} {M : List Dl} (h : Bok n L) (hl : M.length ≤ L.length) : Bok n M := ⟨h.lo, h.hi, by have := h.few; omega⟩
theorem lv_len (L : List Dl) (t : Int) : (lvL L t).length ≤ L.length := by
  unfold lvL
  split
  · exact List.length_filter_le _ _
  · exact Nat.le_refl _
theorem chg_len (L : List Dl) (t p : Int) : (chgL L t p).length = L.length := by
  unfold chgL chL
  split
  · split
    · simp
    · rfl
  · rfl
theorem Bok.step {n : Int} (h : Bok n L) (k t p : Int) : Bok n (arL n L k t p) := by
  unfold arL
  split
  · exact h.wait t p
  split
  · exact h.less (lv_len L t)
  split
  · exact h.less (Nat.le_of_eq (chg_len L t p))
  · exact h
theorem cell3 (w : World) (a b c : Value) : (w.alloc (.cells #[a, b, c] 34)).cell? ⟨w.heap.size, 0, none⟩ = some a ∧ (w.alloc (.cells #[a, b, c] 34)).cell? ⟨w.heap.size, 1, none⟩ = some b ∧ (w.alloc (.cells #[a, b, c] 34)).cell? ⟨w.heap.size, 2, none⟩ = some c := by
  refine ⟨?_, ?_, ?_⟩ <;> simp
theorem bto {w w' : World} {sb : Nat} {R : List Nat} {n : Int} {L : List Dl} {x : Value} (h : ∃ R', Sm 76 w' sb R' n L ∧ Nw w R R' ∧ Kp w w' R ∧ ∀ g, x.ownBlock = some g → g ∉ R') : To 76 w w' sb R n L := by
  obtain ⟨R', h1, h2, h3, -⟩ := h
  exact ⟨R', h1, h2, h3⟩
end Go.Proofs.Ytpkaeanagdhmiaa
