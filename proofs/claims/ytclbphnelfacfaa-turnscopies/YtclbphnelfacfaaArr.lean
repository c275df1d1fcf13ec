/- Arrays that are compared; two pairs that go on apart. -/
import Derived.Test.YtclbphnelfacfaaPlayW
import Derived.ChangeKeysEq
namespace Go.Proofs.Ytclbphnelfacfaa
open Go.RowKit Go.Shelf

def sameA {α : Type} [DecidableEq α] (f g : Nat → α) : Bool := (List.range 16).all fun i => decide (f i = g i)
theorem sameA_iff {α : Type} [DecidableEq α] (f g : Nat → α) : sameA f g = true ↔ ∀ i, i < 16 → f i = g i := by simp [sameA]
abbrev vI (f : Nat → Int) : List Value := vcl (fun t => .int .i64 (f t)) 16 0
abbrev vB (f : Nat → Bool) : List Value := vcl (fun t => .bool (f t)) 16 0
theorem itemsI (f g : Nat → Int) (w : World) : ∀ is : List Nat, (∀ i ∈ is, i < 16) → (Op.eqItems 9999 3 1 (vI f).toArray (vI g).toArray is).run Try.prog w = .ok (is.all fun i => decide (f i = g i)) w
  | [], _ => by simp [Op.eqItems]
  | i :: is, h => by
    have hi := h i (by simp)
    have ih := itemsI f g w is (fun j hj => h j (by simp [hj]))
    have hp : ∀ f : Nat → Int, (part 3 (vI f).toArray i).run Try.prog w = .ok (.int .i64 (f i)) w := fun f => by
      have h3 : (isAgg 3).run Try.prog w = .ok false w := Try.isAgg3 w
      have e0 := vcl_at (fun t => Value.int .i64 (f t)) 16 0 i hi
      rw [Nat.zero_add] at e0
      simp [part, Sem.run_bind, h3, e0]
    have hq : (Op.equalIn 9999 3 (.int .i64 (f i)) (.int .i64 (g i))).run Try.prog w = .ok (f i == g i) w := run_equalIn_int w 9998 3 .i64 .i64 _ _ Try.underlying3
    simp only [Op.eqItems, Sem.run_bind, Nat.mul_one, hp, hq, Result.andThen_ok]
    by_cases he : f i = g i
    · simp [ih, he]
    · simp [he]
theorem itemsB (f g : Nat → Bool) (w : World) : ∀ is : List Nat, (∀ i ∈ is, i < 16) → (Op.eqItems 9999 4 1 (vB f).toArray (vB g).toArray is).run Try.prog w = .ok (is.all fun i => decide (f i = g i)) w
  | [], _ => by simp [Op.eqItems]
  | i :: is, h => by
    have hi := h i (by simp)
    have ih := itemsB f g w is (fun j hj => h j (by simp [hj]))
    have hp : ∀ f : Nat → Bool, (part 4 (vB f).toArray i).run Try.prog w = .ok (.bool (f i)) w := fun f => by
      have h3 : (isAgg 4).run Try.prog w = .ok false w := Try.isAgg4 w
      have e0 := vcl_at (fun t => Value.bool (f t)) 16 0 i hi
      rw [Nat.zero_add] at e0
      simp [part, Sem.run_bind, h3, e0]
    have hq : (Op.equalIn 9999 4 (.bool (f i)) (.bool (g i))).run Try.prog w = .ok (f i == g i) w := run_equalIn_bool w 9998 4 _ _ Try.underlying4
    simp only [Op.eqItems, Sem.run_bind, Nat.mul_one, hp, hq, Result.andThen_ok]
    by_cases he : f i = g i
    · simp [ih, he]
    · simp [he]
theorem arrI (f g : Nat → Int) (w : World) : (binOp .eql 50 (.agg (vI f).toArray) (.agg (vI g).toArray)).run Try.prog w = .ok (.bool (sameA f g)) w := by
  rw [run_eql_struct]
  obtain ⟨i0, hi⟩ : ∃ i0, Try.prog.info? 3 = some i0 := ⟨_, rfl⟩
  have hc : Try.prog.cellsOf 3 = 1 := by kernel_rfl
  have h := run_equalIn_array (P := Try.prog) w 9999 (vI f).toArray (vI g).toArray Try.underlying50 hi
  rw [hc, itemsI f g w _ (by simp)] at h
  rw [h]
  rfl
theorem arrB (f g : Nat → Bool) (w : World) : (binOp .eql 51 (.agg (vB f).toArray) (.agg (vB g).toArray)).run Try.prog w = .ok (.bool (sameA f g)) w := by
  rw [run_eql_struct]
  obtain ⟨i0, hi⟩ : ∃ i0, Try.prog.info? 4 = some i0 := ⟨_, rfl⟩
  have hc : Try.prog.cellsOf 4 = 1 := by kernel_rfl
  have h := run_equalIn_array (P := Try.prog) w 9999 (vB f).toArray (vB g).toArray Try.underlying51 hi
  rw [hc, itemsB f g w _ (by simp)] at h
  rw [h]
  rfl
theorem range_of {w : World} {b o : Nat} {F : Nat → Value} (h : ∀ t, t < 16 → w.cell? ⟨b, o + t, none⟩ = some (F t)) : w.rangeAt b o (vcl F 16 0) := fun j v hv => by
  have hj : j < 16 := by
    rcases Nat.lt_or_ge j 16 with h' | h'
    · exact h'
    · rw [List.getElem?_eq_none (by rw [vcl_length]; exact h')] at hv; cases hv
  rw [vcl_at _ 16 0 j hj, Nat.zero_add] at hv
  rw [h j hj]
  exact hv
theorem size50 (F : Nat → Value) : (Try.prog.info? 50).map (·.size) = some (vcl F 16 0).length := by
  rw [vcl_length]
  kernel_rfl
theorem size51 (F : Nat → Value) : (Try.prog.info? 51).map (·.size) = some (vcl F 16 0).length := by
  rw [vcl_length]
  kernel_rfl
/-! ### Two pairs -/
structure Two (w W : World) (q : Nat) (xb rb qb : Nat) (S : Sh) (L : Ls) (m : Nat) (yb sb pb : Nat) (T : Sh) (M : Ls) (n : Nat) : Prop where
  a : Pl w W xb rb qb q S L m
  b : Pl w W yb sb pb q T M n
  d : ∀ x ∈ [xb, rb, qb], x ∉ [yb, sb, pb]
section
variable {w W W' : World} {q xb rb qb m yb sb pb n : Nat} {S T : Sh} {L M : Ls}
theorem Two.swap (h : Two w W q xb rb qb S L m yb sb pb T M n) : Two w W q yb sb pb T M n xb rb qb S L m := ⟨h.b, h.a, fun x h1 h2 => h.d x h2 h1⟩
/-- A pair is kept where rows of other kinds are written. -/
theorem Pl.kept (h : Pl w W yb sb pb q T M n) {rows : List Nat} (hk : Kp W W' rows) (hr : ∀ x ∈ [yb, sb, pb], x ∉ rows) (h3 : ∀ r ∈ rows, ∃ c t, W.heap[r]? = some (.cells c t (0, 0)) ∧ t ≠ 3) (hw : Kp w W' []) : Pl w W' yb sb pb q T M n := by
  obtain ⟨h1, h2, h4⟩ := h
  obtain ⟨s, hs, hT⟩ := h1.tn
  exact ⟨⟨⟨s, hs, hT.keep hk (hr _ (by simp)) (hr _ (by simp))⟩, hw, h1.g1, h1.g2⟩, Rx.kept h2 hk (hr _ (by simp)) h3, h4⟩
theorem Pl.kinds (h : Pl w W xb rb qb q S L m) : ∀ r ∈ [xb, rb, qb], ∃ c t, W.heap[r]? = some (.cells c t (0, 0)) ∧ t ≠ 3 := by
  obtain ⟨h1, h2, -⟩ := h
  obtain ⟨s, hs, hT⟩ := h1.tn
  obtain ⟨c, u, hR, -⟩ := hT.rd
  obtain ⟨F, h5, -⟩ := h2
  intro r hr
  simp at hr
  rcases hr with rfl | rfl | rfl
  · exact ⟨_, _, hT.tc, by decide⟩
  · exact ⟨_, _, hR, by decide⟩
  · exact ⟨_, _, h5, by decide⟩
theorem Two.step (h : Two w W q xb rb qb S L m yb sb pb T M n) (hm : m ≤ 870000) (k t p : Int) (r : Bool) : Calls Try.prog 12 #[.pointer (some ⟨xb, 0, none⟩), .pointer (some ⟨qb, 0, none⟩), .agg #[.int .i64 k, .int .i64 t, .int .i64 p, .bool r]] W fun e W' => e = .returned (.bool true) ∧ Two w W' q xb rb qb (stS q L S k t p r) (stL L S k t p) (m + 20) yb sb pb T M n := by
  refine (h.a.step hm k t p r).mono ?_
  rintro e W' ⟨rfl, h1, hk⟩
  exact ⟨rfl, h1, h.b.kept hk (fun x h1 h2 => h.d x h2 h1) h.a.kinds h1.kp, h.d⟩
end
/-- The first k sequences are the same. -/
def eqTo (L M : Ls) : Nat → Bool
  | 0 => true
  | k + 1 => eqTo L M k && decide (L (k + 1) = M (k + 1))
theorem eqTo_iff (L M : Ls) : ∀ k, eqTo L M k = true ↔ ∀ p, 1 ≤ p → p ≤ k → L p = M p
  | 0 => by simp [eqTo]; intro p h1 h2; omega
  | k + 1 => by
    rw [eqTo, Bool.and_eq_true, eqTo_iff L M k, decide_eq_true_eq]
    constructor
    · rintro ⟨h1, h2⟩ p p1 p2
      by_cases e : p = k + 1
      · rw [e]; exact h2
      · exact h1 p p1 (by omega)
    · intro h
      exact ⟨fun p p1 p2 => h p p1 (by omega), h (k + 1) (by omega) (Nat.le_refl _)⟩
/-- What the law calls alike is what Same tells. -/
theorem alike_iff {L M : Ls} {S T : Sh} (hL : okL L) (hM : okL M) : (sameA (fun t => (prN L t 31 : Int)) (fun t => (prN M t 31 : Int)) && sameA (fun t => (S t).1) (fun t => (T t).1) && sameA (fun t => ((S t).2 : Int)) (fun t => ((T t).2 : Int)) && eqTo L M 31) = (sameS T S && decide (seqs M 31 = seqs L 31)) := by
  rw [Bool.eq_iff_iff]
  simp only [Bool.and_eq_true, sameA_iff, eqTo_iff, sameS_iff, decide_eq_true_eq]
  constructor
  · rintro ⟨⟨⟨-, h2⟩, h3⟩, h4⟩
    refine ⟨fun i hi => Prod.ext (h2 i hi).symm (by have := h3 i hi; omega), seqs_congr fun p p1 p2 => (h4 p p1 p2).symm⟩
  · rintro ⟨h1, h2⟩
    have h3 := seqs_inj h2
    have e : ∀ p, L p = M p := fun p => by
      by_cases hp : 1 ≤ p ∧ p ≤ 31
      · exact (h3 p hp.1 hp.2).symm
      · rw [hL.at0 hp, hM.at0 hp]
    refine ⟨⟨⟨fun i hi => ?_, fun i hi => by rw [h1 i hi]⟩, fun i hi => by rw [h1 i hi]⟩, fun p _ _ => e p⟩
    rw [show L = M from funext e]
end Go.Proofs.Ytclbphnelfacfaa
