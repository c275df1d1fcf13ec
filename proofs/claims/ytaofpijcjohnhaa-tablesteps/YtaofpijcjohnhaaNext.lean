/- What is taken comes rising, each with its handle. -/
import Derived.Test.YtaofpijcjohnhaaDo
import Derived.Test.YtaofpijcjohnhaaNoth
namespace Go.Proofs.Ytaofpijcjohnhaa
open Go.RowKit Go.Shelf

theorem tkp_mem {T : Pl} {k : Nat} {x : Nat × Int} (h : x ∈ tkp T k) : x.1 < k ∧ (T x.1).1 = true ∧ x.2 = x.1 + 16 * (T x.1).2 := by
  induction k with
  | zero => simp [tkp] at h
  | succ k ih =>
    rw [tkp] at h
    split at h
    · rename_i ht
      rcases List.mem_append.1 h with h | h
      · have := ih h
        exact ⟨by omega, this.2⟩
      · simp at h
        subst h
        exact ⟨by simp, ht, rfl⟩
    · have := ih h
      exact ⟨by omega, this.2⟩
theorem tkp_rising (T : Pl) (k : Nat) : List.Pairwise (fun x y : Nat × Int => x.1 < y.1) (tkp T k) := by
  induction k with
  | zero => simp [tkp]
  | succ k ih =>
    rw [tkp]
    split
    · rw [List.pairwise_append]
      refine ⟨ih, by simp, ?_⟩
      intro a ha b hb
      simp at hb
      subst hb
      exact (tkp_mem ha).1
    · exact ih
def lastOf (l : List (Nat × Int)) : Int := (l.getLast?.map fun x => (x.1 : Int)).getD (-1)
theorem lastOf_snoc (l : List (Nat × Int)) (x : Nat × Int) : lastOf (l ++ [x]) = x.1 := by simp [lastOf]
/-- What comes next: behind the last one, and its place's handle. -/
def Nx (T : Pl) (n : Nat) (pre : List (Nat × Int)) (x : Nat × Int) : Prop := lastOf pre < x.1 ∧ ofB T n x.1 = true ∧ ofV T n x.1 = x.2
theorem next_of {T : Pl} {n : Nat} {pre : List (Nat × Int)} {x : Nat × Int} (hw : ∀ i, n ≤ i → T i = (false, 0)) (h : pre ++ [x] <+: tkp T 16) : Nx T n pre x := by
  have hx := tkp_mem (h.subset (show x ∈ pre ++ [x] by simp))
  have hp := (tkp_rising T 16).sublist h.sublist
  rw [List.pairwise_append] at hp
  refine ⟨?_, ?_⟩
  · unfold lastOf
    cases hl : pre.getLast? with
    | none => simp; omega
    | some y =>
      have hy : y ∈ pre := List.mem_of_getLast? hl
      have := hp.2.2 y hy x (by simp)
      simp; omega
  · have hn : x.1 < n := by
      rcases Nat.lt_or_ge x.1 n with h | h
      · exact h
      · have := hx.2.1; rw [hw _ h] at this; cases this
    obtain ⟨e1, e2⟩ := ofB_true (T := T) (n := n) (i := x.1) (by omega) (by omega) (by simpa using hx.2.1)
    exact ⟨e1, by rw [e2, hx.2.2]; simp⟩

/-- Marks of loops that are over. -/
def Live (lo : Nat) (W : World) (Ds : List Nat) : Prop := (∀ D ∈ Ds, W.heap[D]? = some (.deferred (some []))) ∧ Ds.Nodup ∧ ∀ D ∈ Ds, lo ≤ D
def marks (Ds : List Nat) : List Deferred := Ds.map fun D => { target := .collected D, args := #[] }
theorem Live.own {lo : Nat} {A B : World} {row : Option Nat} {Ds : List Nat} {D0 : Nat} (h : Live lo A Ds) (hD : ∀ D ∈ Ds, D < D0) (hg : A.grownBy B row) (hr : ∀ r, row = some r → D0 ≤ r) : Live lo B Ds :=
  ⟨fun D hm => (hg.block D (lt_of_block (h.1 D hm)) (fun e => by have := hr D e.symm; have := hD D hm; omega)).trans (h.1 D hm), h.2⟩
theorem Live.set {lo : Nat} {A : World} {Ds : List Nat} (h : Live lo A Ds) {b : Nat} {c : Array Value} {t : TypeId} {f : Nat × Nat} (hb : A.heap[b]? = some (.cells c t f)) (v : Value) : Live lo (A.setCell ⟨b, 0, none⟩ v) Ds :=
  ⟨fun D hm => (Below.heap_setCell _ _ _ _ (fun e => by
    have := h.1 D hm
    simp only at e
    rw [e, hb] at this
    simp at this)).trans (h.1 D hm), h.2⟩
theorem Live.alloc {lo : Nat} {A : World} {Ds : List Nat} (h : Live lo A Ds) (o : Obj) : Live lo (A.alloc o) Ds :=
  ⟨fun D hm => (Below.heap_alloc _ _ _ (lt_of_block (h.1 D hm))).trans (h.1 D hm), h.2⟩
theorem Live.more {lo : Nat} {A : World} {Ds : List Nat} {D : Nat} (h : Live lo A Ds) (hD : A.heap[D]? = some (.deferred (some []))) (hn : ∀ E ∈ Ds, E < D) (hl : lo ≤ D) : Live lo A (D :: Ds) :=
  ⟨by intro E hE; rcases List.mem_cons.1 hE with rfl | hE; exact hD; exact h.1 E hE, List.nodup_cons.2 ⟨fun hm => by have := hn D hm; omega, h.2.1⟩, by intro E hE; rcases List.mem_cons.1 hE with rfl | hE; exact hl; exact h.2.2 E hE⟩

/-- The law's boxes: the reference, when to leave, the answer, the iterator's, the turn's. -/
structure Lb (ws W : World) (a0 a1 a2 a3 qb rb tb : Nat) (leave : Int) (t : Int) : Prop where
  r : W.heap[a0]? = some (.cells #[.pointer (some ⟨rb, 0, none⟩)] 27 (0, 0))
  lv : W.heap[a1]? = some (.cells #[.int .i64 leave] 3 (0, 0))
  res : W.heap[a2]? = some (.cells #[.bool false] 4 (0, 0))
  it : W.heap[a3]? = some (.cells #[.pointer (some ⟨tb, 0, none⟩)] 23 (0, 0))
  turn : W.heap[qb]? = some (.cells #[.int .i64 t] 3 (0, 0))
  k : Below ws.heap.size ws W
section
variable {ws A B : World} {a0 a1 a2 a3 qb rb tb : Nat} {leave t : Int}
theorem Lb.own {row : Option Nat} {D : Nat} (h : Lb ws A a0 a1 a2 a3 qb rb tb leave t) (hD : ws.heap.size ≤ D) (hg : A.grownBy B row) (hr : ∀ r, row = some r → D ≤ r ∧ ∃ o : Obj, A.heap[r]? = some o ∧ o.isCells = false) : Lb ws B a0 a1 a2 a3 qb rb tb leave t :=
  ⟨cells_kept h.r hg hr, cells_kept h.lv hg hr, cells_kept h.res hg hr, cells_kept h.it hg hr, cells_kept h.turn hg hr, ownFrom_below (β := Unit) (Nat.le_refl _) hD () A B row h.k hg hr⟩
/-- .. behind a store into another box. -/
theorem Lb.cnt {nb : Nat} (h : Lb ws A a0 a1 a2 a3 qb rb tb leave t) (hn : nb ≠ a0 ∧ nb ≠ a1 ∧ nb ≠ a2 ∧ nb ≠ a3 ∧ nb ≠ qb) (hw : ws.heap.size ≤ nb) (v : Value) : Lb ws (A.setCell ⟨nb, 0, none⟩ v) a0 a1 a2 a3 qb rb tb leave t := by
  have kk : ∀ b c t, A.heap[b]? = some (.cells c t (0, 0)) → b ≠ nb → (A.setCell ⟨nb, 0, none⟩ v).heap[b]? = some (.cells c t (0, 0)) := fun b c t hb hne' => (Below.heap_setCell _ _ _ _ (by simpa using hne')).trans hb
  exact ⟨kk _ _ _ h.r (by omega), kk _ _ _ h.lv (by omega), kk _ _ _ h.res (by omega), kk _ _ _ h.it (by omega), kk _ _ _ h.turn (by omega), h.k.setCell (p := ⟨nb, 0, none⟩) hw _⟩
theorem Lb.alloc (h : Lb ws A a0 a1 a2 a3 qb rb tb leave t) (o : Obj) : Lb ws (A.alloc o) a0 a1 a2 a3 qb rb tb leave t :=
  h.own (D := ws.heap.size) (Nat.le_refl _) (World.grownBy_alloc A o none) (by simp)
theorem Lb.next (h : Lb ws A a0 a1 a2 a3 qb rb tb leave t) (t' : Int) : Lb ws (A.alloc (.cells #[.int .i64 t'] 3)) a0 a1 a2 a3 A.heap.size rb tb leave t' := by
  have h' := h.alloc (.cells #[.int .i64 t'] 3)
  exact ⟨h'.r, h'.lv, h'.res, h'.it, heap_alloc_new A _, h'.k⟩
end
end Go.Proofs.Ytaofpijcjohnhaa
