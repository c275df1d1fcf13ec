/- A range over an iterator, whose rounds box what they are handed: the rounds' and the iterator's words to one another. -/
import Derived.RangeFuncNested
import Derived.RangeFuncBound
import Derived.RangeFuncCalls
import Derived.RangeFuncLeaves
import Derived.RangeFuncBox
import Derived.Shelf.Abstract
import Derived.OwnWalkIn
import Derived.TacticsInMore
import Derived.LoopNIn
import Derived.LoopIn
import Derived.Test.YtjggpchjfglgcaaOwn
namespace Go.Proofs.Ytjggpchjfglgcaa
open Go.RowKit Go.Shelf

/-- What a round keeps: waiters that lie from a block on. -/
structure Kc (D : Nat) (W W' : World) : Prop where
  size : W.heap.size ≤ W'.heap.size
  same : ∀ k c f, D ≤ k → W.heap[k]? = some (.cells c 30 f) → W'.heap[k]? = some (.cells c 30 f)
theorem Kc.refl (D : Nat) (W : World) : Kc D W W := ⟨Nat.le_refl _, fun _ _ _ _ h => h⟩
theorem Kc.trans {D : Nat} {A B C : World} (h : Kc D A B) (h' : Kc D B C) : Kc D A C := ⟨Nat.le_trans h.size h'.size, fun k c f hk ha => h'.same k c f hk (h.same k c f hk ha)⟩
theorem Kc.of_kp {D : Nat} {A B : World} {rows : List Nat} (h : Kp A B rows) (hr : ∀ k ∈ rows, ∀ c f, A.heap[k]? ≠ some (.cells c 30 f)) : Kc D A B :=
  ⟨h.size, fun k c f _ ha => (h.block k (lt_of_block ha) (fun hm => hr k hm c f ha)).trans ha⟩
theorem kc_alloc (D : Nat) (W : World) (o : Obj) : Kc D W (W.alloc o) := ⟨by simp, fun k c f _ h => (Below.heap_alloc _ _ _ (lt_of_block h)).trans h⟩
theorem kc_put (D : Nat) (W : World) (l : Nat) (o o' : Obj) (h : W.heap[l]? = some o) (hc : o.isCells = false) : Kc D W (W.putObj l o') := by
  refine ⟨by simp [World.putObj], fun k c f _ hk => ?_⟩
  have hne : k ≠ l := by
    rintro rfl
    rw [h] at hk
    cases hk
    simp [Obj.isCells] at hc
  exact (World.putObj_heap_other hne).trans hk

/-- An iterator over xs, made in w: whatever the caller keeps that abides the turn of new blocks which are no cells, it is led over xs, one by one, or till a round says no; a round keeps what is no cells from that call on, and one that goes on what K says. -/
def Seqs {α : Type} (n : Nat) (P : Program) (g : Nat) (lb : Array Value) (encs : α → Array Value) (K : World → World → Prop) (xs : List α) (w : World) : Prop :=
  ∀ (l : Nat) (J Jx : List α → World → Prop) (W : World), Below w.heap.size w W → OwnFrom W.heap.size J → OwnFrom W.heap.size Jx →
    (∀ pre x W1, J pre W1 → pre ++ [x] <+: xs → YieldAt Fence.wide (n - 1) P l (encs x) W1 fun e W' =>
      KeepsFrom W.heap.size W1 W' ∧ ((e = .returned (.bool true) ∧ J (pre ++ [x]) W' ∧ K W1 W') ∨ (e = .returned (.bool false) ∧ Jx (pre ++ [x]) W'))) →
    J [] W →
    CallsIn Fence.wide n P g (#[.func (.yield l) #[] #[]] ++ lb) W fun e W' => (∃ v, e = .returned v) ∧ (J xs W' ∨ ∃ pre, pre <+: xs ∧ Jx pre W')

section
variable {α : Type} {P : Program} {m : Nat}
/-- A loop's record, by its state and what is to be done behind it. -/
def recOf (fn : FuncId) (tmps : Array Value) (ps : Array Tmp) (assign body : Code) (d : Nat) (st : LoopState) (pe : Option Code) : Loop :=
  { state := st, pending := pe, fn := fn, tmps := tmps, params := ps, assign := assign, body := body, defers := d }

/-- One round: the record lies at l, the block for what is deferred at d. -/
theorem round_seqs {B C d l : Nat} {K : World → World → Prop} (hKt : ∀ {A B C : World}, K A B → K B C → K A C) (hKb : ∀ (W : World) (l : Nat) (o o' : Obj), W.heap[l]? = some o → o.isCells = false → K W (W.putObj l o')) (hKa : ∀ (W : World) (o : Obj), K W (W.alloc o)) {fn : FuncId} (hfn : Fence.wide.fn fn) {tmps : Array Value} {ps : Array Tmp} {assign body : Code} {encs : α → Array Value} (hps : ∀ x, (encs x).size = ps.size)
    {I : List α → World → Prop} {Ix : Code → List α → World → Prop} (hI : OwnFrom B I) (hIx : ∀ c, OwnFrom B (Ix c)) {ob : Obj} {a₁ : Nat → Act} {pre : List α} {x : α} {W0 : World} (hBd : B ≤ d) (hBl : B ≤ l) (hdl : d ≠ l) (hlC : l < C)
    (hassign : ∀ (W : World) (G : Act → World → Prop), G (a₁ W.heap.size) (W.alloc ob) → assign.wpIn (Fence.wide.inRound l) m P (Exit.then G (fun _ _ _ => False)) { tmps := (ps.zip (encs x)).foldl (fun t (p, v) => t.setIfInBounds p v) tmps, defers := [] } W)
    (hbody : ∀ b W, B ≤ b → I pre W → W.heap[b]? = some ob → body.wpIn (Fence.wide.inRound l) m P (ownPostG B K I Ix (pre ++ [x]) W) (a₁ b) W)
    (hi0 : I pre W0) (hl0 : W0.heap[l]? = some (.loop (recOf fn tmps ps assign body d .ready none))) (hd0 : W0.heap[d]? = some (.deferred (some []))) :
    YieldAt Fence.wide m P l (encs x) W0 fun e W' => KeepsFrom C W0 W' ∧ (
      (e = .returned (.bool true) ∧ (I (pre ++ [x]) W' ∧ W'.heap[l]? = some (.loop (recOf fn tmps ps assign body d .ready none)) ∧ W'.heap[d]? = some (.deferred (some []))) ∧ K W0 W') ∨
      (e = .returned (.bool false) ∧ ∃ c, Ix c (pre ++ [x]) W' ∧ W'.heap[l]? = some (.loop (recOf fn tmps ps assign body d .done (some c))) ∧ W'.heap[d]? = some (.deferred (some [])))) := by
  have hll0 : l < W0.heap.size := lt_of_block hl0
  refine ⟨fn, _, assign, body, run_yield (args := encs x) hl0 (hps x), roundIn_of_wpIn hfn (hassign W0 _ ?_)⟩
  obtain ⟨W, hW⟩ : ∃ W, W0.alloc ob = W := ⟨_, rfl⟩
  have hl : W.heap[l]? = some (.loop (recOf fn tmps ps assign body d .ready none)) := by rw [← hW]; exact (Below.heap_alloc _ _ _ hll0).trans hl0
  have hd : W.heap[d]? = some (.deferred (some [])) := by rw [← hW]; exact (Below.heap_alloc _ _ _ (lt_of_block hd0)).trans hd0
  have hi : I pre W := by rw [← hW]; exact hI.alloc _ hi0
  have hb0 : W.heap[W0.heap.size]? = some ob := by rw [← hW]; exact World.alloc_heap_new W0 _
  have hkA : K W0 W := by rw [← hW]; exact hKa W0 ob
  have hzA : W0.heap.size ≤ W.heap.size := by rw [← hW]; simp
  have hold : ∀ k o, W0.heap[k]? = some o → W.heap[k]? = some o := fun k o h => by rw [← hW]; exact (Below.heap_alloc _ _ _ (lt_of_block h)).trans h
  have hll : l < W.heap.size := lt_of_block hl
  rw [hW]
  refine ⟨_, run_beginRound hl rfl, ?_⟩
  obtain ⟨W2, hW2⟩ : ∃ W2, W.putObj l (.loop { recOf fn tmps ps assign body d .ready none with state := .busy }) = W2 := ⟨_, rfl⟩
  have hl2 : W2.heap[l]? = some (.loop (recOf fn tmps ps assign body d .busy none)) := by rw [← hW2]; exact World.putObj_heap_same hll
  have hd2 : W2.heap[d]? = some (.deferred (some [])) := by rw [← hW2]; exact (World.putObj_heap_other hdl).trans hd
  have hi2 : I pre W2 := by rw [← hW2]; exact hI.putObj _ hi hBl hl rfl
  have hk2 : K W0 W2 := hKt hkA (by rw [← hW2]; exact hKb W l _ _ hl rfl)
  have hbb : W2.heap[W0.heap.size]? = some ob := by rw [← hW2]; exact (World.putObj_heap_other (by omega)).trans hb0
  rw [hW2]
  have kf : ∀ W3, KeepsFrom B W2 W3 → ∀ o, KeepsFrom C W0 (W3.putObj l o) := fun W3 hk o => ⟨by
      have h1 := hk.size
      have h2 : W2.heap.size = W.heap.size := by rw [← hW2]; simp
      simp; omega, fun k o' hCk hko ho => by
      have e1 : W2.heap[k]? = some o' := by rw [← hW2]; exact (World.putObj_heap_other (by omega)).trans (hold _ _ hko)
      exact (World.putObj_heap_other (by omega)).trans (hk.same k o' (by omega) e1 ho)⟩
  have fin : ∀ (j : Option Code) (W3 : World), KeepsFrom B W2 W3 → ∃ W4, (Instr.endRound l j).run P W3 = .ok (.bool j.isNone) W4 ∧ W4 = W3.putObj l (.loop (recOf fn tmps ps assign body d (if j.isNone then .ready else .done) j)) ∧
      W3.heap[l]? = some (.loop (recOf fn tmps ps assign body d .busy none)) ∧ W4.heap[l]? = some (.loop (recOf fn tmps ps assign body d (if j.isNone then .ready else .done) j)) ∧ W4.heap[d]? = some (.deferred (some [])) := by
    intro j W3 hk
    have e1 := hk.same _ _ hBl hl2 rfl
    have e2 := hk.same _ _ hBd hd2 rfl
    exact ⟨_, run_endRound (P := P) j e1, rfl, e1, World.putObj_heap_same (lt_of_block e1), (World.putObj_heap_other hdl).trans e2⟩
  refine wpIn_mono (hbody _ W2 (by omega) hi2 hbb) ?_
  rintro e a3 W3 hp
  cases e with
  | normal =>
    obtain ⟨hk, hkc, hi3⟩ := hp
    obtain ⟨W4, hr, rfl, e1, e2, e3⟩ := fin none W3 hk
    exact ⟨_, _, hr, kf W3 hk _, .inl ⟨rfl, ⟨hI.putObj _ hi3 hBl e1 rfl, e2, e3⟩, hKt (hKt hk2 hkc) (hKb W3 l _ _ e1 rfl)⟩⟩
  | ret =>
    obtain ⟨hk, hi3⟩ := hp
    obtain ⟨W4, hr, rfl, e1, e2, e3⟩ := fin (some .ret) W3 hk
    exact ⟨_, _, hr, kf W3 hk _, .inr ⟨rfl, .ret, (hIx _).putObj _ hi3 hBl e1 rfl, e2, e3⟩⟩
  | exit id =>
    obtain ⟨hk, hi3⟩ := hp
    obtain ⟨W4, hr, rfl, e1, e2, e3⟩ := fin (some (.exit id)) W3 hk
    exact ⟨_, _, hr, kf W3 hk _, .inr ⟨rfl, .exit id, (hIx _).putObj _ hi3 hBl e1 rfl, e2, e3⟩⟩
  | goto t =>
    obtain ⟨hk, hi3⟩ := hp
    obtain ⟨W4, hr, rfl, e1, e2, e3⟩ := fin (some (.goto t)) W3 hk
    exact ⟨_, _, hr, kf W3 hk _, .inr ⟨rfl, .goto t, (hIx _).putObj _ hi3 hBl e1 rfl, e2, e3⟩⟩
  | panic ch => exact hp.elim
  | outgrown => exact hp.elim

/-- A range over such an iterator. -/
theorem range_seqs {n : Nat} {g : Operand} {ps : Array Tmp} {assign body : Code} {Q : Exit → Act → World → Prop} {a : Act} {w : World}
    (h1 : 1 ≤ n) {gf : Nat} {lb : Array Value} (hg : a.eval g = .func (.func gf) #[] lb) (eg : Enters P gf)
    {encs : α → Array Value} {K : World → World → Prop} {xs : List α} {w0 : World} (hseq : Seqs (n - 1) P gf lb encs K xs w0) (hKt : ∀ {A B C : World}, K A B → K B C → K A C) (hKb : ∀ (W : World) (l : Nat) (o o' : Obj), W.heap[l]? = some o → o.isCells = false → K W (W.putObj l o')) (hKa : ∀ (W : World) (o : Obj), K W (W.alloc o)) (hb0 : Below w0.heap.size w0 w) (hps : ∀ x, (encs x).size = ps.size)
    (I : List α → World → Prop) (Ix : Code → List α → World → Prop) (hI : OwnFrom w.heap.size I) (hIx : ∀ c, OwnFrom w.heap.size (Ix c)) (h0 : I [] w) (ob : α → Obj) (a₁ : α → Nat → Act)
    (hassign : ∀ (l : Nat) (x : α) (W : World) (G : Act → World → Prop), x ∈ xs → G (a₁ x W.heap.size) (W.alloc (ob x)) →
      assign.wpIn (Fence.wide.inRound l) (n - 1 - 1) P (Exit.then G (fun _ _ _ => False)) { tmps := (ps.zip (encs x)).foldl (fun t (p, v) => t.setIfInBounds p v) a.tmps, defers := [] } W)
    (hbody : ∀ (l : Nat) (pre : List α) (x : α) (b : Nat) (W : World), pre ++ [x] <+: xs → w.heap.size ≤ b → I pre W → W.heap[b]? = some (ob x) → body.wpIn (Fence.wide.inRound l) (n - 1 - 1) P (ownPostG w.heap.size K I Ix (pre ++ [x]) W) (a₁ x b) W)
    (hdone : ∀ (E : Nat) (W : World), w.heap.size ≤ E → I xs W → W.heap[E]? = some (.deferred (some [])) → Q .normal { a with defers := { target := .collected E, args := #[] } :: a.defers } W)
    (hstop : ∀ (E : Nat) (c : Code) (pre : List α) (W : World), w.heap.size ≤ E → pre <+: xs → Ix c pre W → W.heap[E]? = some (.deferred (some [])) → c.wpIn Fence.wide n P Q { a with defers := { target := .collected E, args := #[] } :: a.defers } W) :
    (Code.rangeFunc g ps assign body).wpIn Fence.wide n P Q a w := by
  refine wpIn_rangeFunc fun fn hfn => ?_
  obtain ⟨W1, hW1⟩ : ∃ W1, (w.alloc (.deferred (some []))).alloc (.loop (recOf fn a.tmps ps assign body w.heap.size .ready none)) = W1 := ⟨_, rfl⟩
  have hs1 : W1.heap.size = w.heap.size + 2 := by rw [← hW1]; simp
  have hl1 : W1.heap[w.heap.size + 1]? = some (.loop (recOf fn a.tmps ps assign body w.heap.size .ready none)) := by
    have := World.alloc_heap_new (w.alloc (.deferred (some []))) (.loop (recOf fn a.tmps ps assign body w.heap.size .ready none))
    rw [World.size_alloc, hW1] at this; exact this
  have hd1 : W1.heap[w.heap.size]? = some (.deferred (some [])) := by
    rw [← hW1]; exact (Below.heap_alloc _ _ _ (by simp)).trans (World.alloc_heap_new w _)
  have hi1 : I [] W1 := by rw [← hW1]; exact hI.alloc _ (hI.alloc _ h0)
  have hk1 : Kp w W1 [] := by rw [← hW1]; exact (Kp.alloc w _ []).trans (Kp.alloc _ _ [])
  have hb1 : Below w0.heap.size w0 W1 := hb0.trans (hk1.below.mono hb0.size)
  have hen : (Instr.enterLoop fn a.tmps ps assign body Fence.wide.round).run P w = .ok (w.heap.size + 1, [{ target := .collected w.heap.size, args := #[] }]) W1 := by
    rw [← hW1]; exact run_enterLoop_outer _ _ _ _ _
  refine ⟨w.heap.size + 1, [{ target := .collected w.heap.size, args := #[] }], W1, { target := .fn (.func gf) lb, args := #[.func (.yield (w.heap.size + 1)) #[] #[]] }, W1, gf,
    #[.func (.yield (w.heap.size + 1)) #[] #[]] ++ lb, W1, hen, ?_, fun _ _ => trivial, ?_, fun _ => h1, ?_⟩
  · simp only [resolve, hg]
    simp [go_sem]
  · simp [invoke, go_sem, eg _ _]
  have own : ∀ {A : World} {row : Option Nat}, (∀ r, row = some r → W1.heap.size ≤ r ∧ ∃ o : Obj, A.heap[r]? = some o ∧ o.isCells = false) → ∀ r, row = some r → w.heap.size ≤ r ∧ ∃ o : Obj, A.heap[r]? = some o ∧ o.isCells = false :=
    fun hr r e => ⟨by have := (hr r e).1; omega, (hr r e).2⟩
  have lie : ∀ {A B : World} {row : Option Nat} {k : Nat} {o : Obj}, A.grownBy B row → (∀ r, row = some r → W1.heap.size ≤ r ∧ ∃ o : Obj, A.heap[r]? = some o ∧ o.isCells = false) → k < W1.heap.size → A.heap[k]? = some o → B.heap[k]? = some o :=
    fun hg hr hk h => (hg.block _ (lt_of_block h) (fun e => by have := (hr _ e.symm).1; omega)).trans h
  refine (hseq (w.heap.size + 1)
    (fun pre W => I pre W ∧ W.heap[w.heap.size + 1]? = some (.loop (recOf fn a.tmps ps assign body w.heap.size .ready none)) ∧ W.heap[w.heap.size]? = some (.deferred (some [])))
    (fun pre W => ∃ c, Ix c pre W ∧ W.heap[w.heap.size + 1]? = some (.loop (recOf fn a.tmps ps assign body w.heap.size .done (some c))) ∧ W.heap[w.heap.size]? = some (.deferred (some [])))
    W1 hb1 (fun s A B row hs hg hr => ⟨hI s A B row hs.1 hg (own hr), lie hg hr (by omega) hs.2.1, lie hg hr (by omega) hs.2.2⟩)
    (fun s A B row hs hg hr => by
      obtain ⟨c, h1, h2, h3⟩ := hs
      exact ⟨c, hIx c s A B row h1 hg (own hr), lie hg hr (by omega) h2, lie hg hr (by omega) h3⟩)
    (fun pre x W hW hpx => round_seqs (C := W1.heap.size) (K := K) (ob := ob x) (a₁ := a₁ x) hKt hKb hKa hfn hps hI hIx (Nat.le_refl _) (by omega) (by omega) (by omega) (fun W G hG => hassign _ x W G (hpx.subset (by simp)) hG) (fun b W hb hi hx => hbody _ pre x b W hpx hb hi hx) hW.1 hW.2.1 hW.2.2) ⟨hi1, hl1, hd1⟩).mono ?_
  rintro e W2 ⟨⟨v, rfl⟩, (⟨hi, hl, hd⟩ | ⟨pre, hpre, c, hi, hl, hd⟩)⟩
  · exact ⟨none, _, run_endLoop (P := P) hl (by simp [recOf]), hdone _ _ (Nat.le_refl _) (hI.putObj _ hi (by omega) hl rfl) ((World.putObj_heap_other (by omega)).trans hd)⟩
  · exact ⟨some c, _, run_endLoop (P := P) hl (by simp [recOf]), hstop _ c pre _ (Nat.le_refl _) hpre ((hIx c).putObj _ hi (by omega) hl rfl) ((World.putObj_heap_other (by omega)).trans hd)⟩
end
end Go.Proofs.Ytjggpchjfglgcaa
