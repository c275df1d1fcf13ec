/- Rows that the law makes: handles that were given, flags. -/
import Derived.Test.YtaofpijcjohnhaaInv
import Derived.Laws.AppendOwn
import Derived.Laws.OwnMore
import Derived.OneCell
namespace Go.Proofs.Ytaofpijcjohnhaa
open Go.RowKit

theorem Try.infoI : (Try.prog.info? 2).map (fun i => (i.zero, i.size, i.bytes)) = some (some (.int .i64 0), 1, 8) := by kernel_rfl
theorem Try.infoB : (Try.prog.info? 4).map (fun i => (i.zero, i.size, i.bytes)) = some (some (.bool false), 1, 1) := by kernel_rfl

abbrev gi (G : List Int) : List Value := G.map (Value.int .i64)
abbrev gb (B : List Bool) : List Value := B.map Value.bool
theorem owns_shape {w : World} {base e s : Nat} {v : Value} {n : Nat} {xs : List Value} (h : w.ownsRow base e s v n xs) : ∃ ao cap, v = .slice ao n cap := by
  rcases h.2 with ⟨rfl, rfl⟩ | ⟨g, cap, cur, rfl, -⟩
  · exact ⟨_, _, rfl⟩
  · exact ⟨_, _, rfl⟩
theorem owns_block {w : World} {base e s : Nat} {v : Value} {n : Nat} {xs : List Value} (h : w.ownsRow base e s v n xs) {g : Nat} (hg : v.ownBlock = some g) : base ≤ g ∧ ∃ cur, w.heap[g]? = some (.cells cur e (0, 0)) := by
  rcases h.2 with ⟨rfl, rfl⟩ | ⟨g', cap, cur, rfl, h1, h2, -⟩
  · simp [Value.ownBlock] at hg
  · simp [Value.ownBlock] at hg
    subst hg
    exact ⟨h1, cur, h2⟩
/-- Kept where its block is. -/
theorem owns_kp {w w' : World} {base e s : Nat} {v : Value} {n : Nat} {xs : List Value} {rows : List Nat} (h : w.ownsRow base e s v n xs) (hk : Kp w w' rows) (hr : ∀ g, v.ownBlock = some g → g ∉ rows) : w'.ownsRow base e s v n xs := by
  refine ⟨h.1, ?_⟩
  rcases h.2 with ⟨rfl, h0⟩ | ⟨g, cap, cur, rfl, h1, h2, h3⟩
  · exact .inl ⟨rfl, h0⟩
  · exact .inr ⟨g, cap, cur, rfl, h1, (hk.block g (lt_of_block h2) (hr g rfl)).trans h2, h3⟩
/-- Blocks of unlike types are apart. -/
theorem block_ne {w : World} {b g t e : Nat} {c cur : Array Value} (h : w.heap[b]? = some (.cells c t (0, 0))) (h' : w.heap[g]? = some (.cells cur e (0, 0))) (hne : t ≠ e) : b ≠ g := by
  rintro rfl
  rw [h] at h'
  simp at h'
  exact hne h'.2
theorem Kp.ofGrown {w w' : World} {row : Option Nat} (h : w.grownBy w' row) {rows : List Nat} (hr : ∀ g, row = some g → g ∈ rows) : Kp w w' rows :=
  ⟨h.os, h.tape, h.output, h.size, fun k hk hn => h.block k hk (fun e => hn (hr k e.symm))⟩

theorem own_at {w : World} {base e m : Nat} {ao : Option Addr} {cap : Nat} {xs : List Value} (h : w.ownsRow base e 1 (.slice ao m cap) m xs) {k : Nat} (hk : k < m) :
    ∃ g, ao = some ⟨g, 0, none⟩ ∧ base ≤ g ∧ w.cell? ⟨g, k, none⟩ = xs[k]? ∧ w.frozen? ⟨g, k, none⟩ = false := by
  rcases h.2 with ⟨h1, rfl⟩ | ⟨g, cap', cur, hv, h1, h2, h3⟩
  · omega
  · simp only [Value.slice.injEq, true_and] at hv
    obtain ⟨rfl, rfl⟩ := hv
    exact ⟨g, rfl, h1, h.cellAt k (by omega), by simp [World.frozen?, h2]⟩
theorem gi_at {G : List Int} {k : Nat} (hk : k < G.length) : (gi G)[k]? = some (.int .i64 (G.getD k 0)) := by
  simp [gi, List.getD_eq_getElem?_getD, hk]
theorem gb_at {B : List Bool} {k : Nat} (hk : k < B.length) : (gb B)[k]? = some (.bool (B.getD k false)) := by
  simp [gb, List.getD_eq_getElem?_getD, hk]
/-- A flag is set. -/
theorem own_set {w : World} {base m g cap k : Nat} {B : List Bool} (h : w.ownsRow base 4 1 (.slice (some ⟨g, 0, none⟩) m cap) m (gb B)) :
    (w.setCell ⟨g, k, none⟩ (.bool true)).ownsRow base 4 1 (.slice (some ⟨g, 0, none⟩) m cap) m (gb (B.set k true)) := by
  have hl : B.length = m := by have := h.1; simpa [gb] using this
  refine ⟨by simp [gb, hl], .inr ?_⟩
  rcases h.2 with ⟨h1, -⟩ | ⟨g', cap', cur, hv, h1, h2, h3, h4, h5, h6⟩
  · simp at h1
  · simp only [Value.slice.injEq, Option.some.injEq, Addr.mk.injEq, and_true, true_and] at hv
    obtain ⟨rfl, rfl⟩ := hv
    refine ⟨g, cap, cur.setIfInBounds k (.bool true), rfl, h1, heap_setCell_same w g k _ 4 _ h2, h3, h4, by simp [h5], ?_⟩
    rw [Array.toList_setIfInBounds, List.take_set, h6]
    simp [gb, List.map_set]

/-- What the law has: a table, what was given, what is gone. -/
structure Lv (w wr : World) (tb n : Nat) (s : Int) (T : Pl) (G : List Int) (B : List Bool) (ag ab : Option Addr) (cg cb m : Nat) : Prop where
  tt : Tt wr tb n T
  inv : Inv n s T G B
  len : G.length = m
  og : wr.ownsRow w.heap.size 2 1 (.slice ag m cg) m (gi G)
  ob : wr.ownsRow w.heap.size 4 1 (.slice ab m cb) m (gb B)
  nb : w.heap.size ≤ tb
  kp : Kp w wr []
section
variable {w wr w' : World} {tb n : Nat} {s : Int} {T : Pl} {G : List Int} {B : List Bool} {ag ab : Option Addr} {cg cb m : Nat}
theorem Lv.lenB (h : Lv w wr tb n s T G B ag ab cg cb m) : B.length = m := by rw [← h.inv.len]; exact h.len
/-- A call that leaves all alone. -/
theorem Lv.keep (h : Lv w wr tb n s T G B ag ab cg cb m) (hk : Kp wr w' []) : Lv w w' tb n s T G B ag ab cg cb m :=
  ⟨h.tt.keep hk (by simp), h.inv, h.len, owns_kp h.og hk (by simp), owns_kp h.ob hk (by simp), h.nb, h.kp.trans hk⟩
/-- A call that changes the table. -/
theorem Lv.turn (h : Lv w wr tb n s T G B ag ab cg cb m) (hk : Kp wr w' [tb]) {T' : Pl} {s' : Int} (ht : Tt w' tb n T') (hi : Inv n s' T' G B) : Lv w w' tb n s' T' G B ag ab cg cb m := by
  refine ⟨ht, hi, h.len, owns_kp h.og hk ?_, owns_kp h.ob hk ?_, h.nb, h.kp.past hk (by intro k hk' hl; have := h.nb; simp at hk'; omega)⟩
  · intro g hg
    obtain ⟨-, cur, hc⟩ := owns_block h.og hg
    have := block_ne h.tt hc (by decide)
    simp; exact fun e => this e.symm
  · intro g hg
    obtain ⟨-, cur, hc⟩ := owns_block h.ob hg
    have := block_ne h.tt hc (by decide)
    simp; exact fun e => this e.symm
end
end Go.Proofs.Ytaofpijcjohnhaa
