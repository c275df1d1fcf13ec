/- Plain facts of numbers' forms, of bytes that are read, of readers: no Go is walked here. -/
import Derived.Test.YtnnjfhgdimcieaaRows
import Derived.WalkKit
import Derived.WalkSpells
import Derived.Laws.BytesArg
namespace Go.Proofs.Ytnnjfhgdimcieaa
open Go.RowKit

/-- A number's form: its digits to the base 128, the lowest first; 'f': at most so many digits more than one. -/
def digs : Nat → Nat → List Int
  | 0, n => [(n : Int)]
  | f + 1, n => if 128 ≤ n then ((n % 128 + 128 : Nat) : Int) :: digs f (n / 128) else [(n : Int)]

/-- A number below 2^64. -/
def num (n : Nat) : List Int := digs 9 n

theorem digs_le (f n : Nat) : (digs f n).length ≤ f + 1 := by
  induction f generalizing n with
  | zero => simp [digs]
  | succ f ih =>
    unfold digs
    split
    · have := ih (n / 128); simp; omega
    · simp
theorem digs_pos (f n : Nat) : 1 ≤ (digs f n).length := by
  cases f with
  | zero => simp [digs]
  | succ f =>
    unfold digs
    split <;> simp

theorem Try.info5 : (Try.prog.info? 5).map (fun i => (i.zero, i.size, i.bytes)) = some (some (.int .u8 0), 1, 1) := by kernel_rfl

/-- A fact is kept from the walk. -/
theorem hid {p : Prop} (h : p) : Hid p := h

abbrev ub (l : List Int) : List Value := l.map (Value.int .u8)

theorem one_one (k : IntKind) (a : Int) : ∀ u ∈ [Value.int k a], u.oneCell' = true := by
  intro u hu
  simp at hu
  subst hu
  rfl

/-- Behind an append onto what the call itself has made: below where it began nothing turns. -/
theorem grown_step {w wr w1 : World} {o : Obj} {v : Value} {row : Option Nat} {e s n : Nat} {xs : List Value} (hg : w.grownBy wr row) (hown : wr.ownsRow w.heap.size e s v n xs) (hgrow : (wr.alloc o).grownBy w1 v.ownBlock) : w.grownBy w1 row := by
  refine ⟨hgrow.os.trans hg.os, hgrow.tape.trans hg.tape, hgrow.output.trans hg.output, ?_, fun k hk hr => ?_⟩
  · have := hg.size; have := hgrow.size; simp at this; omega
  · have h1 := hg.size
    rw [hgrow.block k (by simp; omega) (fun e => by have := (hown.lt k e.symm).1; omega), Below.heap_alloc wr o k (by omega), hg.block k hk hr]

theorem digs_step {f k n : Nat} {pre : List Int} (hc : 128 ≤ k) (hk : k < 128 ^ (f + 1)) (hpre : pre ++ digs f k = num n) (hlen : pre.length + f = 9) :
    ∃ g, f = g + 1 ∧ (pre ++ [(k : Int) % 128 + 128]) ++ digs g (k / 128) = num n ∧ (pre ++ [(k : Int) % 128 + 128]).length + g = 9 ∧ k / 128 < 128 ^ (g + 1) := by
  cases f with
  | zero => simp at hk; omega
  | succ g =>
    refine ⟨g, rfl, ?_, by simp; omega, ?_⟩
    · rw [← hpre, List.append_assoc]
      congr 1
      rw [digs, if_pos hc]
      simp
    · rw [Nat.div_lt_iff_lt_mul (by decide)]
      rw [Nat.pow_succ] at hk
      exact hk
theorem digs_last {f k n : Nat} {pre : List Int} (hc : ¬ 128 ≤ k) (hpre : pre ++ digs f k = num n) : pre ++ [(k : Int)] = num n := by
  rw [← hpre]
  cases f with
  | zero => rfl
  | succ g => rw [digs, if_neg hc]


/-! ### Bytes that are read -/
/-- The slice value v reads as the numbers l in w. -/
def Bs (w : World) (v : Value) (l : List Int) : Prop :=
  ∃ ao cap, v = .slice ao l.length cap ∧ l.length ≤ cap ∧ (ao = none → cap = 0) ∧
    (l ≠ [] → ∃ b off, ao = some ⟨b, off, none⟩ ∧ ∀ i, i < l.length → w.cell? ⟨b, off + i, none⟩ = some (.int .u8 (l.getD i 0)))

/-- Each is a byte. -/
def Byt (l : List Int) : Prop := ∀ x ∈ l, 0 ≤ x ∧ x < 256

theorem Bs.keep {w w' : World} {v : Value} {l : List Int} (h : Bs w v l) (hk : ∀ k, v.ownBlock = some k → w'.heap[k]? = w.heap[k]?) : Bs w' v l := by
  obtain ⟨ao, cap, rfl, hl, hn, hc⟩ := h
  refine ⟨ao, cap, rfl, hl, hn, fun hne => ?_⟩
  obtain ⟨b, off, rfl, hcell⟩ := hc hne
  exact ⟨b, off, rfl, fun i hi => (World.cell?_of_block (a := ⟨b, off + i, none⟩) (hk b rfl)).trans (hcell i hi)⟩

theorem Bs.lt {w : World} {v : Value} {l : List Int} (h : Bs w v l) (hne : l ≠ []) : ∀ k, v.ownBlock = some k → k < w.heap.size := by
  obtain ⟨ao, cap, rfl, hl, hn, hc⟩ := h
  obtain ⟨b, off, rfl, hcell⟩ := hc hne
  intro k hk
  simp [Value.ownBlock] at hk
  subst hk
  have := hcell 0 (by cases l <;> simp_all)
  exact World.block_lt_of_cell? w _ this

/-- What the call owns reads so. -/
theorem Bs.of_owns {w : World} {base : Nat} {v : Value} {l : List Int} (h : w.ownsRow base 5 1 v l.length (ub l)) : Bs w v l := by
  rcases h.2 with ⟨rfl, h0⟩ | ⟨g, cap, cur, rfl, hb, hg, hnc, hcm, hcs, htake⟩
  · have : l = [] := List.eq_nil_of_length_eq_zero h0
    subst this
    exact ⟨none, 0, rfl, by simp, fun _ => rfl, fun h => absurd rfl h⟩
  · refine ⟨some ⟨g, 0, none⟩, cap, rfl, hnc, fun h => by simp at h, fun _ => ⟨g, 0, rfl, fun i hi => ?_⟩⟩
    have := h.cellAt i (by omega)
    rw [Nat.zero_add, this]
    simp [ub, List.getElem?_eq_getElem hi]

/-- A reader at block rb: what is left is v, which reads as l. -/
def Rd (w : World) (rb : Nat) (v : Value) (l : List Int) : Prop :=
  w.heap[rb]? = some (.cells #[v, .bool true] 73 (0, 0)) ∧ Bs w v l ∧ v.ownBlock ≠ some rb

theorem cell_two0 {w : World} {b : Nat} {v u : Value} {t : TypeId} (h : w.heap[b]? = some (.cells #[v, u] t (0, 0))) : w.cell? ⟨b, 0, none⟩ = some v := by simp [World.cell?, h]
theorem cell_two1 {w : World} {b : Nat} {v u : Value} {t : TypeId} (h : w.heap[b]? = some (.cells #[v, u] t (0, 0))) : w.cell? ⟨b, 1, none⟩ = some u := by simp [World.cell?, h]
theorem free_two {w : World} {b i : Nat} {v u : Value} {t : TypeId} (h : w.heap[b]? = some (.cells #[v, u] t (0, 0))) : w.frozen? ⟨b, i, none⟩ = false := by simp [World.frozen?, h]
theorem two_setCell {w : World} {b : Nat} {v u x : Value} {t : TypeId} (h : w.heap[b]? = some (.cells #[v, u] t (0, 0))) : (w.setCell ⟨b, 0, none⟩ x).heap[b]? = some (.cells #[x, u] t (0, 0)) := by
  rw [heap_setCell_same w b 0 _ t x h]
  rfl
theorem two_setCell1 {w : World} {b : Nat} {v u x : Value} {t : TypeId} (h : w.heap[b]? = some (.cells #[v, u] t (0, 0))) : (w.setCell ⟨b, 1, none⟩ x).heap[b]? = some (.cells #[v, x] t (0, 0)) := by
  rw [heap_setCell_same w b 1 _ t x h]
  rfl

theorem grownBy_setCell (w : World) (a : Addr) (u : Value) : w.grownBy (w.setCell a u) (some a.block) :=
  ⟨rfl, rfl, rfl, by simp, fun k _ hk => Below.heap_setCell _ _ _ _ (fun e => hk (by rw [e]))⟩

theorem grownBy_trans {w w1 w2 : World} {row : Option Nat} (h : w.grownBy w1 row) (h' : w1.grownBy w2 row) : w.grownBy w2 row :=
  ⟨h'.os.trans h.os, h'.tape.trans h.tape, h'.output.trans h.output, Nat.le_trans h.size h'.size, fun k hk hr => (h'.block k (Nat.lt_of_lt_of_le hk h.size) hr).trans (h.block k hk hr)⟩
theorem grownBy_mono {w w1 : World} {row : Option Nat} (h : w.grownBy w1 none) : w.grownBy w1 row := ⟨h.os, h.tape, h.output, h.size, fun k hk _ => h.block k hk (by simp)⟩

end Go.Proofs.Ytnnjfhgdimcieaa
