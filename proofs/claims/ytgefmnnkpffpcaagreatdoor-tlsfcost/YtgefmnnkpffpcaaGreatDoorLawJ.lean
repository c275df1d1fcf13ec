/- What a row gives its walk: the table of lowest bits. -/
import Derived.Test.YtgefmnnkpffpcaaGreatDoorRows
import Derived.Test.YtgefmnnkpffpcaaGreatDoorTie
import Derived.Test.YtgefmnnkpffpcaaGreatDoorCards
import Derived.Test.YtgefmnnkpffpcaaGreatDoorMakeJ
import Derived.ProofKit
import Derived.LaidMore
import Derived.OpenShut
import Derived.Stop.Joined
import Derived.SevenTiedAt
namespace Go.Proofs.YtgefmnnkpffpcaaGreatDoor
open Go.ChangeShapes Go.WideShapes Go.ChangeAt Go.WideMaps Go.WideElems Go.RowKit
set_option linter.unusedVariables false

theorem own : ownKnob Tryz.prog.godebug = none := by kernel_rfl
theorem gTab : Tryz.prog.globalNamed "math/bits.deBruijn32tab" = some 0 := by kernel_rfl
theorem tTab : (Tryz.prog.globals[0]?).map (·.type) = some 120 := by kernel_rfl
abbrev laid : List (String × DataW Unit) := [("math/bits.deBruijn32tab", Rows.laid_math_bits_deBruijn32tab)]

def laidList : List (DataW Unit) := tab32.map fun k => .lit (.int .u8 k)
theorem laid_at (i : Nat) (hi : i < 32) : laidList[i]? = some (.lit (.int .u8 (tab32.getD i 0))) := by
  have hl : tab32.length = 32 := rfl
  simp [laidList, List.getElem?_eq_getElem (show i < tab32.length by omega)]

/-- The door's own heap meets the condition: three closed facts. -/
theorem door_met (os : Os) (args : Array Value) : laidMetH Tryz.prog laid ((World.doorLaid Tryz.prog 400 os).forCall (fun _ _ => 0) ⟨#[], args, []⟩).memory :=
  laidMetH_of_parts3 (fuel := 8) (laidMet_of_run' 8 (by kernel_rfl) (by kernel_rfl)) (by kernel_rfl) (by kernel_rfl)

/-- What the condition gives the walk: the table's cells. -/
theorem of_laid {W : World} (h : laidMetH Tryz.prog laid W) : Tb W := by
  rw [MakeChecks.laidMetH_plain _ _ _ (by kernel_rfl)] at h
  obtain ⟨ps, ⟨g0, t0, cs0, f0, p0, q0, hg0, ht0, hv0, hd0, _, _⟩, _, _⟩ := h
  obtain rfl := Option.some.inj (gTab.symm.trans hg0)
  obtain rfl := Option.some.inj (tTab.symm.trans ht0)
  obtain ⟨xs, m1, rfl, hx1, hlen, hn3, hel⟩ := DataW.trod_array Tryz.underlying120 hd0
  have c5 : Tryz.prog.cellsOf 5 = 1 := by kernel_rfl
  have c120 : Tryz.prog.cellsOf 120 = 32 := by kernel_rfl
  rw [c120] at hlen
  simp only [Prod.mk.injEq] at hx1
  intro i hi
  have hi' := hel i hi
  rw [c5, Nat.mul_one] at hi'
  obtain ⟨x, hx⟩ : ∃ x, xs[i]? = some x := ⟨xs[i]'(by omega), List.getElem?_eq_getElem (by omega)⟩
  rw [hx] at hi'
  obtain ⟨k, e1, e2, _⟩ := DataW.trod_int Tryz.underlying5 hi'
  have hk : (laidList)[i]? = some (.lit (.int .u8 k)) := by
    have h1 : laidList = List.map (fun x => x.fst) xs := by
      have := hx1.1
      unfold Rows.laid_math_bits_deBruijn32tab at this
      exact DataW.agg.inj this
    rw [h1, List.getElem?_map, hx, e2]
    rfl
  rw [laid_at i hi] at hk
  have hk' : tab32.getD i 0 = k := by simpa using hk
  have hc := World.var?_cell hg0 hv0 i
  rw [hk', hc]
  have h3 : (List.take 1 (List.drop i cs0.toList))[0]? = some (.int .u8 k) := by rw [e1]; rfl
  simpa using h3

end Go.Proofs.YtgefmnnkpffpcaaGreatDoor

/- Blocks that stand one behind the other, and the words that say so. No Go is walked here. -/
namespace Go.Proofs.YtgefmnnkpffpcaaGreatDoor

/-- A block: where, its size, is it free? -/
abbrev Bl := Int × Int × Bool
/-- Blocks from a on, up to n. -/
def contig : Int → List Bl → Int → Prop
  | a, [], n => a = n
  | a, (b, z, _) :: r, n => b = a ∧ 16 ≤ z ∧ z % 8 = 0 ∧ contig (a + z) r n
theorem contig_le {a n : Int} {L : List Bl} (h : contig a L n) : a ≤ n := by
  induction L generalizing a with
  | nil => exact Int.le_of_eq h
  | cons x r ih =>
    obtain ⟨b, z, f⟩ := x
    have := ih h.2.2.2
    have := h.2.1
    omega
theorem contig_mem {a n : Int} {L : List Bl} (h : contig a L n) {x : Bl} (hx : x ∈ L) : a ≤ x.1 ∧ 16 ≤ x.2.1 ∧ x.2.1 % 8 = 0 ∧ x.1 + x.2.1 ≤ n ∧ (a % 8 = 0 → x.1 % 8 = 0) := by
  induction L generalizing a with
  | nil => simp at hx
  | cons y r ih =>
    obtain ⟨b, z, f⟩ := y
    obtain ⟨rfl, h1, h2, h3⟩ := h
    rcases List.mem_cons.1 hx with rfl | hx
    · exact ⟨Int.le_refl _, h1, h2, contig_le h3, fun h => h⟩
    · have := ih h3 hx
      exact ⟨by omega, this.2.1, this.2.2.1, this.2.2.2.1, fun h => this.2.2.2.2 (by omega)⟩
/-- Two blocks are one, or apart. -/
theorem contig_apart {a n : Int} {L : List Bl} (h : contig a L n) {x y : Bl} (hx : x ∈ L) (hy : y ∈ L) : x = y ∨ x.1 + x.2.1 ≤ y.1 ∨ y.1 + y.2.1 ≤ x.1 := by
  induction L generalizing a with
  | nil => simp at hx
  | cons u r ih =>
    obtain ⟨b, z, f⟩ := u
    obtain ⟨rfl, h1, h2, h3⟩ := h
    rcases List.mem_cons.1 hx with rfl | hx
    · rcases List.mem_cons.1 hy with rfl | hy
      · exact .inl rfl
      · exact .inr (.inl (contig_mem h3 hy).1)
    · rcases List.mem_cons.1 hy with rfl | hy
      · exact .inr (.inr (contig_mem h3 hx).1)
      · exact ih h3 hx hy
/-- Blocks are told apart by where they begin. -/
theorem contig_inj {a n : Int} {L : List Bl} (h : contig a L n) {x y : Bl} (hx : x ∈ L) (hy : y ∈ L) (e : x.1 = y.1) : x = y := by
  rcases contig_apart h hx hy with h' | h' | h'
  · exact h'
  · have := (contig_mem h hx).2.1; omega
  · have := (contig_mem h hy).2.1; omega

/-- The pieces of the blocks that are not free. -/
def piecesOf : List Bl → Pcs
  | [] => []
  | (a, z, f) :: r => if f then piecesOf r else (a + 8, z) :: piecesOf r
theorem hasP_pieces (L : List Bl) (k : Int) : hasP (piecesOf L) k = true ↔ ∃ x ∈ L, x.2.2 = false ∧ x.1 + 8 = k := by
  induction L with
  | nil => simp [piecesOf, hasP]
  | cons x r ih =>
    obtain ⟨a, z, f⟩ := x
    cases f with
    | true =>
      rw [show piecesOf ((a, z, true) :: r) = piecesOf r from rfl, ih]
      simp
    | false =>
      rw [show piecesOf ((a, z, false) :: r) = (a + 8, z) :: piecesOf r from rfl]
      simp only [hasP, List.any_cons, Bool.or_eq_true, beq_iff_eq] at ih ⊢
      rw [ih]
      simp

/-- The words of the blocks: each one's size, and whether it is free. -/
def Sized (g : Mem) (L : List Bl) : Prop := ∀ x ∈ L, g x.1.toNat = x.2.1 + (if x.2.2 then 1 else 0)
/-- .. and, at each but the first, where the one ahead of it begins. -/
def Ahead (g : Mem) : List Bl → Prop
  | x :: y :: r => g (y.1 + 4).toNat = x.1 ∧ Ahead g (y :: r)
  | _ => True

theorem rd_block {n : Nat} {g : Mem} {a z : Int} (ha : 112 ≤ a) (h8 : a % 8 = 0) (hz : 16 ≤ z) (hn : a + z ≤ n) : rd n g a = g a.toNat := by
  unfold rd
  rw [if_pos]
  unfold hasW
  simp only [decide_eq_true_eq]
  omega

section
variable {n : Nat} {g : Mem} {L : List Bl} (hc : contig 112 L n) (hs : Sized g L)
include hc hs
/-- A free block is found where it begins. -/
theorem freeAt_free {x : Bl} (hx : x ∈ L) (hf : x.2.2 = true) : freeAt n g (piecesOf L) x.1 = some x.2.1 := by
  obtain ⟨m1, m2, m3, m4, m5⟩ := contig_mem hc hx
  have m5 := m5 (by decide)
  have hr : rd n g x.1 = x.2.1 + 1 := by
    rw [rd_block m1 m5 m2 m4, hs x hx, hf]; rfl
  have hp : hasP (piecesOf L) (x.1 + 8) = false := by
    cases e : hasP (piecesOf L) (x.1 + 8) with
    | false => rfl
    | true =>
      obtain ⟨y, hy, hy1, hy2⟩ := (hasP_pieces L _).1 e
      have := contig_inj hc hx hy (by omega)
      subst this
      rw [hf] at hy1
      cases hy1
  unfold freeAt
  rw [hr, hp]
  have e1 : ((x.2.1 + 1) % 8 == 1) = true := by rw [beq_iff_eq]; omega
  have e2 : mayBe n x.1 (x.2.1 + 1 - 1) = true := by unfold mayBe; simp only [decide_eq_true_eq]; omega
  rw [e1, e2]
  simp
omit hc hs in
/-- None where a piece's block begins. -/
theorem freeAt_taken {x : Bl} (hx : x ∈ L) (hf : x.2.2 = false) : freeAt n g (piecesOf L) x.1 = none := by
  have hp : hasP (piecesOf L) (x.1 + 8) = true := (hasP_pieces L _).2 ⟨x, hx, hf, rfl⟩
  unfold freeAt
  rw [hp]
  rfl
omit hc hs in
/-- None at the end. -/
theorem freeAt_end (P : Pcs) : freeAt n g P n = none := by
  unfold freeAt
  have e2 : ∀ z, mayBe n n z = false := fun z => by unfold mayBe; simp only [decide_eq_false_iff_not]; omega
  rw [e2]
  simp
end
end Go.Proofs.YtgefmnnkpffpcaaGreatDoor
