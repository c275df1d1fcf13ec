/- What a row gives its walk: the table of lowest bits. -/
import Derived.Test.YtgefmnnkpffpcaaGreatDoorRows
import Derived.Test.YtgefmnnkpffpcaaGreatDoorTie
import Derived.Test.YtgefmnnkpffpcaaGreatDoorCards
import Derived.Test.YtgefmnnkpffpcaaGreatDoorLookJ
import Derived.ProofKit
import Derived.LaidMore
import Derived.OpenShut
import Derived.Stop.Joined
import Derived.SevenTiedAt
namespace Go.Proofs.YtgefmnnkpffpcaaGreatDoor
open Go.ChangeShapes Go.WideShapes Go.ChangeAt Go.WideMaps Go.WideElems Go.RowKit
set_option linter.unusedVariables false

theorem own : ownKnob Tryz.prog.godebug = none := by kernel_rfl
theorem gTab : Tryz.prog.globalNamed "math/bits.deBruijn32tab" = some 0 := by kernel_rfl
theorem tTab : (Tryz.prog.globals[0]?).map (·.type) = some 120 := by kernel_rfl
abbrev laid : List (String × DataW Unit) := [("math/bits.deBruijn32tab", Rows.laid_math_bits_deBruijn32tab)]

def laidList : List (DataW Unit) := tab32.map fun k => .lit (.int .u8 k)
theorem laid_at (i : Nat) (hi : i < 32) : laidList[i]? = some (.lit (.int .u8 (tab32.getD i 0))) := by
  have hl : tab32.length = 32 := rfl
  simp [laidList, List.getElem?_eq_getElem (show i < tab32.length by omega)]

/-- The door's own heap meets the condition: three closed facts. -/
theorem door_met (os : Os) (args : Array Value) : laidMetH Tryz.prog laid ((World.doorLaid Tryz.prog 400 os).forCall (fun _ _ => 0) ⟨#[], args, []⟩).memory :=
  laidMetH_of_parts3 (fuel := 8) (laidMet_of_run' 8 (by kernel_rfl) (by kernel_rfl)) (by kernel_rfl) (by kernel_rfl)

/-- What the condition gives the walk: the table's cells. -/
theorem of_laid {W : World} (h : laidMetH Tryz.prog laid W) : Tb W := by
  rw [MakeChecks.laidMetH_plain _ _ _ (by kernel_rfl)] at h
  obtain ⟨ps, ⟨g0, t0, cs0, f0, p0, q0, hg0, ht0, hv0, hd0, _, _⟩, _, _⟩ := h
  obtain rfl := Option.some.inj (gTab.symm.trans hg0)
  obtain rfl := Option.some.inj (tTab.symm.trans ht0)
  obtain ⟨xs, m1, rfl, hx1, hlen, hn3, hel⟩ := DataW.trod_array Tryz.underlying120 hd0
  have c5 : Tryz.prog.cellsOf 5 = 1 := by kernel_rfl
  have c120 : Tryz.prog.cellsOf 120 = 32 := by kernel_rfl
  rw [c120] at hlen
  simp only [Prod.mk.injEq] at hx1
  intro i hi
  have hi' := hel i hi
  rw [c5, Nat.mul_one] at hi'
  obtain ⟨x, hx⟩ : ∃ x, xs[i]? = some x := ⟨xs[i]'(by omega), List.getElem?_eq_getElem (by omega)⟩
  rw [hx] at hi'
  obtain ⟨k, e1, e2, _⟩ := DataW.trod_int Tryz.underlying5 hi'
  have hk : (laidList)[i]? = some (.lit (.int .u8 k)) := by
    have h1 : laidList = List.map (fun x => x.fst) xs := by
      have := hx1.1
      unfold Rows.laid_math_bits_deBruijn32tab at this
      exact DataW.agg.inj this
    rw [h1, List.getElem?_map, hx, e2]
    rfl
  rw [laid_at i hi] at hk
  have hk' : tab32.getD i 0 = k := by simpa using hk
  have hc := World.var?_cell hg0 hv0 i
  rw [hk', hc]
  have h3 : (List.take 1 (List.drop i cs0.toList))[0]? = some (.int .u8 k) := by rw [e1]; rfl
  simpa using h3

end Go.Proofs.YtgefmnnkpffpcaaGreatDoor

/- Blocks that stand one behind the other, and the words that say so. No Go is walked here. -/
namespace Go.Proofs.YtgefmnnkpffpcaaGreatDoor

/-- A block: where, its size, is it free? -/
abbrev Bl := Int × Int × Bool
/-- Blocks from a on, up to n. -/
def contig : Int → List Bl → Int → Prop
  | a, [], n => a = n
  | a, (b, z, _) :: r, n => b = a ∧ 16 ≤ z ∧ z % 8 = 0 ∧ contig (a + z) r n
theorem contig_le {a n : Int} {L : List Bl} (h : contig a L n) : a ≤ n := by
  induction L generalizing a with
  | nil => exact Int.le_of_eq h
  | cons x r ih =>
    obtain ⟨b, z, f⟩ := x
    have := ih h.2.2.2
    have := h.2.1
    omega
theorem contig_mem {a n : Int} {L : List Bl} (h : contig a L n) {x : Bl} (hx : x ∈ L) : a ≤ x.1 ∧ 16 ≤ x.2.1 ∧ x.2.1 % 8 = 0 ∧ x.1 + x.2.1 ≤ n ∧ (a % 8 = 0 → x.1 % 8 = 0) := by
  induction L generalizing a with
  | nil => simp at hx
  | cons y r ih =>
    obtain ⟨b, z, f⟩ := y
    obtain ⟨rfl, h1, h2, h3⟩ := h
    rcases List.mem_cons.1 hx with rfl | hx
    · exact ⟨Int.le_refl _, h1, h2, contig_le h3, fun h => h⟩
    · have := ih h3 hx
      exact ⟨by omega, this.2.1, this.2.2.1, this.2.2.2.1, fun h => this.2.2.2.2 (by omega)⟩
/-- Two blocks are one, or apart. -/
theorem contig_apart {a n : Int} {L : List Bl} (h : contig a L n) {x y : Bl} (hx : x ∈ L) (hy : y ∈ L) : x = y ∨ x.1 + x.2.1 ≤ y.1 ∨ y.1 + y.2.1 ≤ x.1 := by
  induction L generalizing a with
  | nil => simp at hx
  | cons u r ih =>
    obtain ⟨b, z, f⟩ := u
    obtain ⟨rfl, h1, h2, h3⟩ := h
    rcases List.mem_cons.1 hx with rfl | hx
    · rcases List.mem_cons.1 hy with rfl | hy
      · exact .inl rfl
      · exact .inr (.inl (contig_mem h3 hy).1)
    · rcases List.mem_cons.1 hy with rfl | hy
      · exact .inr (.inr (contig_mem h3 hx).1)
      · exact ih h3 hx hy
/-- Blocks are told apart by where they begin. -/
theorem contig_inj {a n : Int} {L : List Bl} (h : contig a L n) {x y : Bl} (hx : x ∈ L) (hy : y ∈ L) (e : x.1 = y.1) : x = y := by
  rcases contig_apart h hx hy with h' | h' | h'
  · exact h'
  · have := (contig_mem h hx).2.1; omega
  · have := (contig_mem h hy).2.1; omega

/-- The pieces of the blocks that are not free. -/
def piecesOf : List Bl → Pcs
  | [] => []
  | (a, z, f) :: r => if f then piecesOf r else (a + 8, z) :: piecesOf r
theorem hasP_pieces (L : List Bl) (k : Int) : hasP (piecesOf L) k = true ↔ ∃ x ∈ L, x.2.2 = false ∧ x.1 + 8 = k := by
  induction L with
  | nil => simp [piecesOf, hasP]
  | cons x r ih =>
    obtain ⟨a, z, f⟩ := x
    cases f with
    | true =>
      rw [show piecesOf ((a, z, true) :: r) = piecesOf r from rfl, ih]
      simp
    | false =>
      rw [show piecesOf ((a, z, false) :: r) = (a + 8, z) :: piecesOf r from rfl]
      simp only [hasP, List.any_cons, Bool.or_eq_true, beq_iff_eq] at ih ⊢
      rw [ih]
      simp

/-- The words of the blocks: each one's size, and whether it is free. -/
def Sized (g : Mem) (L : List Bl) : Prop := ∀ x ∈ L, g x.1.toNat = x.2.1 + (if x.2.2 then 1 else 0)
/-- .. and, at each but the first, where the one ahead of it begins. -/
def Ahead (g : Mem) : List Bl → Prop
  | x :: y :: r => g (y.1 + 4).toNat = x.1 ∧ Ahead g (y :: r)
  | _ => True

theorem rd_block {n : Nat} {g : Mem} {a z : Int} (ha : 112 ≤ a) (h8 : a % 8 = 0) (hz : 16 ≤ z) (hn : a + z ≤ n) : rd n g a = g a.toNat := by
  unfold rd
  rw [if_pos]
  unfold hasW
  simp only [decide_eq_true_eq]
  omega

section
variable {n : Nat} {g : Mem} {L : List Bl} (hc : contig 112 L n) (hs : Sized g L)
include hc hs
/-- A free block is found where it begins. -/
theorem freeAt_free {x : Bl} (hx : x ∈ L) (hf : x.2.2 = true) : freeAt n g (piecesOf L) x.1 = some x.2.1 := by
  obtain ⟨m1, m2, m3, m4, m5⟩ := contig_mem hc hx
  have m5 := m5 (by decide)
  have hr : rd n g x.1 = x.2.1 + 1 := by
    rw [rd_block m1 m5 m2 m4, hs x hx, hf]; rfl
  have hp : hasP (piecesOf L) (x.1 + 8) = false := by
    cases e : hasP (piecesOf L) (x.1 + 8) with
    | false => rfl
    | true =>
      obtain ⟨y, hy, hy1, hy2⟩ := (hasP_pieces L _).1 e
      have := contig_inj hc hx hy (by omega)
      subst this
      rw [hf] at hy1
      cases hy1
  unfold freeAt
  rw [hr, hp]
  have e1 : ((x.2.1 + 1) % 8 == 1) = true := by rw [beq_iff_eq]; omega
  have e2 : mayBe n x.1 (x.2.1 + 1 - 1) = true := by unfold mayBe; simp only [decide_eq_true_eq]; omega
  rw [e1, e2]
  simp
omit hc hs in
/-- None where a piece's block begins. -/
theorem freeAt_taken {x : Bl} (hx : x ∈ L) (hf : x.2.2 = false) : freeAt n g (piecesOf L) x.1 = none := by
  have hp : hasP (piecesOf L) (x.1 + 8) = true := (hasP_pieces L _).2 ⟨x, hx, hf, rfl⟩
  unfold freeAt
  rw [hp]
  rfl
omit hc hs in
/-- None at the end. -/
theorem freeAt_end (P : Pcs) : freeAt n g P n = none := by
  unfold freeAt
  have e2 : ∀ z, mayBe n n z = false := fun z => by unfold mayBe; simp only [decide_eq_false_iff_not]; omega
  rw [e2]
  simp
end
end Go.Proofs.YtgefmnnkpffpcaaGreatDoor

/- A block's word is set: what the others' words are. No Go is walked here. -/
namespace Go.Proofs.YtgefmnnkpffpcaaGreatDoor

theorem contig_split {s n : Int} {A r : List Bl} {a z : Int} {f : Bool} (h : contig s (A ++ (a, z, f) :: r) n) : contig s A a ∧ 16 ≤ z ∧ z % 8 = 0 ∧ contig (a + z) r n := by
  induction A generalizing s with
  | nil =>
    obtain ⟨rfl, h1, h2, h3⟩ := h
    exact ⟨rfl, h1, h2, h3⟩
  | cons x A ih =>
    obtain ⟨b, y, q⟩ := x
    obtain ⟨rfl, h1, h2, h3⟩ := h
    have := ih h3
    exact ⟨⟨rfl, h1, h2, this.1⟩, this.2⟩
theorem contig_room {a n : Int} {r : List Bl} (h : contig a r n) (hlt : a < n) : a + 16 ≤ n := by
  cases r with
  | nil => exact absurd h (by intro e; have : a = n := e; omega)
  | cons x r =>
    obtain ⟨b, z, f⟩ := x
    have := contig_le h.2.2.2
    have := h.2.1
    omega

section
variable {n : Nat} {g : Mem} {A r : List Bl} {a z fl : Int} {f : Bool} (hc : contig 112 (A ++ (a, z, f) :: r) n)
include hc
theorem mark_at : mark n g a z fl a.toNat = z + fl ∧ (a + z < n → mark n g a z fl (a + z + 4).toNat = a) ∧ ∀ b : Int, 0 ≤ b → b ≠ a → b ≠ a + z + 4 → mark n g a z fl b.toNat = g b.toNat := by
  obtain ⟨h1, h2, h3, h4⟩ := contig_split hc
  have m := contig_mem hc (x := (a, z, f)) (by simp)
  simp only at m
  have m5 := m.2.2.2.2 (by decide)
  have w1 : hasW n a = true := by unfold hasW; simp only [decide_eq_true_eq]; omega
  unfold mark
  by_cases hlt : a + z < n
  · have hr := contig_room h4 hlt
    have w2 : hasW n (a + z + 4) = true := by unfold hasW; simp only [decide_eq_true_eq]; omega
    rw [if_pos hlt]
    simp only [wr, w1, w2, if_true, upd]
    refine ⟨?_, fun _ => by simp, fun b hb n1 n2 => ?_⟩
    · rw [if_neg (by omega)]
    · rw [if_neg (by omega), if_neg (by omega)]
  · rw [if_neg hlt]
    simp only [wr, w1, if_true, upd]
    refine ⟨trivial, fun h => absurd h hlt, fun b hb n1 _ => ?_⟩
    rw [if_neg (by omega)]
theorem other_blocks {x : Bl} (hx : x ∈ A ++ r) : 112 ≤ x.1 ∧ x.1 % 8 = 0 ∧ 16 ≤ x.2.1 ∧ (x.1 + x.2.1 ≤ a ∨ a + z ≤ x.1) := by
  obtain ⟨h1, h2, h3, h4⟩ := contig_split hc
  have m := contig_mem hc (x := x) (by rcases List.mem_append.1 hx with h | h <;> simp [h])
  refine ⟨m.1, m.2.2.2.2 (by decide), m.2.1, ?_⟩
  rcases List.mem_append.1 hx with h | h
  · exact .inl (contig_mem h1 h).2.2.2.1
  · exact .inr (contig_mem h4 h).1
/-- The sizes, behind it. -/
theorem mark_sized {f' : Bool} (hs : ∀ x ∈ A ++ r, g x.1.toNat = x.2.1 + (if x.2.2 then 1 else 0)) : Sized (mark n g a z (if f' then 1 else 0)) (A ++ (a, z, f') :: r) := by
  obtain ⟨h1, h2, h3, h4⟩ := contig_split hc
  have m := contig_mem hc (x := (a, z, f)) (by simp)
  simp only at m
  have m5 := m.2.2.2.2 (by decide)
  intro x hx
  by_cases hm : x ∈ A ++ r
  · obtain ⟨o1, o2, o3, o4⟩ := other_blocks hc hm
    rw [(mark_at hc).2.2 x.1 (by omega) (by omega) (by omega)]
    exact hs x hm
  · have : x = (a, z, f') := by
      rcases List.mem_append.1 hx with h | h
      · exact absurd (List.mem_append_left _ h) hm
      · rcases List.mem_cons.1 h with h | h
        · exact h
        · exact absurd (List.mem_append_right _ h) hm
    subst this
    exact (mark_at hc).1
end
end Go.Proofs.YtgefmnnkpffpcaaGreatDoor

/- A block's word is set: the words that say where the block ahead begins. No Go is walked here. -/
namespace Go.Proofs.YtgefmnnkpffpcaaGreatDoor

/-- At each block but the first: where the one ahead of it begins. -/
def Aheads (g : Mem) (L : List Bl) : Prop := ∀ A x y r, L = A ++ x :: y :: r → g (y.1 + 4).toNat = x.1

theorem mark_ahead {n : Nat} {g : Mem} {A r : List Bl} {a z fl : Int} {f f' : Bool} (hc : contig 112 (A ++ (a, z, f) :: r) n) (h1 : Aheads g (A ++ [(a, z, f)])) (h2 : Aheads g r) :
    Aheads (mark n g a z fl) (A ++ (a, z, f') :: r) := by
  obtain ⟨s1, s2, s3, s4⟩ := contig_split hc
  have m := contig_mem hc (x := (a, z, f)) (by simp)
  simp only at m
  have m5 := m.2.2.2.2 (by decide)
  have hk := (mark_at (fl := fl) (g := g) hc)
  have first : ∀ y r', r = y :: r' → mark n g a z fl (y.1 + 4).toNat = a := by
    rintro ⟨b, y, q⟩ r' rfl
    have hb : b = a + z := s4.1
    have hle := contig_le s4.2.2.2
    have hy := s4.2.1
    have := hk.2.1 (by omega)
    show mark n g a z fl (b + 4).toNat = a
    rw [hb]
    exact this
  intro A' x y r' e
  rcases List.append_eq_append_iff.1 e with ⟨c, rfl, e2⟩ | ⟨c, rfl, e2⟩
  · cases c with
    | nil =>
      simp only [List.nil_append, List.cons.injEq] at e2
      obtain ⟨rfl, rfl⟩ := e2
      exact first y r' rfl
    | cons u c =>
      simp only [List.cons_append, List.cons.injEq] at e2
      obtain ⟨rfl, rfl⟩ := e2
      have hy := other_blocks hc (x := y) (by simp)
      have hx := other_blocks hc (x := x) (by simp)
      have hxy : x.1 + x.2.1 ≤ y.1 := by
        obtain ⟨b, w, q⟩ := x
        have := (contig_split s4).2.2.2
        exact (contig_mem this (x := y) (by simp)).1
      have hax : a + z ≤ x.1 := (contig_mem s4 (x := x) (by simp)).1
      rw [hk.2.2 (y.1 + 4) (by omega) (by omega) (by omega)]
      exact h2 c x y r' rfl
  · cases c with
    | nil =>
      simp only [List.nil_append, List.cons.injEq] at e2
      obtain ⟨rfl, e3⟩ := e2
      exact first y r' e3.symm
    | cons u c =>
      simp only [List.cons_append, List.cons.injEq] at e2
      obtain ⟨rfl, e3⟩ := e2
      cases c with
      | nil =>
        simp only [List.nil_append, List.cons.injEq] at e3
        obtain ⟨rfl, rfl⟩ := e3
        show mark n g a z fl (a + 4).toNat = x.1
        rw [hk.2.2 (a + 4) (by omega) (by omega) (by omega)]
        exact h1 A' x (a, z, f) [] (by simp)
      | cons v c =>
        simp only [List.cons_append, List.cons.injEq] at e3
        obtain ⟨rfl, rfl⟩ := e3
        have hy := other_blocks hc (x := y) (by simp)
        have hya : y.1 + y.2.1 ≤ a := (contig_mem s1 (x := y) (by simp)).2.2.2.1
        rw [hk.2.2 (y.1 + 4) (by omega) (by omega) (by omega)]
        exact h1 A' x y (c ++ [(a, z, f)]) (by simp)
end Go.Proofs.YtgefmnnkpffpcaaGreatDoor

/- Heads, bits and links: which words told, putIn1 and takeOut1 turn. No Go is walked here. -/
namespace Go.Proofs.YtgefmnnkpffpcaaGreatDoor

theorem wr_at {n : Nat} {g : Mem} {o x : Int} (h : hasW n o = true) : wr n g o x o.toNat = x ∧ ∀ b : Int, 0 ≤ b → b ≠ o → wr n g o x b.toNat = g b.toNat := by
  have ho : 0 ≤ o := by unfold hasW at h; simp only [decide_eq_true_eq] at h; omega
  unfold wr
  rw [if_pos h]
  refine ⟨by simp [upd], fun b hb hne => ?_⟩
  unfold upd
  rw [if_neg (by omega)]
theorem hasW_head {n : Nat} {c : Int} (hn : 112 ≤ n) (h0 : 0 ≤ c) (h1 : c < 24) : hasW n (4 + c * 4) = true := by
  unfold hasW; simp only [decide_eq_true_eq]; omega
theorem hasW_zero {n : Nat} (hn : 112 ≤ n) : hasW n 0 = true := by
  unfold hasW; simp only [decide_eq_true_eq]; omega

/-- A head is told: its word, the bits, nothing else. -/
theorem told_at {n : Nat} {g : Mem} {c f : Int} (hn : 112 ≤ n) (h0 : 0 ≤ c) (h1 : c < 24) :
    told n g c f (4 + c * 4).toNat = f ∧ told n g c f 0 = bitOf (g 0) c.toNat (f != 0) ∧ ∀ b : Int, 0 < b → b ≠ 4 + c * 4 → told n g c f b.toNat = g b.toNat := by
  have a1 := wr_at (g := g) (x := f) (hasW_head hn h0 h1)
  have e0 : rd n (wr n g (4 + c * 4) f) 0 = g 0 := by
    unfold rd
    rw [if_pos (hasW_zero hn)]
    exact a1.2 0 (by omega) (by omega)
  have a2 := wr_at (g := wr n g (4 + c * 4) f) (x := bitOf (g 0) c.toNat (f != 0)) (hasW_zero hn)
  unfold told
  rw [e0]
  refine ⟨?_, ?_, fun b hb hne => ?_⟩
  · rw [a2.2 (4 + c * 4) (by omega) (by omega)]; exact a1.1
  · exact a2.1
  · rw [a2.2 b (by omega) (by omega)]; exact a1.2 b (by omega) hne

/-- A block is laid in front of f: its links, and f's. -/
theorem putIn1_at {n : Nat} {g : Mem} {a f : Int} (w1 : hasW n (a + 8) = true) (w2 : hasW n (a + 12) = true) (w3 : f ≠ 0 → hasW n (f + 12) = true) (hne : f ≠ a) (hn4 : f + 12 ≠ a + 8) :
    putIn1 n g a f (a + 8).toNat = f ∧ putIn1 n g a f (a + 12).toNat = 0 ∧ (f ≠ 0 → putIn1 n g a f (f + 12).toNat = a) ∧
      ∀ b : Int, 0 ≤ b → b ≠ a + 8 → b ≠ a + 12 → (f ≠ 0 → b ≠ f + 12) → putIn1 n g a f b.toNat = g b.toNat := by
  have b1 := wr_at (g := g) (x := f) w1
  have b2 := wr_at (g := wr n g (a + 8) f) (x := 0) w2
  have p1 : 0 ≤ a + 8 := by unfold hasW at w1; simp only [decide_eq_true_eq] at w1; omega
  unfold putIn1
  by_cases hf : f = 0
  · rw [if_pos hf]
    refine ⟨?_, b2.1, fun h => absurd hf h, fun b hb n1 n2 _ => ?_⟩
    · rw [b2.2 (a + 8) p1 (by omega)]; exact b1.1
    · rw [b2.2 b hb n2, b1.2 b hb n1]
  · rw [if_neg hf]
    have b3 := wr_at (g := wr n (wr n g (a + 8) f) (a + 12) 0) (x := a) (w3 hf)
    refine ⟨?_, ?_, fun _ => b3.1, fun b hb n1 n2 n3 => ?_⟩
    · rw [b3.2 (a + 8) p1 (by omega), b2.2 (a + 8) p1 (by omega)]; exact b1.1
    · rw [b3.2 (a + 12) (by omega) (by omega)]; exact b2.1
    · rw [b3.2 b hb (n3 hf), b2.2 b hb n2, b1.2 b hb n1]
end Go.Proofs.YtgefmnnkpffpcaaGreatDoor
