/- Size, Cost, Reset. -/
import Derived.Test.YtgefmnnkpffpcaaGreatDoorPutJ
import Derived.Test.YtgefmnnkpffpcaaGreatDoorNoMoreJ
import Derived.Test.YtgefmnnkpffpcaaGreatDoorPcsJ
namespace Go.Proofs.YtgefmnnkpffpcaaGreatDoor
open Go.RowKit

theorem ar_conv {w : World} {rb mb n : Nat} {f : Nat → Int} {c : Int} (h : Ar w rb mb n f c) : ∃ cap, w.cell? ⟨rb, 0, none⟩ = some (.slice (some ⟨mb, 0, none⟩) n cap) ∧ w.cell? ⟨rb, 1, none⟩ = some (.int .i64 c) ∧ (convert 40 9 (.slice (some ⟨mb, 0, none⟩) n cap)).run Tryz.prog w = .ok (.string (strOfNums (part f 0 n))) w := by
  obtain ⟨cap, cur, hr, hm, hncap, hcap, hmax, hcur⟩ := h
  have hb := ar_part (w := w) (o := 0) (m := n) hm hcur (by omega) 0 cap hncap (fun _ => rfl)
  have hv := conv_bs hb
  rw [part_length] at hv
  exact ⟨cap, cell_two0 hr, cell_two1 hr, hv⟩

set_option maxRecDepth 100000 in
theorem size_ok (w : World) (rb mb n : Nat) (f : Nat → Int) (c : Int) (h : Ar w rb mb n f c) : Calls Tryz.prog 65 #[.pointer (some ⟨rb, 0, none⟩)] w fun e w' => e = .returned (.int .i64 n) ∧ w' = w := by
  obtain ⟨cap, hc0, -, -⟩ := ar_conv h
  have hnn := fun w : World => not_nil w mb n cap
  clear h
  go_enter Tryz.func65, Tryz.ntmps65
  go_wp2
  go_ret
  exact ⟨rfl, rfl⟩
set_option maxRecDepth 100000 in
theorem cost_ok (w : World) (rb mb n : Nat) (f : Nat → Int) (c : Int) (h : Ar w rb mb n f c) : Calls Tryz.prog 22 #[.pointer (some ⟨rb, 0, none⟩)] w fun e w' => e = .returned (.int .i64 c) ∧ w' = w := by
  obtain ⟨cap, hc0, hc1, -⟩ := ar_conv h
  have hnn := fun w : World => not_nil w mb n cap
  clear h
  go_enter Tryz.func22, Tryz.ntmps22
  go_wp2
  go_ret
  exact ⟨rfl, rfl⟩
set_option maxRecDepth 100000 in
theorem reset_ok (w : World) (rb mb n : Nat) (f : Nat → Int) (c : Int) (h : Ar w rb mb n f c) : Calls Tryz.prog 17 #[.pointer (some ⟨rb, 0, none⟩)] w fun e w' => e = .returned (.int .i64 c) ∧ Ar w' rb mb n f 0 ∧ Kp w w' [rb] := by
  have H := hid h
  obtain ⟨cap, cur, hr, hm, hncap, hcap, hmax, hcur⟩ := h
  have hc0 := cell_two0 hr
  have hc1 := cell_two1 hr
  have hf1 := free_two (i := 1) hr
  have hnn := fun w : World => not_nil w mb n cap
  have HR := hid hr
  have HM := hid hm
  have HC := hid hcur
  clear hr hm hcur
  go_enter Tryz.func17, Tryz.ntmps17
  go_wp2
  go_ret
  have hne := H.out.ne
  refine ⟨rfl, ⟨cap, cur, two_setCell1 HR.out, ((Kp.setCell w ⟨rb, 1, none⟩ _).block mb (H.out.lt.2) (by simp; omega)).trans HM.out, hncap, hcap, hmax, HC.out⟩, Kp.setCell w ⟨rb, 1, none⟩ _⟩
end Go.Proofs.YtgefmnnkpffpcaaGreatDoor

/- Get: the word at the offset; the cost is one more. -/
namespace Go.Proofs.YtgefmnnkpffpcaaGreatDoor
open Go.RowKit

/-- Four bytes that stand at an offset. -/
def at4 (f : Nat → Int) (o : Nat) : List Int := [f o, f (o + 1), f (o + 2), f (o + 3)]
def wordAt (f : Nat → Int) (o : Nat) : Int := word (f o) (f (o + 1)) (f (o + 2)) (f (o + 3))

theorem at4_cells {cur : Array Value} {n o : Nat} {f : Nat → Int} (hcur : ∀ i, i < n → cur[i]? = some (.int .u8 (f i)) ∧ 0 ≤ f i ∧ f i < 256) (hfit : o + 4 ≤ n) :
    ∀ j, j < (at4 f o).length → cur[o + j]? = some (.int .u8 ((at4 f o).getD j 0)) := by
  intro j hj
  have h4 : (at4 f o).length = 4 := rfl
  rw [h4] at hj
  rw [(hcur (o + j) (by omega)).1]
  rcases (show j = 0 ∨ j = 1 ∨ j = 2 ∨ j = 3 by omega) with rfl | rfl | rfl | rfl <;> rfl

theorem splice_all {a b c d e f' g h : Value} : (splice #[a, b, c, d].toList 0 [e, f', g, h]).toArray = #[e, f', g, h] := rfl

set_option maxRecDepth 100000 in
set_option maxHeartbeats 1000000 in
theorem get_ok (w : World) (rb mb n o : Nat) (f : Nat → Int) (c : Int) (h : Ar w rb mb n f c) (hn : n ≤ 65536) (hc0 : 0 ≤ c) (hc1 : c < 9223372036854775807) (ho : o % 4 = 0) (hfit : o + 4 ≤ n) :
    Calls Tryz.prog 49 #[.pointer (some ⟨rb, 0, none⟩), .int .i64 o] w fun e w' => e = .returned (.tuple #[.int .u32 (wordAt f o), .int .i64 0]) ∧ Ar w' rb mb n f (c + 1) ∧ Kp w w' [rb] := by
  have hb : hasW n o = true := decide_eq_true ⟨by omega, by omega, by omega⟩
  have HB := hid hb
  have H := hid h
  obtain ⟨cap, cur, hr, hm, hncap, hcap, hmax, hcur⟩ := h
  have hm0 := cell_two0 hr
  have hm1 := cell_two1 hr
  have hf1 := free_two (i := 1) hr
  have hlt := lt_of_block hr
  have HR := hid hr
  have HM := hid hm
  have HC := hid hcur
  clear hr hm hb hcur ho
  go_enter Tryz.func49, Tryz.ntmps49
  go_wp2_with fail
  refine (get_ref _ w.heap.size (w.heap.size + 1) rb mb n cap o hn (by omega) (cell_past cell_new0) cell_new1 (cell_past (cell_past hm0))).mono ?_
  rintro e w1 ⟨rfl, rfl⟩
  rw [HB.out]
  go_wp2_with fail
  have hne := H.out.ne
  have hltm := H.out.lt.2
  obtain ⟨W3, hW3⟩ : ∃ W3, W3 = (((w.setCell ⟨rb, 1, none⟩ (.int .i64 (c + 1))).alloc (.cells #[.pointer (some ⟨rb, 0, none⟩)] 52)).alloc (.cells #[.int .i64 o] 3)).alloc (.cells #[.int .u8 0, .int .u8 0, .int .u8 0, .int .u8 0] 101) := ⟨_, rfl⟩
  rw [← hW3]
  have hkW : Kp w W3 [rb] := by rw [hW3]; exact (((Kp.setCell w ⟨rb, 1, none⟩ _).trans (Kp.alloc _ _ _)).trans (Kp.alloc _ _ _)).trans (Kp.alloc _ _ _)
  have hr3 : W3.heap[rb]? = some (.cells #[.slice (some ⟨mb, 0, none⟩) n cap, .int .i64 (c + 1)] 85 (0, 0)) := by
    rw [hW3, Below.heap_alloc _ _ _ (by simp; omega), Below.heap_alloc _ _ _ (by simp; omega), Below.heap_alloc _ _ _ (by simp; omega), two_setCell1 HR.out]
  have hb0 : W3.cell? ⟨w.heap.size, 0, none⟩ = some (.pointer (some ⟨rb, 0, none⟩)) := by
    have := cell_past (o := .cells #[.int .u8 0, .int .u8 0, .int .u8 0, .int .u8 0] 101) (cell_past (o := .cells #[.int .i64 o] 3) (cell_new0 (w := w.setCell ⟨rb, 1, none⟩ (.int .i64 (c + 1))) (v := .pointer (some ⟨rb, 0, none⟩)) (t := 52)))
    rw [hW3]; simpa using this
  have hb1 : W3.cell? ⟨w.heap.size + 1, 0, none⟩ = some (.int .i64 o) := by
    have := cell_past (o := .cells #[.int .u8 0, .int .u8 0, .int .u8 0, .int .u8 0] 101) (cell_new1 (w := w.setCell ⟨rb, 1, none⟩ (.int .i64 (c + 1))) (v := .int .i64 o) (t := 3) (o1 := .cells #[.pointer (some ⟨rb, 0, none⟩)] 52))
    rw [hW3]; simpa using this
  have ha3 : W3.heap[w.heap.size + 1 + 1]? = some (.cells #[.int .u8 0, .int .u8 0, .int .u8 0, .int .u8 0] 101 (0, 0)) := by
    have := heap_alloc_new (((w.setCell ⟨rb, 1, none⟩ (.int .i64 (c + 1))).alloc (.cells #[.pointer (some ⟨rb, 0, none⟩)] 52)).alloc (.cells #[.int .i64 o] 3)) (.cells #[.int .u8 0, .int .u8 0, .int .u8 0, .int .u8 0] 101 (0, 0))
    rw [hW3]; simpa using this
  have hst := And.intro hb0 (And.intro hb1 (cell_two0 hr3))
  have hm3 : W3.heap[mb]? = _ := (hkW.block mb hltm (by simp; omega)).trans HM.out
  have HA3 := hid ha3
  have HR3 := hid hr3
  have HM3 := hid hm3
  have HK3 := hid hkW
  have hoc : (cap = o) = False := eq_false (by omega)
  have hsrc := row_cells (l := at4 f o) (o := o) (w := W3.drew) hm3 (at4_cells HC.out hfit)
  have HS := hid hsrc
  have hl4 : (ub (at4 f o)).length = Nat.min (n - o) 4 := by simp only [ub, at4, List.length_map, List.length_cons, List.length_nil]; exact (Nat.min_eq_right (by omega)).symm
  have HL4 := hid hl4
  have hF0 := HC.out o (by omega)
  have hF1 := HC.out (o + 1) (by omega)
  have hF2 := HC.out (o + 2) (by omega)
  have hF3 := HC.out (o + 3) (by omega)
  have HF := hid (And.intro hF0.2 (And.intro hF1.2 (And.intro hF2.2 hF3.2)))
  clear hW3 hb0 hb1 hkW ha3 hr3 hm3 hsrc hl4 hF0 hF1 hF2 hF3
  go_region_held_law (fun w' => w'.cell? ⟨w.heap.size, 0, none⟩ = some (.pointer (some ⟨rb, 0, none⟩)) ∧ w'.cell? ⟨w.heap.size + 1, 0, none⟩ = some (.int .i64 o) ∧ w'.cell? ⟨rb, 0, none⟩ = some (.slice (some ⟨mb, 0, none⟩) n cap))
    (first
      | exact keep3 hst (Kp.drew _ []) (by simp)
      | exact keep3 hst ((Kp.drew _ _).trans hk4.out) (by simp; omega))
    ((refine step_copy_at (by rfl) _ _ 40 40 (by rfl) 28 (by rfl) 5 Tryz.underlying40 Tryz.size5 (some ⟨w.heap.size + 1 + 1, 0, none⟩) (some ⟨mb, o, none⟩) 4 4 (n - o) (cap - o) (by rfl) (by rfl) (w.heap.size + 1 + 1) 0 #[.int .u8 0, .int .u8 0, .int .u8 0, .int .u8 0] 101 HA3.out (ub (at4 f o)) HL4.out (fun _ => ⟨rfl, _, rfl, HS.out⟩) (by simp [at4]) (ub_one _) ?_; intro w4 hg4 hk4 hs4))
  have hA4 : w4.heap[w.heap.size + 1 + 1]? = some (.cells #[.int .u8 (f o), .int .u8 (f (o + 1)), .int .u8 (f (o + 2)), .int .u8 (f (o + 3))] 101 (0, 0)) := hg4.out
  have z0 : w4.cell? ⟨w.heap.size + 1 + 1, 0, none⟩ = some (.int .u8 (f o)) := by simp [World.cell?, hA4]
  have z1 : w4.cell? ⟨w.heap.size + 1 + 1, 1, none⟩ = some (.int .u8 (f (o + 1))) := by simp [World.cell?, hA4]
  have z2 : w4.cell? ⟨w.heap.size + 1 + 1, 2, none⟩ = some (.int .u8 (f (o + 2))) := by simp [World.cell?, hA4]
  have z3 : w4.cell? ⟨w.heap.size + 1 + 1, 3, none⟩ = some (.int .u8 (f (o + 3))) := by simp [World.cell?, hA4]
  have hk : Kp W3 w4 [w.heap.size + 1 + 1] := (Kp.drew _ _).trans hk4.out
  have hr4 : w4.heap[rb]? = _ := (hk.block rb (lt_of_block HR3.out) (by simp; omega)).trans HR3.out
  have hm4 : w4.heap[mb]? = _ := (hk.block mb (lt_of_block HM3.out) (by simp; omega)).trans HM3.out
  have HK4 := hid (HK3.out.past hk (by simp; omega))
  have HA4 := hid (show Ar w4 rb mb n f (c + 1) from ⟨cap, cur, hr4, hm4, hncap, hcap, hmax, HC.out⟩)
  clear hA4 hk hr4 hm4
  go_wp2_with fail
  refine (joined_any w4 _ _ _ _ HF.out.1 HF.out.2.1 HF.out.2.2.1 HF.out.2.2.2).mono ?_
  rintro e w5 ⟨rfl, hk5⟩
  have HK5 := hid hk5
  clear hk5
  go_wp2
  go_ret2
  exact ⟨rfl, HA4.out.keep HK5.out (by simp) (by simp), HK4.out.past HK5.out (by simp)⟩
end Go.Proofs.YtgefmnnkpffpcaaGreatDoor

/- arena.New: an arena of noughts, or none. -/
namespace Go.Proofs.YtgefmnnkpffpcaaGreatDoor
open Go.RowKit

/-- A size that may be. -/
def Good (n : Int) : Prop := 256 ≤ n ∧ n ≤ 65536 ∧ n % 8 = 0

set_option maxRecDepth 100000 in
theorem new_no (w : World) (n : Int) (h : ¬ Good n) : Calls Tryz.prog 29 #[.int .i64 n] w fun e w' => e = .returned (.tuple #[.pointer none, .int .i64 2]) ∧ w' = w := by
  unfold Good at h
  by_cases h1 : n < 256
  · clear h
    go_enter Tryz.func29, Tryz.ntmps29
    go_wp2
    go_ret2
    exact ⟨rfl, rfl⟩
  · by_cases h2 : 65536 < n
    · clear h
      go_enter Tryz.func29, Tryz.ntmps29
      go_wp2
      go_ret2
      exact ⟨rfl, rfl⟩
    · have h4 : (n % 8 != 0) = true := by simp [bne]; omega
      clear h
      go_enter Tryz.func29, Tryz.ntmps29
      go_wp2
      go_ret2
      exact ⟨rfl, rfl⟩

theorem ar_made {w w1 : World} {n : Nat} (hown : w1.ownsRow w.heap.size 5 1 (.slice (some ⟨w.heap.size, 0, none⟩) n n) n (madeCells (Value.int .u8 0).cells (n * 1)).toList) :
    Ar (w1.alloc (.cells #[.slice (some ⟨w.heap.size, 0, none⟩) n n, .int .i64 0] 85)) w1.heap.size w.heap.size n (fun _ => 0) 0 := by
  have e : (madeCells (Value.int .u8 0).cells (n * 1)).toList = List.replicate n (.int .u8 0) := by
    rw [Nat.mul_one]; exact toList_madeCells_one _ _
  rw [e] at hown
  rcases hown.2 with ⟨hc, -⟩ | ⟨g, cap, cur, hv, hb, hg, hnc, hcm, hcs, htake⟩
  · simp at hc
  · simp only [Value.slice.injEq, Option.some.injEq, Addr.mk.injEq, and_true, true_and] at hv
    obtain ⟨rfl, rfl⟩ := hv
    have hlt := lt_of_block hg
    refine ⟨n, cur, heap_alloc_new w1 _, (Below.heap_alloc w1 _ _ hlt).trans hg, Nat.le_refl _, by omega, hcm, fun i hi => ⟨?_, Int.le_refl 0, (by show (0 : Int) < 256; decide)⟩⟩
    have : (cur.toList.take (n * 1))[i]? = some (.int .u8 0) := by rw [htake]; simp [hi]
    rw [List.getElem?_take_of_lt (by omega)] at this
    simpa using this

set_option maxRecDepth 100000 in
theorem new_ok (w : World) (n : Nat) (h : Good n) : Calls Tryz.prog 29 #[.int .i64 n] w fun e w' => ∃ rb mb, e = .returned (.tuple #[.pointer (some ⟨rb, 0, none⟩), .int .i64 0]) ∧ Ar w' rb mb n (fun _ => 0) 0 ∧ w.heap.size ≤ rb ∧ w.heap.size ≤ mb ∧ Kp w w' [] := by
  obtain ⟨i0, hi, hz0, hz1, hz2⟩ := info_parts Tryz.info5
  unfold Good at h
  have h4 : ((n : Int) % 8 != 0) = false := by rw [h.2.2]; rfl
  have h1 : (256 : Int) ≤ n := h.1
  have h2 : (n : Int) ≤ 65536 := h.2.1
  clear h
  go_enter Tryz.func29, Tryz.ntmps29
  go_wp2_with (refine wpList_make_full _ rfl _ _ 40 rfl w.heap.size 5 i0 (.int .u8 0) 1 Tryz.underlying40 hi hz0 hz1 .i64 .i64 n n n rfl rfl rfl rfl (by rw [hz2]; omega) (by unfold maxLen; omega) (Nat.le_refl _) ?_; intro w1 hown hg)
  go_ret2
  exact ⟨_, _, rfl, ar_made hown, hg.size, Nat.le_refl _, (Kp.grown hg).trans (Kp.alloc _ _ _)⟩
end Go.Proofs.YtgefmnnkpffpcaaGreatDoor

/- The heap's words as plain functions: what each of the program's small functions does to them. No Go is walked here. -/
namespace Go.Proofs.YtgefmnnkpffpcaaGreatDoor

/-- Words, at offsets that are multiples of 4. -/
abbrev Mem := Nat → Int
def rd (n : Nat) (g : Mem) (o : Int) : Int := if hasW n o then g o.toNat else 0
def upd (g : Mem) (o : Nat) (x : Int) : Mem := fun i => if i = o then x else g i
def wr (n : Nat) (g : Mem) (o x : Int) : Mem := if hasW n o then upd g o.toNat x else g

def lg (z : Int) : Nat := Nat.log2 z.toNat
def cls (z : Int) : Int := 2 * ((lg z : Int) - 4) + z / 2 ^ (lg z - 1) % 2
def clsFor (z : Int) : Int := cls (z + 2 ^ (lg z - 1) - 1)
/-- The least bit from a place on that is set; 32: none. -/
def lowBit (x : Nat) (fr : Nat) : Nat := ((List.range 32).find? fun c => decide (fr ≤ c) && x.testBit c).getD 32
def needed (m : Int) : Int := max ((m + 7) / 8 * 8 + 8) 16

def mayBe (n : Nat) (a z : Int) : Bool := decide (112 ≤ a ∧ a % 8 = 0 ∧ 16 ≤ z ∧ z ≤ n - a)
/-- The size of the free block there. -/
def freeAt (n : Nat) (g : Mem) (P : Pcs) (a : Int) : Option Int :=
  if hasP P (a + 8) || !(rd n g a % 8 == 1) || !mayBe n a (rd n g a - 1) then none else some (rd n g a - 1)
def mark (n : Nat) (g : Mem) (a z fl : Int) : Mem :=
  if a + z < n then wr n (wr n g a (z + fl)) (a + z + 4) a else wr n g a (z + fl)
def bitOf (x : Int) (c : Nat) (b : Bool) : Int := if b then ((x.toNat &&& (18446744073709551615 - 2 ^ c) ||| 2 ^ c : Nat) : Int) else ((x.toNat &&& (18446744073709551615 - 2 ^ c) : Nat) : Int)
/-- What change leaves, when the closure has told f. -/
def told (n : Nat) (g : Mem) (c f : Int) : Mem :=
  wr n (wr n g (4 + c * 4) f) 0 (bitOf (rd n (wr n g (4 + c * 4) f) 0) c.toNat (f != 0))
def putIn1 (n : Nat) (g : Mem) (a f : Int) : Mem :=
  if f = 0 then wr n (wr n g (a + 8) f) (a + 12) 0 else wr n (wr n (wr n g (a + 8) f) (a + 12) 0) (f + 12) a
def putIn (n : Nat) (g : Mem) (a z : Int) : Mem :=
  told n (putIn1 n (mark n g a z 1) a (rd n (mark n g a z 1) (4 + cls z * 4))) (cls z) a
/-- takeOut's closure: the words, and what it tells. -/
def takeOut1 (n : Nat) (g : Mem) (a f : Int) : Mem × Int :=
  let next := rd n g (a + 8)
  let prior := rd n g (a + 12)
  let g1 := if next = 0 then g else wr n g (next + 12) prior
  if prior = 0 then (g1, next) else (wr n g1 (prior + 8) next, f)
def takeOut (n : Nat) (g : Mem) (a z : Int) : Mem :=
  told n (takeOut1 n g a (rd n g (4 + cls z * 4))).1 (cls z) (takeOut1 n g a (rd n g (4 + cls z * 4))).2
/-- find: the block, its size, and the words behind it. -/
def find (n : Nat) (g : Mem) (P : Pcs) (z : Int) : Option (Int × Int × Mem) :=
  let c := lowBit (rd n g 0).toNat (clsFor z).toNat
  if 24 ≤ c then none else
  match freeAt n g P (rd n g (4 + (c : Int) * 4)) with
  | none => none
  | some s => if cls s = c then some (rd n g (4 + (c : Int) * 4), s, takeOut n g (rd n g (4 + (c : Int) * 4)) s) else none
/-- free of a block that is in no list. -/
def freed (n : Nat) (g : Mem) (P : Pcs) (a z : Int) : Mem :=
  let (g1, z1) := match freeAt n g P (a + z) with
    | some s => (takeOut n g (a + z) s, z + s)
    | none => (g, z)
  match freeAt n g1 P (rd n g1 (a + 4)) with
  | some s => if rd n g1 (a + 4) + s = a then putIn n (takeOut n g1 (rd n g1 (a + 4)) s) (rd n g1 (a + 4)) (s + z1) else putIn n g1 a z1
  | none => putIn n g1 a z1
def give (n : Nat) (g : Mem) (P : Pcs) (a z s : Int) : Mem × Pcs :=
  if 16 ≤ z - s then (freed n (mark n g a s 0) (putP P (a + 8) s) (a + s) (z - s), putP P (a + 8) s) else (mark n g a z 0, putP P (a + 8) z)
def alloc (n : Nat) (g : Mem) (P : Pcs) (m : Int) : Option (Int × Mem × Pcs) :=
  match find n g P (needed m) with
  | none => none
  | some (a, z, g1) => some (a + 8, give n g1 P a z (needed m))
end Go.Proofs.YtgefmnnkpffpcaaGreatDoor

/- A heap in memory; its words are looked at and written. -/
namespace Go.Proofs.YtgefmnnkpffpcaaGreatDoor
open Go.RowKit Go.Maps

/-- An arena whose words are g. -/
def Aw (w : World) (rb mb n : Nat) (g : Mem) (c : Int) : Prop := ∃ f, Ar w rb mb n f c ∧ ∀ o, o % 4 = 0 → o + 4 ≤ n → wordAt f o = g o
/-- A map of ints. -/
def Mp (w : World) (b : Nat) (P : Pcs) : Prop := w.ownsMap (H := Unit) Tryz.prog 3 (plainElem Tryz.prog 3) b P.length (dat P)
/-- The table by which a word's lowest bit is found; it stands in block 0. -/
def tab32 : List Int := [0, 1, 28, 2, 29, 14, 24, 3, 30, 22, 20, 15, 25, 17, 4, 8, 31, 27, 13, 23, 21, 19, 16, 7, 26, 12, 18, 6, 11, 5, 10, 9]
def Tb (w : World) : Prop := ∀ i, i < 32 → w.cell? ⟨0, i, none⟩ = some (.int .u8 (tab32.getD i 0))
theorem Tb.lt {w : World} (h : Tb w) : 0 < w.heap.size := World.block_lt_of_cell? w _ (h 0 (by decide))
theorem Tb.keep {w w' : World} (h : Tb w) {rows : List Nat} (hk : Kp w w' rows) (h0 : 0 ∉ rows) : Tb w' :=
  fun i hi => (World.cell?_of_block (a := ⟨0, i, none⟩) (hk.block 0 h.lt h0)).trans (h i hi)
/-- What a heap is in memory: its struct, the arena's two blocks, the map. -/
structure Hp (w : World) (hb rb mb pb n : Nat) (g : Mem) (c : Int) (P : Pcs) : Prop where
  hh : w.heap[hb]? = some (.cells #[.pointer (some ⟨rb, 0, none⟩), .map (some pb)] 67 (0, 0))
  aw : Aw w rb mb n g c
  mp : Mp w pb P
  nb : n ≤ 65536
  c0 : 0 ≤ c
  tb : Tb w
  nz : hb ≠ 0 ∧ rb ≠ 0 ∧ mb ≠ 0 ∧ pb ≠ 0

theorem Ar.byte {w : World} {rb mb n : Nat} {f : Nat → Int} {c : Int} (h : Ar w rb mb n f c) : ∀ i, i < n → 0 ≤ f i ∧ f i < 256 := by
  obtain ⟨cap, cur, hr, hm, a1, a2, a3, a4⟩ := h
  exact fun i hi => (a4 i hi).2
theorem wordAt_range {f : Nat → Int} {n o : Nat} (h : ∀ i, i < n → 0 ≤ f i ∧ f i < 256) (ho : o + 4 ≤ n) : 0 ≤ wordAt f o ∧ wordAt f o < 4294967296 := by
  have := h o (by omega); have := h (o + 1) (by omega); have := h (o + 2) (by omega); have := h (o + 3) (by omega)
  unfold wordAt word; omega
theorem Aw.range {w : World} {rb mb n : Nat} {g : Mem} {c : Int} (h : Aw w rb mb n g c) (o : Int) : 0 ≤ rd n g o ∧ rd n g o < 4294967296 := by
  obtain ⟨f, ha, hg⟩ := h
  unfold rd
  by_cases h : hasW n o = true
  · rw [if_pos h]
    have := of_decide_eq_true h
    rw [← hg o.toNat (by omega) (by omega)]
    exact wordAt_range ha.byte (by omega)
  · rw [if_neg h]; omega

theorem over_word {f : Nat → Int} {o p : Nat} {x : Int} (ho : o % 4 = 0) (hp : p % 4 = 0) : wordAt (over f o (bytes4 x)) p = if p = o then x else wordAt f p := by
  have hl : (bytes4 x).length = 4 := rfl
  by_cases h : p = o
  · subst h
    rw [if_pos rfl]
    unfold wordAt over
    simp only [hl]
    rw [if_pos (by omega), if_pos (by omega), if_pos (by omega), if_pos (by omega)]
    simp only [Nat.sub_self, Nat.add_sub_cancel_left, bytes4, List.getD_cons_zero, List.getD_cons_succ, word]
    omega
  · rw [if_neg h]
    unfold wordAt over
    simp only [hl]
    rw [if_neg (by omega), if_neg (by omega), if_neg (by omega), if_neg (by omega)]

theorem Aw.keep {w w' : World} {rb mb n : Nat} {g : Mem} {c : Int} (h : Aw w rb mb n g c) {rows : List Nat} (hk : Kp w w' rows) (h1 : rb ∉ rows) (h2 : mb ∉ rows) : Aw w' rb mb n g c := by
  obtain ⟨f, ha, hg⟩ := h
  exact ⟨f, ha.keep hk h1 h2, hg⟩
theorem Kp.grownRow {w w1 : World} {b : Nat} (h : w.grownBy w1 (some b)) : Kp w w1 [b] := ⟨h.os, h.tape, h.output, h.size, fun k hk hn => h.block k hk (by simp at hn ⊢; exact hn)⟩
theorem Kp.toGrown {w w1 : World} {rows : List Nat} (h : Kp w w1 rows) {b : Nat} (hb : b < w.heap.size) (hn : b ∉ rows) : w1.heap[b]? = w.heap[b]? := h.block b hb hn

theorem Mp.keep {w w' : World} {b : Nat} {P : Pcs} (h : Mp w b P) {rows : List Nat} (hk : Kp w w' rows) (h1 : b ∉ rows) : Mp w' b P := by
  obtain ⟨es, clock, hb, F, hs, hD⟩ := h
  exact ⟨es, clock, (hk.block b (lt_of_block hb) h1).trans hb, F, hs, hD⟩
theorem Mp.of_owns {w : World} {b n : Nat} {P : Pcs} (h : w.ownsMap (H := Unit) Tryz.prog 3 (plainElem Tryz.prog 3) b n (dat P)) : Mp w b P := by
  obtain ⟨es, clock, hb, F, hs, hD⟩ := h
  refine ⟨es, clock, hb, F, ?_, hD⟩
  have := congrArg Maps.size hD
  rw [dat_size, size_eq, length_sorted] at this
  simp at this
  omega
theorem keyed3 : Keyed Tryz.prog 3 := int_keyed Tryz.underlying3
theorem Mp.rises {w : World} {b : Nat} {P : Pcs} (h : Mp w b P) : Rises P := rises_of_canon (World.ownsMap.canon h keyed3)

variable {w w' : World} {hb rb mb pb n : Nat} {g : Mem} {c : Int} {P : Pcs}
theorem Hp.lt (h : Hp w hb rb mb pb n g c P) : hb < w.heap.size ∧ rb < w.heap.size ∧ mb < w.heap.size ∧ pb < w.heap.size := by
  obtain ⟨f, ha, -⟩ := h.aw
  obtain ⟨es, clock, hb, -⟩ := h.mp
  exact ⟨lt_of_block h.hh, ha.lt.1, ha.lt.2, lt_of_block hb⟩
theorem Hp.ne (h : Hp w hb rb mb pb n g c P) : hb ≠ rb ∧ hb ≠ mb ∧ hb ≠ pb ∧ rb ≠ mb ∧ rb ≠ pb ∧ mb ≠ pb := by
  obtain ⟨f, ⟨cap, cur, hr, hm, a1, a2, a3, a4⟩, -⟩ := h.aw
  obtain ⟨es, clock, hp, -⟩ := h.mp
  have hh := h.hh
  refine ⟨?_, ?_, ?_, ?_, ?_, ?_⟩
  all_goals (rintro rfl; simp_all)
theorem Hp.keep (h : Hp w hb rb mb pb n g c P) {rows : List Nat} (hk : Kp w w' rows) (h0 : hb ∉ rows) (h1 : rb ∉ rows) (h2 : mb ∉ rows) (h3 : pb ∉ rows) (h4 : 0 ∉ rows) : Hp w' hb rb mb pb n g c P :=
  ⟨(hk.block hb h.lt.1 h0).trans h.hh, h.aw.keep hk h1 h2, h.mp.keep hk h3, h.nb, h.c0, h.tb.keep hk h4, h.nz⟩
theorem Hp.same (h : Hp w hb rb mb pb n g c P) (hk : Kp w w' []) : Hp w' hb rb mb pb n g c P := h.keep hk (by simp) (by simp) (by simp) (by simp) (by simp)
theorem Hp.range (h : Hp w hb rb mb pb n g c P) (o : Int) : 0 ≤ rd n g o ∧ rd n g o < 4294967296 := h.aw.range o
theorem Hp.c0cell (h : Hp w hb rb mb pb n g c P) : w.cell? ⟨hb, 0, none⟩ = some (.pointer (some ⟨rb, 0, none⟩)) := cell_two0 h.hh
theorem Hp.c1cell (h : Hp w hb rb mb pb n g c P) : w.cell? ⟨hb, 1, none⟩ = some (.map (some pb)) := cell_two1 h.hh
/-- Behind a call that wrote the arena alone. -/
theorem Hp.turn (h : Hp w hb rb mb pb n g c P) (hk : Kp w w' [rb, mb]) {g' : Mem} {c' : Int} (ha : Aw w' rb mb n g' c') (hc : 0 ≤ c') : Hp w' hb rb mb pb n g' c' P := by
  have hne := h.ne
  have hnz := h.nz
  exact ⟨(hk.block hb h.lt.1 (by simp; omega)).trans h.hh, ha, h.mp.keep hk (by simp; omega), h.nb, hc, h.tb.keep hk (by simp; omega), h.nz⟩
end Go.Proofs.YtgefmnnkpffpcaaGreatDoor
