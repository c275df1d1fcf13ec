/- Size, Cost, Reset. -/
import Derived.Test.YtgefmnnkpffpcaaGreatDoorPutJ
import Derived.Test.YtgefmnnkpffpcaaGreatDoorSet
namespace Go.Proofs.YtgefmnnkpffpcaaGreatDoor
open Go.RowKit

theorem ar_conv {w : World} {rb mb n : Nat} {f : Nat → Int} {c : Int} (h : Ar w rb mb n f c) : ∃ cap, w.cell? ⟨rb, 0, none⟩ = some (.slice (some ⟨mb, 0, none⟩) n cap) ∧ w.cell? ⟨rb, 1, none⟩ = some (.int .i64 c) ∧ (convert 40 9 (.slice (some ⟨mb, 0, none⟩) n cap)).run Tryz.prog w = .ok (.string (strOfNums (part f 0 n))) w := by
  obtain ⟨cap, cur, hr, hm, hncap, hcap, hmax, hcur⟩ := h
  have hb := ar_part (w := w) (o := 0) (m := n) hm hcur (by omega) 0 cap hncap (fun _ => rfl)
  have hv := conv_bs hb
  rw [part_length] at hv
  exact ⟨cap, cell_two0 hr, cell_two1 hr, hv⟩

set_option maxRecDepth 100000 in
theorem size_ok (w : World) (rb mb n : Nat) (f : Nat → Int) (c : Int) (h : Ar w rb mb n f c) : Calls Tryz.prog 65 #[.pointer (some ⟨rb, 0, none⟩)] w fun e w' => e = .returned (.int .i64 n) ∧ w' = w := by
  obtain ⟨cap, hc0, -, -⟩ := ar_conv h
  have hnn := fun w : World => not_nil w mb n cap
  clear h
  go_enter Tryz.func65, Tryz.ntmps65
  go_wp2
  go_ret
  exact ⟨rfl, rfl⟩
set_option maxRecDepth 100000 in
theorem cost_ok (w : World) (rb mb n : Nat) (f : Nat → Int) (c : Int) (h : Ar w rb mb n f c) : Calls Tryz.prog 22 #[.pointer (some ⟨rb, 0, none⟩)] w fun e w' => e = .returned (.int .i64 c) ∧ w' = w := by
  obtain ⟨cap, hc0, hc1, -⟩ := ar_conv h
  have hnn := fun w : World => not_nil w mb n cap
  clear h
  go_enter Tryz.func22, Tryz.ntmps22
  go_wp2
  go_ret
  exact ⟨rfl, rfl⟩
set_option maxRecDepth 100000 in
theorem reset_ok (w : World) (rb mb n : Nat) (f : Nat → Int) (c : Int) (h : Ar w rb mb n f c) : Calls Tryz.prog 17 #[.pointer (some ⟨rb, 0, none⟩)] w fun e w' => e = .returned (.int .i64 c) ∧ Ar w' rb mb n f 0 ∧ Kp w w' [rb] := by
  have H := hid h
  obtain ⟨cap, cur, hr, hm, hncap, hcap, hmax, hcur⟩ := h
  have hc0 := cell_two0 hr
  have hc1 := cell_two1 hr
  have hf1 := free_two (i := 1) hr
  have hnn := fun w : World => not_nil w mb n cap
  have HR := hid hr
  have HM := hid hm
  have HC := hid hcur
  clear hr hm hcur
  go_enter Tryz.func17, Tryz.ntmps17
  go_wp2
  go_ret
  have hne := H.out.ne
  refine ⟨rfl, ⟨cap, cur, two_setCell1 HR.out, ((Kp.setCell w ⟨rb, 1, none⟩ _).block mb (H.out.lt.2) (by simp; omega)).trans HM.out, hncap, hcap, hmax, HC.out⟩, Kp.setCell w ⟨rb, 1, none⟩ _⟩
end Go.Proofs.YtgefmnnkpffpcaaGreatDoor

/- Get: the word at the offset; the cost is one more. -/
namespace Go.Proofs.YtgefmnnkpffpcaaGreatDoor
open Go.RowKit

/-- Four bytes that stand at an offset. -/
def at4 (f : Nat → Int) (o : Nat) : List Int := [f o, f (o + 1), f (o + 2), f (o + 3)]
def wordAt (f : Nat → Int) (o : Nat) : Int := word (f o) (f (o + 1)) (f (o + 2)) (f (o + 3))

theorem at4_cells {cur : Array Value} {n o : Nat} {f : Nat → Int} (hcur : ∀ i, i < n → cur[i]? = some (.int .u8 (f i)) ∧ 0 ≤ f i ∧ f i < 256) (hfit : o + 4 ≤ n) :
    ∀ j, j < (at4 f o).length → cur[o + j]? = some (.int .u8 ((at4 f o).getD j 0)) := by
  intro j hj
  have h4 : (at4 f o).length = 4 := rfl
  rw [h4] at hj
  rw [(hcur (o + j) (by omega)).1]
  rcases (show j = 0 ∨ j = 1 ∨ j = 2 ∨ j = 3 by omega) with rfl | rfl | rfl | rfl <;> rfl

theorem splice_all {a b c d e f' g h : Value} : (splice #[a, b, c, d].toList 0 [e, f', g, h]).toArray = #[e, f', g, h] := rfl

set_option maxRecDepth 100000 in
set_option maxHeartbeats 1000000 in
theorem get_ok (w : World) (rb mb n o : Nat) (f : Nat → Int) (c : Int) (h : Ar w rb mb n f c) (hn : n ≤ 65536) (hc0 : 0 ≤ c) (hc1 : c < 9223372036854775807) (ho : o % 4 = 0) (hfit : o + 4 ≤ n) :
    Calls Tryz.prog 49 #[.pointer (some ⟨rb, 0, none⟩), .int .i64 o] w fun e w' => e = .returned (.tuple #[.int .u32 (wordAt f o), .int .i64 0]) ∧ Ar w' rb mb n f (c + 1) ∧ Kp w w' [rb] := by
  have hb : hasW n o = true := decide_eq_true ⟨by omega, by omega, by omega⟩
  have HB := hid hb
  have H := hid h
  obtain ⟨cap, cur, hr, hm, hncap, hcap, hmax, hcur⟩ := h
  have hm0 := cell_two0 hr
  have hm1 := cell_two1 hr
  have hf1 := free_two (i := 1) hr
  have hlt := lt_of_block hr
  have HR := hid hr
  have HM := hid hm
  have HC := hid hcur
  clear hr hm hb hcur ho
  go_enter Tryz.func49, Tryz.ntmps49
  go_wp2_with fail
  refine (get_ref _ w.heap.size (w.heap.size + 1) rb mb n cap o hn (by omega) (cell_past cell_new0) cell_new1 (cell_past (cell_past hm0))).mono ?_
  rintro e w1 ⟨rfl, rfl⟩
  rw [HB.out]
  go_wp2_with fail
  have hne := H.out.ne
  have hltm := H.out.lt.2
  obtain ⟨W3, hW3⟩ : ∃ W3, W3 = (((w.setCell ⟨rb, 1, none⟩ (.int .i64 (c + 1))).alloc (.cells #[.pointer (some ⟨rb, 0, none⟩)] 52)).alloc (.cells #[.int .i64 o] 3)).alloc (.cells #[.int .u8 0, .int .u8 0, .int .u8 0, .int .u8 0] 101) := ⟨_, rfl⟩
  rw [← hW3]
  have hkW : Kp w W3 [rb] := by rw [hW3]; exact (((Kp.setCell w ⟨rb, 1, none⟩ _).trans (Kp.alloc _ _ _)).trans (Kp.alloc _ _ _)).trans (Kp.alloc _ _ _)
  have hr3 : W3.heap[rb]? = some (.cells #[.slice (some ⟨mb, 0, none⟩) n cap, .int .i64 (c + 1)] 85 (0, 0)) := by
    rw [hW3, Below.heap_alloc _ _ _ (by simp; omega), Below.heap_alloc _ _ _ (by simp; omega), Below.heap_alloc _ _ _ (by simp; omega), two_setCell1 HR.out]
  have hb0 : W3.cell? ⟨w.heap.size, 0, none⟩ = some (.pointer (some ⟨rb, 0, none⟩)) := by
    have := cell_past (o := .cells #[.int .u8 0, .int .u8 0, .int .u8 0, .int .u8 0] 101) (cell_past (o := .cells #[.int .i64 o] 3) (cell_new0 (w := w.setCell ⟨rb, 1, none⟩ (.int .i64 (c + 1))) (v := .pointer (some ⟨rb, 0, none⟩)) (t := 52)))
    rw [hW3]; simpa using this
  have hb1 : W3.cell? ⟨w.heap.size + 1, 0, none⟩ = some (.int .i64 o) := by
    have := cell_past (o := .cells #[.int .u8 0, .int .u8 0, .int .u8 0, .int .u8 0] 101) (cell_new1 (w := w.setCell ⟨rb, 1, none⟩ (.int .i64 (c + 1))) (v := .int .i64 o) (t := 3) (o1 := .cells #[.pointer (some ⟨rb, 0, none⟩)] 52))
    rw [hW3]; simpa using this
  have ha3 : W3.heap[w.heap.size + 1 + 1]? = some (.cells #[.int .u8 0, .int .u8 0, .int .u8 0, .int .u8 0] 101 (0, 0)) := by
    have := heap_alloc_new (((w.setCell ⟨rb, 1, none⟩ (.int .i64 (c + 1))).alloc (.cells #[.pointer (some ⟨rb, 0, none⟩)] 52)).alloc (.cells #[.int .i64 o] 3)) (.cells #[.int .u8 0, .int .u8 0, .int .u8 0, .int .u8 0] 101 (0, 0))
    rw [hW3]; simpa using this
  have hst := And.intro hb0 (And.intro hb1 (cell_two0 hr3))
  have hm3 : W3.heap[mb]? = _ := (hkW.block mb hltm (by simp; omega)).trans HM.out
  have HA3 := hid ha3
  have HR3 := hid hr3
  have HM3 := hid hm3
  have HK3 := hid hkW
  have hoc : (cap = o) = False := eq_false (by omega)
  have hsrc := row_cells (l := at4 f o) (o := o) (w := W3.drew) hm3 (at4_cells HC.out hfit)
  have HS := hid hsrc
  have hl4 : (ub (at4 f o)).length = Nat.min (n - o) 4 := by simp only [ub, at4, List.length_map, List.length_cons, List.length_nil]; exact (Nat.min_eq_right (by omega)).symm
  have HL4 := hid hl4
  have hF0 := HC.out o (by omega)
  have hF1 := HC.out (o + 1) (by omega)
  have hF2 := HC.out (o + 2) (by omega)
  have hF3 := HC.out (o + 3) (by omega)
  have HF := hid (And.intro hF0.2 (And.intro hF1.2 (And.intro hF2.2 hF3.2)))
  clear hW3 hb0 hb1 hkW ha3 hr3 hm3 hsrc hl4 hF0 hF1 hF2 hF3
  go_region_held_law (fun w' => w'.cell? ⟨w.heap.size, 0, none⟩ = some (.pointer (some ⟨rb, 0, none⟩)) ∧ w'.cell? ⟨w.heap.size + 1, 0, none⟩ = some (.int .i64 o) ∧ w'.cell? ⟨rb, 0, none⟩ = some (.slice (some ⟨mb, 0, none⟩) n cap))
    (first
      | exact keep3 hst (Kp.drew _ []) (by simp)
      | exact keep3 hst ((Kp.drew _ _).trans hk4.out) (by simp; omega))
    ((refine step_copy_at (by rfl) _ _ 40 40 (by rfl) 28 (by rfl) 5 Tryz.underlying40 Tryz.size5 (some ⟨w.heap.size + 1 + 1, 0, none⟩) (some ⟨mb, o, none⟩) 4 4 (n - o) (cap - o) (by rfl) (by rfl) (w.heap.size + 1 + 1) 0 #[.int .u8 0, .int .u8 0, .int .u8 0, .int .u8 0] 101 HA3.out (ub (at4 f o)) HL4.out (fun _ => ⟨rfl, _, rfl, HS.out⟩) (by simp [at4]) (ub_one _) ?_; intro w4 hg4 hk4 hs4))
  have hA4 : w4.heap[w.heap.size + 1 + 1]? = some (.cells #[.int .u8 (f o), .int .u8 (f (o + 1)), .int .u8 (f (o + 2)), .int .u8 (f (o + 3))] 101 (0, 0)) := hg4.out
  have z0 : w4.cell? ⟨w.heap.size + 1 + 1, 0, none⟩ = some (.int .u8 (f o)) := by simp [World.cell?, hA4]
  have z1 : w4.cell? ⟨w.heap.size + 1 + 1, 1, none⟩ = some (.int .u8 (f (o + 1))) := by simp [World.cell?, hA4]
  have z2 : w4.cell? ⟨w.heap.size + 1 + 1, 2, none⟩ = some (.int .u8 (f (o + 2))) := by simp [World.cell?, hA4]
  have z3 : w4.cell? ⟨w.heap.size + 1 + 1, 3, none⟩ = some (.int .u8 (f (o + 3))) := by simp [World.cell?, hA4]
  have hk : Kp W3 w4 [w.heap.size + 1 + 1] := (Kp.drew _ _).trans hk4.out
  have hr4 : w4.heap[rb]? = _ := (hk.block rb (lt_of_block HR3.out) (by simp; omega)).trans HR3.out
  have hm4 : w4.heap[mb]? = _ := (hk.block mb (lt_of_block HM3.out) (by simp; omega)).trans HM3.out
  have HK4 := hid (HK3.out.past hk (by simp; omega))
  have HA4 := hid (show Ar w4 rb mb n f (c + 1) from ⟨cap, cur, hr4, hm4, hncap, hcap, hmax, HC.out⟩)
  clear hA4 hk hr4 hm4
  go_wp2_with fail
  refine (joined_any w4 _ _ _ _ HF.out.1 HF.out.2.1 HF.out.2.2.1 HF.out.2.2.2).mono ?_
  rintro e w5 ⟨rfl, hk5⟩
  have HK5 := hid hk5
  clear hk5
  go_wp2
  go_ret2
  exact ⟨rfl, HA4.out.keep HK5.out (by simp) (by simp), HK4.out.past HK5.out (by simp)⟩
end Go.Proofs.YtgefmnnkpffpcaaGreatDoor
