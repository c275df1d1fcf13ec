/- Calls that are refused by an arena that is there. -/
import Derived.Test.YtihlejphjdelfaaRefuse
namespace Go.Proofs.Ytihlejphjdelfaa
open Go.RowKit

theorem cell_new0 {w : World} {v : Value} {t : TypeId} : (w.alloc (.cells #[v] t)).cell? ⟨w.heap.size, 0, none⟩ = some v := by
  unfold World.cell?
  rw [heap_alloc_new w (.cells #[v] t (0, 0))]
  rfl
theorem cell_past {w : World} {b i : Nat} {v : Value} {o : Obj} (h : w.cell? ⟨b, i, none⟩ = some v) : (w.alloc o).cell? ⟨b, i, none⟩ = some v :=
  (World.cell?_of_block (a := ⟨b, i, none⟩) (Below.heap_alloc w o b (World.block_lt_of_cell? w _ h))).trans h
theorem cell_new1 {w : World} {v : Value} {t : TypeId} {o1 : Obj} : ((w.alloc o1).alloc (.cells #[v] t)).cell? ⟨w.heap.size + 1, 0, none⟩ = some v := by
  have h := cell_new0 (w := w.alloc o1) (v := v) (t := t)
  rw [show (w.alloc o1).heap.size = w.heap.size + 1 by simp] at h
  exact h
theorem cell_new2 {w : World} {v : Value} {t : TypeId} {o1 o2 : Obj} : (((w.alloc o1).alloc o2).alloc (.cells #[v] t)).cell? ⟨w.heap.size + 2, 0, none⟩ = some v := by
  have h := cell_new0 (w := (w.alloc o1).alloc o2) (v := v) (t := t)
  rw [show ((w.alloc o1).alloc o2).heap.size = w.heap.size + 2 by simp] at h
  exact h

set_option maxRecDepth 100000 in
theorem set_no (w : World) (rb mb n : Nat) (f : Nat → Int) (c o x : Int) (h : Ar w rb mb n f c) (hn : n ≤ 65536) (h4 : o ≤ 9223372036854775807) (hb : hasW n o = false) :
    Calls Try.prog 16 #[.pointer (some ⟨rb, 0, none⟩), .int .i64 o, .int .u32 x] w fun e w' => e = .returned (.int .i64 2) ∧ Kp w w' [] := by
  obtain ⟨cap, cur, hr, -⟩ := h
  have hc0 := cell_two0 hr
  have hlt := lt_of_block hr
  have HB := hid hb
  clear hr hb
  go_enter Try.func16, Try.ntmps16
  go_wp2_with fail
  refine (set_ref _ w.heap.size (w.heap.size + 1) rb mb n cap o hn h4 (cell_past cell_new0) cell_new1 (cell_past (cell_past hc0))).mono ?_
  rintro e w1 ⟨rfl, rfl⟩
  rw [HB.out]
  go_wp2
  go_ret
  exact ⟨rfl, (Kp.alloc _ _ _).trans (Kp.alloc _ _ _)⟩
set_option maxRecDepth 100000 in
theorem get_no (w : World) (rb mb n : Nat) (f : Nat → Int) (c o : Int) (h : Ar w rb mb n f c) (hn : n ≤ 65536) (h4 : o ≤ 9223372036854775807) (hb : hasW n o = false) :
    Calls Try.prog 17 #[.pointer (some ⟨rb, 0, none⟩), .int .i64 o] w fun e w' => e = .returned (.tuple #[.int .u32 0, .int .i64 2]) ∧ Kp w w' [] := by
  obtain ⟨cap, cur, hr, -⟩ := h
  have hc0 := cell_two0 hr
  have hlt := lt_of_block hr
  have HB := hid hb
  clear hr hb
  go_enter Try.func17, Try.ntmps17
  go_wp2_with fail
  refine (get_ref _ w.heap.size (w.heap.size + 1) rb mb n cap o hn h4 (cell_past cell_new0) cell_new1 (cell_past (cell_past hc0))).mono ?_
  rintro e w1 ⟨rfl, rfl⟩
  rw [HB.out]
  go_wp2
  go_ret2
  exact ⟨rfl, (Kp.alloc _ _ _).trans (Kp.alloc _ _ _)⟩
set_option maxRecDepth 100000 in
theorem write_no (w : World) (rb mb n : Nat) (f : Nat → Int) (c o : Int) (bo : Option Addr) (m mc : Nat) (h : Ar w rb mb n f c) (hn : n ≤ 65536) (h4 : o ≤ 9223372036854775807) (hb : hasB n o m = false) :
    Calls Try.prog 20 #[.pointer (some ⟨rb, 0, none⟩), .int .i64 o, .slice bo m mc] w fun e w' => e = .returned (.int .i64 2) ∧ Kp w w' [] := by
  obtain ⟨cap, cur, hr, -⟩ := h
  have hc0 := cell_two0 hr
  have hc3 := fun o1 o2 o3 => cell_three (o1 := o1) (o2 := o2) (o3 := o3) hc0
  have hlt := lt_of_block hr
  have HB := hid hb
  clear hr hb
  go_enter Try.func20, Try.ntmps20
  go_wp2_with fail
  refine (write_ref _ w.heap.size (w.heap.size + 1) (w.heap.size + 2) rb mb n cap o bo m mc hn h4 (cell_past (cell_past cell_new0)) (cell_past cell_new1) cell_new2 (hc3 _ _ _)).mono ?_
  rintro e w1 ⟨rfl, rfl⟩
  rw [HB.out]
  go_wp2
  go_ret
  exact ⟨rfl, ((Kp.alloc _ _ _).trans (Kp.alloc _ _ _)).trans (Kp.alloc _ _ _)⟩
set_option maxRecDepth 100000 in
theorem read_no (w : World) (rb mb n : Nat) (f : Nat → Int) (c o m : Int) (h : Ar w rb mb n f c) (hn : n ≤ 65536) (h4 : o ≤ 9223372036854775807) (hb : hasB n o m = false) :
    Calls Try.prog 18 #[.pointer (some ⟨rb, 0, none⟩), .int .i64 o, .int .i64 m] w fun e w' => e = .returned (.tuple #[.slice none 0 0, .int .i64 2]) ∧ Kp w w' [] := by
  obtain ⟨cap, cur, hr, -⟩ := h
  have hc0 := cell_two0 hr
  have hc3 := fun o1 o2 o3 => cell_three (o1 := o1) (o2 := o2) (o3 := o3) hc0
  have hlt := lt_of_block hr
  have HB := hid hb
  clear hr hb
  go_enter Try.func18, Try.ntmps18
  go_wp2_with fail
  refine (read_ref _ w.heap.size (w.heap.size + 1) (w.heap.size + 2) rb mb n cap o m hn h4 (cell_past (cell_past cell_new0)) (cell_past cell_new1) cell_new2 (hc3 _ _ _)).mono ?_
  rintro e w1 ⟨rfl, rfl⟩
  rw [HB.out]
  go_wp2
  go_ret2
  exact ⟨rfl, ((Kp.alloc _ _ _).trans (Kp.alloc _ _ _)).trans (Kp.alloc _ _ _)⟩
end Go.Proofs.Ytihlejphjdelfaa
