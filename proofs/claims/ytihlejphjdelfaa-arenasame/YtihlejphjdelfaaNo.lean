/- Arenas that are not there. -/
import Derived.Test.YtihlejphjdelfaaBase
namespace Go.Proofs.Ytihlejphjdelfaa
open Go.RowKit
theorem conv_nil (w : World) : (convert 36 9 (.slice none 0 0)).run Try.prog w = .ok (.string ByteArray.empty) w := by
  have h := conv_bs (w := w) (v := .slice none 0 0) (l := []) ⟨none, 0, rfl, by simp, fun _ => rfl, fun h => absurd rfl h⟩
  exact h

/-- A zero arena. -/
def Zr (w : World) (b : Nat) : Prop := w.heap[b]? = some (.cells #[.slice none 0 0, .int .i64 0] 56 (0, 0))
theorem Zr.keep {w w' : World} {b : Nat} (h : Zr w b) (hk : Kp w w' []) : Zr w' b := (hk.block b (lt_of_block h) (by simp)).trans h

set_option maxRecDepth 100000 in
set_option maxHeartbeats 2000000 in
theorem nothing_nil (w : World) :
    Calls Try.prog 21 #[.pointer none] w fun e w' => e = .returned (.bool true) ∧ Kp w w' [] := by
  have hcv := conv_nil
  go_enter Try.func21, Try.ntmps21
  go_wp2
  go_ret
  refine ⟨rfl, ?_⟩
  repeat (first | exact Kp.alloc _ _ _ | refine Kp.trans ?_ (Kp.alloc _ _ _))

theorem nil_eq (w : World) : (binOp .eql 36 (.slice none 0 0) (.slice none 0 0)).run Try.prog w = .ok (.bool true) w := by
  simpa using Lib.run_eql_slice_nil (P := Try.prog) w 36 5 none 0 0 0 0 Try.underlying36

section
variable (w : World) (b : Nat) (h : Zr w b)
include h

set_option maxRecDepth 100000 in
theorem get_zero : Calls Try.prog 17 #[.pointer (some ⟨b, 0, none⟩), .int .i64 0] w fun e w' => e = .returned (.tuple #[.int .u32 0, .int .i64 1]) ∧ Kp w w' [] := by
  have hnil := nil_eq
  have hc0 := cell_two0 h
  have hlt := lt_of_block h
  clear h
  go_enter Try.func17, Try.ntmps17
  go_wp2
  go_ret2
  refine ⟨rfl, ?_⟩
  repeat (first | exact Kp.alloc _ _ _ | refine Kp.trans ?_ (Kp.alloc _ _ _))
set_option maxRecDepth 100000 in
theorem set_zero : Calls Try.prog 16 #[.pointer (some ⟨b, 0, none⟩), .int .i64 0, .int .u32 1] w fun e w' => e = .returned (.int .i64 1) ∧ Kp w w' [] := by
  have hnil := nil_eq
  have hc0 := cell_two0 h
  have hlt := lt_of_block h
  clear h
  go_enter Try.func16, Try.ntmps16
  go_wp2
  go_ret
  refine ⟨rfl, ?_⟩
  repeat (first | exact Kp.alloc _ _ _ | refine Kp.trans ?_ (Kp.alloc _ _ _))
set_option maxRecDepth 100000 in
theorem read_zero : Calls Try.prog 18 #[.pointer (some ⟨b, 0, none⟩), .int .i64 0, .int .i64 0] w fun e w' => e = .returned (.tuple #[.slice none 0 0, .int .i64 1]) ∧ Kp w w' [] := by
  have hnil := nil_eq
  have hc0 := cell_two0 h
  have hc3 := fun o1 o2 o3 => cell_three (o1 := o1) (o2 := o2) (o3 := o3) hc0
  have hlt := lt_of_block h
  clear h
  go_enter Try.func18, Try.ntmps18
  go_wp2
  go_ret2
  refine ⟨rfl, ?_⟩
  repeat (first | exact Kp.alloc _ _ _ | refine Kp.trans ?_ (Kp.alloc _ _ _))
set_option maxRecDepth 100000 in
theorem write_zero : Calls Try.prog 20 #[.pointer (some ⟨b, 0, none⟩), .int .i64 0, .slice none 0 0] w fun e w' => e = .returned (.int .i64 1) ∧ Kp w w' [] := by
  have hnil := nil_eq
  have hc0 := cell_two0 h
  have hc3 := fun o1 o2 o3 => cell_three (o1 := o1) (o2 := o2) (o3 := o3) hc0
  have hlt := lt_of_block h
  clear h
  go_enter Try.func20, Try.ntmps20
  go_wp2
  go_ret
  refine ⟨rfl, ?_⟩
  repeat (first | exact Kp.alloc _ _ _ | refine Kp.trans ?_ (Kp.alloc _ _ _))
end

set_option maxRecDepth 100000 in
set_option maxHeartbeats 2000000 in
theorem nothing_zero (w : World) (b : Nat) (h : Zr w b) :
    Calls Try.prog 21 #[.pointer (some ⟨b, 0, none⟩)] w fun e w' => e = .returned (.bool true) ∧ Kp w w' [] := by
  have H := hid h
  clear h
  go_enter Try.func21, Try.ntmps21
  go_wp2_with fail
  refine (get_zero w b H.out).mono ?_
  rintro e w1 ⟨rfl, h1⟩
  have H1 := hid h1; clear h1
  go_wp2_with fail
  refine (read_zero w1 b (H.out.keep H1.out)).mono ?_
  rintro e w2 ⟨rfl, h2⟩
  have H2 := hid (H1.out.trans h2); clear h2
  go_wp2_with (go_at_call 9; go_in)
  refine (set_zero w2 b (H.out.keep H2.out)).mono ?_
  rintro e w3 ⟨rfl, h3⟩
  have H3 := hid (H2.out.trans h3); clear h3
  go_wp2_with (go_at_call 9; go_in)
  refine (write_zero w3 b (H.out.keep H3.out)).mono ?_
  rintro e w4 ⟨rfl, h4⟩
  have H4 := hid (H3.out.trans h4); clear h4
  have hz := H.out.keep H4.out
  have hcv := conv_nil
  have hnil := nil_eq
  have hc0 := cell_two0 hz
  have hc1 := cell_two1 hz
  clear hz
  go_wp2
  go_ret
  exact ⟨rfl, H4.out⟩
end Go.Proofs.Ytihlejphjdelfaa
