/- known: the chapter's rows. -/
import Derived.Test.YtjggpchjfglgcaaKw
namespace Go.Proofs.Ytjggpchjfglgcaa
open Go.RowKit Go.Shelf Go.Lib
attribute [local go_sem] Oper.semAt_some

def k0 : Cn := ⟨false, true, false, false, []⟩
def k1 : Cn := ⟨true, true, false, false, []⟩
def k2 : Cn := ⟨true, false, false, false, []⟩
def k3 : Cn := ⟨true, false, true, false, []⟩
def k4 : Cn := ⟨true, true, true, false, []⟩
def k5 : Cn := ⟨true, true, true, false, [(3, 7)]⟩
def k6 : Cn := ⟨true, true, true, false, [(3, 7), (4, 8)]⟩
def k7 : Cn := ⟨true, true, true, true, [(3, 7), (4, 8)]⟩
def k8 : Cn := ⟨true, true, true, true, [(3, 7)]⟩
def k9 : Cn := ⟨true, true, true, true, []⟩
set_option maxRecDepth 100000 in
set_option maxHeartbeats 4000000 in
theorem known_any (w : World) : Calls Try.prog 11 #[] w fun e w' => e = .returned (.bool true) ∧ Kp w w' [] := by
  go_enter Try.func11, Try.ntmps11
  go_wp2_with fail
  refine (new_any w).mono ?_
  rintro e z0 ⟨rfl, hc, hk⟩
  have S0 := hid (show Kd w z0 w.heap.size k0 [] from Kd.new (Kp.refl w []) hc hk)
  clear hc hk
  generalize w.heap.size = cb at S0 ⊢
  go_wp2_with fail
  refine (S0.out.ask (b := true) (M' := k1) (by kernel_rfl) (by kernel_rfl)).mono ?_
  rintro e z1 ⟨rfl, h⟩
  have S1 := hid h
  clear h S0
  go_wp2_with fail
  refine (S1.out.ask (b := false) (M' := k1) (by kernel_rfl) (by kernel_rfl)).mono ?_
  rintro e z2 ⟨rfl, h⟩
  have S2 := hid h
  clear h S1
  go_wp2_with fail
  refine (S2.out.acts false (b := false) (by kernel_rfl)).mono ?_
  rintro e z3 ⟨rfl, h⟩
  have S3 := hid h
  clear h S2
  go_wp2_with fail
  refine (S3.out.acts true (b := true) (by kernel_rfl)).mono ?_
  rintro e z4 ⟨rfl, h⟩
  have S4 := hid h
  clear h S3
  go_wp2_with fail
  refine (S4.out.enable false (b := true) (M' := k2) (by kernel_rfl) (by kernel_rfl)).mono ?_
  rintro e z5 ⟨rfl, h⟩
  have S5 := hid h
  clear h S4
  go_wp2_with fail
  refine (S5.out.acts true (b := false) (by kernel_rfl)).mono ?_
  rintro e z6 ⟨rfl, h⟩
  have S6 := hid h
  clear h S5
  go_wp2_with fail
  refine (S6.out.async true (b := false) (M' := k3) (by kernel_rfl) (by kernel_rfl)).mono ?_
  rintro e z7 ⟨rfl, h⟩
  have S7 := hid h
  clear h S6
  go_wp2_with fail
  refine (S7.out.enable true (b := false) (M' := k4) (by kernel_rfl) (by kernel_rfl)).mono ?_
  rintro e z8 ⟨rfl, h⟩
  have S8 := hid h
  clear h S7
  go_wp2_with fail
  refine (S8.out.acts false (b := true) (by kernel_rfl)).mono ?_
  rintro e z9 ⟨rfl, h⟩
  have S9 := hid h
  clear h S8
  go_wp2_with fail
  refine (S9.out.push (by decide) 3 7 (E := 0) (M' := k5) (by kernel_rfl) (by kernel_rfl)).mono ?_
  rintro e z10 ⟨rfl, h⟩
  have S10 := hid h
  clear h S9
  go_wp2_with fail
  refine (S10.out.push (by decide) 4 8 (E := 0) (M' := k6) (by kernel_rfl) (by kernel_rfl)).mono ?_
  rintro e z11 ⟨rfl, h⟩
  have S11 := hid h
  clear h S10
  go_wp2_with fail
  refine (S11.out.push (by decide) 32 0 (E := 2) (M' := k6) (by kernel_rfl) (by kernel_rfl)).mono ?_
  rintro e z12 ⟨rfl, h⟩
  have S12 := hid h
  clear h S11
  go_wp2_with fail
  refine (S12.out.unwind (E := 0) (M' := k7) (by kernel_rfl) (by kernel_rfl)).mono ?_
  rintro e z13 ⟨rfl, h⟩
  have S13 := hid h
  clear h S12
  go_wp2_with fail
  refine (S13.out.unwind (E := 7) (M' := k7) (by kernel_rfl) (by kernel_rfl)).mono ?_
  rintro e z14 ⟨rfl, h⟩
  have S14 := hid h
  clear h S13
  go_wp2_with fail
  refine (S14.out.acts true (b := false) (by kernel_rfl)).mono ?_
  rintro e z15 ⟨rfl, h⟩
  have S15 := hid h
  clear h S14
  go_wp2_with fail
  refine (S15.out.pop (by decide) (E := 0) (V := (4, 8)) (M' := k8) (by kernel_rfl) (by kernel_rfl) (by kernel_rfl)).mono ?_
  rintro e z16 ⟨rfl, h⟩
  have S16 := hid h
  clear h S15
  go_wp2_with fail
  have a0 := S16.out.alloc #[.int .i64 4, .int .i64 8] 30
  clear S16
  generalize z16.heap.size = x0 at a0 ⊢
  generalize z16.alloc (.cells #[.int .i64 4, .int .i64 8] 30) = v0 at a0 ⊢
  have S16 := hid a0
  clear a0
  refine (S16.out.pop (by decide) (E := 0) (V := (3, 7)) (M' := k9) (by kernel_rfl) (by kernel_rfl) (by kernel_rfl)).mono ?_
  rintro e z17 ⟨rfl, h⟩
  have S17 := hid h
  clear h S16
  go_wp2_with fail
  have a1 := S17.out.alloc #[.int .i64 3, .int .i64 7] 30
  clear S17
  generalize z17.heap.size = x1 at a1 ⊢
  generalize z17.alloc (.cells #[.int .i64 3, .int .i64 7] 30) = v1 at a1 ⊢
  have S17 := hid a1
  clear a1
  refine (S17.out.pop (by decide) (E := 6) (V := (0, 0)) (M' := k9) (by kernel_rfl) (by kernel_rfl) (by kernel_rfl)).mono ?_
  rintro e z18 ⟨rfl, h⟩
  have S18 := hid h
  clear h S17
  go_wp2_with fail
  have a2 := S18.out.alloc #[.int .i64 0, .int .i64 0] 30
  clear S18
  generalize z18.heap.size = x2 at a2 ⊢
  generalize z18.alloc (.cells #[.int .i64 0, .int .i64 0] 30) = v2 at a2 ⊢
  have S18 := hid a2
  clear a2
  have y0 := cell_two0 (S18.out.box (x := (x0, #[.int .i64 4, .int .i64 8], 30)) (by simp))
  have y1 := cell_two1 (S18.out.box (x := (x0, #[.int .i64 4, .int .i64 8], 30)) (by simp))
  have y2 := cell_two0 (S18.out.box (x := (x1, #[.int .i64 3, .int .i64 7], 30)) (by simp))
  have y3 := cell_two1 (S18.out.box (x := (x1, #[.int .i64 3, .int .i64 7], 30)) (by simp))
  have q1 := eql30 4 8 4 8
  have q2 := eql30 3 7 3 7
  simp only [beq_self_eq_true, Bool.and_self] at q1 q2
  try go_wp2_with fail
  refine (num_any _ _).mono ?_
  rintro e _ ⟨rfl, rfl⟩
  go_wp2_with fail
  refine (num_any _ _).mono ?_
  rintro e _ ⟨rfl, rfl⟩
  go_wp2_with fail
  refine (num_any _ _).mono ?_
  rintro e _ ⟨rfl, rfl⟩
  go_wp2_with fail
  refine (num_any _ _).mono ?_
  rintro e _ ⟨rfl, rfl⟩
  go_wp2_with fail
  refine (num_any _ _).mono ?_
  rintro e _ ⟨rfl, rfl⟩
  go_wp2_with fail
  refine (num_any _ _).mono ?_
  rintro e _ ⟨rfl, rfl⟩
  go_wp2_with fail
  refine (num_any _ _).mono ?_
  rintro e _ ⟨rfl, rfl⟩
  go_wp2_with fail
  refine (num_any _ _).mono ?_
  rintro e _ ⟨rfl, rfl⟩
  go_wp2_with fail
  refine (num_any _ _).mono ?_
  rintro e _ ⟨rfl, rfl⟩
  go_wp2_with fail
  refine (num_any _ _).mono ?_
  rintro e _ ⟨rfl, rfl⟩
  go_wp2_with fail
  refine (num_any _ _).mono ?_
  rintro e _ ⟨rfl, rfl⟩
  go_wp2
  go_ret
  exact ⟨rfl, S18.out.kp⟩
end Go.Proofs.Ytjggpchjfglgcaa
