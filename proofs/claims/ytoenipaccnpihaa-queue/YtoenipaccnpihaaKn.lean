/- known: the chapter's rows. -/
import Derived.Test.YtoenipaccnpihaaKw
namespace Go.Proofs.Ytoenipaccnpihaa
open Go.RowKit Go.Shelf Go.Sort Go.Maps
open Go.Lib hiding intOf
attribute [local go_sem] Oper.semAt_some

def k0 : Nat → Nat := fun _ => 0
def k1 : Nat → Nat := upd k0 0 8
def l1 : El := [(0, 16, 7)]
def l2 : El := [(0, 16, 7), (1, 16, 8)]
def l3 : El := [(0, 16, 7), (1, 16, 8), (0, 3, 0)]
def l4 : El := [(0, 16, 7), (1, 16, 8)]
def l5 : El := [(1, 16, 8)]
def l6 : El := [(1, 16, 8), (0, 31, -1)]
set_option maxRecDepth 100000 in
set_option maxHeartbeats 4000000 in
theorem known_any (P : ClearOk) (w : World) : Calls Try.prog 10 #[] w fun e w' => e = .returned (.bool true) ∧ Kp w w' [] := by
  have PC := hid P
  clear P
  go_enter Try.func10, Try.ntmps10
  go_wp2_with fail
  refine (kw_new w w 2 2 (by omega) (by omega) (by omega) (by omega) (Kp.refl _ _)).mono ?_
  rintro e w1 ⟨sb, rfl, h1⟩
  have H1 := hid h1
  clear h1
  go_wp2_with fail
  refine (H1.out.send 0 16 7 (E := 0) (L' := l1) (by kernel_rfl) (by kernel_rfl)).mono ?_
  rintro e w2 ⟨rfl, h2⟩
  have H2 := hid h2
  clear h2 H1
  go_wp2_with fail
  refine (H2.out.send 1 16 8 (E := 0) (L' := l2) (by kernel_rfl) (by kernel_rfl)).mono ?_
  rintro e w3 ⟨rfl, h3⟩
  have H3 := hid h3
  clear h3 H2
  go_wp2_with fail
  refine (H3.out.send 0 17 9 (E := 5) (L' := l2) (by kernel_rfl) (by kernel_rfl)).mono ?_
  rintro e w4 ⟨rfl, h4⟩
  have H4 := hid h4
  clear h4 H3
  go_wp2_with fail
  refine (H4.out.send 0 3 5 (E := 0) (L' := l3) (by kernel_rfl) (by kernel_rfl)).mono ?_
  rintro e w5 ⟨rfl, h5⟩
  have H5 := hid h5
  clear h5 H4
  go_wp2_with fail
  refine (H5.out.send 0 0 1 (E := 2) (L' := l3) (by kernel_rfl) (by kernel_rfl)).mono ?_
  rintro e w6 ⟨rfl, h6⟩
  have H6 := hid h6
  clear h6 H5
  go_wp2_with fail
  refine (H6.out.send 2 3 1 (E := 2) (L' := l3) (by kernel_rfl) (by kernel_rfl)).mono ?_
  rintro e w7 ⟨rfl, h7⟩
  have H7 := hid h7
  clear h7 H6
  go_wp2_with fail
  refine (H7.out.pending 0 (u := 65544) (by kernel_rfl)).mono ?_
  rintro e w8 ⟨rfl, h8⟩
  have H8 := hid h8
  clear h8 H7
  go_wp2_with fail
  refine (H8.out.setmask 0 9 (by omega) (by omega) (u := 0) (M' := k1) (by kernel_rfl) rfl).mono ?_
  rintro e w9 ⟨rfl, h9⟩
  have H9 := hid h9
  clear h9 H8
  go_wp2_with fail
  refine (H9.out.opn 0 (u := 65536) (by kernel_rfl)).mono ?_
  rintro e w10 ⟨rfl, h10⟩
  have H10 := hid h10
  clear h10 H9
  go_wp2_with fail
  refine (H10.out.peek 0 65536 (by omega) (V := .agg #[.int .i64 16, .int .i64 7]) (b := true) (by kernel_rfl) (by kernel_rfl)).mono ?_
  rintro e w11 ⟨rfl, h11⟩
  have H11 := hid h11
  clear h11 H10
  go_wp2_with fail
  have a11 := H11.out.alloc #[.int .i64 16, .int .i64 7] 47
  clear H11
  have b11 := a11.box (List.mem_cons_self ..)
  generalize w11.heap.size = x11 at a11 b11 ⊢
  generalize w11.alloc (.cells #[.int .i64 16, .int .i64 7] 47) = v11 at a11 b11 ⊢
  clear b11
  have H11 := hid a11
  clear a11
  refine (H11.out.next 0 4294967295 (by omega) (V := .agg #[.int .i64 3, .int .i64 0]) (b := true) (L' := l4) (by kernel_rfl) (by kernel_rfl) (by kernel_rfl)).mono ?_
  rintro e w12 ⟨rfl, h12⟩
  have H12 := hid h12
  clear h12 H11
  go_wp2_with fail
  have a12 := H12.out.alloc #[.int .i64 3, .int .i64 0] 47
  clear H12
  have b12 := a12.box (List.mem_cons_self ..)
  generalize w12.heap.size = x12 at a12 b12 ⊢
  generalize w12.alloc (.cells #[.int .i64 3, .int .i64 0] 47) = v12 at a12 b12 ⊢
  clear b12
  have H12 := hid a12
  clear a12
  refine (H12.out.next 0 4294967295 (by omega) (V := .agg #[.int .i64 16, .int .i64 7]) (b := true) (L' := l5) (by kernel_rfl) (by kernel_rfl) (by kernel_rfl)).mono ?_
  rintro e w13 ⟨rfl, h13⟩
  have H13 := hid h13
  clear h13 H12
  go_wp2_with fail
  have a13 := H13.out.alloc #[.int .i64 16, .int .i64 7] 47
  clear H13
  have b13 := a13.box (List.mem_cons_self ..)
  generalize w13.heap.size = x13 at a13 b13 ⊢
  generalize w13.alloc (.cells #[.int .i64 16, .int .i64 7] 47) = v13 at a13 b13 ⊢
  clear b13
  have H13 := hid a13
  clear a13
  refine (H13.out.next 0 4294967295 (by omega) (V := .agg #[.int .i64 0, .int .i64 0]) (b := false) (L' := l5) (by kernel_rfl) (by kernel_rfl) (by kernel_rfl)).mono ?_
  rintro e w14 ⟨rfl, h14⟩
  have H14 := hid h14
  clear h14 H13
  go_wp2_with fail
  have a14 := H14.out.alloc #[.int .i64 0, .int .i64 0] 47
  clear H14
  have b14 := a14.box (List.mem_cons_self ..)
  generalize w14.heap.size = x14 at a14 b14 ⊢
  generalize w14.alloc (.cells #[.int .i64 0, .int .i64 0] 47) = v14 at a14 b14 ⊢
  clear b14
  have H14 := hid a14
  clear a14
  refine (H14.out.used (u := 1) (by kernel_rfl)).mono ?_
  rintro e w15 ⟨rfl, h15⟩
  have H15 := hid h15
  clear h15 H14
  go_wp2_with fail
  refine (H15.out.send 0 31 (-1) (E := 0) (L' := l6) (by kernel_rfl) (by kernel_rfl)).mono ?_
  rintro e w16 ⟨rfl, h16⟩
  have H16 := hid h16
  clear h16 H15
  go_wp2_with fail
  refine (H16.out.send 0 16 1 (E := 5) (L' := l6) (by kernel_rfl) (by kernel_rfl)).mono ?_
  rintro e w17 ⟨rfl, h17⟩
  have H17 := hid h17
  clear h17 H16
  go_wp2_with fail
  refine (H17.out.clear PC.out 0 (N := 1) (E := 0) (M' := upd k1 0 0) (L' := l5) (by kernel_rfl) (by kernel_rfl) rfl (by kernel_rfl)).mono ?_
  rintro e w18 ⟨rfl, h18⟩
  have H18 := hid h18
  clear h18 H17
  go_wp2_with fail
  have B11 : w18.heap[x11]? = some (.cells #[.int .i64 16, .int .i64 7] 47 (0, 0)) := H18.out.box (x := (x11, #[.int .i64 16, .int .i64 7], 47)) (by simp)
  have C11 := cell_two0 B11
  have D11 := cell_two1 B11
  clear B11
  have B12 : w18.heap[x12]? = some (.cells #[.int .i64 3, .int .i64 0] 47 (0, 0)) := H18.out.box (x := (x12, #[.int .i64 3, .int .i64 0], 47)) (by simp)
  have C12 := cell_two0 B12
  have D12 := cell_two1 B12
  clear B12
  have B13 : w18.heap[x13]? = some (.cells #[.int .i64 16, .int .i64 7] 47 (0, 0)) := H18.out.box (x := (x13, #[.int .i64 16, .int .i64 7], 47)) (by simp)
  have C13 := cell_two0 B13
  have D13 := cell_two1 B13
  clear B13
  have q47 := eql47
  refine (num_any _ _).mono ?_
  rintro e _ ⟨rfl, rfl⟩
  go_wp2_with fail
  refine (num_any _ _).mono ?_
  rintro e _ ⟨rfl, rfl⟩
  go_wp2_with fail
  refine (num_any _ _).mono ?_
  rintro e _ ⟨rfl, rfl⟩
  go_wp2_with fail
  refine (num_any _ _).mono ?_
  rintro e _ ⟨rfl, rfl⟩
  go_wp2_with fail
  refine (num_any _ _).mono ?_
  rintro e _ ⟨rfl, rfl⟩
  go_wp2_with fail
  refine (num_any _ _).mono ?_
  rintro e _ ⟨rfl, rfl⟩
  go_wp2_with fail
  refine (num_any _ _).mono ?_
  rintro e _ ⟨rfl, rfl⟩
  go_wp2_with fail
  refine (num_any _ _).mono ?_
  rintro e _ ⟨rfl, rfl⟩
  go_wp2_with fail
  refine (num_any _ _).mono ?_
  rintro e _ ⟨rfl, rfl⟩
  go_wp2_with fail
  refine (num_any _ _).mono ?_
  rintro e _ ⟨rfl, rfl⟩
  go_wp2_with fail
  refine (num_any _ _).mono ?_
  rintro e _ ⟨rfl, rfl⟩
  go_wp2_with fail
  refine (H18.out.mask 0 (u := 0) (by kernel_rfl)).mono ?_
  rintro e w19 ⟨rfl, h19⟩
  have H19 := hid h19
  clear h19
  go_wp2_with fail
  go_ret
  exact ⟨rfl, H19.out.kp⟩
end Go.Proofs.Ytoenipaccnpihaa
