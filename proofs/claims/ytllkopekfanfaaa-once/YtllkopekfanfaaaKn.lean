/- known: the chapter's rows. -/
import Derived.Test.YtllkopekfanfaaaKw
namespace Go.Proofs.Ytllkopekfanfaaa
open Go.RowKit Go.Shelf Go.Lib Go.Sort Go.Maps
attribute [local go_sem] Oper.semAt_some

def k0 : Qs := ⟨1, [], (fun _ => none), [], []⟩
def k1 : Qs := ⟨1, [], (fun _ => none), [], [(1, 5)]⟩
def k2 : Qs := ⟨1, [], (fun _ => none), [], [(1, 5), (2, 9)]⟩
def k3 : Qs := ⟨1, [], (fun _ => none), [], [(1, 5)]⟩
def k4 : Qs := ⟨1, [], (setF (fun _ => none) 1 none), [], []⟩
def k5 : Qs := ⟨1, [(7, 0)], (setF (fun _ => none) 1 none), [], []⟩
def k6 : Qs := ⟨1, [(7, 0)], (setF (setF (fun _ => none) 1 none) 4 (some (8, 31))), [(4, 1)], []⟩
def k7 : Qs := ⟨1, [(8, 31)], (setF (setF (setF (fun _ => none) 1 none) 4 (some (8, 31))) 4 none), [], []⟩
def k8 : Qs := ⟨1, [], (setF (setF (setF (fun _ => none) 1 none) 4 (some (8, 31))) 4 none), [], []⟩
set_option maxRecDepth 100000 in
set_option maxHeartbeats 4000000 in
theorem known_any (w : World) : Calls Try.prog 10 #[] w fun e w' => e = .returned (.bool true) ∧ Kp w w' [] := by
  go_enter Try.func10, Try.ntmps10
  go_wp2_with fail
  refine (new_bad w 0 (by omega)).mono ?_
  rintro e z1 ⟨rfl, hk⟩
  have K1 := hid hk
  clear hk
  go_wp2_with fail
  refine (new_bad z1 33 (by omega)).mono ?_
  rintro e z2 ⟨rfl, hk⟩
  have K2 := hid (K1.out.trans hk)
  clear hk K1
  go_wp2_with fail
  refine (kq_new w z2 1 (by omega) (by omega) K2.out).mono ?_
  rintro e w0 ⟨qb, rfl, h0⟩
  have H0 := hid (show Kq w w0 qb k0 [] from h0)
  clear h0 K2
  go_wp2_with fail
  refine (H0.out.recv 1 5 (by unfold i64; omega) (V := .agg #[.bool false, .int .i64 0, .int .i64 0, .int .i64 (-1)]) (E := 0) (M' := k1) (by kernel_rfl) (st_rec1 (by kernel_rfl) (by kernel_rfl))).mono ?_
  rintro e w1 ⟨rfl, h1⟩
  have H1 := hid h1
  clear h1 H0
  go_wp2_with fail
  have a1 := H1.out.alloc #[.bool false, .int .i64 0, .int .i64 0, .int .i64 (-1)] 45
  clear H1
  have b1 := a1.box (List.mem_cons_self ..)
  generalize w1.heap.size = x1 at a1 b1 ⊢
  generalize w1.alloc (.cells #[.bool false, .int .i64 0, .int .i64 0, .int .i64 (-1)] 45) = v1 at a1 b1 ⊢
  clear b1
  have H1 := hid a1
  clear a1
  go_wp2_with fail
  refine (H1.out.recv 2 9 (by unfold i64; omega) (V := .agg #[.bool false, .int .i64 0, .int .i64 0, .int .i64 (-1)]) (E := 0) (M' := k2) (by kernel_rfl) (st_rec1 (by kernel_rfl) (by kernel_rfl))).mono ?_
  rintro e w2 ⟨rfl, h2⟩
  have H2 := hid h2
  clear h2 H1
  go_wp2_with fail
  have a2 := H2.out.alloc #[.bool false, .int .i64 0, .int .i64 0, .int .i64 (-1)] 45
  clear H2
  have b2 := a2.box (List.mem_cons_self ..)
  generalize w2.heap.size = x2 at a2 b2 ⊢
  generalize w2.alloc (.cells #[.bool false, .int .i64 0, .int .i64 0, .int .i64 (-1)] 45) = v2 at a2 b2 ⊢
  clear b2
  have H2 := hid a2
  clear a2
  go_wp2_with fail
  refine (m_any _ 7 0).mono ?_
  rintro e w3 ⟨rfl, hk⟩
  have H3 := hid (H2.out.go hk)
  clear hk H2
  go_wp2_with fail
  refine (H3.out.send 3 1 7 0 (by unfold i64; omega) (V := .agg #[.bool true, .int .i64 7, .int .i64 0, .int .i64 2]) (E := 0) (M' := k3) (by kernel_rfl) (st_send1 (t1 := 2) (p1 := 9) (Z := [(1, 5)]) (by kernel_rfl) (by kernel_rfl))).mono ?_
  rintro e w4 ⟨rfl, h4⟩
  have H4 := hid h4
  clear h4 H3
  go_wp2_with fail
  have a4 := H4.out.alloc #[.bool true, .int .i64 7, .int .i64 0, .int .i64 2] 45
  clear H4
  have b4 := a4.box (List.mem_cons_self ..)
  generalize w4.heap.size = x4 at a4 b4 ⊢
  generalize w4.alloc (.cells #[.bool true, .int .i64 7, .int .i64 0, .int .i64 2] 45) = v4 at a4 b4 ⊢
  clear b4
  have H4 := hid a4
  clear a4
  go_wp2_with fail
  refine (H4.out.leave 1 (by unfold i64; omega) (E := 0) (M' := k4) (by kernel_rfl) (by kernel_rfl)).mono ?_
  rintro e w5 ⟨rfl, h5⟩
  have H5 := hid h5
  clear h5 H4
  go_wp2_with fail
  refine (m_any _ 7 0).mono ?_
  rintro e w6 ⟨rfl, hk⟩
  have H6 := hid (H5.out.go hk)
  clear hk H5
  go_wp2_with fail
  refine (H6.out.send 3 1 7 0 (by unfold i64; omega) (V := .agg #[.bool true, .int .i64 7, .int .i64 0, .int .i64 (-1)]) (E := 0) (M' := k5) (by kernel_rfl) (st_send3 (by kernel_rfl) (by kernel_rfl) (by kernel_rfl))).mono ?_
  rintro e w7 ⟨rfl, h7⟩
  have H7 := hid h7
  clear h7 H6
  go_wp2_with fail
  have a7 := H7.out.alloc #[.bool true, .int .i64 7, .int .i64 0, .int .i64 (-1)] 45
  clear H7
  have b7 := a7.box (List.mem_cons_self ..)
  generalize w7.heap.size = x7 at a7 b7 ⊢
  generalize w7.alloc (.cells #[.bool true, .int .i64 7, .int .i64 0, .int .i64 (-1)] 45) = v7 at a7 b7 ⊢
  clear b7
  have H7 := hid a7
  clear a7
  go_wp2_with fail
  refine (m_any _ 8 31).mono ?_
  rintro e w8 ⟨rfl, hk⟩
  have H8 := hid (H7.out.go hk)
  clear hk H7
  go_wp2_with fail
  refine (H8.out.send 4 1 8 31 (by unfold i64; omega) (V := .agg #[.bool false, .int .i64 8, .int .i64 31, .int .i64 (-1)]) (E := 0) (M' := k6) (by kernel_rfl) (st_send2 (by kernel_rfl) (by kernel_rfl) (by kernel_rfl))).mono ?_
  rintro e w9 ⟨rfl, h9⟩
  have H9 := hid h9
  clear h9 H8
  go_wp2_with fail
  have a9 := H9.out.alloc #[.bool false, .int .i64 8, .int .i64 31, .int .i64 (-1)] 45
  clear H9
  have b9 := a9.box (List.mem_cons_self ..)
  generalize w9.heap.size = x9 at a9 b9 ⊢
  generalize w9.alloc (.cells #[.bool false, .int .i64 8, .int .i64 31, .int .i64 (-1)] 45) = v9 at a9 b9 ⊢
  clear b9
  have H9 := hid a9
  clear a9
  go_wp2_with fail
  refine (m_any _ 8 0).mono ?_
  rintro e w10 ⟨rfl, hk⟩
  have H10 := hid (H9.out.go hk)
  clear hk H9
  go_wp2_with fail
  refine (H10.out.send 4 1 8 0 (by unfold i64; omega) (V := .agg #[.bool false, .int .i64 0, .int .i64 0, .int .i64 0]) (E := 7) (M' := k6) (by kernel_rfl) (st_sendx (by decide))).mono ?_
  rintro e w11 ⟨rfl, h11⟩
  have H11 := hid h11
  clear h11 H10
  go_wp2_with fail
  have a11 := H11.out.alloc #[.bool false, .int .i64 0, .int .i64 0, .int .i64 0] 45
  clear H11
  have b11 := a11.box (List.mem_cons_self ..)
  generalize w11.heap.size = x11 at a11 b11 ⊢
  generalize w11.alloc (.cells #[.bool false, .int .i64 0, .int .i64 0, .int .i64 0] 45) = v11 at a11 b11 ⊢
  clear b11
  have H11 := hid a11
  clear a11
  go_wp2_with fail
  refine (m_any _ 9 32).mono ?_
  rintro e w12 ⟨rfl, hk⟩
  have H12 := hid (H11.out.go hk)
  clear hk H11
  go_wp2_with fail
  refine (H12.out.send 5 1 9 32 (by unfold i64; omega) (V := .agg #[.bool false, .int .i64 0, .int .i64 0, .int .i64 0]) (E := 2) (M' := k6) (by kernel_rfl) (st_sendx (by decide))).mono ?_
  rintro e w13 ⟨rfl, h13⟩
  have H13 := hid h13
  clear h13 H12
  go_wp2_with fail
  have a13 := H13.out.alloc #[.bool false, .int .i64 0, .int .i64 0, .int .i64 0] 45
  clear H13
  have b13 := a13.box (List.mem_cons_self ..)
  generalize w13.heap.size = x13 at a13 b13 ⊢
  generalize w13.alloc (.cells #[.bool false, .int .i64 0, .int .i64 0, .int .i64 0] 45) = v13 at a13 b13 ⊢
  clear b13
  have H13 := hid a13
  clear a13
  go_wp2_with fail
  refine (H13.out.recv 1 5 (by unfold i64; omega) (V := .agg #[.bool true, .int .i64 7, .int .i64 0, .int .i64 4]) (E := 0) (M' := k7) (by kernel_rfl) (st_rec3 (x := (7, 0)) (Z := []) (t1 := 4) (p1 := 1) (Y := []) (m := (8, 31)) (by kernel_rfl) (by kernel_rfl) (by kernel_rfl) (by kernel_rfl))).mono ?_
  rintro e w14 ⟨rfl, h14⟩
  have H14 := hid h14
  clear h14 H13
  go_wp2_with fail
  have a14 := H14.out.alloc #[.bool true, .int .i64 7, .int .i64 0, .int .i64 4] 45
  clear H14
  have b14 := a14.box (List.mem_cons_self ..)
  generalize w14.heap.size = x14 at a14 b14 ⊢
  generalize w14.alloc (.cells #[.bool true, .int .i64 7, .int .i64 0, .int .i64 4] 45) = v14 at a14 b14 ⊢
  clear b14
  have H14 := hid a14
  clear a14
  go_wp2_with fail
  refine (H14.out.recv 1 5 (by unfold i64; omega) (V := .agg #[.bool true, .int .i64 8, .int .i64 31, .int .i64 (-1)]) (E := 0) (M' := k8) (by kernel_rfl) (st_rec2 (x := (8, 31)) (Z := []) (by kernel_rfl) (by kernel_rfl) (by kernel_rfl))).mono ?_
  rintro e w15 ⟨rfl, h15⟩
  have H15 := hid h15
  clear h15 H14
  go_wp2_with fail
  have a15 := H15.out.alloc #[.bool true, .int .i64 8, .int .i64 31, .int .i64 (-1)] 45
  clear H15
  have b15 := a15.box (List.mem_cons_self ..)
  generalize w15.heap.size = x15 at a15 b15 ⊢
  generalize w15.alloc (.cells #[.bool true, .int .i64 8, .int .i64 31, .int .i64 (-1)] 45) = v15 at a15 b15 ⊢
  clear b15
  have H15 := hid a15
  clear a15
  go_wp2_with fail
  have HST := hid (fun (z : World) (hk : Kp v15 z []) => And.intro ((show Bp z x1 false 0 0 (-1) from (hk.block x1 (lt_of_block (H15.out.box (x := (x1, #[.bool false, .int .i64 0, .int .i64 0, .int .i64 (-1)], 45)) (by simp))) (by simp)).trans (H15.out.box (x := (x1, #[.bool false, .int .i64 0, .int .i64 0, .int .i64 (-1)], 45)) (by simp))).c0) (And.intro ((show Bp z x1 false 0 0 (-1) from (hk.block x1 (lt_of_block (H15.out.box (x := (x1, #[.bool false, .int .i64 0, .int .i64 0, .int .i64 (-1)], 45)) (by simp))) (by simp)).trans (H15.out.box (x := (x1, #[.bool false, .int .i64 0, .int .i64 0, .int .i64 (-1)], 45)) (by simp))).c1) (And.intro ((show Bp z x1 false 0 0 (-1) from (hk.block x1 (lt_of_block (H15.out.box (x := (x1, #[.bool false, .int .i64 0, .int .i64 0, .int .i64 (-1)], 45)) (by simp))) (by simp)).trans (H15.out.box (x := (x1, #[.bool false, .int .i64 0, .int .i64 0, .int .i64 (-1)], 45)) (by simp))).c2) (And.intro ((show Bp z x1 false 0 0 (-1) from (hk.block x1 (lt_of_block (H15.out.box (x := (x1, #[.bool false, .int .i64 0, .int .i64 0, .int .i64 (-1)], 45)) (by simp))) (by simp)).trans (H15.out.box (x := (x1, #[.bool false, .int .i64 0, .int .i64 0, .int .i64 (-1)], 45)) (by simp))).c3) (And.intro ((show Bp z x2 false 0 0 (-1) from (hk.block x2 (lt_of_block (H15.out.box (x := (x2, #[.bool false, .int .i64 0, .int .i64 0, .int .i64 (-1)], 45)) (by simp))) (by simp)).trans (H15.out.box (x := (x2, #[.bool false, .int .i64 0, .int .i64 0, .int .i64 (-1)], 45)) (by simp))).c0) (And.intro ((show Bp z x2 false 0 0 (-1) from (hk.block x2 (lt_of_block (H15.out.box (x := (x2, #[.bool false, .int .i64 0, .int .i64 0, .int .i64 (-1)], 45)) (by simp))) (by simp)).trans (H15.out.box (x := (x2, #[.bool false, .int .i64 0, .int .i64 0, .int .i64 (-1)], 45)) (by simp))).c1) (And.intro ((show Bp z x2 false 0 0 (-1) from (hk.block x2 (lt_of_block (H15.out.box (x := (x2, #[.bool false, .int .i64 0, .int .i64 0, .int .i64 (-1)], 45)) (by simp))) (by simp)).trans (H15.out.box (x := (x2, #[.bool false, .int .i64 0, .int .i64 0, .int .i64 (-1)], 45)) (by simp))).c2) (And.intro ((show Bp z x2 false 0 0 (-1) from (hk.block x2 (lt_of_block (H15.out.box (x := (x2, #[.bool false, .int .i64 0, .int .i64 0, .int .i64 (-1)], 45)) (by simp))) (by simp)).trans (H15.out.box (x := (x2, #[.bool false, .int .i64 0, .int .i64 0, .int .i64 (-1)], 45)) (by simp))).c3) (And.intro ((show Bp z x4 true 7 0 2 from (hk.block x4 (lt_of_block (H15.out.box (x := (x4, #[.bool true, .int .i64 7, .int .i64 0, .int .i64 2], 45)) (by simp))) (by simp)).trans (H15.out.box (x := (x4, #[.bool true, .int .i64 7, .int .i64 0, .int .i64 2], 45)) (by simp))).c0) (And.intro ((show Bp z x4 true 7 0 2 from (hk.block x4 (lt_of_block (H15.out.box (x := (x4, #[.bool true, .int .i64 7, .int .i64 0, .int .i64 2], 45)) (by simp))) (by simp)).trans (H15.out.box (x := (x4, #[.bool true, .int .i64 7, .int .i64 0, .int .i64 2], 45)) (by simp))).c1) (And.intro ((show Bp z x4 true 7 0 2 from (hk.block x4 (lt_of_block (H15.out.box (x := (x4, #[.bool true, .int .i64 7, .int .i64 0, .int .i64 2], 45)) (by simp))) (by simp)).trans (H15.out.box (x := (x4, #[.bool true, .int .i64 7, .int .i64 0, .int .i64 2], 45)) (by simp))).c2) (And.intro ((show Bp z x4 true 7 0 2 from (hk.block x4 (lt_of_block (H15.out.box (x := (x4, #[.bool true, .int .i64 7, .int .i64 0, .int .i64 2], 45)) (by simp))) (by simp)).trans (H15.out.box (x := (x4, #[.bool true, .int .i64 7, .int .i64 0, .int .i64 2], 45)) (by simp))).c3) (And.intro ((show Bp z x7 true 7 0 (-1) from (hk.block x7 (lt_of_block (H15.out.box (x := (x7, #[.bool true, .int .i64 7, .int .i64 0, .int .i64 (-1)], 45)) (by simp))) (by simp)).trans (H15.out.box (x := (x7, #[.bool true, .int .i64 7, .int .i64 0, .int .i64 (-1)], 45)) (by simp))).c0) (And.intro ((show Bp z x7 true 7 0 (-1) from (hk.block x7 (lt_of_block (H15.out.box (x := (x7, #[.bool true, .int .i64 7, .int .i64 0, .int .i64 (-1)], 45)) (by simp))) (by simp)).trans (H15.out.box (x := (x7, #[.bool true, .int .i64 7, .int .i64 0, .int .i64 (-1)], 45)) (by simp))).c1) (And.intro ((show Bp z x7 true 7 0 (-1) from (hk.block x7 (lt_of_block (H15.out.box (x := (x7, #[.bool true, .int .i64 7, .int .i64 0, .int .i64 (-1)], 45)) (by simp))) (by simp)).trans (H15.out.box (x := (x7, #[.bool true, .int .i64 7, .int .i64 0, .int .i64 (-1)], 45)) (by simp))).c2) (And.intro ((show Bp z x7 true 7 0 (-1) from (hk.block x7 (lt_of_block (H15.out.box (x := (x7, #[.bool true, .int .i64 7, .int .i64 0, .int .i64 (-1)], 45)) (by simp))) (by simp)).trans (H15.out.box (x := (x7, #[.bool true, .int .i64 7, .int .i64 0, .int .i64 (-1)], 45)) (by simp))).c3) (And.intro ((show Bp z x9 false 8 31 (-1) from (hk.block x9 (lt_of_block (H15.out.box (x := (x9, #[.bool false, .int .i64 8, .int .i64 31, .int .i64 (-1)], 45)) (by simp))) (by simp)).trans (H15.out.box (x := (x9, #[.bool false, .int .i64 8, .int .i64 31, .int .i64 (-1)], 45)) (by simp))).c0) (And.intro ((show Bp z x9 false 8 31 (-1) from (hk.block x9 (lt_of_block (H15.out.box (x := (x9, #[.bool false, .int .i64 8, .int .i64 31, .int .i64 (-1)], 45)) (by simp))) (by simp)).trans (H15.out.box (x := (x9, #[.bool false, .int .i64 8, .int .i64 31, .int .i64 (-1)], 45)) (by simp))).c1) (And.intro ((show Bp z x9 false 8 31 (-1) from (hk.block x9 (lt_of_block (H15.out.box (x := (x9, #[.bool false, .int .i64 8, .int .i64 31, .int .i64 (-1)], 45)) (by simp))) (by simp)).trans (H15.out.box (x := (x9, #[.bool false, .int .i64 8, .int .i64 31, .int .i64 (-1)], 45)) (by simp))).c2) (And.intro ((show Bp z x9 false 8 31 (-1) from (hk.block x9 (lt_of_block (H15.out.box (x := (x9, #[.bool false, .int .i64 8, .int .i64 31, .int .i64 (-1)], 45)) (by simp))) (by simp)).trans (H15.out.box (x := (x9, #[.bool false, .int .i64 8, .int .i64 31, .int .i64 (-1)], 45)) (by simp))).c3) (And.intro ((show Bp z x14 true 7 0 4 from (hk.block x14 (lt_of_block (H15.out.box (x := (x14, #[.bool true, .int .i64 7, .int .i64 0, .int .i64 4], 45)) (by simp))) (by simp)).trans (H15.out.box (x := (x14, #[.bool true, .int .i64 7, .int .i64 0, .int .i64 4], 45)) (by simp))).c0) (And.intro ((show Bp z x14 true 7 0 4 from (hk.block x14 (lt_of_block (H15.out.box (x := (x14, #[.bool true, .int .i64 7, .int .i64 0, .int .i64 4], 45)) (by simp))) (by simp)).trans (H15.out.box (x := (x14, #[.bool true, .int .i64 7, .int .i64 0, .int .i64 4], 45)) (by simp))).c1) (And.intro ((show Bp z x14 true 7 0 4 from (hk.block x14 (lt_of_block (H15.out.box (x := (x14, #[.bool true, .int .i64 7, .int .i64 0, .int .i64 4], 45)) (by simp))) (by simp)).trans (H15.out.box (x := (x14, #[.bool true, .int .i64 7, .int .i64 0, .int .i64 4], 45)) (by simp))).c2) (And.intro ((show Bp z x14 true 7 0 4 from (hk.block x14 (lt_of_block (H15.out.box (x := (x14, #[.bool true, .int .i64 7, .int .i64 0, .int .i64 4], 45)) (by simp))) (by simp)).trans (H15.out.box (x := (x14, #[.bool true, .int .i64 7, .int .i64 0, .int .i64 4], 45)) (by simp))).c3) (And.intro ((show Bp z x15 true 8 31 (-1) from (hk.block x15 (lt_of_block (H15.out.box (x := (x15, #[.bool true, .int .i64 8, .int .i64 31, .int .i64 (-1)], 45)) (by simp))) (by simp)).trans (H15.out.box (x := (x15, #[.bool true, .int .i64 8, .int .i64 31, .int .i64 (-1)], 45)) (by simp))).c0) (And.intro ((show Bp z x15 true 8 31 (-1) from (hk.block x15 (lt_of_block (H15.out.box (x := (x15, #[.bool true, .int .i64 8, .int .i64 31, .int .i64 (-1)], 45)) (by simp))) (by simp)).trans (H15.out.box (x := (x15, #[.bool true, .int .i64 8, .int .i64 31, .int .i64 (-1)], 45)) (by simp))).c1) (And.intro ((show Bp z x15 true 8 31 (-1) from (hk.block x15 (lt_of_block (H15.out.box (x := (x15, #[.bool true, .int .i64 8, .int .i64 31, .int .i64 (-1)], 45)) (by simp))) (by simp)).trans (H15.out.box (x := (x15, #[.bool true, .int .i64 8, .int .i64 31, .int .i64 (-1)], 45)) (by simp))).c2) ((show Bp z x15 true 8 31 (-1) from (hk.block x15 (lt_of_block (H15.out.box (x := (x15, #[.bool true, .int .i64 8, .int .i64 31, .int .i64 (-1)], 45)) (by simp))) (by simp)).trans (H15.out.box (x := (x15, #[.bool true, .int .i64 8, .int .i64 31, .int .i64 (-1)], 45)) (by simp))).c3))))))))))))))))))))))))))))
  have HLE := hid (fun (z : World) (hk : Kp v15 z []) => (H15.out.go hk).lenK (n := 0) (by kernel_rfl))
  have HRO := hid (fun (z : World) (hk : Kp v15 z []) => (H15.out.go hk).roomK (n := 1) (by kernel_rfl))
  rename_i QQ KK hKK
  have K0 := hid (Kp.drew v15 [])
  refine wp_region_held_drew (S := fun W : World => W.cell? ⟨x1, 0, none⟩ = some (.bool false) ∧ W.cell? ⟨x1, 1, none⟩ = some (.int .i64 0) ∧ W.cell? ⟨x1, 2, none⟩ = some (.int .i64 0) ∧ W.cell? ⟨x1, 3, none⟩ = some (.int .i64 (-1)) ∧ W.cell? ⟨x2, 0, none⟩ = some (.bool false) ∧ W.cell? ⟨x2, 1, none⟩ = some (.int .i64 0) ∧ W.cell? ⟨x2, 2, none⟩ = some (.int .i64 0) ∧ W.cell? ⟨x2, 3, none⟩ = some (.int .i64 (-1)) ∧ W.cell? ⟨x4, 0, none⟩ = some (.bool true) ∧ W.cell? ⟨x4, 1, none⟩ = some (.int .i64 7) ∧ W.cell? ⟨x4, 2, none⟩ = some (.int .i64 0) ∧ W.cell? ⟨x4, 3, none⟩ = some (.int .i64 2) ∧ W.cell? ⟨x7, 0, none⟩ = some (.bool true) ∧ W.cell? ⟨x7, 1, none⟩ = some (.int .i64 7) ∧ W.cell? ⟨x7, 2, none⟩ = some (.int .i64 0) ∧ W.cell? ⟨x7, 3, none⟩ = some (.int .i64 (-1)) ∧ W.cell? ⟨x9, 0, none⟩ = some (.bool false) ∧ W.cell? ⟨x9, 1, none⟩ = some (.int .i64 8) ∧ W.cell? ⟨x9, 2, none⟩ = some (.int .i64 31) ∧ W.cell? ⟨x9, 3, none⟩ = some (.int .i64 (-1)) ∧ W.cell? ⟨x14, 0, none⟩ = some (.bool true) ∧ W.cell? ⟨x14, 1, none⟩ = some (.int .i64 7) ∧ W.cell? ⟨x14, 2, none⟩ = some (.int .i64 0) ∧ W.cell? ⟨x14, 3, none⟩ = some (.int .i64 4) ∧ W.cell? ⟨x15, 0, none⟩ = some (.bool true) ∧ W.cell? ⟨x15, 1, none⟩ = some (.int .i64 8) ∧ W.cell? ⟨x15, 2, none⟩ = some (.int .i64 31) ∧ W.cell? ⟨x15, 3, none⟩ = some (.int .i64 (-1))) (by kernel_rfl) (HST.out _ K0.out) (fun hHeld => ?_)
  refine wpAnyH_take (i := 0) (v := .int .i64 2) rfl (by kernel_rfl) (by kernel_rfl) (by kernel_rfl) (fun _ _ _ h => h) (Or.inl ⟨by kernel_rfl, fun w _ => by kernel_rfl⟩) hHeld ?_
  refine wpAnyH_ready (rs := [1]) (by kernel_rfl) (by simp) ?_
  refine AllReadyH.cons rfl (fun K hK => ?_) AllReadyH.nil
  go_simp
  refine (num_kp _ _).mono ?_
  rintro e y1 ⟨rfl, hk⟩
  have K1 := hid (K0.out.trans hk)
  clear hk
  go_simp
  refine hK.out _ _ (HST.out _ K1.out) (fun hHeld => ?_)
  refine wpAnyH_take (i := 2) (v := .bool true) rfl (by kernel_rfl) (by kernel_rfl) (by kernel_rfl) (fun _ _ _ h => h) (Or.inl ⟨by kernel_rfl, fun w _ => by go_simp⟩) hHeld ?_
  refine wpAnyH_take (i := 3) (v := .bool true) rfl (by kernel_rfl) (by kernel_rfl) (by kernel_rfl) (fun _ _ _ h => h) (Or.inl ⟨by kernel_rfl, fun w _ => by kernel_rfl⟩) hHeld ?_
  refine wpAnyH_take (i := 4) (v := .int .i64 2) rfl (by kernel_rfl) (by kernel_rfl) (by kernel_rfl) (fun _ _ _ h => h) (Or.inl ⟨by kernel_rfl, fun w _ => by kernel_rfl⟩) hHeld ?_
  refine wpAnyH_ready (rs := [5]) (by kernel_rfl) (by simp) ?_
  refine AllReadyH.cons rfl (fun K hK => ?_) AllReadyH.nil
  go_simp
  refine (num_kp _ _).mono ?_
  rintro e y2 ⟨rfl, hk⟩
  have K2 := hid (K1.out.trans hk)
  clear hk
  go_simp
  refine hK.out _ _ (HST.out _ K2.out) (fun hHeld => ?_)
  refine wpAnyH_take (i := 6) (v := .bool true) rfl (by kernel_rfl) (by kernel_rfl) (by kernel_rfl) (fun _ _ _ h => h) (Or.inl ⟨by kernel_rfl, fun w _ => by go_simp⟩) hHeld ?_
  refine wpAnyH_take (i := 7) (v := .bool true) rfl (by kernel_rfl) (by kernel_rfl) (by kernel_rfl) (fun _ _ _ h => h) (Or.inl ⟨by kernel_rfl, fun w _ => by go_simp⟩) hHeld ?_
  refine wpAnyH_take (i := 8) (v := .bool true) rfl (by kernel_rfl) (by kernel_rfl) (by kernel_rfl) (fun _ _ _ h => h) (Or.inl ⟨by kernel_rfl, fun w _ => by kernel_rfl⟩) hHeld ?_
  refine wpAnyH_take (i := 9) (v := .int .i64 0) rfl (by kernel_rfl) (by kernel_rfl) (by kernel_rfl) (fun _ _ _ h => h) (Or.inl ⟨by kernel_rfl, fun w _ => by kernel_rfl⟩) hHeld ?_
  refine wpAnyH_take (i := 11) (v := .int .i64 0) rfl (by kernel_rfl) (by kernel_rfl) (by kernel_rfl) (fun _ _ _ h => h) (Or.inl ⟨by kernel_rfl, fun w _ => by kernel_rfl⟩) hHeld ?_
  refine wpAnyH_take (i := 14) (v := .int .i64 0) rfl (by kernel_rfl) (by kernel_rfl) (by kernel_rfl) (fun _ _ _ h => h) (Or.inl ⟨by kernel_rfl, fun w _ => by kernel_rfl⟩) hHeld ?_
  refine wpAnyH_ready (rs := [10]) (by kernel_rfl) (by simp) ?_
  refine AllReadyH.cons rfl (fun K hK => ?_) AllReadyH.nil
  go_simp
  refine (num_kp _ _).mono ?_
  rintro e y3 ⟨rfl, hk⟩
  have K3 := hid (K2.out.trans hk)
  clear hk
  go_simp
  refine hK.out _ _ (HST.out _ K3.out) (fun hHeld => ?_)
  refine wpAnyH_ready (rs := [12]) (by kernel_rfl) (by simp) ?_
  refine AllReadyH.cons rfl (fun K hK => ?_) AllReadyH.nil
  go_simp
  refine (num_kp _ _).mono ?_
  rintro e y4 ⟨rfl, hk⟩
  have K4 := hid (K3.out.trans hk)
  clear hk
  go_simp
  refine hK.out _ _ (HST.out _ K4.out) (fun hHeld => ?_)
  refine wpAnyH_take (i := 13) (v := .int .i64 0) rfl (by kernel_rfl) (by kernel_rfl) (by kernel_rfl) (fun _ _ _ h => h) (Or.inl ⟨by kernel_rfl, fun w _ => by go_simp; rfl⟩) hHeld ?_
  refine wpAnyH_ready (rs := [15]) (by kernel_rfl) (by simp) ?_
  refine AllReadyH.cons rfl (fun K hK => ?_) AllReadyH.nil
  go_simp
  refine (num_kp _ _).mono ?_
  rintro e y5 ⟨rfl, hk⟩
  have K5 := hid (K4.out.trans hk)
  clear hk
  go_simp
  refine hK.out _ _ (HST.out _ K5.out) (fun hHeld => ?_)
  refine wpAnyH_take (i := 16) (v := .int .i64 0) rfl (by kernel_rfl) (by kernel_rfl) (by kernel_rfl) (fun _ _ _ h => h) (Or.inl ⟨by kernel_rfl, fun w _ => by go_simp; rfl⟩) hHeld ?_
  refine wpAnyH_take (i := 17) (v := .bool true) rfl (by kernel_rfl) (by kernel_rfl) (by kernel_rfl) (fun _ _ _ h => h) (Or.inl ⟨by kernel_rfl, fun w _ => by go_simp⟩) hHeld ?_
  refine wpAnyH_take (i := 18) (v := .bool true) rfl (by kernel_rfl) (by kernel_rfl) (by kernel_rfl) (fun _ _ _ h => h) (Or.inl ⟨by kernel_rfl, fun w _ => by go_simp⟩) hHeld ?_
  refine wpAnyH_take (i := 19) (v := .bool true) rfl (by kernel_rfl) (by kernel_rfl) (by kernel_rfl) (fun _ _ _ h => h) (Or.inl ⟨by kernel_rfl, fun w _ => by kernel_rfl⟩) hHeld ?_
  refine wpAnyH_take (i := 20) (v := .pointer (some ⟨x1, 0, none⟩)) rfl (by kernel_rfl) (by kernel_rfl) (by kernel_rfl) (fun _ _ _ h => h) (Or.inl ⟨by kernel_rfl, fun w _ => by kernel_rfl⟩) hHeld ?_
  refine wpAnyH_take (i := 21) (v := .bool false) rfl (by kernel_rfl) (by kernel_rfl) (by kernel_rfl) (fun _ _ _ h => h) (Or.inl ⟨by kernel_rfl, by intro w hSw; obtain ⟨s0, s1, s2, s3, s4, s5, s6, s7, s8, s9, s10, s11, s12, s13, s14, s15, s16, s17, s18, s19, s20, s21, s22, s23, s24, s25, s26, s27⟩ := hSw; go_simp⟩) hHeld ?_
  refine wpAnyH_take (i := 22) (v := .bool true) rfl (by kernel_rfl) (by kernel_rfl) (by kernel_rfl) (fun _ _ _ h => h) (Or.inl ⟨by kernel_rfl, fun w _ => by go_simp⟩) hHeld ?_
  refine wpAnyH_take (i := 23) (v := .bool true) rfl (by kernel_rfl) (by kernel_rfl) (by kernel_rfl) (fun _ _ _ h => h) (Or.inl ⟨by kernel_rfl, fun w _ => by go_simp⟩) hHeld ?_
  refine wpAnyH_take (i := 24) (v := .bool true) rfl (by kernel_rfl) (by kernel_rfl) (by kernel_rfl) (fun _ _ _ h => h) (Or.inl ⟨by kernel_rfl, fun w _ => by kernel_rfl⟩) hHeld ?_
  refine wpAnyH_take (i := 25) (v := .pointer (some ⟨x1, 3, none⟩)) rfl (by kernel_rfl) (by kernel_rfl) (by kernel_rfl) (fun _ _ _ h => h) (Or.inl ⟨by kernel_rfl, fun w _ => by kernel_rfl⟩) hHeld ?_
  refine wpAnyH_take (i := 26) (v := .int .i64 (-1)) rfl (by kernel_rfl) (by kernel_rfl) (by kernel_rfl) (fun _ _ _ h => h) (Or.inl ⟨by kernel_rfl, by intro w hSw; obtain ⟨s0, s1, s2, s3, s4, s5, s6, s7, s8, s9, s10, s11, s12, s13, s14, s15, s16, s17, s18, s19, s20, s21, s22, s23, s24, s25, s26, s27⟩ := hSw; go_simp⟩) hHeld ?_
  refine wpAnyH_take (i := 27) (v := .bool true) rfl (by kernel_rfl) (by kernel_rfl) (by kernel_rfl) (fun _ _ _ h => h) (Or.inl ⟨by kernel_rfl, fun w _ => by go_simp⟩) hHeld ?_
  refine wpAnyH_take (i := 28) (v := .bool true) rfl (by kernel_rfl) (by kernel_rfl) (by kernel_rfl) (fun _ _ _ h => h) (Or.inl ⟨by kernel_rfl, fun w _ => by go_simp⟩) hHeld ?_
  refine wpAnyH_take (i := 29) (v := .bool true) rfl (by kernel_rfl) (by kernel_rfl) (by kernel_rfl) (fun _ _ _ h => h) (Or.inl ⟨by kernel_rfl, fun w _ => by kernel_rfl⟩) hHeld ?_
  refine wpAnyH_take (i := 30) (v := .pointer (some ⟨x2, 0, none⟩)) rfl (by kernel_rfl) (by kernel_rfl) (by kernel_rfl) (fun _ _ _ h => h) (Or.inl ⟨by kernel_rfl, fun w _ => by kernel_rfl⟩) hHeld ?_
  refine wpAnyH_take (i := 31) (v := .bool false) rfl (by kernel_rfl) (by kernel_rfl) (by kernel_rfl) (fun _ _ _ h => h) (Or.inl ⟨by kernel_rfl, by intro w hSw; obtain ⟨s0, s1, s2, s3, s4, s5, s6, s7, s8, s9, s10, s11, s12, s13, s14, s15, s16, s17, s18, s19, s20, s21, s22, s23, s24, s25, s26, s27⟩ := hSw; go_simp⟩) hHeld ?_
  refine wpAnyH_take (i := 32) (v := .bool true) rfl (by kernel_rfl) (by kernel_rfl) (by kernel_rfl) (fun _ _ _ h => h) (Or.inl ⟨by kernel_rfl, fun w _ => by go_simp⟩) hHeld ?_
  refine wpAnyH_take (i := 33) (v := .bool true) rfl (by kernel_rfl) (by kernel_rfl) (by kernel_rfl) (fun _ _ _ h => h) (Or.inl ⟨by kernel_rfl, fun w _ => by go_simp⟩) hHeld ?_
  refine wpAnyH_take (i := 34) (v := .bool true) rfl (by kernel_rfl) (by kernel_rfl) (by kernel_rfl) (fun _ _ _ h => h) (Or.inl ⟨by kernel_rfl, fun w _ => by kernel_rfl⟩) hHeld ?_
  refine wpAnyH_take (i := 35) (v := .agg #[.bool true, .int .i64 7, .int .i64 0, .int .i64 2]) rfl (by kernel_rfl) (by kernel_rfl) (by kernel_rfl) (fun _ _ _ h => h) (Or.inl ⟨by kernel_rfl, by intro w hSw; obtain ⟨s0, s1, s2, s3, s4, s5, s6, s7, s8, s9, s10, s11, s12, s13, s14, s15, s16, s17, s18, s19, s20, s21, s22, s23, s24, s25, s26, s27⟩ := hSw; go_simp⟩) hHeld ?_
  refine wpAnyH_ready (rs := [36]) (by kernel_rfl) (by simp) ?_
  refine AllReadyH.cons rfl (fun K hK => ?_) AllReadyH.nil
  go_simp
  refine (m_any _ 7 0).mono ?_
  rintro e y6 ⟨rfl, hk⟩
  have K6 := hid (K5.out.trans hk)
  clear hk
  go_simp
  refine hK.out _ _ (HST.out _ K6.out) (fun hHeld => ?_)
  refine wpAnyH_take (i := 37) (v := .agg #[.bool true, .int .i64 7, .int .i64 0, .int .i64 2]) rfl (by kernel_rfl) (by kernel_rfl) (by kernel_rfl) (fun _ _ _ h => h) (Or.inl ⟨by kernel_rfl, fun w _ => by go_simp⟩) hHeld ?_
  refine wpAnyH_take (i := 38) (v := .bool true) rfl (by kernel_rfl) (by kernel_rfl) (by kernel_rfl) (fun _ _ _ h => h) (Or.inl ⟨by kernel_rfl, fun w _ => by have q45 := eql45; go_simp⟩) hHeld ?_
  refine wpAnyH_take (i := 39) (v := .bool true) rfl (by kernel_rfl) (by kernel_rfl) (by kernel_rfl) (fun _ _ _ h => h) (Or.inl ⟨by kernel_rfl, fun w _ => by go_simp⟩) hHeld ?_
  refine wpAnyH_take (i := 40) (v := .bool true) rfl (by kernel_rfl) (by kernel_rfl) (by kernel_rfl) (fun _ _ _ h => h) (Or.inl ⟨by kernel_rfl, fun w _ => by kernel_rfl⟩) hHeld ?_
  refine wpAnyH_take (i := 41) (v := .agg #[.bool true, .int .i64 7, .int .i64 0, .int .i64 (-1)]) rfl (by kernel_rfl) (by kernel_rfl) (by kernel_rfl) (fun _ _ _ h => h) (Or.inl ⟨by kernel_rfl, by intro w hSw; obtain ⟨s0, s1, s2, s3, s4, s5, s6, s7, s8, s9, s10, s11, s12, s13, s14, s15, s16, s17, s18, s19, s20, s21, s22, s23, s24, s25, s26, s27⟩ := hSw; go_simp⟩) hHeld ?_
  refine wpAnyH_ready (rs := [42]) (by kernel_rfl) (by simp) ?_
  refine AllReadyH.cons rfl (fun K hK => ?_) AllReadyH.nil
  go_simp
  refine (m_any _ 7 0).mono ?_
  rintro e y7 ⟨rfl, hk⟩
  have K7 := hid (K6.out.trans hk)
  clear hk
  go_simp
  refine hK.out _ _ (HST.out _ K7.out) (fun hHeld => ?_)
  refine wpAnyH_take (i := 43) (v := .agg #[.bool true, .int .i64 7, .int .i64 0, .int .i64 (-1)]) rfl (by kernel_rfl) (by kernel_rfl) (by kernel_rfl) (fun _ _ _ h => h) (Or.inl ⟨by kernel_rfl, fun w _ => by go_simp⟩) hHeld ?_
  refine wpAnyH_take (i := 44) (v := .bool true) rfl (by kernel_rfl) (by kernel_rfl) (by kernel_rfl) (fun _ _ _ h => h) (Or.inl ⟨by kernel_rfl, fun w _ => by have q45 := eql45; go_simp⟩) hHeld ?_
  refine wpAnyH_take (i := 45) (v := .bool true) rfl (by kernel_rfl) (by kernel_rfl) (by kernel_rfl) (fun _ _ _ h => h) (Or.inl ⟨by kernel_rfl, fun w _ => by go_simp⟩) hHeld ?_
  refine wpAnyH_take (i := 46) (v := .bool true) rfl (by kernel_rfl) (by kernel_rfl) (by kernel_rfl) (fun _ _ _ h => h) (Or.inl ⟨by kernel_rfl, fun w _ => by kernel_rfl⟩) hHeld ?_
  refine wpAnyH_take (i := 47) (v := .pointer (some ⟨x9, 0, none⟩)) rfl (by kernel_rfl) (by kernel_rfl) (by kernel_rfl) (fun _ _ _ h => h) (Or.inl ⟨by kernel_rfl, fun w _ => by kernel_rfl⟩) hHeld ?_
  refine wpAnyH_take (i := 48) (v := .bool false) rfl (by kernel_rfl) (by kernel_rfl) (by kernel_rfl) (fun _ _ _ h => h) (Or.inl ⟨by kernel_rfl, by intro w hSw; obtain ⟨s0, s1, s2, s3, s4, s5, s6, s7, s8, s9, s10, s11, s12, s13, s14, s15, s16, s17, s18, s19, s20, s21, s22, s23, s24, s25, s26, s27⟩ := hSw; go_simp⟩) hHeld ?_
  refine wpAnyH_take (i := 49) (v := .bool true) rfl (by kernel_rfl) (by kernel_rfl) (by kernel_rfl) (fun _ _ _ h => h) (Or.inl ⟨by kernel_rfl, fun w _ => by go_simp⟩) hHeld ?_
  refine wpAnyH_take (i := 50) (v := .bool true) rfl (by kernel_rfl) (by kernel_rfl) (by kernel_rfl) (fun _ _ _ h => h) (Or.inl ⟨by kernel_rfl, fun w _ => by go_simp⟩) hHeld ?_
  refine wpAnyH_take (i := 51) (v := .bool true) rfl (by kernel_rfl) (by kernel_rfl) (by kernel_rfl) (fun _ _ _ h => h) (Or.inl ⟨by kernel_rfl, fun w _ => by kernel_rfl⟩) hHeld ?_
  refine wpAnyH_take (i := 52) (v := .int .i64 7) rfl (by kernel_rfl) (by kernel_rfl) (by kernel_rfl) (fun _ _ _ h => h) (Or.inl ⟨by kernel_rfl, fun w _ => by kernel_rfl⟩) hHeld ?_
  refine wpAnyH_ready (rs := [53]) (by kernel_rfl) (by simp) ?_
  refine AllReadyH.cons rfl (fun K hK => ?_) AllReadyH.nil
  go_simp
  refine (num_kp _ _).mono ?_
  rintro e y8 ⟨rfl, hk⟩
  have K8 := hid (K7.out.trans hk)
  clear hk
  go_simp
  refine hK.out _ _ (HST.out _ K8.out) (fun hHeld => ?_)
  refine wpAnyH_take (i := 54) (v := .bool true) rfl (by kernel_rfl) (by kernel_rfl) (by kernel_rfl) (fun _ _ _ h => h) (Or.inl ⟨by kernel_rfl, fun w _ => by go_simp⟩) hHeld ?_
  refine wpAnyH_take (i := 55) (v := .bool true) rfl (by kernel_rfl) (by kernel_rfl) (by kernel_rfl) (fun _ _ _ h => h) (Or.inl ⟨by kernel_rfl, fun w _ => by go_simp⟩) hHeld ?_
  refine wpAnyH_take (i := 56) (v := .bool true) rfl (by kernel_rfl) (by kernel_rfl) (by kernel_rfl) (fun _ _ _ h => h) (Or.inl ⟨by kernel_rfl, fun w _ => by kernel_rfl⟩) hHeld ?_
  refine wpAnyH_take (i := 57) (v := .int .i64 2) rfl (by kernel_rfl) (by kernel_rfl) (by kernel_rfl) (fun _ _ _ h => h) (Or.inl ⟨by kernel_rfl, fun w _ => by kernel_rfl⟩) hHeld ?_
  refine wpAnyH_ready (rs := [58]) (by kernel_rfl) (by simp) ?_
  refine AllReadyH.cons rfl (fun K hK => ?_) AllReadyH.nil
  go_simp
  refine (num_kp _ _).mono ?_
  rintro e y9 ⟨rfl, hk⟩
  have K9 := hid (K8.out.trans hk)
  clear hk
  go_simp
  refine hK.out _ _ (HST.out _ K9.out) (fun hHeld => ?_)
  refine wpAnyH_take (i := 59) (v := .bool true) rfl (by kernel_rfl) (by kernel_rfl) (by kernel_rfl) (fun _ _ _ h => h) (Or.inl ⟨by kernel_rfl, fun w _ => by go_simp⟩) hHeld ?_
  refine wpAnyH_take (i := 60) (v := .bool true) rfl (by kernel_rfl) (by kernel_rfl) (by kernel_rfl) (fun _ _ _ h => h) (Or.inl ⟨by kernel_rfl, fun w _ => by go_simp⟩) hHeld ?_
  refine wpAnyH_take (i := 61) (v := .bool true) rfl (by kernel_rfl) (by kernel_rfl) (by kernel_rfl) (fun _ _ _ h => h) (Or.inl ⟨by kernel_rfl, fun w _ => by kernel_rfl⟩) hHeld ?_
  refine wpAnyH_take (i := 62) (v := .agg #[.bool true, .int .i64 7, .int .i64 0, .int .i64 4]) rfl (by kernel_rfl) (by kernel_rfl) (by kernel_rfl) (fun _ _ _ h => h) (Or.inl ⟨by kernel_rfl, by intro w hSw; obtain ⟨s0, s1, s2, s3, s4, s5, s6, s7, s8, s9, s10, s11, s12, s13, s14, s15, s16, s17, s18, s19, s20, s21, s22, s23, s24, s25, s26, s27⟩ := hSw; go_simp⟩) hHeld ?_
  refine wpAnyH_ready (rs := [63]) (by kernel_rfl) (by simp) ?_
  refine AllReadyH.cons rfl (fun K hK => ?_) AllReadyH.nil
  go_simp
  refine (m_any _ 7 0).mono ?_
  rintro e y10 ⟨rfl, hk⟩
  have K10 := hid (K9.out.trans hk)
  clear hk
  go_simp
  refine hK.out _ _ (HST.out _ K10.out) (fun hHeld => ?_)
  refine wpAnyH_take (i := 64) (v := .agg #[.bool true, .int .i64 7, .int .i64 0, .int .i64 4]) rfl (by kernel_rfl) (by kernel_rfl) (by kernel_rfl) (fun _ _ _ h => h) (Or.inl ⟨by kernel_rfl, fun w _ => by go_simp⟩) hHeld ?_
  refine wpAnyH_take (i := 65) (v := .bool true) rfl (by kernel_rfl) (by kernel_rfl) (by kernel_rfl) (fun _ _ _ h => h) (Or.inl ⟨by kernel_rfl, fun w _ => by have q45 := eql45; go_simp⟩) hHeld ?_
  refine wpAnyH_take (i := 66) (v := .bool true) rfl (by kernel_rfl) (by kernel_rfl) (by kernel_rfl) (fun _ _ _ h => h) (Or.inl ⟨by kernel_rfl, fun w _ => by go_simp⟩) hHeld ?_
  refine wpAnyH_take (i := 67) (v := .bool true) rfl (by kernel_rfl) (by kernel_rfl) (by kernel_rfl) (fun _ _ _ h => h) (Or.inl ⟨by kernel_rfl, fun w _ => by kernel_rfl⟩) hHeld ?_
  refine wpAnyH_take (i := 68) (v := .agg #[.bool true, .int .i64 8, .int .i64 31, .int .i64 (-1)]) rfl (by kernel_rfl) (by kernel_rfl) (by kernel_rfl) (fun _ _ _ h => h) (Or.inl ⟨by kernel_rfl, by intro w hSw; obtain ⟨s0, s1, s2, s3, s4, s5, s6, s7, s8, s9, s10, s11, s12, s13, s14, s15, s16, s17, s18, s19, s20, s21, s22, s23, s24, s25, s26, s27⟩ := hSw; go_simp⟩) hHeld ?_
  refine wpAnyH_ready (rs := [69]) (by kernel_rfl) (by simp) ?_
  refine AllReadyH.cons rfl (fun K hK => ?_) AllReadyH.nil
  go_simp
  refine (m_any _ 8 31).mono ?_
  rintro e y11 ⟨rfl, hk⟩
  have K11 := hid (K10.out.trans hk)
  clear hk
  go_simp
  refine hK.out _ _ (HST.out _ K11.out) (fun hHeld => ?_)
  refine wpAnyH_take (i := 70) (v := .agg #[.bool true, .int .i64 8, .int .i64 31, .int .i64 (-1)]) rfl (by kernel_rfl) (by kernel_rfl) (by kernel_rfl) (fun _ _ _ h => h) (Or.inl ⟨by kernel_rfl, fun w _ => by go_simp⟩) hHeld ?_
  refine wpAnyH_take (i := 71) (v := .bool true) rfl (by kernel_rfl) (by kernel_rfl) (by kernel_rfl) (fun _ _ _ h => h) (Or.inl ⟨by kernel_rfl, fun w _ => by have q45 := eql45; go_simp⟩) hHeld ?_
  refine wpAnyH_take (i := 72) (v := .bool true) rfl (by kernel_rfl) (by kernel_rfl) (by kernel_rfl) (fun _ _ _ h => h) (Or.inl ⟨by kernel_rfl, fun w _ => by go_simp⟩) hHeld ?_
  refine wpAnyH_take (i := 73) (v := .bool true) rfl (by kernel_rfl) (by kernel_rfl) (by kernel_rfl) (fun _ _ _ h => h) (Or.inl ⟨by kernel_rfl, fun w _ => by kernel_rfl⟩) hHeld ?_
  refine wpAnyH_take (i := 74) (v := .pointer (some ⟨qb, 0, none⟩)) rfl (by kernel_rfl) (by kernel_rfl) (by kernel_rfl) (fun _ _ _ h => h) (Or.inl ⟨by kernel_rfl, fun w _ => by kernel_rfl⟩) hHeld ?_
  refine wpAnyH_ready (rs := [75]) (by kernel_rfl) (by simp) ?_
  refine AllReadyH.cons rfl (fun K hK => ?_) AllReadyH.nil
  go_simp
  refine (HLE.out _ K11.out).mono ?_
  rintro e y12 ⟨rfl, hk⟩
  have K12 := hid (K11.out.trans hk)
  clear hk
  go_simp
  refine hK.out _ _ (HST.out _ K12.out) (fun hHeld => ?_)
  refine wpAnyH_take (i := 76) (v := .bool true) rfl (by kernel_rfl) (by kernel_rfl) (by kernel_rfl) (fun _ _ _ h => h) (Or.inl ⟨by kernel_rfl, fun w _ => by go_simp⟩) hHeld ?_
  refine wpAnyH_take (i := 77) (v := .bool true) rfl (by kernel_rfl) (by kernel_rfl) (by kernel_rfl) (fun _ _ _ h => h) (Or.inl ⟨by kernel_rfl, fun w _ => by go_simp⟩) hHeld ?_
  refine wpAnyH_take (i := 78) (v := .bool true) rfl (by kernel_rfl) (by kernel_rfl) (by kernel_rfl) (fun _ _ _ h => h) (Or.inl ⟨by kernel_rfl, fun w _ => by kernel_rfl⟩) hHeld ?_
  refine wpAnyH_take (i := 79) (v := .pointer (some ⟨qb, 0, none⟩)) rfl (by kernel_rfl) (by kernel_rfl) (by kernel_rfl) (fun _ _ _ h => h) (Or.inl ⟨by kernel_rfl, fun w _ => by kernel_rfl⟩) hHeld ?_
  refine wpAnyH_ready (rs := [80]) (by kernel_rfl) (by simp) ?_
  refine AllReadyH.cons rfl (fun K hK => ?_) AllReadyH.nil
  go_simp
  refine (HRO.out _ K12.out).mono ?_
  rintro e y13 ⟨rfl, hk⟩
  have K13 := hid (K12.out.trans hk)
  clear hk
  go_simp
  refine hK.out _ _ (HST.out _ K13.out) (fun hHeld => ?_)
  refine wpAnyH_take (i := 81) (v := .bool true) rfl (by kernel_rfl) (by kernel_rfl) (by kernel_rfl) (fun _ _ _ h => h) (Or.inl ⟨by kernel_rfl, fun w _ => by go_simp⟩) hHeld ?_
  refine wpAnyH_take (i := 82) (v := .bool true) rfl (by kernel_rfl) (by kernel_rfl) (by kernel_rfl) (fun _ _ _ h => h) (Or.inl ⟨by kernel_rfl, fun w _ => by go_simp⟩) hHeld ?_
  refine wpAnyH_take (i := 83) (v := .bool true) rfl (by kernel_rfl) (by kernel_rfl) (by kernel_rfl) (fun _ _ _ h => h) (Or.inl ⟨by kernel_rfl, fun w _ => by kernel_rfl⟩) hHeld ?_
  refine wpAnyH_done (by kernel_rfl) ?_ _
  refine hKK _ _ (wp_ret ?_)
  exact bodyPost_ret (v := .bool true) (by kernel_rfl) rfl ⟨rfl, H15.out.kp.trans K13.out⟩
end Go.Proofs.Ytllkopekfanfaaa
