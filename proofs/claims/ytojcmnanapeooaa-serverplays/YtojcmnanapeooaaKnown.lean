/- known: the chapter's rows. -/
import Derived.Test.YtojcmnanapeooaaKn
namespace Go.Proofs.Ytojcmnanapeooaa
open Go.RowKit Go.Shelf

set_option maxRecDepth 100000 in
set_option maxHeartbeats 4000000 in
theorem known_any (w : World) : Calls Try.prog 11 #[] w fun e w' => e = .returned (.bool true) ∧ Kp w w' [] := by
  go_enter Try.func11, Try.ntmps11
  go_wp2_with fail
  refine (kn_new w 3 10 2 (by decide)).mono ?_
  rintro e w1 ⟨rfl, hl⟩
  have H0 := hid hl
  clear hl
  go_wp2_with fail
  refine (H0.out.start 5).mono ?_
  rintro e w2 ⟨rfl, hl⟩
  rw [kf1]
  have H1 : Hid (Kn w w2 w.heap.size ks1) := hl
  clear hl H0
  go_wp2_with fail
  refine H1.out.use.mono ?_
  rintro e w3 ⟨rfl, hl⟩
  rw [kf2.1, kf2.2]
  have H2 : Hid (Kn w w3 w.heap.size ks2) := hl
  clear hl H1
  go_wp2_with fail
  refine H2.out.use.mono ?_
  rintro e w4 ⟨rfl, hl⟩
  rw [kf3.1, kf3.2]
  have H3 : Hid (Kn w w4 w.heap.size ks3) := hl
  clear hl H2
  go_wp2_with fail
  refine (H3.out.stop 9).mono ?_
  rintro e w5 ⟨rfl, hl⟩
  rw [kf4]
  have H4 : Hid (Kn w w5 w.heap.size ks4) := hl
  clear hl H3
  go_wp2_with fail
  refine H4.out.pieces.mono ?_
  rintro e w6 ⟨v6, rfl, hd, hl, -⟩
  rw [kf4p.1] at hd
  obtain ⟨a6, c6, hv6⟩ := hd.slice
  have hv6 : v6 = .slice a6 1 c6 := hv6
  subst hv6
  have H5 := hid hl
  have D5 := hid hd
  clear hl H4 hd
  go_wp2_with fail
  have k1 := Kp.alloc w6 (.cells #[.int .i64 15, .int .i64 2] 45) []
  refine (pcs_any _ _ _ _ _ [(15, 2)] [(15, 2)] (D5.out.keep k1) (Dr.one w6 15 2) (by simp)).mono ?_
  rintro e w7 ⟨rfl, n7, hw7⟩
  rw [show decide (([(15, 2)] : List Dl) = [(15, 2)]) = true from by decide]
  have H6 := hid (show Kn w w7 w.heap.size ks4 by rw [hw7]; exact H5.out.same (k1.trans (Kp.drewN _ _ _)))
  clear k1 hw7 H5 D5
  go_wp2_with fail
  refine H6.out.left.mono ?_
  rintro e w8 ⟨rfl, hw8⟩
  have hw8 := hw8.symm
  subst hw8
  rw [kf4p.2]
  go_wp2_with fail
  refine (H6.out.start 11).mono ?_
  rintro e w9 ⟨rfl, hl⟩
  rw [kf5]
  have H7 : Hid (Kn w w9 w.heap.size ks5) := hl
  clear hl H6
  go_wp2_with fail
  refine H7.out.use.mono ?_
  rintro e w10 ⟨rfl, hl⟩
  rw [kf6.1, kf6.2]
  have H8 : Hid (Kn w w10 w.heap.size ks6) := hl
  clear hl H7
  go_wp2_with fail
  refine H8.out.high.mono ?_
  rintro e w11 ⟨rfl, hl, -⟩
  rw [kf6p.1]
  have H9 := hid hl
  clear hl H8
  go_wp2_with fail
  refine H9.out.pieces.mono ?_
  rintro e w12 ⟨v6, rfl, hd, hl, -⟩
  rw [kf6p.2] at hd
  obtain ⟨a6, c6, hv6⟩ := hd.slice
  have hv6 : v6 = .slice a6 2 c6 := hv6
  subst hv6
  have H10 := hid hl
  have D10 := hid hd
  clear hl H9 hd
  go_wp2_with fail
  have k1 := Kp.alloc w12 (.cells #[.int .i64 15, .int .i64 2, .int .i64 21, .int .i64 1] 45) []
  refine (pcs_any _ _ _ _ _ [(15, 2), (21, 1)] [(15, 2), (21, 1)] (D10.out.keep k1) (Dr.two w12 15 2 21 1) (by simp)).mono ?_
  rintro e w13 ⟨rfl, n7, hw7⟩
  rw [show decide (([(15, 2), (21, 1)] : List Dl) = [(15, 2), (21, 1)]) = true from by decide]
  have H11 := hid (show Kn w w13 w.heap.size ks6 by rw [hw7]; exact H10.out.same (k1.trans (Kp.drewN _ _ _)))
  clear k1 hw7 H10 D10
  go_wp2_with fail
  refine (H11.out.due 14).mono ?_
  rintro e w14 ⟨rfl, hl⟩
  rw [kf7]
  have H12 : Hid (Kn w w14 w.heap.size ks7) := hl
  clear hl H11
  go_wp2_with fail
  refine (H12.out.due 15).mono ?_
  rintro e w15 ⟨rfl, hl⟩
  rw [kf8.1]
  have H13 : Hid (Kn w w15 w.heap.size ks8) := hl
  clear hl H12
  go_wp2_with fail
  refine H13.out.high.mono ?_
  rintro e w16 ⟨rfl, hl, -⟩
  rw [kf8.2]
  have H14 := hid hl
  clear hl H13
  go_wp2_with fail
  refine (H14.out.due 30).mono ?_
  rintro e w17 ⟨rfl, hl⟩
  rw [kf9.1]
  have H15 : Hid (Kn w w17 w.heap.size ks9) := hl
  clear hl H14
  go_wp2_with fail
  refine H15.out.left.mono ?_
  rintro e w18 ⟨rfl, hw8⟩
  have hw8 := hw8.symm
  subst hw8
  rw [kf9.2.1]
  go_wp2_with fail
  refine (new_no _ 4 3 1 (by decide)).mono ?_
  rintro e w19 ⟨rfl, hw8⟩
  have hw8 := hw8.symm
  subst hw8
  go_wp2_with fail
  refine (new_no _ 0 3 1 (by decide)).mono ?_
  rintro e w20 ⟨rfl, hw8⟩
  have hw8 := hw8.symm
  subst hw8
  go_wp2_with fail
  refine H15.out.use.mono ?_
  rintro e w21 ⟨rfl, hl⟩
  rw [kf9.2.2.1, kf9.2.2.2]
  have HE := hid hl.kp
  clear hl H15
  go_wp2_with fail
  go_ret
  exact ⟨rfl, HE.out⟩
end Go.Proofs.Ytojcmnanapeooaa
