/- SpanBounds: the walk. -/
import Derived.Test.YtojdahgoapknjaaDoorKnownOk

namespace Go.Proofs.YtojdahgoapknjaaDoor
open Go.RowKit Go.Shelf
set_option linter.unusedVariables false

set_option maxRecDepth 100000 in
set_option maxHeartbeats 100000000 in
theorem spanBounds_walk (kn : KnownOk) (w : World) (h : Wd w) : Calls Tryd.prog 8 #[] w fun e w' => e = .returned (.bool true) ∧ Kp w w' [] := by
  have c1 := fun w => add_any w 2147483647 999999999 0 1
  have c2 := fun w => add_any w 2147483647 999999999 0 0
  have c3 := fun w => text_no w 0 1000000000 (by decide)
  have c4 := fun w => text_no w 2147483648 0 (by decide)
  have c5 := fun w => text_no w (-1) 0 (by decide)
  have c6 := fun w => text_no w 0 (-1) (by decide)
  have c7 := fun w => of6_any w 1099511627776
  have c8 := fun w => ticks_any w 1099511627 776000000
  have c9 := fun w => ticks_any w 1099511627 776000001
  have c10 := fun w => times_any w 0 1 9223372036854775807 ⟨by decide, by decide⟩
  have c11 := fun w => times_any w 0 0 9223372036854775807 ⟨by decide, by decide⟩
  have c12 := fun w => times_any w 2147483647 999999999 0 ⟨by decide, by decide⟩
  have c13 := fun w => times_any w 0 0 (-1) ⟨by decide, by decide⟩
  have c14 := fun w => times_any w 2147483647 999999999 1 ⟨by decide, by decide⟩
  simp only [show addP 2147483647 999999999 0 1 = (0, 0, 5) by decide] at c1
  simp only [show addP 2147483647 999999999 0 0 = (2147483647, 999999999, 0) by decide] at c2
  simp only [show ofP 1099511627776 = (1099511627, 776000000, 0) by decide] at c7
  simp only [show ticksP 1099511627 776000000 = (1099511627776, 0) by decide] at c8
  simp only [show ticksP 1099511627 776000001 = (0, 5) by decide] at c9
  simp only [show timesP 0 1 9223372036854775807 = (0, 0, 5) by decide] at c10
  simp only [show timesP 0 0 9223372036854775807 = (0, 0, 0) by decide] at c11
  simp only [show timesP 2147483647 999999999 0 = (0, 0, 0) by decide] at c12
  simp only [show timesP 0 0 (-1) = (0, 0, 2) by decide] at c13
  simp only [show timesP 2147483647 999999999 1 = (2147483647, 999999999, 0) by decide] at c14
  have hg := guard_sp
  have he := eql_sp
  have HW := hid h
  have HK := hid kn
  clear h kn
  have K0 := hid (Kp.alloc w (ob 2147483647 999999999) [])
  have NL := hid (bx_new w 2147483647 999999999)
  go_enter Tryd.func8, Tryd.ntmps8
  go_wp2_with fail
  refine (c1 _).mono ?_
  rintro e w1 ⟨rfl, k1⟩
  have K1 := hid (K0.out.trans k1)
  have Nlv1 := hid (NL.out.keep k1)
  clear K0 k1 NL
  have b0 := bx_new w1 (0) (0)
  have ka := Kp.alloc w1 (ob (0) (0)) []
  have K2 := hid (K1.out.trans ka)
  have Nlv2 := hid (Nlv1.out.keep ka)
  clear K1 ka Nlv1
  have Nxv3 := hid b0
  clear b0
  have x4 := Nlv2.out.c0
  have x5 := Nlv2.out.c1
  go_wp2_with fail
  clear x4 x5
  refine (c2 _).mono ?_
  rintro e w2 ⟨rfl, k1⟩
  have K6 := hid (K2.out.trans k1)
  have Nlv6 := hid (Nlv2.out.keep k1)
  clear K2 k1 Nlv2
  have b0 := bx_new w2 (2147483647) (999999999)
  have ka := Kp.alloc w2 (ob (2147483647) (999999999)) []
  have K7 := hid (K6.out.trans ka)
  have Nlv7 := hid (Nlv6.out.keep ka)
  clear K6 ka Nlv6
  have Nbv8 := hid b0
  clear b0
  go_wp2_with fail
  refine (c3 _).mono ?_
  rintro e w3 ⟨rfl, k1⟩
  have K9 := hid (K7.out.trans k1)
  have Nlv9 := hid (Nlv7.out.keep k1)
  have Nbv9 := hid (Nbv8.out.keep k1)
  clear K7 k1 Nlv7 Nbv8
  go_wp2_with fail
  refine (c4 _).mono ?_
  rintro e w4 ⟨rfl, k1⟩
  have K10 := hid (K9.out.trans k1)
  have Nlv10 := hid (Nlv9.out.keep k1)
  have Nbv10 := hid (Nbv9.out.keep k1)
  clear K9 k1 Nlv9 Nbv9
  go_wp2_with fail
  refine (c5 _).mono ?_
  rintro e w5 ⟨rfl, k1⟩
  have K11 := hid (K10.out.trans k1)
  have Nlv11 := hid (Nlv10.out.keep k1)
  have Nbv11 := hid (Nbv10.out.keep k1)
  clear K10 k1 Nlv10 Nbv10
  go_wp2_with fail
  refine (c6 _).mono ?_
  rintro e w6 ⟨rfl, k1⟩
  have K12 := hid (K11.out.trans k1)
  have Nlv12 := hid (Nlv11.out.keep k1)
  have Nbv12 := hid (Nbv11.out.keep k1)
  clear K11 k1 Nlv11 Nbv11
  go_wp2_with fail
  refine (c7 _).mono ?_
  rintro e w7 ⟨rfl, k1⟩
  have K13 := hid (K12.out.trans k1)
  have Nlv13 := hid (Nlv12.out.keep k1)
  have Nbv13 := hid (Nbv12.out.keep k1)
  clear K12 k1 Nlv12 Nbv12
  have b0 := bx_new w7 (1099511627) (776000000)
  have ka := Kp.alloc w7 (ob (1099511627) (776000000)) []
  have K14 := hid (K13.out.trans ka)
  have Nlv14 := hid (Nlv13.out.keep ka)
  have Nbv14 := hid (Nbv13.out.keep ka)
  clear K13 ka Nlv13 Nbv13
  have Nhv15 := hid b0
  clear b0
  have x16 := Nhv15.out.c0
  have x17 := Nhv15.out.c1
  go_wp2_with fail
  clear x16 x17
  refine (c8 _).mono ?_
  rintro e w8 ⟨rfl, k1⟩
  have K18 := hid (K14.out.trans k1)
  have Nlv18 := hid (Nlv14.out.keep k1)
  have Nbv18 := hid (Nbv14.out.keep k1)
  have Nhv18 := hid (Nhv15.out.keep k1)
  clear K14 k1 Nlv14 Nbv14 Nhv15
  have x19 := Nhv18.out.c0
  have x20 := Nhv18.out.c1
  go_wp2_with fail
  clear x19 x20
  refine (c9 _).mono ?_
  rintro e w9 ⟨rfl, k1⟩
  have K21 := hid (K18.out.trans k1)
  have Nlv21 := hid (Nlv18.out.keep k1)
  have Nbv21 := hid (Nbv18.out.keep k1)
  have Nhv21 := hid (Nhv18.out.keep k1)
  clear K18 k1 Nlv18 Nbv18 Nhv18
  go_wp2_with fail
  refine (c10 _).mono ?_
  rintro e w10 ⟨rfl, k1⟩
  have K22 := hid (K21.out.trans k1)
  have Nlv22 := hid (Nlv21.out.keep k1)
  have Nbv22 := hid (Nbv21.out.keep k1)
  clear K21 k1 Nlv21 Nbv21
  have b0 := bx_new w10 (0) (0)
  have ka := Kp.alloc w10 (ob (0) (0)) []
  have K23 := hid (K22.out.trans ka)
  have Nlv23 := hid (Nlv22.out.keep ka)
  have Nbv23 := hid (Nbv22.out.keep ka)
  clear K22 ka Nlv22 Nbv22
  have Nxv24 := hid b0
  clear b0
  go_wp2_with fail
  refine (c11 _).mono ?_
  rintro e w11 ⟨rfl, k1⟩
  have K25 := hid (K23.out.trans k1)
  have Nlv25 := hid (Nlv23.out.keep k1)
  have Nbv25 := hid (Nbv23.out.keep k1)
  clear K23 k1 Nlv23 Nbv23
  have b0 := bx_new w11 (0) (0)
  have ka := Kp.alloc w11 (ob (0) (0)) []
  have K26 := hid (K25.out.trans ka)
  have Nlv26 := hid (Nlv25.out.keep ka)
  have Nbv26 := hid (Nbv25.out.keep ka)
  clear K25 ka Nlv25 Nbv25
  have Nnv27 := hid b0
  clear b0
  have x28 := Nlv26.out.c0
  have x29 := Nlv26.out.c1
  go_wp2_with fail
  clear x28 x29
  refine (c12 _).mono ?_
  rintro e w12 ⟨rfl, k1⟩
  have K30 := hid (K26.out.trans k1)
  have Nlv30 := hid (Nlv26.out.keep k1)
  have Nbv30 := hid (Nbv26.out.keep k1)
  have Nnv30 := hid (Nnv27.out.keep k1)
  clear K26 k1 Nlv26 Nbv26 Nnv27
  have b0 := bx_new w12 (0) (0)
  have ka := Kp.alloc w12 (ob (0) (0)) []
  have K31 := hid (K30.out.trans ka)
  have Nlv31 := hid (Nlv30.out.keep ka)
  have Nbv31 := hid (Nbv30.out.keep ka)
  have Nnv31 := hid (Nnv30.out.keep ka)
  clear K30 ka Nlv30 Nbv30 Nnv30
  have Npv32 := hid b0
  clear b0
  go_wp2_with fail
  refine (c13 _).mono ?_
  rintro e w13 ⟨rfl, k1⟩
  have K33 := hid (K31.out.trans k1)
  have Nlv33 := hid (Nlv31.out.keep k1)
  have Nbv33 := hid (Nbv31.out.keep k1)
  have Nnv33 := hid (Nnv31.out.keep k1)
  have Npv33 := hid (Npv32.out.keep k1)
  clear K31 k1 Nlv31 Nbv31 Nnv31 Npv32
  have b0 := bx_new w13 (0) (0)
  have ka := Kp.alloc w13 (ob (0) (0)) []
  have K34 := hid (K33.out.trans ka)
  have Nlv34 := hid (Nlv33.out.keep ka)
  have Nbv34 := hid (Nbv33.out.keep ka)
  have Nnv34 := hid (Nnv33.out.keep ka)
  have Npv34 := hid (Npv33.out.keep ka)
  clear K33 ka Nlv33 Nbv33 Nnv33 Npv33
  have Nxv35 := hid b0
  clear b0
  have x36 := Nlv34.out.c0
  have x37 := Nlv34.out.c1
  go_wp2_with fail
  clear x36 x37
  refine (c14 _).mono ?_
  rintro e w14 ⟨rfl, k1⟩
  have K38 := hid (K34.out.trans k1)
  have Nlv38 := hid (Nlv34.out.keep k1)
  have Nbv38 := hid (Nbv34.out.keep k1)
  have Nnv38 := hid (Nnv34.out.keep k1)
  have Npv38 := hid (Npv34.out.keep k1)
  clear K34 k1 Nlv34 Nbv34 Nnv34 Npv34
  have b0 := bx_new w14 (2147483647) (999999999)
  have ka := Kp.alloc w14 (ob (2147483647) (999999999)) []
  have K39 := hid (K38.out.trans ka)
  have Nlv39 := hid (Nlv38.out.keep ka)
  have Nbv39 := hid (Nbv38.out.keep ka)
  have Nnv39 := hid (Nnv38.out.keep ka)
  have Npv39 := hid (Npv38.out.keep ka)
  clear K38 ka Nlv38 Nbv38 Nnv38 Npv38
  have Nsv40 := hid b0
  clear b0
  have x41 := Nlv39.out.c0
  have x42 := Nlv39.out.c1
  have x43 := Nbv39.out.c0
  have x44 := Nbv39.out.c1
  have x45 := Nnv39.out.c0
  have x46 := Nnv39.out.c1
  have x47 := Npv39.out.c0
  have x48 := Npv39.out.c1
  have x49 := Nsv40.out.c0
  have x50 := Nsv40.out.c1
  go_wp2_with (go_at_call 17; refine (num_any _ _).mono ?_; rintro e ww ⟨rfl, rfl⟩)
  refine (HK.out _ (HW.out.keep K39.out)).mono ?_
  rintro e wz ⟨rfl, k1⟩
  have KZ := hid (K39.out.trans k1)
  clear k1
  go_wp2_with fail
  go_ret
  exact ⟨rfl, KZ.out⟩
end Go.Proofs.YtojdahgoapknjaaDoor
