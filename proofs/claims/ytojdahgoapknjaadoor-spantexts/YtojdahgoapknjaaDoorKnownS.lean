/- known: the chapter's rows. -/
import Derived.Test.YtojdahgoapknjaaDoorParseNo
import Derived.Test.YtojdahgoapknjaaDoorScript
import Derived.Test.YtojdahgoapknjaaDoorKnownOk
namespace Go.Proofs.YtojdahgoapknjaaDoor
open Go.RowKit Go.Shelf
set_option linter.unusedVariables false

theorem Bx.drewK {w : World} {p : Nat} {s n : Int} (h : Bx w p s n) : Bx w.drew p s n := h
theorem txt15 : txt 1 500000000 = [49, 46, 53, 48, 48, 48, 48, 48, 48, 48, 48] := by
  have h1 : Lib.itoa 1 = [49] := by simp [Lib.itoa, Lib.decDigits]
  have h2 : Lib.itoa (1000000000 + 500000000) = [49, 53, 48, 48, 48, 48, 48, 48, 48, 48] := by simp [Lib.itoa, Lib.decDigits]
  unfold txt
  rw [h1, h2]
  rfl
theorem early1 : early [49, 46, 53] = true := by decide +kernel
theorem early2 : early [48, 49, 46, 53, 48, 48, 48, 48, 48, 48, 48, 48] = true := by decide +kernel

set_option maxRecDepth 100000 in
set_option maxHeartbeats 100000000 in
theorem known_any (w : World) (h : Wd w) : Calls Tryd.prog 20 #[] w fun e w' => e = .returned (.bool true) ∧ Kp w w' [] := by
  have c1 := fun w => add_any w 1 500000000 0 600000000
  have c2 := fun w => sub_any w 1 0 0 1
  have c3 := fun w => sub_any w 1 0 2 0
  have c4 := fun w => ticks_any w 0 1
  have c5 := fun w => ticks_any w 0 1000000
  have c6 := fun w => ticks_any w 1 1000100
  have c7 := fun w => ticks_any w 0 0
  have c8 := fun w => of6_any w 1500
  have c9 := fun w h => text_ok w 1 500000000 (by decide) h
  have c10 := fun w h => parse_early w [49, 46, 53] (by decide) h early1
  have c11 := fun w h => parse_early w [48, 49, 46, 53, 48, 48, 48, 48, 48, 48, 48, 48] (by decide) h early2
  have c12 := fun w => ticks_any w 2147483647 0
  have c13 := fun w => of6_any w 1099511627777
  have c14 := fun w => times_any w 1 500000000 3 ⟨by decide, by decide⟩
  simp only [show addP 1 500000000 0 600000000 = (2, 100000000, 0) by decide] at c1
  simp only [show subP 1 0 0 1 = (0, 999999999, 0) by decide] at c2
  simp only [show subP 1 0 2 0 = (0, 0, 2) by decide] at c3
  simp only [show ticksP 0 1 = (1, 0) by decide] at c4
  simp only [show ticksP 0 1000000 = (1, 0) by decide] at c5
  simp only [show ticksP 1 1000100 = (1002, 0) by decide] at c6
  simp only [show ticksP 0 0 = (0, 0) by decide] at c7
  simp only [show ofP 1500 = (1, 500000000, 0) by decide] at c8
  simp only [txE, txt15] at c9
  simp only [show ticksP 2147483647 0 = (0, 5) by decide] at c12
  simp only [show ofP 1099511627777 = (0, 0, 2) by decide] at c13
  simp only [show timesP 1 500000000 3 = (4, 500000000, 0) by decide] at c14
  have hs : ((⟨#[49, 46, 53, 48, 48, 48, 48, 48, 48, 48, 48]⟩ : ByteArray) == ⟨#[49, 46, 53, 48, 48, 48, 48, 48, 48, 48, 48]⟩) = true := by rw [beq_toListBytes, ByteArray.toList_eq]; rfl
  have hg := guard_sp
  have he := eql_sp
  have HW := hid h
  clear h
  have K0 := hid (Kp.refl w [])
  go_enter Tryd.func20, Tryd.ntmps20
  go_wp2_with fail
  refine (half_any _ 1).mono ?_
  rintro e w1 ⟨rfl, k1⟩
  have K1 := hid (K0.out.trans k1)
  clear K0 k1
  go_wp2_with fail
  refine (c1 _).mono ?_
  rintro e w2 ⟨rfl, k1⟩
  have K2 := hid (K1.out.trans k1)
  clear K1 k1
  have b0 := bx_new w2 (2) (100000000)
  have ka := Kp.alloc w2 (ob (2) (100000000)) []
  have K3 := hid (K2.out.trans ka)
  clear K2 ka
  have Nav4 := hid b0
  clear b0
  go_wp2_with fail
  refine (c2 _).mono ?_
  rintro e w3 ⟨rfl, k1⟩
  have K5 := hid (K3.out.trans k1)
  have Nav5 := hid (Nav4.out.keep k1)
  clear K3 k1 Nav4
  have b0 := bx_new w3 (0) (999999999)
  have ka := Kp.alloc w3 (ob (0) (999999999)) []
  have K6 := hid (K5.out.trans ka)
  have Nav6 := hid (Nav5.out.keep ka)
  clear K5 ka Nav5
  have Nbv7 := hid b0
  clear b0
  go_wp2_with fail
  refine (c3 _).mono ?_
  rintro e w4 ⟨rfl, k1⟩
  have K8 := hid (K6.out.trans k1)
  have Nav8 := hid (Nav6.out.keep k1)
  have Nbv8 := hid (Nbv7.out.keep k1)
  clear K6 k1 Nav6 Nbv7
  have b0 := bx_new w4 (0) (0)
  have ka := Kp.alloc w4 (ob (0) (0)) []
  have K9 := hid (K8.out.trans ka)
  have Nav9 := hid (Nav8.out.keep ka)
  have Nbv9 := hid (Nbv8.out.keep ka)
  clear K8 ka Nav8 Nbv8
  have Ncv10 := hid b0
  clear b0
  go_wp2_with fail
  refine (c4 _).mono ?_
  rintro e w5 ⟨rfl, k1⟩
  have K11 := hid (K9.out.trans k1)
  have Nav11 := hid (Nav9.out.keep k1)
  have Nbv11 := hid (Nbv9.out.keep k1)
  clear K9 k1 Nav9 Nbv9
  go_wp2_with fail
  refine (c5 _).mono ?_
  rintro e w6 ⟨rfl, k1⟩
  have K12 := hid (K11.out.trans k1)
  have Nav12 := hid (Nav11.out.keep k1)
  have Nbv12 := hid (Nbv11.out.keep k1)
  clear K11 k1 Nav11 Nbv11
  go_wp2_with fail
  refine (c6 _).mono ?_
  rintro e w7 ⟨rfl, k1⟩
  have K13 := hid (K12.out.trans k1)
  have Nav13 := hid (Nav12.out.keep k1)
  have Nbv13 := hid (Nbv12.out.keep k1)
  clear K12 k1 Nav12 Nbv12
  go_wp2_with fail
  refine (c7 _).mono ?_
  rintro e w8 ⟨rfl, k1⟩
  have K14 := hid (K13.out.trans k1)
  have Nav14 := hid (Nav13.out.keep k1)
  have Nbv14 := hid (Nbv13.out.keep k1)
  clear K13 k1 Nav13 Nbv13
  go_wp2_with fail
  refine (c8 _).mono ?_
  rintro e w9 ⟨rfl, k1⟩
  have K15 := hid (K14.out.trans k1)
  have Nav15 := hid (Nav14.out.keep k1)
  have Nbv15 := hid (Nbv14.out.keep k1)
  clear K14 k1 Nav14 Nbv14
  have b0 := bx_new w9 (1) (500000000)
  have ka := Kp.alloc w9 (ob (1) (500000000)) []
  have K16 := hid (K15.out.trans ka)
  have Nav16 := hid (Nav15.out.keep ka)
  have Nbv16 := hid (Nbv15.out.keep ka)
  clear K15 ka Nav15 Nbv15
  have Nnv17 := hid b0
  clear b0
  have x18 := Nnv17.out.c0
  have x19 := Nnv17.out.c1
  go_wp2_with fail
  clear x18 x19
  refine (c9 _ (HW.out.keep K16.out)).mono ?_
  rintro e w10 ⟨rfl, k1⟩
  have K20 := hid (K16.out.trans k1)
  have Nav20 := hid (Nav16.out.keep k1)
  have Nbv20 := hid (Nbv16.out.keep k1)
  have Nnv20 := hid (Nnv17.out.keep k1)
  clear K16 k1 Nav16 Nbv16 Nnv17
  go_wp2_with fail
  refine (c10 _ (HW.out.keep K20.out)).mono ?_
  rintro e w11 ⟨rfl, k1⟩
  have K21 := hid (K20.out.trans k1)
  have Nav21 := hid (Nav20.out.keep k1)
  have Nbv21 := hid (Nbv20.out.keep k1)
  have Nnv21 := hid (Nnv20.out.keep k1)
  clear K20 k1 Nav20 Nbv20 Nnv20
  have b0 := bx_new w11 (0) (0)
  have ka := Kp.alloc w11 (ob (0) (0)) []
  have K22 := hid (K21.out.trans ka)
  have Nav22 := hid (Nav21.out.keep ka)
  have Nbv22 := hid (Nbv21.out.keep ka)
  have Nnv22 := hid (Nnv21.out.keep ka)
  clear K21 ka Nav21 Nbv21 Nnv21
  have Ndv23 := hid b0
  clear b0
  go_wp2_with fail
  refine (c11 _ (HW.out.keep K22.out)).mono ?_
  rintro e w12 ⟨rfl, k1⟩
  have K24 := hid (K22.out.trans k1)
  have Nav24 := hid (Nav22.out.keep k1)
  have Nbv24 := hid (Nbv22.out.keep k1)
  have Nnv24 := hid (Nnv22.out.keep k1)
  clear K22 k1 Nav22 Nbv22 Nnv22
  have b0 := bx_new w12 (0) (0)
  have ka := Kp.alloc w12 (ob (0) (0)) []
  have K25 := hid (K24.out.trans ka)
  have Nav25 := hid (Nav24.out.keep ka)
  have Nbv25 := hid (Nbv24.out.keep ka)
  have Nnv25 := hid (Nnv24.out.keep ka)
  clear K24 ka Nav24 Nbv24 Nnv24
  have Ndv26 := hid b0
  clear b0
  go_wp2_with fail
  refine (c12 _).mono ?_
  rintro e w13 ⟨rfl, k1⟩
  have K27 := hid (K25.out.trans k1)
  have Nav27 := hid (Nav25.out.keep k1)
  have Nbv27 := hid (Nbv25.out.keep k1)
  have Nnv27 := hid (Nnv25.out.keep k1)
  clear K25 k1 Nav25 Nbv25 Nnv25
  go_wp2_with fail
  refine (c13 _).mono ?_
  rintro e w14 ⟨rfl, k1⟩
  have K28 := hid (K27.out.trans k1)
  have Nav28 := hid (Nav27.out.keep k1)
  have Nbv28 := hid (Nbv27.out.keep k1)
  have Nnv28 := hid (Nnv27.out.keep k1)
  clear K27 k1 Nav27 Nbv27 Nnv27
  have b0 := bx_new w14 (0) (0)
  have ka := Kp.alloc w14 (ob (0) (0)) []
  have K29 := hid (K28.out.trans ka)
  have Nav29 := hid (Nav28.out.keep ka)
  have Nbv29 := hid (Nbv28.out.keep ka)
  have Nnv29 := hid (Nnv28.out.keep ka)
  clear K28 ka Nav28 Nbv28 Nnv28
  have Ndv30 := hid b0
  clear b0
  go_wp2_with fail
  refine (half_any _ 1).mono ?_
  rintro e w15 ⟨rfl, k1⟩
  have K31 := hid (K29.out.trans k1)
  have Nav31 := hid (Nav29.out.keep k1)
  have Nbv31 := hid (Nbv29.out.keep k1)
  have Nnv31 := hid (Nnv29.out.keep k1)
  clear K29 k1 Nav29 Nbv29 Nnv29
  go_wp2_with fail
  refine (c14 _).mono ?_
  rintro e w16 ⟨rfl, k1⟩
  have K32 := hid (K31.out.trans k1)
  have Nav32 := hid (Nav31.out.keep k1)
  have Nbv32 := hid (Nbv31.out.keep k1)
  have Nnv32 := hid (Nnv31.out.keep k1)
  clear K31 k1 Nav31 Nbv31 Nnv31
  have b0 := bx_new w16 (4) (500000000)
  have ka := Kp.alloc w16 (ob (4) (500000000)) []
  have K33 := hid (K32.out.trans ka)
  have Nav33 := hid (Nav32.out.keep ka)
  have Nbv33 := hid (Nbv32.out.keep ka)
  have Nnv33 := hid (Nnv32.out.keep ka)
  clear K32 ka Nav32 Nbv32 Nnv32
  have Nvv34 := hid b0
  clear b0
  have x35 := Nav33.out.c0
  have x36 := Nav33.out.c1
  have x37 := Nbv33.out.c0
  have x38 := Nbv33.out.c1
  have x39 := Nnv33.out.c0
  have x40 := Nnv33.out.c1
  have x41 := Nvv34.out.c0
  have x42 := Nvv34.out.c1
  clear x35 x36 x37 x38 x39 x40 x41 x42
  go_wp2_with fail
  have KF := hid K33.out
  have Za := hid (show Bx (w16.alloc (ob 4 500000000)) w2.heap.size 2 100000000 from Nav33.out)
  have Zb := hid (show Bx (w16.alloc (ob 4 500000000)) w3.heap.size 0 999999999 from Nbv33.out)
  have Zn := hid (show Bx (w16.alloc (ob 4 500000000)) w9.heap.size 1 500000000 from Nnv33.out)
  have Zv := hid (show Bx (w16.alloc (ob 4 500000000)) w16.heap.size 4 500000000 from Nvv34.out)
  clear K33 Nav33 Nbv33 Nnv33 Nvv34
  obtain ⟨wz, hwz⟩ : ∃ wz, w16.alloc (ob 4 500000000) = wz := ⟨_, rfl⟩
  rw [hwz] at KF Za Zb Zn Zv
  simp only [hwz]
  obtain ⟨pa, hpa⟩ : ∃ pa, w2.heap.size = pa := ⟨_, rfl⟩
  rw [hpa] at Za
  obtain ⟨pb, hpb⟩ : ∃ pb, w3.heap.size = pb := ⟨_, rfl⟩
  rw [hpb] at Zb
  obtain ⟨pn, hpn⟩ : ∃ pn, w9.heap.size = pn := ⟨_, rfl⟩
  rw [hpn] at Zn
  obtain ⟨pv, hpv⟩ : ∃ pv, w16.heap.size = pv := ⟨_, rfl⟩
  rw [hpv] at Zv
  simp only [hpa, hpb, hpn, hpv]
  clear hwz hpa hpb hpn hpv c1 c2 c3 c4 c5 c6 c7 c8 c9 c10 c11 c12 c13 c14 HW
  rename_i QQ KK hKK
  refine wp_region_held_drew (S := fun W : World => Bx W pa 2 100000000 ∧ Bx W pb 0 999999999 ∧ Bx W pn 1 500000000 ∧ Bx W pv 4 500000000) (by kernel_rfl) ⟨Za.out.drewK, Zb.out.drewK, Zn.out.drewK, Zv.out.drewK⟩ (fun hHeld => ?_)
  refine wpAnyH_take (i := 0) (v := sp 2 100000000) rfl (by decide +kernel) (by decide +kernel) (by decide +kernel) (fun _ _ _ h => h) (load_yields (k := 1) (p := pa) rfl (by kernel_rfl) (by kernel_rfl) (fun w h => h.1)) hHeld ?_
  refine wpAnyH_take (i := 1) (v := sp 2 100000000) rfl (by decide +kernel) (by decide +kernel) (by decide +kernel) (fun _ _ _ h => h) (Or.inl ⟨by kernel_rfl, fun w _ => by kernel_rfl⟩) hHeld ?_
  refine wpAnyH_take (i := 2) (v := .bool true) rfl (by decide +kernel) (by decide +kernel) (by decide +kernel) (fun _ _ _ h => h) (Or.inl ⟨by kernel_rfl, fun w _ => by kernel_rfl⟩) hHeld ?_
  refine wpAnyH_take (i := 3) (v := .bool true) rfl (by decide +kernel) (by decide +kernel) (by decide +kernel) (fun _ _ _ h => h) (Or.inl ⟨by kernel_rfl, fun w _ => by kernel_rfl⟩) hHeld ?_
  refine wpAnyH_take (i := 4) (v := sp 0 999999999) rfl (by decide +kernel) (by decide +kernel) (by decide +kernel) (fun _ _ _ h => h) (load_yields (k := 3) (p := pb) rfl (by kernel_rfl) (by kernel_rfl) (fun w h => h.2.1)) hHeld ?_
  refine wpAnyH_take (i := 5) (v := sp 0 999999999) rfl (by decide +kernel) (by decide +kernel) (by decide +kernel) (fun _ _ _ h => h) (Or.inl ⟨by kernel_rfl, fun w _ => by kernel_rfl⟩) hHeld ?_
  refine wpAnyH_take (i := 6) (v := .bool true) rfl (by decide +kernel) (by decide +kernel) (by decide +kernel) (fun _ _ _ h => h) (Or.inl ⟨by kernel_rfl, fun w _ => by kernel_rfl⟩) hHeld ?_
  refine wpAnyH_take (i := 7) (v := .bool true) rfl (by decide +kernel) (by decide +kernel) (by decide +kernel) (fun _ _ _ h => h) (Or.inl ⟨by kernel_rfl, fun w _ => by kernel_rfl⟩) hHeld ?_
  refine wpAnyH_take (i := 8) (v := .bool true) rfl (by decide +kernel) (by decide +kernel) (by decide +kernel) (fun _ _ _ h => h) (Or.inl ⟨by kernel_rfl, fun w _ => by kernel_rfl⟩) hHeld ?_
  refine wpAnyH_take (i := 9) (v := .int .i64 0) rfl (by decide +kernel) (by decide +kernel) (by decide +kernel) (fun _ _ _ h => h) (Or.inl ⟨by kernel_rfl, fun w _ => by kernel_rfl⟩) hHeld ?_
  refine wpAnyH_take (i := 11) (v := .int .i64 0) rfl (by decide +kernel) (by decide +kernel) (by decide +kernel) (fun _ _ _ h => h) (Or.inl ⟨by kernel_rfl, fun w _ => by kernel_rfl⟩) hHeld ?_
  refine wpAnyH_take (i := 14) (v := .int .i64 0) rfl (by decide +kernel) (by decide +kernel) (by decide +kernel) (fun _ _ _ h => h) (Or.inl ⟨by kernel_rfl, fun w _ => by kernel_rfl⟩) hHeld ?_
  refine wpAnyH_take (i := 17) (v := .int .i64 0) rfl (by decide +kernel) (by decide +kernel) (by decide +kernel) (fun _ _ _ h => h) (Or.inl ⟨by kernel_rfl, fun w _ => by kernel_rfl⟩) hHeld ?_
  refine wpAnyH_take (i := 20) (v := .int .i64 0) rfl (by decide +kernel) (by decide +kernel) (by decide +kernel) (fun _ _ _ h => h) (Or.inl ⟨by kernel_rfl, fun w _ => by kernel_rfl⟩) hHeld ?_
  refine wpAnyH_take (i := 23) (v := .int .i64 0) rfl (by decide +kernel) (by decide +kernel) (by decide +kernel) (fun _ _ _ h => h) (Or.inl ⟨by kernel_rfl, fun w _ => by kernel_rfl⟩) hHeld ?_
  refine wpAnyH_take (i := 26) (v := .int .i64 0) rfl (by decide +kernel) (by decide +kernel) (by decide +kernel) (fun _ _ _ h => h) (Or.inl ⟨by kernel_rfl, fun w _ => by kernel_rfl⟩) hHeld ?_
  refine wpAnyH_take (i := 29) (v := .int .i64 0) rfl (by decide +kernel) (by decide +kernel) (by decide +kernel) (fun _ _ _ h => h) (Or.inl ⟨by kernel_rfl, fun w _ => by kernel_rfl⟩) hHeld ?_
  refine wpAnyH_take (i := 32) (v := .int .i64 0) rfl (by decide +kernel) (by decide +kernel) (by decide +kernel) (fun _ _ _ h => h) (Or.inl ⟨by kernel_rfl, fun w _ => by kernel_rfl⟩) hHeld ?_
  refine num_step (i := 10) (k := 107) (e := 0) (by decide +kernel) rfl rfl (by kernel_rfl) (by kernel_rfl) hHeld ?_
  refine num_step (i := 12) (k := 109) (e := 0) (by decide +kernel) rfl rfl (by kernel_rfl) (by kernel_rfl) hHeld ?_
  refine wpAnyH_take (i := 13) (v := .int .i64 0) rfl (by decide +kernel) (by decide +kernel) (by decide +kernel) (fun _ _ _ h => h) (Or.inl ⟨by kernel_rfl, fun w _ => by kernel_rfl⟩) hHeld ?_
  refine num_step (i := 15) (k := 112) (e := 0) (by decide +kernel) rfl rfl (by kernel_rfl) (by kernel_rfl) hHeld ?_
  refine wpAnyH_take (i := 16) (v := .int .i64 0) rfl (by decide +kernel) (by decide +kernel) (by decide +kernel) (fun _ _ _ h => h) (Or.inl ⟨by kernel_rfl, fun w _ => by kernel_rfl⟩) hHeld ?_
  refine num_step (i := 18) (k := 115) (e := 0) (by decide +kernel) rfl rfl (by kernel_rfl) (by kernel_rfl) hHeld ?_
  refine wpAnyH_take (i := 19) (v := .int .i64 0) rfl (by decide +kernel) (by decide +kernel) (by decide +kernel) (fun _ _ _ h => h) (Or.inl ⟨by kernel_rfl, fun w _ => by kernel_rfl⟩) hHeld ?_
  refine num_step (i := 21) (k := 118) (e := 0) (by decide +kernel) rfl rfl (by kernel_rfl) (by kernel_rfl) hHeld ?_
  refine wpAnyH_take (i := 22) (v := .int .i64 0) rfl (by decide +kernel) (by decide +kernel) (by decide +kernel) (fun _ _ _ h => h) (Or.inl ⟨by kernel_rfl, fun w _ => by kernel_rfl⟩) hHeld ?_
  refine num_step (i := 24) (k := 121) (e := 0) (by decide +kernel) rfl rfl (by kernel_rfl) (by kernel_rfl) hHeld ?_
  refine wpAnyH_take (i := 25) (v := .int .i64 0) rfl (by decide +kernel) (by decide +kernel) (by decide +kernel) (fun _ _ _ h => h) (Or.inl ⟨by kernel_rfl, fun w _ => by kernel_rfl⟩) hHeld ?_
  refine num_step (i := 27) (k := 124) (e := 0) (by decide +kernel) rfl rfl (by kernel_rfl) (by kernel_rfl) hHeld ?_
  refine wpAnyH_take (i := 28) (v := .int .i64 0) rfl (by decide +kernel) (by decide +kernel) (by decide +kernel) (fun _ _ _ h => h) (Or.inl ⟨by kernel_rfl, fun w _ => by kernel_rfl⟩) hHeld ?_
  refine num_step (i := 30) (k := 127) (e := 0) (by decide +kernel) rfl rfl (by kernel_rfl) (by kernel_rfl) hHeld ?_
  refine wpAnyH_take (i := 31) (v := .int .i64 0) rfl (by decide +kernel) (by decide +kernel) (by decide +kernel) (fun _ _ _ h => h) (Or.inl ⟨by kernel_rfl, fun w _ => by kernel_rfl⟩) hHeld ?_
  refine num_step (i := 33) (k := 130) (e := 0) (by decide +kernel) rfl rfl (by kernel_rfl) (by kernel_rfl) hHeld ?_
  refine wpAnyH_take (i := 34) (v := .int .i64 0) rfl (by decide +kernel) (by decide +kernel) (by decide +kernel) (fun _ _ _ h => h) (Or.inl ⟨by kernel_rfl, fun w _ => by kernel_rfl⟩) hHeld ?_
  refine wpAnyH_take (i := 35) (v := .bool true) rfl (by decide +kernel) (by decide +kernel) (by decide +kernel) (fun _ _ _ h => h) (Or.inl ⟨by kernel_rfl, fun w _ => by kernel_rfl⟩) hHeld ?_
  refine wpAnyH_take (i := 36) (v := .bool true) rfl (by decide +kernel) (by decide +kernel) (by decide +kernel) (fun _ _ _ h => h) (Or.inl ⟨by kernel_rfl, fun w _ => by kernel_rfl⟩) hHeld ?_
  refine wpAnyH_take (i := 37) (v := .bool true) rfl (by decide +kernel) (by decide +kernel) (by decide +kernel) (fun _ _ _ h => h) (Or.inl ⟨by kernel_rfl, fun w _ => by kernel_rfl⟩) hHeld ?_
  refine wpAnyH_take (i := 38) (v := .int .i64 2) rfl (by decide +kernel) (by decide +kernel) (by decide +kernel) (fun _ _ _ h => h) (Or.inl ⟨by kernel_rfl, fun w _ => by kernel_rfl⟩) hHeld ?_
  refine num_step (i := 39) (k := 136) (e := 2) (by decide +kernel) rfl rfl (by kernel_rfl) (by kernel_rfl) hHeld ?_
  refine wpAnyH_take (i := 40) (v := .bool true) rfl (by decide +kernel) (by decide +kernel) (by decide +kernel) (fun _ _ _ h => h) (Or.inl ⟨by kernel_rfl, fun w _ => by kernel_rfl⟩) hHeld ?_
  refine wpAnyH_take (i := 41) (v := .bool true) rfl (by decide +kernel) (by decide +kernel) (by decide +kernel) (fun _ _ _ h => h) (Or.inl ⟨by kernel_rfl, fun w _ => by kernel_rfl⟩) hHeld ?_
  refine wpAnyH_take (i := 42) (v := .bool true) rfl (by decide +kernel) (by decide +kernel) (by decide +kernel) (fun _ _ _ h => h) (Or.inl ⟨by kernel_rfl, fun w _ => by kernel_rfl⟩) hHeld ?_
  refine wpAnyH_take (i := 43) (v := .int .i64 1) rfl (by decide +kernel) (by decide +kernel) (by decide +kernel) (fun _ _ _ h => h) (Or.inl ⟨by kernel_rfl, fun w _ => by kernel_rfl⟩) hHeld ?_
  refine wpAnyH_take (i := 44) (v := .bool true) rfl (by decide +kernel) (by decide +kernel) (by decide +kernel) (fun _ _ _ h => h) (Or.inl ⟨by kernel_rfl, fun w _ => by kernel_rfl⟩) hHeld ?_
  refine wpAnyH_take (i := 45) (v := .bool true) rfl (by decide +kernel) (by decide +kernel) (by decide +kernel) (fun _ _ _ h => h) (Or.inl ⟨by kernel_rfl, fun w _ => by kernel_rfl⟩) hHeld ?_
  refine wpAnyH_take (i := 46) (v := .bool true) rfl (by decide +kernel) (by decide +kernel) (by decide +kernel) (fun _ _ _ h => h) (Or.inl ⟨by kernel_rfl, fun w _ => by kernel_rfl⟩) hHeld ?_
  refine wpAnyH_take (i := 47) (v := .int .i64 1) rfl (by decide +kernel) (by decide +kernel) (by decide +kernel) (fun _ _ _ h => h) (Or.inl ⟨by kernel_rfl, fun w _ => by kernel_rfl⟩) hHeld ?_
  refine wpAnyH_take (i := 48) (v := .bool true) rfl (by decide +kernel) (by decide +kernel) (by decide +kernel) (fun _ _ _ h => h) (Or.inl ⟨by kernel_rfl, fun w _ => by kernel_rfl⟩) hHeld ?_
  refine wpAnyH_take (i := 49) (v := .bool true) rfl (by decide +kernel) (by decide +kernel) (by decide +kernel) (fun _ _ _ h => h) (Or.inl ⟨by kernel_rfl, fun w _ => by kernel_rfl⟩) hHeld ?_
  refine wpAnyH_take (i := 50) (v := .bool true) rfl (by decide +kernel) (by decide +kernel) (by decide +kernel) (fun _ _ _ h => h) (Or.inl ⟨by kernel_rfl, fun w _ => by kernel_rfl⟩) hHeld ?_
  refine wpAnyH_take (i := 51) (v := .int .i64 1002) rfl (by decide +kernel) (by decide +kernel) (by decide +kernel) (fun _ _ _ h => h) (Or.inl ⟨by kernel_rfl, fun w _ => by kernel_rfl⟩) hHeld ?_
  refine wpAnyH_take (i := 52) (v := .bool true) rfl (by decide +kernel) (by decide +kernel) (by decide +kernel) (fun _ _ _ h => h) (Or.inl ⟨by kernel_rfl, fun w _ => by kernel_rfl⟩) hHeld ?_
  refine wpAnyH_take (i := 53) (v := .bool true) rfl (by decide +kernel) (by decide +kernel) (by decide +kernel) (fun _ _ _ h => h) (Or.inl ⟨by kernel_rfl, fun w _ => by kernel_rfl⟩) hHeld ?_
  refine wpAnyH_take (i := 54) (v := .bool true) rfl (by decide +kernel) (by decide +kernel) (by decide +kernel) (fun _ _ _ h => h) (Or.inl ⟨by kernel_rfl, fun w _ => by kernel_rfl⟩) hHeld ?_
  refine wpAnyH_take (i := 55) (v := .int .i64 0) rfl (by decide +kernel) (by decide +kernel) (by decide +kernel) (fun _ _ _ h => h) (Or.inl ⟨by kernel_rfl, fun w _ => by kernel_rfl⟩) hHeld ?_
  refine wpAnyH_take (i := 56) (v := .bool true) rfl (by decide +kernel) (by decide +kernel) (by decide +kernel) (fun _ _ _ h => h) (Or.inl ⟨by kernel_rfl, fun w _ => by kernel_rfl⟩) hHeld ?_
  refine wpAnyH_take (i := 57) (v := .bool true) rfl (by decide +kernel) (by decide +kernel) (by decide +kernel) (fun _ _ _ h => h) (Or.inl ⟨by kernel_rfl, fun w _ => by kernel_rfl⟩) hHeld ?_
  refine wpAnyH_take (i := 58) (v := .bool true) rfl (by decide +kernel) (by decide +kernel) (by decide +kernel) (fun _ _ _ h => h) (Or.inl ⟨by kernel_rfl, fun w _ => by kernel_rfl⟩) hHeld ?_
  refine wpAnyH_take (i := 59) (v := sp 1 500000000) rfl (by decide +kernel) (by decide +kernel) (by decide +kernel) (fun _ _ _ h => h) (load_yields (k := 15) (p := pn) rfl (by kernel_rfl) (by kernel_rfl) (fun w h => h.2.2.1)) hHeld ?_
  refine half_step (i := 60) (e := 1) (by decide +kernel) rfl rfl (by kernel_rfl) (fun y hy => ⟨hHeld.1.keep hy, hHeld.2.1.keep hy, hHeld.2.2.1.keep hy, hHeld.2.2.2.keep hy⟩) (fun y1 hk1 hHeld => ?_)
  refine wpAnyH_take (i := 61) (v := .bool true) rfl (by decide +kernel) (by decide +kernel) (by decide +kernel) (fun _ _ _ h => h) (Or.inl ⟨by kernel_rfl, fun w _ => by kernel_rfl⟩) hHeld ?_
  refine wpAnyH_take (i := 62) (v := .bool true) rfl (by decide +kernel) (by decide +kernel) (by decide +kernel) (fun _ _ _ h => h) (Or.inl ⟨by kernel_rfl, fun w _ => by kernel_rfl⟩) hHeld ?_
  refine wpAnyH_take (i := 63) (v := .bool true) rfl (by decide +kernel) (by decide +kernel) (by decide +kernel) (fun _ _ _ h => h) (Or.inl ⟨by kernel_rfl, fun w _ => by kernel_rfl⟩) hHeld ?_
  refine wpAnyH_take (i := 64) (v := .string ⟨#[49, 46, 53, 48, 48, 48, 48, 48, 48, 48, 48]⟩) rfl (by decide +kernel) (by decide +kernel) (by decide +kernel) (fun _ _ _ h => h) (Or.inl ⟨by kernel_rfl, fun w _ => by kernel_rfl⟩) hHeld ?_
  refine wpAnyH_take (i := 65) (v := .bool true) rfl (by decide +kernel) (by decide +kernel) (by decide +kernel) (fun _ _ _ h => h) (Or.inl ⟨by kernel_rfl, fun w _ => by kernel_rfl⟩) hHeld ?_
  refine wpAnyH_take (i := 66) (v := .bool true) rfl (by decide +kernel) (by decide +kernel) (by decide +kernel) (fun _ _ _ h => h) (Or.inl ⟨by kernel_rfl, fun w _ => by kernel_rfl⟩) hHeld ?_
  refine wpAnyH_take (i := 67) (v := .bool true) rfl (by decide +kernel) (by decide +kernel) (by decide +kernel) (fun _ _ _ h => h) (Or.inl ⟨by kernel_rfl, fun w _ => by kernel_rfl⟩) hHeld ?_
  refine wpAnyH_take (i := 68) (v := .int .i64 4) rfl (by decide +kernel) (by decide +kernel) (by decide +kernel) (fun _ _ _ h => h) (Or.inl ⟨by kernel_rfl, fun w _ => by kernel_rfl⟩) hHeld ?_
  refine num_step (i := 69) (k := 166) (e := 4) (by decide +kernel) rfl rfl (by kernel_rfl) (by kernel_rfl) hHeld ?_
  refine wpAnyH_take (i := 70) (v := .bool true) rfl (by decide +kernel) (by decide +kernel) (by decide +kernel) (fun _ _ _ h => h) (Or.inl ⟨by kernel_rfl, fun w _ => by kernel_rfl⟩) hHeld ?_
  refine wpAnyH_take (i := 71) (v := .bool true) rfl (by decide +kernel) (by decide +kernel) (by decide +kernel) (fun _ _ _ h => h) (Or.inl ⟨by kernel_rfl, fun w _ => by kernel_rfl⟩) hHeld ?_
  refine wpAnyH_take (i := 72) (v := .bool true) rfl (by decide +kernel) (by decide +kernel) (by decide +kernel) (fun _ _ _ h => h) (Or.inl ⟨by kernel_rfl, fun w _ => by kernel_rfl⟩) hHeld ?_
  refine wpAnyH_take (i := 73) (v := .int .i64 4) rfl (by decide +kernel) (by decide +kernel) (by decide +kernel) (fun _ _ _ h => h) (Or.inl ⟨by kernel_rfl, fun w _ => by kernel_rfl⟩) hHeld ?_
  refine num_step (i := 74) (k := 171) (e := 4) (by decide +kernel) rfl rfl (by kernel_rfl) (by kernel_rfl) hHeld ?_
  refine wpAnyH_take (i := 75) (v := .bool true) rfl (by decide +kernel) (by decide +kernel) (by decide +kernel) (fun _ _ _ h => h) (Or.inl ⟨by kernel_rfl, fun w _ => by kernel_rfl⟩) hHeld ?_
  refine wpAnyH_take (i := 76) (v := .bool true) rfl (by decide +kernel) (by decide +kernel) (by decide +kernel) (fun _ _ _ h => h) (Or.inl ⟨by kernel_rfl, fun w _ => by kernel_rfl⟩) hHeld ?_
  refine wpAnyH_take (i := 77) (v := .bool true) rfl (by decide +kernel) (by decide +kernel) (by decide +kernel) (fun _ _ _ h => h) (Or.inl ⟨by kernel_rfl, fun w _ => by kernel_rfl⟩) hHeld ?_
  refine wpAnyH_take (i := 78) (v := .int .i64 5) rfl (by decide +kernel) (by decide +kernel) (by decide +kernel) (fun _ _ _ h => h) (Or.inl ⟨by kernel_rfl, fun w _ => by kernel_rfl⟩) hHeld ?_
  refine num_step (i := 79) (k := 176) (e := 5) (by decide +kernel) rfl rfl (by kernel_rfl) (by kernel_rfl) hHeld ?_
  refine wpAnyH_take (i := 80) (v := .bool true) rfl (by decide +kernel) (by decide +kernel) (by decide +kernel) (fun _ _ _ h => h) (Or.inl ⟨by kernel_rfl, fun w _ => by kernel_rfl⟩) hHeld ?_
  refine wpAnyH_take (i := 81) (v := .bool true) rfl (by decide +kernel) (by decide +kernel) (by decide +kernel) (fun _ _ _ h => h) (Or.inl ⟨by kernel_rfl, fun w _ => by kernel_rfl⟩) hHeld ?_
  refine wpAnyH_take (i := 82) (v := .bool true) rfl (by decide +kernel) (by decide +kernel) (by decide +kernel) (fun _ _ _ h => h) (Or.inl ⟨by kernel_rfl, fun w _ => by kernel_rfl⟩) hHeld ?_
  refine wpAnyH_take (i := 83) (v := .int .i64 2) rfl (by decide +kernel) (by decide +kernel) (by decide +kernel) (fun _ _ _ h => h) (Or.inl ⟨by kernel_rfl, fun w _ => by kernel_rfl⟩) hHeld ?_
  refine num_step (i := 84) (k := 181) (e := 2) (by decide +kernel) rfl rfl (by kernel_rfl) (by kernel_rfl) hHeld ?_
  refine wpAnyH_take (i := 85) (v := .bool true) rfl (by decide +kernel) (by decide +kernel) (by decide +kernel) (fun _ _ _ h => h) (Or.inl ⟨by kernel_rfl, fun w _ => by kernel_rfl⟩) hHeld ?_
  refine wpAnyH_take (i := 86) (v := .bool true) rfl (by decide +kernel) (by decide +kernel) (by decide +kernel) (fun _ _ _ h => h) (Or.inl ⟨by kernel_rfl, fun w _ => by kernel_rfl⟩) hHeld ?_
  refine wpAnyH_take (i := 87) (v := .bool true) rfl (by decide +kernel) (by decide +kernel) (by decide +kernel) (fun _ _ _ h => h) (Or.inl ⟨by kernel_rfl, fun w _ => by kernel_rfl⟩) hHeld ?_
  refine wpAnyH_take (i := 88) (v := sp 4 500000000) rfl (by decide +kernel) (by decide +kernel) (by decide +kernel) (fun _ _ _ h => h) (load_yields (k := 27) (p := pv) rfl (by kernel_rfl) (by kernel_rfl) (fun w h => h.2.2.2)) hHeld ?_
  refine half_step (i := 89) (e := 4) (by decide +kernel) rfl rfl (by kernel_rfl) (fun y hy => ⟨hHeld.1.keep hy, hHeld.2.1.keep hy, hHeld.2.2.1.keep hy, hHeld.2.2.2.keep hy⟩) (fun y2 hk2 hHeld => ?_)
  refine wpAnyH_take (i := 90) (v := .bool true) rfl (by decide +kernel) (by decide +kernel) (by decide +kernel) (fun _ _ _ h => h) (Or.inl ⟨by kernel_rfl, fun w _ => by kernel_rfl⟩) hHeld ?_
  refine wpAnyH_take (i := 91) (v := .bool true) rfl (by decide +kernel) (by decide +kernel) (by decide +kernel) (fun _ _ _ h => h) (Or.inl ⟨by kernel_rfl, fun w _ => by kernel_rfl⟩) hHeld ?_
  refine wpAnyH_take (i := 92) (v := .bool true) rfl (by decide +kernel) (by decide +kernel) (by decide +kernel) (fun _ _ _ h => h) (Or.inl ⟨by kernel_rfl, fun w _ => by kernel_rfl⟩) hHeld ?_
  refine wpAnyH_done (by kernel_rfl) ?_ _
  refine hKK _ _ (wp_ret ?_)
  show bodyPost Tryd.prog Tryd.f20 (fun e w' => e = .returned (.bool true) ∧ Kp w w' []) .ret _ _
  exact bodyPost_ret (v := .bool true) (by kernel_rfl) rfl ⟨rfl, KF.out.trans ((Kp.drew wz []).trans (hk1.trans hk2))⟩
theorem known_ok : KnownOk := known_any
end Go.Proofs.YtojdahgoapknjaaDoor
