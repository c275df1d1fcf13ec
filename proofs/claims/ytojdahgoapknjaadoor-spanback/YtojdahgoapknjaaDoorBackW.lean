/- SpanBack: the walk, way by way. -/
import Derived.Test.YtojdahgoapknjaaDoorKnownOk
namespace Go.Proofs.YtojdahgoapknjaaDoor
open Go.RowKit Go.Shelf
set_option linter.unusedVariables false

set_option maxRecDepth 100000 in
set_option maxHeartbeats 4000000 in
theorem back_ok_ok_no (kn : KnownOk) (w : World) (h : Wd w) (a b c d n : Int) (q1 q2 q3 : Int) (hA : ofP n = (q1, q2, q3)) (hq : q3 = 0) (hA2 : ticksP q1 q2 = (n, 0)) (u v g : Int) (hB : addP a b c d = (u, v, g)) (hg0 : g = 0) (hB2 : subP u v c d = (a, b, 0)) (x y e1 e2 : Int) (hC1 : ticksP a b = (x, e1)) (hC2 : ticksP c d = (y, e2)) (hs1 : 0 ≤ e1 ∧ e1 ≤ 5) (hs2 : 0 ≤ e2 ∧ e2 ≤ 5) (hs : e1 + e2 ≠ 0) :
    Calls Tryd.prog 6 #[sp a b, sp c d, .int .i64 n] w fun e w' => e = .returned (.bool true) ∧ Kp w w' [] := by
  have c1 := fun w => of6_any w n
  simp only [hA] at c1
  subst hq
  have c2 := fun w => ticks_any w q1 q2
  simp only [hA2] at c2
  have c3 := fun w => add_any w a b c d
  simp only [hB] at c3
  subst hg0
  have c4 := fun w => sub_any w u v c d
  simp only [hB2] at c4
  have c5 := fun w => ticks_any w a b
  have c6 := fun w => ticks_any w c d
  simp only [hC1] at c5
  simp only [hC2] at c6
  have we : IntKind.i64.wrap (e1 + e2) = e1 + e2 := wrap_id ⟨by omega, by omega⟩
  have hs3 : (e1 + e2 == 0) = false := by simp; omega
  have hs4 : ¬ e1 + e2 = 0 := hs
  have hs5 : (e1 + e2 != 0) = true := by simp; omega
  have hg := guard_sp
  have he := neq_sp
  have HW := hid h
  have HK := hid kn
  clear h kn hA hB hC1 hC2 hA2 hB2 
  obtain ⟨b1, b2, k0⟩ := bx2 w a b c d
  have K0 := hid k0
  have NA := hid b1
  have NC := hid b2
  clear b1 b2 k0
  go_enter Tryd.func6, Tryd.ntmps6
  go_wp2_with (go_at_call 17; refine (num_any _ _).mono ?_; rintro e ww ⟨rfl, rfl⟩)
  refine (HK.out _ (HW.out.keep K0.out)).mono ?_
  rintro e w1 ⟨rfl, k1⟩
  have K1 := hid (K0.out.trans k1)
  have Nav1 := hid (NA.out.keep k1)
  have Ncv1 := hid (NC.out.keep k1)
  clear K0 k1 NA NC
  go_wp2_with (go_at_call 17; refine (num_any _ _).mono ?_; rintro e ww ⟨rfl, rfl⟩)
  refine (c1 _).mono ?_
  rintro e w2 ⟨rfl, k1⟩
  have K2 := hid (K1.out.trans k1)
  have Nav2 := hid (Nav1.out.keep k1)
  have Ncv2 := hid (Ncv1.out.keep k1)
  clear K1 k1 Nav1 Ncv1
  have b0 := bx_new w2 (q1) (q2)
  have ka := Kp.alloc w2 (ob (q1) (q2)) []
  have K3 := hid (K2.out.trans ka)
  have Nav3 := hid (Nav2.out.keep ka)
  have Ncv3 := hid (Ncv2.out.keep ka)
  clear K2 ka Nav2 Ncv2
  have Nsv4 := hid b0
  clear b0
  have x5 := Nsv4.out.c0
  have x6 := Nsv4.out.c1
  go_wp2_with (go_at_call 17; refine (num_any _ _).mono ?_; rintro e ww ⟨rfl, rfl⟩)
  clear x5 x6
  refine (c2 _).mono ?_
  rintro e w3 ⟨rfl, k1⟩
  have K7 := hid (K3.out.trans k1)
  have Nav7 := hid (Nav3.out.keep k1)
  have Ncv7 := hid (Ncv3.out.keep k1)
  have Nsv7 := hid (Nsv4.out.keep k1)
  clear K3 k1 Nav3 Ncv3 Nsv4
  have x8 := Nav7.out.c0
  have x9 := Nav7.out.c1
  have x10 := Ncv7.out.c0
  have x11 := Ncv7.out.c1
  go_wp2_with (go_at_call 17; refine (num_any _ _).mono ?_; rintro e ww ⟨rfl, rfl⟩)
  clear x8 x9 x10 x11
  refine (c3 _).mono ?_
  rintro e w4 ⟨rfl, k1⟩
  have K12 := hid (K7.out.trans k1)
  have Nav12 := hid (Nav7.out.keep k1)
  have Ncv12 := hid (Ncv7.out.keep k1)
  clear K7 k1 Nav7 Ncv7
  have b0 := bx_new w4 (u) (v)
  have ka := Kp.alloc w4 (ob (u) (v)) []
  have K13 := hid (K12.out.trans ka)
  have Nav13 := hid (Nav12.out.keep ka)
  have Ncv13 := hid (Ncv12.out.keep ka)
  clear K12 ka Nav12 Ncv12
  have Nmv14 := hid b0
  clear b0
  have x15 := Nmv14.out.c0
  have x16 := Nmv14.out.c1
  have x17 := Ncv13.out.c0
  have x18 := Ncv13.out.c1
  go_wp2_with (go_at_call 17; refine (num_any _ _).mono ?_; rintro e ww ⟨rfl, rfl⟩)
  clear x15 x16 x17 x18
  refine (c4 _).mono ?_
  rintro e w5 ⟨rfl, k1⟩
  have K19 := hid (K13.out.trans k1)
  have Nav19 := hid (Nav13.out.keep k1)
  have Ncv19 := hid (Ncv13.out.keep k1)
  have Nmv19 := hid (Nmv14.out.keep k1)
  clear K13 k1 Nav13 Ncv13 Nmv14
  have b0 := bx_new w5 (a) (b)
  have ka := Kp.alloc w5 (ob (a) (b)) []
  have K20 := hid (K19.out.trans ka)
  have Nav20 := hid (Nav19.out.keep ka)
  have Ncv20 := hid (Ncv19.out.keep ka)
  have Nmv20 := hid (Nmv19.out.keep ka)
  clear K19 ka Nav19 Ncv19 Nmv19
  have Nkv21 := hid b0
  clear b0
  have x22 := Nkv21.out.c0
  have x23 := Nkv21.out.c1
  have x24 := Nav20.out.c0
  have x25 := Nav20.out.c1
  go_wp2_with (go_at_call 17; refine (num_any _ _).mono ?_; rintro e ww ⟨rfl, rfl⟩)
  clear x22 x23 x24 x25
  refine (c5 _).mono ?_
  rintro e w6 ⟨rfl, k1⟩
  have K26 := hid (K20.out.trans k1)
  have Nav26 := hid (Nav20.out.keep k1)
  have Ncv26 := hid (Ncv20.out.keep k1)
  have Nmv26 := hid (Nmv20.out.keep k1)
  have Nkv26 := hid (Nkv21.out.keep k1)
  clear K20 k1 Nav20 Ncv20 Nmv20 Nkv21
  have x27 := Ncv26.out.c0
  have x28 := Ncv26.out.c1
  go_wp2_with (go_at_call 17; refine (num_any _ _).mono ?_; rintro e ww ⟨rfl, rfl⟩)
  clear x27 x28
  refine (c6 _).mono ?_
  rintro e w7 ⟨rfl, k1⟩
  have K29 := hid (K26.out.trans k1)
  have Nav29 := hid (Nav26.out.keep k1)
  have Ncv29 := hid (Ncv26.out.keep k1)
  have Nmv29 := hid (Nmv26.out.keep k1)
  have Nkv29 := hid (Nkv26.out.keep k1)
  clear K26 k1 Nav26 Ncv26 Nmv26 Nkv26
  go_wp2_with (go_at_call 17; refine (num_any _ _).mono ?_; rintro e ww ⟨rfl, rfl⟩)
  go_ret
  exact ⟨rfl, K29.out⟩

set_option maxRecDepth 100000 in
set_option maxHeartbeats 4000000 in
theorem back_ok_ok_lt (kn : KnownOk) (w : World) (h : Wd w) (a b c d n : Int) (q1 q2 q3 : Int) (hA : ofP n = (q1, q2, q3)) (hq : q3 = 0) (hA2 : ticksP q1 q2 = (n, 0)) (u v g : Int) (hB : addP a b c d = (u, v, g)) (hg0 : g = 0) (hB2 : subP u v c d = (a, b, 0)) (x y e1 e2 : Int) (hC1 : ticksP a b = (x, e1)) (hC2 : ticksP c d = (y, e2)) (hs1 : 0 ≤ e1 ∧ e1 ≤ 5) (hs2 : 0 ≤ e2 ∧ e2 ≤ 5) (hs : e1 + e2 = 0) (z : Int) (hD : cmpP a b c d = z) (hz : z < 0) (hxy : x ≤ y) (p q r : Int) (hE : ofP x = (p, q, 0)) (hE2 : subP p q a b = (0, r, 0)) (hr : r < 1000000) :
    Calls Tryd.prog 6 #[sp a b, sp c d, .int .i64 n] w fun e w' => e = .returned (.bool true) ∧ Kp w w' [] := by
  have c1 := fun w => of6_any w n
  simp only [hA] at c1
  subst hq
  have c2 := fun w => ticks_any w q1 q2
  simp only [hA2] at c2
  have c3 := fun w => add_any w a b c d
  simp only [hB] at c3
  subst hg0
  have c4 := fun w => sub_any w u v c d
  simp only [hB2] at c4
  have c5 := fun w => ticks_any w a b
  have c6 := fun w => ticks_any w c d
  simp only [hC1] at c5
  simp only [hC2] at c6
  have we : IntKind.i64.wrap (e1 + e2) = e1 + e2 := wrap_id ⟨by omega, by omega⟩
  have hs6 : e1 = 0 := by omega
  have hs7 : e2 = 0 := by omega
  subst hs6 hs7
  have c7 := fun w => cmp_any w a b c d
  have c8 := fun w => of6_any w x
  have c9 := fun w => sub_any w p q a b
  simp only [hD] at c7
  simp only [hE] at c8
  simp only [hE2] at c9
  have hr1 : decide (r < 1000000) = true := by simp; omega
  have hg := guard_sp
  have he := neq_sp
  have HW := hid h
  have HK := hid kn
  clear h kn hA hB hC1 hC2 hA2 hB2 hD hE hE2 hs 
  obtain ⟨b1, b2, k0⟩ := bx2 w a b c d
  have K0 := hid k0
  have NA := hid b1
  have NC := hid b2
  clear b1 b2 k0
  go_enter Tryd.func6, Tryd.ntmps6
  go_wp2_with (go_at_call 17; refine (num_any _ _).mono ?_; rintro e ww ⟨rfl, rfl⟩)
  refine (HK.out _ (HW.out.keep K0.out)).mono ?_
  rintro e w1 ⟨rfl, k1⟩
  have K1 := hid (K0.out.trans k1)
  have Nav1 := hid (NA.out.keep k1)
  have Ncv1 := hid (NC.out.keep k1)
  clear K0 k1 NA NC
  go_wp2_with (go_at_call 17; refine (num_any _ _).mono ?_; rintro e ww ⟨rfl, rfl⟩)
  refine (c1 _).mono ?_
  rintro e w2 ⟨rfl, k1⟩
  have K2 := hid (K1.out.trans k1)
  have Nav2 := hid (Nav1.out.keep k1)
  have Ncv2 := hid (Ncv1.out.keep k1)
  clear K1 k1 Nav1 Ncv1
  have b0 := bx_new w2 (q1) (q2)
  have ka := Kp.alloc w2 (ob (q1) (q2)) []
  have K3 := hid (K2.out.trans ka)
  have Nav3 := hid (Nav2.out.keep ka)
  have Ncv3 := hid (Ncv2.out.keep ka)
  clear K2 ka Nav2 Ncv2
  have Nsv4 := hid b0
  clear b0
  have x5 := Nsv4.out.c0
  have x6 := Nsv4.out.c1
  go_wp2_with (go_at_call 17; refine (num_any _ _).mono ?_; rintro e ww ⟨rfl, rfl⟩)
  clear x5 x6
  refine (c2 _).mono ?_
  rintro e w3 ⟨rfl, k1⟩
  have K7 := hid (K3.out.trans k1)
  have Nav7 := hid (Nav3.out.keep k1)
  have Ncv7 := hid (Ncv3.out.keep k1)
  have Nsv7 := hid (Nsv4.out.keep k1)
  clear K3 k1 Nav3 Ncv3 Nsv4
  have x8 := Nav7.out.c0
  have x9 := Nav7.out.c1
  have x10 := Ncv7.out.c0
  have x11 := Ncv7.out.c1
  go_wp2_with (go_at_call 17; refine (num_any _ _).mono ?_; rintro e ww ⟨rfl, rfl⟩)
  clear x8 x9 x10 x11
  refine (c3 _).mono ?_
  rintro e w4 ⟨rfl, k1⟩
  have K12 := hid (K7.out.trans k1)
  have Nav12 := hid (Nav7.out.keep k1)
  have Ncv12 := hid (Ncv7.out.keep k1)
  clear K7 k1 Nav7 Ncv7
  have b0 := bx_new w4 (u) (v)
  have ka := Kp.alloc w4 (ob (u) (v)) []
  have K13 := hid (K12.out.trans ka)
  have Nav13 := hid (Nav12.out.keep ka)
  have Ncv13 := hid (Ncv12.out.keep ka)
  clear K12 ka Nav12 Ncv12
  have Nmv14 := hid b0
  clear b0
  have x15 := Nmv14.out.c0
  have x16 := Nmv14.out.c1
  have x17 := Ncv13.out.c0
  have x18 := Ncv13.out.c1
  go_wp2_with (go_at_call 17; refine (num_any _ _).mono ?_; rintro e ww ⟨rfl, rfl⟩)
  clear x15 x16 x17 x18
  refine (c4 _).mono ?_
  rintro e w5 ⟨rfl, k1⟩
  have K19 := hid (K13.out.trans k1)
  have Nav19 := hid (Nav13.out.keep k1)
  have Ncv19 := hid (Ncv13.out.keep k1)
  have Nmv19 := hid (Nmv14.out.keep k1)
  clear K13 k1 Nav13 Ncv13 Nmv14
  have b0 := bx_new w5 (a) (b)
  have ka := Kp.alloc w5 (ob (a) (b)) []
  have K20 := hid (K19.out.trans ka)
  have Nav20 := hid (Nav19.out.keep ka)
  have Ncv20 := hid (Ncv19.out.keep ka)
  have Nmv20 := hid (Nmv19.out.keep ka)
  clear K19 ka Nav19 Ncv19 Nmv19
  have Nkv21 := hid b0
  clear b0
  have x22 := Nkv21.out.c0
  have x23 := Nkv21.out.c1
  have x24 := Nav20.out.c0
  have x25 := Nav20.out.c1
  go_wp2_with (go_at_call 17; refine (num_any _ _).mono ?_; rintro e ww ⟨rfl, rfl⟩)
  clear x22 x23 x24 x25
  refine (c5 _).mono ?_
  rintro e w6 ⟨rfl, k1⟩
  have K26 := hid (K20.out.trans k1)
  have Nav26 := hid (Nav20.out.keep k1)
  have Ncv26 := hid (Ncv20.out.keep k1)
  have Nmv26 := hid (Nmv20.out.keep k1)
  have Nkv26 := hid (Nkv21.out.keep k1)
  clear K20 k1 Nav20 Ncv20 Nmv20 Nkv21
  have x27 := Ncv26.out.c0
  have x28 := Ncv26.out.c1
  go_wp2_with (go_at_call 17; refine (num_any _ _).mono ?_; rintro e ww ⟨rfl, rfl⟩)
  clear x27 x28
  refine (c6 _).mono ?_
  rintro e w7 ⟨rfl, k1⟩
  have K29 := hid (K26.out.trans k1)
  have Nav29 := hid (Nav26.out.keep k1)
  have Ncv29 := hid (Ncv26.out.keep k1)
  have Nmv29 := hid (Nmv26.out.keep k1)
  have Nkv29 := hid (Nkv26.out.keep k1)
  clear K26 k1 Nav26 Ncv26 Nmv26 Nkv26
  have x30 := Nav29.out.c0
  have x31 := Nav29.out.c1
  have x32 := Ncv29.out.c0
  have x33 := Ncv29.out.c1
  go_wp2_with (go_at_call 17; refine (num_any _ _).mono ?_; rintro e ww ⟨rfl, rfl⟩)
  clear x30 x31 x32 x33
  refine (c7 _).mono ?_
  rintro e w8 ⟨rfl, k1⟩
  have K34 := hid (K29.out.trans k1)
  have Nav34 := hid (Nav29.out.keep k1)
  have Ncv34 := hid (Ncv29.out.keep k1)
  clear K29 k1 Nav29 Ncv29
  go_wp2_with (go_at_call 17; refine (num_any _ _).mono ?_; rintro e ww ⟨rfl, rfl⟩)
  refine (c8 _).mono ?_
  rintro e w9 ⟨rfl, k1⟩
  have K35 := hid (K34.out.trans k1)
  have Nav35 := hid (Nav34.out.keep k1)
  have Ncv35 := hid (Ncv34.out.keep k1)
  clear K34 k1 Nav34 Ncv34
  have b0 := bx_new w9 (p) (q)
  have ka := Kp.alloc w9 (ob (p) (q)) []
  have K36 := hid (K35.out.trans ka)
  have Nav36 := hid (Nav35.out.keep ka)
  have Ncv36 := hid (Ncv35.out.keep ka)
  clear K35 ka Nav35 Ncv35
  have Niv37 := hid b0
  clear b0
  have x38 := Niv37.out.c0
  have x39 := Niv37.out.c1
  have x40 := Nav36.out.c0
  have x41 := Nav36.out.c1
  go_wp2_with (go_at_call 17; refine (num_any _ _).mono ?_; rintro e ww ⟨rfl, rfl⟩)
  clear x38 x39 x40 x41
  refine (c9 _).mono ?_
  rintro e w10 ⟨rfl, k1⟩
  have K42 := hid (K36.out.trans k1)
  have Nav42 := hid (Nav36.out.keep k1)
  have Ncv42 := hid (Ncv36.out.keep k1)
  have Niv42 := hid (Niv37.out.keep k1)
  clear K36 k1 Nav36 Ncv36 Niv37
  have b0 := bx_new w10 (0) (r)
  have ka := Kp.alloc w10 (ob (0) (r)) []
  have K43 := hid (K42.out.trans ka)
  have Nav43 := hid (Nav42.out.keep ka)
  have Ncv43 := hid (Ncv42.out.keep ka)
  have Niv43 := hid (Niv42.out.keep ka)
  clear K42 ka Nav42 Ncv42 Niv42
  have Njv44 := hid b0
  clear b0
  have x45 := Njv44.out.c0
  have x46 := Njv44.out.c1
  go_wp2_with (go_at_call 17; refine (num_any _ _).mono ?_; rintro e ww ⟨rfl, rfl⟩)
  go_ret
  exact ⟨rfl, K43.out⟩

set_option maxRecDepth 100000 in
set_option maxHeartbeats 4000000 in
theorem back_ok_ok_ge (kn : KnownOk) (w : World) (h : Wd w) (a b c d n : Int) (q1 q2 q3 : Int) (hA : ofP n = (q1, q2, q3)) (hq : q3 = 0) (hA2 : ticksP q1 q2 = (n, 0)) (u v g : Int) (hB : addP a b c d = (u, v, g)) (hg0 : g = 0) (hB2 : subP u v c d = (a, b, 0)) (x y e1 e2 : Int) (hC1 : ticksP a b = (x, e1)) (hC2 : ticksP c d = (y, e2)) (hs1 : 0 ≤ e1 ∧ e1 ≤ 5) (hs2 : 0 ≤ e2 ∧ e2 ≤ 5) (hs : e1 + e2 = 0) (z : Int) (hD : cmpP a b c d = z) (hz : 0 ≤ z) (p q r : Int) (hE : ofP x = (p, q, 0)) (hE2 : subP p q a b = (0, r, 0)) (hr : r < 1000000) :
    Calls Tryd.prog 6 #[sp a b, sp c d, .int .i64 n] w fun e w' => e = .returned (.bool true) ∧ Kp w w' [] := by
  have c1 := fun w => of6_any w n
  simp only [hA] at c1
  subst hq
  have c2 := fun w => ticks_any w q1 q2
  simp only [hA2] at c2
  have c3 := fun w => add_any w a b c d
  simp only [hB] at c3
  subst hg0
  have c4 := fun w => sub_any w u v c d
  simp only [hB2] at c4
  have c5 := fun w => ticks_any w a b
  have c6 := fun w => ticks_any w c d
  simp only [hC1] at c5
  simp only [hC2] at c6
  have we : IntKind.i64.wrap (e1 + e2) = e1 + e2 := wrap_id ⟨by omega, by omega⟩
  have hs6 : e1 = 0 := by omega
  have hs7 : e2 = 0 := by omega
  subst hs6 hs7
  have c7 := fun w => cmp_any w a b c d
  have c8 := fun w => of6_any w x
  have c9 := fun w => sub_any w p q a b
  simp only [hD] at c7
  simp only [hE] at c8
  simp only [hE2] at c9
  have hr1 : decide (r < 1000000) = true := by simp; omega
  have hg := guard_sp
  have he := neq_sp
  have HW := hid h
  have HK := hid kn
  clear h kn hA hB hC1 hC2 hA2 hB2 hD hE hE2 hs 
  obtain ⟨b1, b2, k0⟩ := bx2 w a b c d
  have K0 := hid k0
  have NA := hid b1
  have NC := hid b2
  clear b1 b2 k0
  go_enter Tryd.func6, Tryd.ntmps6
  go_wp2_with (go_at_call 17; refine (num_any _ _).mono ?_; rintro e ww ⟨rfl, rfl⟩)
  refine (HK.out _ (HW.out.keep K0.out)).mono ?_
  rintro e w1 ⟨rfl, k1⟩
  have K1 := hid (K0.out.trans k1)
  have Nav1 := hid (NA.out.keep k1)
  have Ncv1 := hid (NC.out.keep k1)
  clear K0 k1 NA NC
  go_wp2_with (go_at_call 17; refine (num_any _ _).mono ?_; rintro e ww ⟨rfl, rfl⟩)
  refine (c1 _).mono ?_
  rintro e w2 ⟨rfl, k1⟩
  have K2 := hid (K1.out.trans k1)
  have Nav2 := hid (Nav1.out.keep k1)
  have Ncv2 := hid (Ncv1.out.keep k1)
  clear K1 k1 Nav1 Ncv1
  have b0 := bx_new w2 (q1) (q2)
  have ka := Kp.alloc w2 (ob (q1) (q2)) []
  have K3 := hid (K2.out.trans ka)
  have Nav3 := hid (Nav2.out.keep ka)
  have Ncv3 := hid (Ncv2.out.keep ka)
  clear K2 ka Nav2 Ncv2
  have Nsv4 := hid b0
  clear b0
  have x5 := Nsv4.out.c0
  have x6 := Nsv4.out.c1
  go_wp2_with (go_at_call 17; refine (num_any _ _).mono ?_; rintro e ww ⟨rfl, rfl⟩)
  clear x5 x6
  refine (c2 _).mono ?_
  rintro e w3 ⟨rfl, k1⟩
  have K7 := hid (K3.out.trans k1)
  have Nav7 := hid (Nav3.out.keep k1)
  have Ncv7 := hid (Ncv3.out.keep k1)
  have Nsv7 := hid (Nsv4.out.keep k1)
  clear K3 k1 Nav3 Ncv3 Nsv4
  have x8 := Nav7.out.c0
  have x9 := Nav7.out.c1
  have x10 := Ncv7.out.c0
  have x11 := Ncv7.out.c1
  go_wp2_with (go_at_call 17; refine (num_any _ _).mono ?_; rintro e ww ⟨rfl, rfl⟩)
  clear x8 x9 x10 x11
  refine (c3 _).mono ?_
  rintro e w4 ⟨rfl, k1⟩
  have K12 := hid (K7.out.trans k1)
  have Nav12 := hid (Nav7.out.keep k1)
  have Ncv12 := hid (Ncv7.out.keep k1)
  clear K7 k1 Nav7 Ncv7
  have b0 := bx_new w4 (u) (v)
  have ka := Kp.alloc w4 (ob (u) (v)) []
  have K13 := hid (K12.out.trans ka)
  have Nav13 := hid (Nav12.out.keep ka)
  have Ncv13 := hid (Ncv12.out.keep ka)
  clear K12 ka Nav12 Ncv12
  have Nmv14 := hid b0
  clear b0
  have x15 := Nmv14.out.c0
  have x16 := Nmv14.out.c1
  have x17 := Ncv13.out.c0
  have x18 := Ncv13.out.c1
  go_wp2_with (go_at_call 17; refine (num_any _ _).mono ?_; rintro e ww ⟨rfl, rfl⟩)
  clear x15 x16 x17 x18
  refine (c4 _).mono ?_
  rintro e w5 ⟨rfl, k1⟩
  have K19 := hid (K13.out.trans k1)
  have Nav19 := hid (Nav13.out.keep k1)
  have Ncv19 := hid (Ncv13.out.keep k1)
  have Nmv19 := hid (Nmv14.out.keep k1)
  clear K13 k1 Nav13 Ncv13 Nmv14
  have b0 := bx_new w5 (a) (b)
  have ka := Kp.alloc w5 (ob (a) (b)) []
  have K20 := hid (K19.out.trans ka)
  have Nav20 := hid (Nav19.out.keep ka)
  have Ncv20 := hid (Ncv19.out.keep ka)
  have Nmv20 := hid (Nmv19.out.keep ka)
  clear K19 ka Nav19 Ncv19 Nmv19
  have Nkv21 := hid b0
  clear b0
  have x22 := Nkv21.out.c0
  have x23 := Nkv21.out.c1
  have x24 := Nav20.out.c0
  have x25 := Nav20.out.c1
  go_wp2_with (go_at_call 17; refine (num_any _ _).mono ?_; rintro e ww ⟨rfl, rfl⟩)
  clear x22 x23 x24 x25
  refine (c5 _).mono ?_
  rintro e w6 ⟨rfl, k1⟩
  have K26 := hid (K20.out.trans k1)
  have Nav26 := hid (Nav20.out.keep k1)
  have Ncv26 := hid (Ncv20.out.keep k1)
  have Nmv26 := hid (Nmv20.out.keep k1)
  have Nkv26 := hid (Nkv21.out.keep k1)
  clear K20 k1 Nav20 Ncv20 Nmv20 Nkv21
  have x27 := Ncv26.out.c0
  have x28 := Ncv26.out.c1
  go_wp2_with (go_at_call 17; refine (num_any _ _).mono ?_; rintro e ww ⟨rfl, rfl⟩)
  clear x27 x28
  refine (c6 _).mono ?_
  rintro e w7 ⟨rfl, k1⟩
  have K29 := hid (K26.out.trans k1)
  have Nav29 := hid (Nav26.out.keep k1)
  have Ncv29 := hid (Ncv26.out.keep k1)
  have Nmv29 := hid (Nmv26.out.keep k1)
  have Nkv29 := hid (Nkv26.out.keep k1)
  clear K26 k1 Nav26 Ncv26 Nmv26 Nkv26
  have x30 := Nav29.out.c0
  have x31 := Nav29.out.c1
  have x32 := Ncv29.out.c0
  have x33 := Ncv29.out.c1
  go_wp2_with (go_at_call 17; refine (num_any _ _).mono ?_; rintro e ww ⟨rfl, rfl⟩)
  clear x30 x31 x32 x33
  refine (c7 _).mono ?_
  rintro e w8 ⟨rfl, k1⟩
  have K34 := hid (K29.out.trans k1)
  have Nav34 := hid (Nav29.out.keep k1)
  have Ncv34 := hid (Ncv29.out.keep k1)
  clear K29 k1 Nav29 Ncv29
  go_wp2_with (go_at_call 17; refine (num_any _ _).mono ?_; rintro e ww ⟨rfl, rfl⟩)
  refine (c8 _).mono ?_
  rintro e w9 ⟨rfl, k1⟩
  have K35 := hid (K34.out.trans k1)
  have Nav35 := hid (Nav34.out.keep k1)
  have Ncv35 := hid (Ncv34.out.keep k1)
  clear K34 k1 Nav34 Ncv34
  have b0 := bx_new w9 (p) (q)
  have ka := Kp.alloc w9 (ob (p) (q)) []
  have K36 := hid (K35.out.trans ka)
  have Nav36 := hid (Nav35.out.keep ka)
  have Ncv36 := hid (Ncv35.out.keep ka)
  clear K35 ka Nav35 Ncv35
  have Niv37 := hid b0
  clear b0
  have x38 := Niv37.out.c0
  have x39 := Niv37.out.c1
  have x40 := Nav36.out.c0
  have x41 := Nav36.out.c1
  go_wp2_with (go_at_call 17; refine (num_any _ _).mono ?_; rintro e ww ⟨rfl, rfl⟩)
  clear x38 x39 x40 x41
  refine (c9 _).mono ?_
  rintro e w10 ⟨rfl, k1⟩
  have K42 := hid (K36.out.trans k1)
  have Nav42 := hid (Nav36.out.keep k1)
  have Ncv42 := hid (Ncv36.out.keep k1)
  have Niv42 := hid (Niv37.out.keep k1)
  clear K36 k1 Nav36 Ncv36 Niv37
  have b0 := bx_new w10 (0) (r)
  have ka := Kp.alloc w10 (ob (0) (r)) []
  have K43 := hid (K42.out.trans ka)
  have Nav43 := hid (Nav42.out.keep ka)
  have Ncv43 := hid (Ncv42.out.keep ka)
  have Niv43 := hid (Niv42.out.keep ka)
  clear K42 ka Nav42 Ncv42 Niv42
  have Njv44 := hid b0
  clear b0
  have x45 := Njv44.out.c0
  have x46 := Njv44.out.c1
  go_wp2_with (go_at_call 17; refine (num_any _ _).mono ?_; rintro e ww ⟨rfl, rfl⟩)
  go_ret
  exact ⟨rfl, K43.out⟩

set_option maxRecDepth 100000 in
set_option maxHeartbeats 4000000 in
theorem back_ok_no_no (kn : KnownOk) (w : World) (h : Wd w) (a b c d n : Int) (q1 q2 q3 : Int) (hA : ofP n = (q1, q2, q3)) (hq : q3 = 0) (hA2 : ticksP q1 q2 = (n, 0)) (u v g : Int) (hB : addP a b c d = (u, v, g)) (hg0 : g ≠ 0) (x y e1 e2 : Int) (hC1 : ticksP a b = (x, e1)) (hC2 : ticksP c d = (y, e2)) (hs1 : 0 ≤ e1 ∧ e1 ≤ 5) (hs2 : 0 ≤ e2 ∧ e2 ≤ 5) (hs : e1 + e2 ≠ 0) :
    Calls Tryd.prog 6 #[sp a b, sp c d, .int .i64 n] w fun e w' => e = .returned (.bool true) ∧ Kp w w' [] := by
  have c1 := fun w => of6_any w n
  simp only [hA] at c1
  subst hq
  have c2 := fun w => ticks_any w q1 q2
  simp only [hA2] at c2
  have c3 := fun w => add_any w a b c d
  simp only [hB] at c3
  have hg1 : (g == 0) = false := by simp; omega
  have hg2 : ¬ g = 0 := hg0
  have c5 := fun w => ticks_any w a b
  have c6 := fun w => ticks_any w c d
  simp only [hC1] at c5
  simp only [hC2] at c6
  have we : IntKind.i64.wrap (e1 + e2) = e1 + e2 := wrap_id ⟨by omega, by omega⟩
  have hs3 : (e1 + e2 == 0) = false := by simp; omega
  have hs4 : ¬ e1 + e2 = 0 := hs
  have hs5 : (e1 + e2 != 0) = true := by simp; omega
  have hg := guard_sp
  have he := neq_sp
  have HW := hid h
  have HK := hid kn
  clear h kn hA hB hC1 hC2 hA2 
  obtain ⟨b1, b2, k0⟩ := bx2 w a b c d
  have K0 := hid k0
  have NA := hid b1
  have NC := hid b2
  clear b1 b2 k0
  go_enter Tryd.func6, Tryd.ntmps6
  go_wp2_with (go_at_call 17; refine (num_any _ _).mono ?_; rintro e ww ⟨rfl, rfl⟩)
  refine (HK.out _ (HW.out.keep K0.out)).mono ?_
  rintro e w1 ⟨rfl, k1⟩
  have K1 := hid (K0.out.trans k1)
  have Nav1 := hid (NA.out.keep k1)
  have Ncv1 := hid (NC.out.keep k1)
  clear K0 k1 NA NC
  go_wp2_with (go_at_call 17; refine (num_any _ _).mono ?_; rintro e ww ⟨rfl, rfl⟩)
  refine (c1 _).mono ?_
  rintro e w2 ⟨rfl, k1⟩
  have K2 := hid (K1.out.trans k1)
  have Nav2 := hid (Nav1.out.keep k1)
  have Ncv2 := hid (Ncv1.out.keep k1)
  clear K1 k1 Nav1 Ncv1
  have b0 := bx_new w2 (q1) (q2)
  have ka := Kp.alloc w2 (ob (q1) (q2)) []
  have K3 := hid (K2.out.trans ka)
  have Nav3 := hid (Nav2.out.keep ka)
  have Ncv3 := hid (Ncv2.out.keep ka)
  clear K2 ka Nav2 Ncv2
  have Nsv4 := hid b0
  clear b0
  have x5 := Nsv4.out.c0
  have x6 := Nsv4.out.c1
  go_wp2_with (go_at_call 17; refine (num_any _ _).mono ?_; rintro e ww ⟨rfl, rfl⟩)
  clear x5 x6
  refine (c2 _).mono ?_
  rintro e w3 ⟨rfl, k1⟩
  have K7 := hid (K3.out.trans k1)
  have Nav7 := hid (Nav3.out.keep k1)
  have Ncv7 := hid (Ncv3.out.keep k1)
  have Nsv7 := hid (Nsv4.out.keep k1)
  clear K3 k1 Nav3 Ncv3 Nsv4
  have x8 := Nav7.out.c0
  have x9 := Nav7.out.c1
  have x10 := Ncv7.out.c0
  have x11 := Ncv7.out.c1
  go_wp2_with (go_at_call 17; refine (num_any _ _).mono ?_; rintro e ww ⟨rfl, rfl⟩)
  clear x8 x9 x10 x11
  refine (c3 _).mono ?_
  rintro e w4 ⟨rfl, k1⟩
  have K12 := hid (K7.out.trans k1)
  have Nav12 := hid (Nav7.out.keep k1)
  have Ncv12 := hid (Ncv7.out.keep k1)
  clear K7 k1 Nav7 Ncv7
  have b0 := bx_new w4 (u) (v)
  have ka := Kp.alloc w4 (ob (u) (v)) []
  have K13 := hid (K12.out.trans ka)
  have Nav13 := hid (Nav12.out.keep ka)
  have Ncv13 := hid (Ncv12.out.keep ka)
  clear K12 ka Nav12 Ncv12
  have Nmv14 := hid b0
  clear b0
  have x15 := Nav13.out.c0
  have x16 := Nav13.out.c1
  go_wp2_with (go_at_call 17; refine (num_any _ _).mono ?_; rintro e ww ⟨rfl, rfl⟩)
  clear x15 x16
  refine (c5 _).mono ?_
  rintro e w5 ⟨rfl, k1⟩
  have K17 := hid (K13.out.trans k1)
  have Nav17 := hid (Nav13.out.keep k1)
  have Ncv17 := hid (Ncv13.out.keep k1)
  have Nmv17 := hid (Nmv14.out.keep k1)
  clear K13 k1 Nav13 Ncv13 Nmv14
  have x18 := Ncv17.out.c0
  have x19 := Ncv17.out.c1
  go_wp2_with (go_at_call 17; refine (num_any _ _).mono ?_; rintro e ww ⟨rfl, rfl⟩)
  clear x18 x19
  refine (c6 _).mono ?_
  rintro e w6 ⟨rfl, k1⟩
  have K20 := hid (K17.out.trans k1)
  have Nav20 := hid (Nav17.out.keep k1)
  have Ncv20 := hid (Ncv17.out.keep k1)
  have Nmv20 := hid (Nmv17.out.keep k1)
  clear K17 k1 Nav17 Ncv17 Nmv17
  go_wp2_with (go_at_call 17; refine (num_any _ _).mono ?_; rintro e ww ⟨rfl, rfl⟩)
  go_ret
  exact ⟨rfl, K20.out⟩

set_option maxRecDepth 100000 in
set_option maxHeartbeats 4000000 in
theorem back_ok_no_lt (kn : KnownOk) (w : World) (h : Wd w) (a b c d n : Int) (q1 q2 q3 : Int) (hA : ofP n = (q1, q2, q3)) (hq : q3 = 0) (hA2 : ticksP q1 q2 = (n, 0)) (u v g : Int) (hB : addP a b c d = (u, v, g)) (hg0 : g ≠ 0) (x y e1 e2 : Int) (hC1 : ticksP a b = (x, e1)) (hC2 : ticksP c d = (y, e2)) (hs1 : 0 ≤ e1 ∧ e1 ≤ 5) (hs2 : 0 ≤ e2 ∧ e2 ≤ 5) (hs : e1 + e2 = 0) (z : Int) (hD : cmpP a b c d = z) (hz : z < 0) (hxy : x ≤ y) (p q r : Int) (hE : ofP x = (p, q, 0)) (hE2 : subP p q a b = (0, r, 0)) (hr : r < 1000000) :
    Calls Tryd.prog 6 #[sp a b, sp c d, .int .i64 n] w fun e w' => e = .returned (.bool true) ∧ Kp w w' [] := by
  have c1 := fun w => of6_any w n
  simp only [hA] at c1
  subst hq
  have c2 := fun w => ticks_any w q1 q2
  simp only [hA2] at c2
  have c3 := fun w => add_any w a b c d
  simp only [hB] at c3
  have hg1 : (g == 0) = false := by simp; omega
  have hg2 : ¬ g = 0 := hg0
  have c5 := fun w => ticks_any w a b
  have c6 := fun w => ticks_any w c d
  simp only [hC1] at c5
  simp only [hC2] at c6
  have we : IntKind.i64.wrap (e1 + e2) = e1 + e2 := wrap_id ⟨by omega, by omega⟩
  have hs6 : e1 = 0 := by omega
  have hs7 : e2 = 0 := by omega
  subst hs6 hs7
  have c7 := fun w => cmp_any w a b c d
  have c8 := fun w => of6_any w x
  have c9 := fun w => sub_any w p q a b
  simp only [hD] at c7
  simp only [hE] at c8
  simp only [hE2] at c9
  have hr1 : decide (r < 1000000) = true := by simp; omega
  have hg := guard_sp
  have he := neq_sp
  have HW := hid h
  have HK := hid kn
  clear h kn hA hB hC1 hC2 hA2 hD hE hE2 hs 
  obtain ⟨b1, b2, k0⟩ := bx2 w a b c d
  have K0 := hid k0
  have NA := hid b1
  have NC := hid b2
  clear b1 b2 k0
  go_enter Tryd.func6, Tryd.ntmps6
  go_wp2_with (go_at_call 17; refine (num_any _ _).mono ?_; rintro e ww ⟨rfl, rfl⟩)
  refine (HK.out _ (HW.out.keep K0.out)).mono ?_
  rintro e w1 ⟨rfl, k1⟩
  have K1 := hid (K0.out.trans k1)
  have Nav1 := hid (NA.out.keep k1)
  have Ncv1 := hid (NC.out.keep k1)
  clear K0 k1 NA NC
  go_wp2_with (go_at_call 17; refine (num_any _ _).mono ?_; rintro e ww ⟨rfl, rfl⟩)
  refine (c1 _).mono ?_
  rintro e w2 ⟨rfl, k1⟩
  have K2 := hid (K1.out.trans k1)
  have Nav2 := hid (Nav1.out.keep k1)
  have Ncv2 := hid (Ncv1.out.keep k1)
  clear K1 k1 Nav1 Ncv1
  have b0 := bx_new w2 (q1) (q2)
  have ka := Kp.alloc w2 (ob (q1) (q2)) []
  have K3 := hid (K2.out.trans ka)
  have Nav3 := hid (Nav2.out.keep ka)
  have Ncv3 := hid (Ncv2.out.keep ka)
  clear K2 ka Nav2 Ncv2
  have Nsv4 := hid b0
  clear b0
  have x5 := Nsv4.out.c0
  have x6 := Nsv4.out.c1
  go_wp2_with (go_at_call 17; refine (num_any _ _).mono ?_; rintro e ww ⟨rfl, rfl⟩)
  clear x5 x6
  refine (c2 _).mono ?_
  rintro e w3 ⟨rfl, k1⟩
  have K7 := hid (K3.out.trans k1)
  have Nav7 := hid (Nav3.out.keep k1)
  have Ncv7 := hid (Ncv3.out.keep k1)
  have Nsv7 := hid (Nsv4.out.keep k1)
  clear K3 k1 Nav3 Ncv3 Nsv4
  have x8 := Nav7.out.c0
  have x9 := Nav7.out.c1
  have x10 := Ncv7.out.c0
  have x11 := Ncv7.out.c1
  go_wp2_with (go_at_call 17; refine (num_any _ _).mono ?_; rintro e ww ⟨rfl, rfl⟩)
  clear x8 x9 x10 x11
  refine (c3 _).mono ?_
  rintro e w4 ⟨rfl, k1⟩
  have K12 := hid (K7.out.trans k1)
  have Nav12 := hid (Nav7.out.keep k1)
  have Ncv12 := hid (Ncv7.out.keep k1)
  clear K7 k1 Nav7 Ncv7
  have b0 := bx_new w4 (u) (v)
  have ka := Kp.alloc w4 (ob (u) (v)) []
  have K13 := hid (K12.out.trans ka)
  have Nav13 := hid (Nav12.out.keep ka)
  have Ncv13 := hid (Ncv12.out.keep ka)
  clear K12 ka Nav12 Ncv12
  have Nmv14 := hid b0
  clear b0
  have x15 := Nav13.out.c0
  have x16 := Nav13.out.c1
  go_wp2_with (go_at_call 17; refine (num_any _ _).mono ?_; rintro e ww ⟨rfl, rfl⟩)
  clear x15 x16
  refine (c5 _).mono ?_
  rintro e w5 ⟨rfl, k1⟩
  have K17 := hid (K13.out.trans k1)
  have Nav17 := hid (Nav13.out.keep k1)
  have Ncv17 := hid (Ncv13.out.keep k1)
  have Nmv17 := hid (Nmv14.out.keep k1)
  clear K13 k1 Nav13 Ncv13 Nmv14
  have x18 := Ncv17.out.c0
  have x19 := Ncv17.out.c1
  go_wp2_with (go_at_call 17; refine (num_any _ _).mono ?_; rintro e ww ⟨rfl, rfl⟩)
  clear x18 x19
  refine (c6 _).mono ?_
  rintro e w6 ⟨rfl, k1⟩
  have K20 := hid (K17.out.trans k1)
  have Nav20 := hid (Nav17.out.keep k1)
  have Ncv20 := hid (Ncv17.out.keep k1)
  have Nmv20 := hid (Nmv17.out.keep k1)
  clear K17 k1 Nav17 Ncv17 Nmv17
  have x21 := Nav20.out.c0
  have x22 := Nav20.out.c1
  have x23 := Ncv20.out.c0
  have x24 := Ncv20.out.c1
  go_wp2_with (go_at_call 17; refine (num_any _ _).mono ?_; rintro e ww ⟨rfl, rfl⟩)
  clear x21 x22 x23 x24
  refine (c7 _).mono ?_
  rintro e w7 ⟨rfl, k1⟩
  have K25 := hid (K20.out.trans k1)
  have Nav25 := hid (Nav20.out.keep k1)
  have Ncv25 := hid (Ncv20.out.keep k1)
  clear K20 k1 Nav20 Ncv20
  go_wp2_with (go_at_call 17; refine (num_any _ _).mono ?_; rintro e ww ⟨rfl, rfl⟩)
  refine (c8 _).mono ?_
  rintro e w8 ⟨rfl, k1⟩
  have K26 := hid (K25.out.trans k1)
  have Nav26 := hid (Nav25.out.keep k1)
  have Ncv26 := hid (Ncv25.out.keep k1)
  clear K25 k1 Nav25 Ncv25
  have b0 := bx_new w8 (p) (q)
  have ka := Kp.alloc w8 (ob (p) (q)) []
  have K27 := hid (K26.out.trans ka)
  have Nav27 := hid (Nav26.out.keep ka)
  have Ncv27 := hid (Ncv26.out.keep ka)
  clear K26 ka Nav26 Ncv26
  have Niv28 := hid b0
  clear b0
  have x29 := Niv28.out.c0
  have x30 := Niv28.out.c1
  have x31 := Nav27.out.c0
  have x32 := Nav27.out.c1
  go_wp2_with (go_at_call 17; refine (num_any _ _).mono ?_; rintro e ww ⟨rfl, rfl⟩)
  clear x29 x30 x31 x32
  refine (c9 _).mono ?_
  rintro e w9 ⟨rfl, k1⟩
  have K33 := hid (K27.out.trans k1)
  have Nav33 := hid (Nav27.out.keep k1)
  have Ncv33 := hid (Ncv27.out.keep k1)
  have Niv33 := hid (Niv28.out.keep k1)
  clear K27 k1 Nav27 Ncv27 Niv28
  have b0 := bx_new w9 (0) (r)
  have ka := Kp.alloc w9 (ob (0) (r)) []
  have K34 := hid (K33.out.trans ka)
  have Nav34 := hid (Nav33.out.keep ka)
  have Ncv34 := hid (Ncv33.out.keep ka)
  have Niv34 := hid (Niv33.out.keep ka)
  clear K33 ka Nav33 Ncv33 Niv33
  have Njv35 := hid b0
  clear b0
  have x36 := Njv35.out.c0
  have x37 := Njv35.out.c1
  go_wp2_with (go_at_call 17; refine (num_any _ _).mono ?_; rintro e ww ⟨rfl, rfl⟩)
  go_ret
  exact ⟨rfl, K34.out⟩

set_option maxRecDepth 100000 in
set_option maxHeartbeats 4000000 in
theorem back_ok_no_ge (kn : KnownOk) (w : World) (h : Wd w) (a b c d n : Int) (q1 q2 q3 : Int) (hA : ofP n = (q1, q2, q3)) (hq : q3 = 0) (hA2 : ticksP q1 q2 = (n, 0)) (u v g : Int) (hB : addP a b c d = (u, v, g)) (hg0 : g ≠ 0) (x y e1 e2 : Int) (hC1 : ticksP a b = (x, e1)) (hC2 : ticksP c d = (y, e2)) (hs1 : 0 ≤ e1 ∧ e1 ≤ 5) (hs2 : 0 ≤ e2 ∧ e2 ≤ 5) (hs : e1 + e2 = 0) (z : Int) (hD : cmpP a b c d = z) (hz : 0 ≤ z) (p q r : Int) (hE : ofP x = (p, q, 0)) (hE2 : subP p q a b = (0, r, 0)) (hr : r < 1000000) :
    Calls Tryd.prog 6 #[sp a b, sp c d, .int .i64 n] w fun e w' => e = .returned (.bool true) ∧ Kp w w' [] := by
  have c1 := fun w => of6_any w n
  simp only [hA] at c1
  subst hq
  have c2 := fun w => ticks_any w q1 q2
  simp only [hA2] at c2
  have c3 := fun w => add_any w a b c d
  simp only [hB] at c3
  have hg1 : (g == 0) = false := by simp; omega
  have hg2 : ¬ g = 0 := hg0
  have c5 := fun w => ticks_any w a b
  have c6 := fun w => ticks_any w c d
  simp only [hC1] at c5
  simp only [hC2] at c6
  have we : IntKind.i64.wrap (e1 + e2) = e1 + e2 := wrap_id ⟨by omega, by omega⟩
  have hs6 : e1 = 0 := by omega
  have hs7 : e2 = 0 := by omega
  subst hs6 hs7
  have c7 := fun w => cmp_any w a b c d
  have c8 := fun w => of6_any w x
  have c9 := fun w => sub_any w p q a b
  simp only [hD] at c7
  simp only [hE] at c8
  simp only [hE2] at c9
  have hr1 : decide (r < 1000000) = true := by simp; omega
  have hg := guard_sp
  have he := neq_sp
  have HW := hid h
  have HK := hid kn
  clear h kn hA hB hC1 hC2 hA2 hD hE hE2 hs 
  obtain ⟨b1, b2, k0⟩ := bx2 w a b c d
  have K0 := hid k0
  have NA := hid b1
  have NC := hid b2
  clear b1 b2 k0
  go_enter Tryd.func6, Tryd.ntmps6
  go_wp2_with (go_at_call 17; refine (num_any _ _).mono ?_; rintro e ww ⟨rfl, rfl⟩)
  refine (HK.out _ (HW.out.keep K0.out)).mono ?_
  rintro e w1 ⟨rfl, k1⟩
  have K1 := hid (K0.out.trans k1)
  have Nav1 := hid (NA.out.keep k1)
  have Ncv1 := hid (NC.out.keep k1)
  clear K0 k1 NA NC
  go_wp2_with (go_at_call 17; refine (num_any _ _).mono ?_; rintro e ww ⟨rfl, rfl⟩)
  refine (c1 _).mono ?_
  rintro e w2 ⟨rfl, k1⟩
  have K2 := hid (K1.out.trans k1)
  have Nav2 := hid (Nav1.out.keep k1)
  have Ncv2 := hid (Ncv1.out.keep k1)
  clear K1 k1 Nav1 Ncv1
  have b0 := bx_new w2 (q1) (q2)
  have ka := Kp.alloc w2 (ob (q1) (q2)) []
  have K3 := hid (K2.out.trans ka)
  have Nav3 := hid (Nav2.out.keep ka)
  have Ncv3 := hid (Ncv2.out.keep ka)
  clear K2 ka Nav2 Ncv2
  have Nsv4 := hid b0
  clear b0
  have x5 := Nsv4.out.c0
  have x6 := Nsv4.out.c1
  go_wp2_with (go_at_call 17; refine (num_any _ _).mono ?_; rintro e ww ⟨rfl, rfl⟩)
  clear x5 x6
  refine (c2 _).mono ?_
  rintro e w3 ⟨rfl, k1⟩
  have K7 := hid (K3.out.trans k1)
  have Nav7 := hid (Nav3.out.keep k1)
  have Ncv7 := hid (Ncv3.out.keep k1)
  have Nsv7 := hid (Nsv4.out.keep k1)
  clear K3 k1 Nav3 Ncv3 Nsv4
  have x8 := Nav7.out.c0
  have x9 := Nav7.out.c1
  have x10 := Ncv7.out.c0
  have x11 := Ncv7.out.c1
  go_wp2_with (go_at_call 17; refine (num_any _ _).mono ?_; rintro e ww ⟨rfl, rfl⟩)
  clear x8 x9 x10 x11
  refine (c3 _).mono ?_
  rintro e w4 ⟨rfl, k1⟩
  have K12 := hid (K7.out.trans k1)
  have Nav12 := hid (Nav7.out.keep k1)
  have Ncv12 := hid (Ncv7.out.keep k1)
  clear K7 k1 Nav7 Ncv7
  have b0 := bx_new w4 (u) (v)
  have ka := Kp.alloc w4 (ob (u) (v)) []
  have K13 := hid (K12.out.trans ka)
  have Nav13 := hid (Nav12.out.keep ka)
  have Ncv13 := hid (Ncv12.out.keep ka)
  clear K12 ka Nav12 Ncv12
  have Nmv14 := hid b0
  clear b0
  have x15 := Nav13.out.c0
  have x16 := Nav13.out.c1
  go_wp2_with (go_at_call 17; refine (num_any _ _).mono ?_; rintro e ww ⟨rfl, rfl⟩)
  clear x15 x16
  refine (c5 _).mono ?_
  rintro e w5 ⟨rfl, k1⟩
  have K17 := hid (K13.out.trans k1)
  have Nav17 := hid (Nav13.out.keep k1)
  have Ncv17 := hid (Ncv13.out.keep k1)
  have Nmv17 := hid (Nmv14.out.keep k1)
  clear K13 k1 Nav13 Ncv13 Nmv14
  have x18 := Ncv17.out.c0
  have x19 := Ncv17.out.c1
  go_wp2_with (go_at_call 17; refine (num_any _ _).mono ?_; rintro e ww ⟨rfl, rfl⟩)
  clear x18 x19
  refine (c6 _).mono ?_
  rintro e w6 ⟨rfl, k1⟩
  have K20 := hid (K17.out.trans k1)
  have Nav20 := hid (Nav17.out.keep k1)
  have Ncv20 := hid (Ncv17.out.keep k1)
  have Nmv20 := hid (Nmv17.out.keep k1)
  clear K17 k1 Nav17 Ncv17 Nmv17
  have x21 := Nav20.out.c0
  have x22 := Nav20.out.c1
  have x23 := Ncv20.out.c0
  have x24 := Ncv20.out.c1
  go_wp2_with (go_at_call 17; refine (num_any _ _).mono ?_; rintro e ww ⟨rfl, rfl⟩)
  clear x21 x22 x23 x24
  refine (c7 _).mono ?_
  rintro e w7 ⟨rfl, k1⟩
  have K25 := hid (K20.out.trans k1)
  have Nav25 := hid (Nav20.out.keep k1)
  have Ncv25 := hid (Ncv20.out.keep k1)
  clear K20 k1 Nav20 Ncv20
  go_wp2_with (go_at_call 17; refine (num_any _ _).mono ?_; rintro e ww ⟨rfl, rfl⟩)
  refine (c8 _).mono ?_
  rintro e w8 ⟨rfl, k1⟩
  have K26 := hid (K25.out.trans k1)
  have Nav26 := hid (Nav25.out.keep k1)
  have Ncv26 := hid (Ncv25.out.keep k1)
  clear K25 k1 Nav25 Ncv25
  have b0 := bx_new w8 (p) (q)
  have ka := Kp.alloc w8 (ob (p) (q)) []
  have K27 := hid (K26.out.trans ka)
  have Nav27 := hid (Nav26.out.keep ka)
  have Ncv27 := hid (Ncv26.out.keep ka)
  clear K26 ka Nav26 Ncv26
  have Niv28 := hid b0
  clear b0
  have x29 := Niv28.out.c0
  have x30 := Niv28.out.c1
  have x31 := Nav27.out.c0
  have x32 := Nav27.out.c1
  go_wp2_with (go_at_call 17; refine (num_any _ _).mono ?_; rintro e ww ⟨rfl, rfl⟩)
  clear x29 x30 x31 x32
  refine (c9 _).mono ?_
  rintro e w9 ⟨rfl, k1⟩
  have K33 := hid (K27.out.trans k1)
  have Nav33 := hid (Nav27.out.keep k1)
  have Ncv33 := hid (Ncv27.out.keep k1)
  have Niv33 := hid (Niv28.out.keep k1)
  clear K27 k1 Nav27 Ncv27 Niv28
  have b0 := bx_new w9 (0) (r)
  have ka := Kp.alloc w9 (ob (0) (r)) []
  have K34 := hid (K33.out.trans ka)
  have Nav34 := hid (Nav33.out.keep ka)
  have Ncv34 := hid (Ncv33.out.keep ka)
  have Niv34 := hid (Niv33.out.keep ka)
  clear K33 ka Nav33 Ncv33 Niv33
  have Njv35 := hid b0
  clear b0
  have x36 := Njv35.out.c0
  have x37 := Njv35.out.c1
  go_wp2_with (go_at_call 17; refine (num_any _ _).mono ?_; rintro e ww ⟨rfl, rfl⟩)
  go_ret
  exact ⟨rfl, K34.out⟩

set_option maxRecDepth 100000 in
set_option maxHeartbeats 4000000 in
theorem back_no_ok_no (kn : KnownOk) (w : World) (h : Wd w) (a b c d n : Int) (q1 q2 q3 : Int) (hA : ofP n = (q1, q2, q3)) (hq : q3 ≠ 0) (u v g : Int) (hB : addP a b c d = (u, v, g)) (hg0 : g = 0) (hB2 : subP u v c d = (a, b, 0)) (x y e1 e2 : Int) (hC1 : ticksP a b = (x, e1)) (hC2 : ticksP c d = (y, e2)) (hs1 : 0 ≤ e1 ∧ e1 ≤ 5) (hs2 : 0 ≤ e2 ∧ e2 ≤ 5) (hs : e1 + e2 ≠ 0) :
    Calls Tryd.prog 6 #[sp a b, sp c d, .int .i64 n] w fun e w' => e = .returned (.bool true) ∧ Kp w w' [] := by
  have c1 := fun w => of6_any w n
  simp only [hA] at c1
  have hq1 : (q3 == 0) = false := by simp; omega
  have hq2 : ¬ q3 = 0 := hq
  have c3 := fun w => add_any w a b c d
  simp only [hB] at c3
  subst hg0
  have c4 := fun w => sub_any w u v c d
  simp only [hB2] at c4
  have c5 := fun w => ticks_any w a b
  have c6 := fun w => ticks_any w c d
  simp only [hC1] at c5
  simp only [hC2] at c6
  have we : IntKind.i64.wrap (e1 + e2) = e1 + e2 := wrap_id ⟨by omega, by omega⟩
  have hs3 : (e1 + e2 == 0) = false := by simp; omega
  have hs4 : ¬ e1 + e2 = 0 := hs
  have hs5 : (e1 + e2 != 0) = true := by simp; omega
  have hg := guard_sp
  have he := neq_sp
  have HW := hid h
  have HK := hid kn
  clear h kn hA hB hC1 hC2 hB2 
  obtain ⟨b1, b2, k0⟩ := bx2 w a b c d
  have K0 := hid k0
  have NA := hid b1
  have NC := hid b2
  clear b1 b2 k0
  go_enter Tryd.func6, Tryd.ntmps6
  go_wp2_with (go_at_call 17; refine (num_any _ _).mono ?_; rintro e ww ⟨rfl, rfl⟩)
  refine (HK.out _ (HW.out.keep K0.out)).mono ?_
  rintro e w1 ⟨rfl, k1⟩
  have K1 := hid (K0.out.trans k1)
  have Nav1 := hid (NA.out.keep k1)
  have Ncv1 := hid (NC.out.keep k1)
  clear K0 k1 NA NC
  go_wp2_with (go_at_call 17; refine (num_any _ _).mono ?_; rintro e ww ⟨rfl, rfl⟩)
  refine (c1 _).mono ?_
  rintro e w2 ⟨rfl, k1⟩
  have K2 := hid (K1.out.trans k1)
  have Nav2 := hid (Nav1.out.keep k1)
  have Ncv2 := hid (Ncv1.out.keep k1)
  clear K1 k1 Nav1 Ncv1
  have b0 := bx_new w2 (q1) (q2)
  have ka := Kp.alloc w2 (ob (q1) (q2)) []
  have K3 := hid (K2.out.trans ka)
  have Nav3 := hid (Nav2.out.keep ka)
  have Ncv3 := hid (Ncv2.out.keep ka)
  clear K2 ka Nav2 Ncv2
  have Nsv4 := hid b0
  clear b0
  have x5 := Nav3.out.c0
  have x6 := Nav3.out.c1
  have x7 := Ncv3.out.c0
  have x8 := Ncv3.out.c1
  go_wp2_with (go_at_call 17; refine (num_any _ _).mono ?_; rintro e ww ⟨rfl, rfl⟩)
  clear x5 x6 x7 x8
  refine (c3 _).mono ?_
  rintro e w3 ⟨rfl, k1⟩
  have K9 := hid (K3.out.trans k1)
  have Nav9 := hid (Nav3.out.keep k1)
  have Ncv9 := hid (Ncv3.out.keep k1)
  clear K3 k1 Nav3 Ncv3
  have b0 := bx_new w3 (u) (v)
  have ka := Kp.alloc w3 (ob (u) (v)) []
  have K10 := hid (K9.out.trans ka)
  have Nav10 := hid (Nav9.out.keep ka)
  have Ncv10 := hid (Ncv9.out.keep ka)
  clear K9 ka Nav9 Ncv9
  have Nmv11 := hid b0
  clear b0
  have x12 := Nmv11.out.c0
  have x13 := Nmv11.out.c1
  have x14 := Ncv10.out.c0
  have x15 := Ncv10.out.c1
  go_wp2_with (go_at_call 17; refine (num_any _ _).mono ?_; rintro e ww ⟨rfl, rfl⟩)
  clear x12 x13 x14 x15
  refine (c4 _).mono ?_
  rintro e w4 ⟨rfl, k1⟩
  have K16 := hid (K10.out.trans k1)
  have Nav16 := hid (Nav10.out.keep k1)
  have Ncv16 := hid (Ncv10.out.keep k1)
  have Nmv16 := hid (Nmv11.out.keep k1)
  clear K10 k1 Nav10 Ncv10 Nmv11
  have b0 := bx_new w4 (a) (b)
  have ka := Kp.alloc w4 (ob (a) (b)) []
  have K17 := hid (K16.out.trans ka)
  have Nav17 := hid (Nav16.out.keep ka)
  have Ncv17 := hid (Ncv16.out.keep ka)
  have Nmv17 := hid (Nmv16.out.keep ka)
  clear K16 ka Nav16 Ncv16 Nmv16
  have Nkv18 := hid b0
  clear b0
  have x19 := Nkv18.out.c0
  have x20 := Nkv18.out.c1
  have x21 := Nav17.out.c0
  have x22 := Nav17.out.c1
  go_wp2_with (go_at_call 17; refine (num_any _ _).mono ?_; rintro e ww ⟨rfl, rfl⟩)
  clear x19 x20 x21 x22
  refine (c5 _).mono ?_
  rintro e w5 ⟨rfl, k1⟩
  have K23 := hid (K17.out.trans k1)
  have Nav23 := hid (Nav17.out.keep k1)
  have Ncv23 := hid (Ncv17.out.keep k1)
  have Nmv23 := hid (Nmv17.out.keep k1)
  have Nkv23 := hid (Nkv18.out.keep k1)
  clear K17 k1 Nav17 Ncv17 Nmv17 Nkv18
  have x24 := Ncv23.out.c0
  have x25 := Ncv23.out.c1
  go_wp2_with (go_at_call 17; refine (num_any _ _).mono ?_; rintro e ww ⟨rfl, rfl⟩)
  clear x24 x25
  refine (c6 _).mono ?_
  rintro e w6 ⟨rfl, k1⟩
  have K26 := hid (K23.out.trans k1)
  have Nav26 := hid (Nav23.out.keep k1)
  have Ncv26 := hid (Ncv23.out.keep k1)
  have Nmv26 := hid (Nmv23.out.keep k1)
  have Nkv26 := hid (Nkv23.out.keep k1)
  clear K23 k1 Nav23 Ncv23 Nmv23 Nkv23
  go_wp2_with (go_at_call 17; refine (num_any _ _).mono ?_; rintro e ww ⟨rfl, rfl⟩)
  go_ret
  exact ⟨rfl, K26.out⟩

set_option maxRecDepth 100000 in
set_option maxHeartbeats 4000000 in
theorem back_no_ok_lt (kn : KnownOk) (w : World) (h : Wd w) (a b c d n : Int) (q1 q2 q3 : Int) (hA : ofP n = (q1, q2, q3)) (hq : q3 ≠ 0) (u v g : Int) (hB : addP a b c d = (u, v, g)) (hg0 : g = 0) (hB2 : subP u v c d = (a, b, 0)) (x y e1 e2 : Int) (hC1 : ticksP a b = (x, e1)) (hC2 : ticksP c d = (y, e2)) (hs1 : 0 ≤ e1 ∧ e1 ≤ 5) (hs2 : 0 ≤ e2 ∧ e2 ≤ 5) (hs : e1 + e2 = 0) (z : Int) (hD : cmpP a b c d = z) (hz : z < 0) (hxy : x ≤ y) (p q r : Int) (hE : ofP x = (p, q, 0)) (hE2 : subP p q a b = (0, r, 0)) (hr : r < 1000000) :
    Calls Tryd.prog 6 #[sp a b, sp c d, .int .i64 n] w fun e w' => e = .returned (.bool true) ∧ Kp w w' [] := by
  have c1 := fun w => of6_any w n
  simp only [hA] at c1
  have hq1 : (q3 == 0) = false := by simp; omega
  have hq2 : ¬ q3 = 0 := hq
  have c3 := fun w => add_any w a b c d
  simp only [hB] at c3
  subst hg0
  have c4 := fun w => sub_any w u v c d
  simp only [hB2] at c4
  have c5 := fun w => ticks_any w a b
  have c6 := fun w => ticks_any w c d
  simp only [hC1] at c5
  simp only [hC2] at c6
  have we : IntKind.i64.wrap (e1 + e2) = e1 + e2 := wrap_id ⟨by omega, by omega⟩
  have hs6 : e1 = 0 := by omega
  have hs7 : e2 = 0 := by omega
  subst hs6 hs7
  have c7 := fun w => cmp_any w a b c d
  have c8 := fun w => of6_any w x
  have c9 := fun w => sub_any w p q a b
  simp only [hD] at c7
  simp only [hE] at c8
  simp only [hE2] at c9
  have hr1 : decide (r < 1000000) = true := by simp; omega
  have hg := guard_sp
  have he := neq_sp
  have HW := hid h
  have HK := hid kn
  clear h kn hA hB hC1 hC2 hB2 hD hE hE2 hs 
  obtain ⟨b1, b2, k0⟩ := bx2 w a b c d
  have K0 := hid k0
  have NA := hid b1
  have NC := hid b2
  clear b1 b2 k0
  go_enter Tryd.func6, Tryd.ntmps6
  go_wp2_with (go_at_call 17; refine (num_any _ _).mono ?_; rintro e ww ⟨rfl, rfl⟩)
  refine (HK.out _ (HW.out.keep K0.out)).mono ?_
  rintro e w1 ⟨rfl, k1⟩
  have K1 := hid (K0.out.trans k1)
  have Nav1 := hid (NA.out.keep k1)
  have Ncv1 := hid (NC.out.keep k1)
  clear K0 k1 NA NC
  go_wp2_with (go_at_call 17; refine (num_any _ _).mono ?_; rintro e ww ⟨rfl, rfl⟩)
  refine (c1 _).mono ?_
  rintro e w2 ⟨rfl, k1⟩
  have K2 := hid (K1.out.trans k1)
  have Nav2 := hid (Nav1.out.keep k1)
  have Ncv2 := hid (Ncv1.out.keep k1)
  clear K1 k1 Nav1 Ncv1
  have b0 := bx_new w2 (q1) (q2)
  have ka := Kp.alloc w2 (ob (q1) (q2)) []
  have K3 := hid (K2.out.trans ka)
  have Nav3 := hid (Nav2.out.keep ka)
  have Ncv3 := hid (Ncv2.out.keep ka)
  clear K2 ka Nav2 Ncv2
  have Nsv4 := hid b0
  clear b0
  have x5 := Nav3.out.c0
  have x6 := Nav3.out.c1
  have x7 := Ncv3.out.c0
  have x8 := Ncv3.out.c1
  go_wp2_with (go_at_call 17; refine (num_any _ _).mono ?_; rintro e ww ⟨rfl, rfl⟩)
  clear x5 x6 x7 x8
  refine (c3 _).mono ?_
  rintro e w3 ⟨rfl, k1⟩
  have K9 := hid (K3.out.trans k1)
  have Nav9 := hid (Nav3.out.keep k1)
  have Ncv9 := hid (Ncv3.out.keep k1)
  clear K3 k1 Nav3 Ncv3
  have b0 := bx_new w3 (u) (v)
  have ka := Kp.alloc w3 (ob (u) (v)) []
  have K10 := hid (K9.out.trans ka)
  have Nav10 := hid (Nav9.out.keep ka)
  have Ncv10 := hid (Ncv9.out.keep ka)
  clear K9 ka Nav9 Ncv9
  have Nmv11 := hid b0
  clear b0
  have x12 := Nmv11.out.c0
  have x13 := Nmv11.out.c1
  have x14 := Ncv10.out.c0
  have x15 := Ncv10.out.c1
  go_wp2_with (go_at_call 17; refine (num_any _ _).mono ?_; rintro e ww ⟨rfl, rfl⟩)
  clear x12 x13 x14 x15
  refine (c4 _).mono ?_
  rintro e w4 ⟨rfl, k1⟩
  have K16 := hid (K10.out.trans k1)
  have Nav16 := hid (Nav10.out.keep k1)
  have Ncv16 := hid (Ncv10.out.keep k1)
  have Nmv16 := hid (Nmv11.out.keep k1)
  clear K10 k1 Nav10 Ncv10 Nmv11
  have b0 := bx_new w4 (a) (b)
  have ka := Kp.alloc w4 (ob (a) (b)) []
  have K17 := hid (K16.out.trans ka)
  have Nav17 := hid (Nav16.out.keep ka)
  have Ncv17 := hid (Ncv16.out.keep ka)
  have Nmv17 := hid (Nmv16.out.keep ka)
  clear K16 ka Nav16 Ncv16 Nmv16
  have Nkv18 := hid b0
  clear b0
  have x19 := Nkv18.out.c0
  have x20 := Nkv18.out.c1
  have x21 := Nav17.out.c0
  have x22 := Nav17.out.c1
  go_wp2_with (go_at_call 17; refine (num_any _ _).mono ?_; rintro e ww ⟨rfl, rfl⟩)
  clear x19 x20 x21 x22
  refine (c5 _).mono ?_
  rintro e w5 ⟨rfl, k1⟩
  have K23 := hid (K17.out.trans k1)
  have Nav23 := hid (Nav17.out.keep k1)
  have Ncv23 := hid (Ncv17.out.keep k1)
  have Nmv23 := hid (Nmv17.out.keep k1)
  have Nkv23 := hid (Nkv18.out.keep k1)
  clear K17 k1 Nav17 Ncv17 Nmv17 Nkv18
  have x24 := Ncv23.out.c0
  have x25 := Ncv23.out.c1
  go_wp2_with (go_at_call 17; refine (num_any _ _).mono ?_; rintro e ww ⟨rfl, rfl⟩)
  clear x24 x25
  refine (c6 _).mono ?_
  rintro e w6 ⟨rfl, k1⟩
  have K26 := hid (K23.out.trans k1)
  have Nav26 := hid (Nav23.out.keep k1)
  have Ncv26 := hid (Ncv23.out.keep k1)
  have Nmv26 := hid (Nmv23.out.keep k1)
  have Nkv26 := hid (Nkv23.out.keep k1)
  clear K23 k1 Nav23 Ncv23 Nmv23 Nkv23
  have x27 := Nav26.out.c0
  have x28 := Nav26.out.c1
  have x29 := Ncv26.out.c0
  have x30 := Ncv26.out.c1
  go_wp2_with (go_at_call 17; refine (num_any _ _).mono ?_; rintro e ww ⟨rfl, rfl⟩)
  clear x27 x28 x29 x30
  refine (c7 _).mono ?_
  rintro e w7 ⟨rfl, k1⟩
  have K31 := hid (K26.out.trans k1)
  have Nav31 := hid (Nav26.out.keep k1)
  have Ncv31 := hid (Ncv26.out.keep k1)
  clear K26 k1 Nav26 Ncv26
  go_wp2_with (go_at_call 17; refine (num_any _ _).mono ?_; rintro e ww ⟨rfl, rfl⟩)
  refine (c8 _).mono ?_
  rintro e w8 ⟨rfl, k1⟩
  have K32 := hid (K31.out.trans k1)
  have Nav32 := hid (Nav31.out.keep k1)
  have Ncv32 := hid (Ncv31.out.keep k1)
  clear K31 k1 Nav31 Ncv31
  have b0 := bx_new w8 (p) (q)
  have ka := Kp.alloc w8 (ob (p) (q)) []
  have K33 := hid (K32.out.trans ka)
  have Nav33 := hid (Nav32.out.keep ka)
  have Ncv33 := hid (Ncv32.out.keep ka)
  clear K32 ka Nav32 Ncv32
  have Niv34 := hid b0
  clear b0
  have x35 := Niv34.out.c0
  have x36 := Niv34.out.c1
  have x37 := Nav33.out.c0
  have x38 := Nav33.out.c1
  go_wp2_with (go_at_call 17; refine (num_any _ _).mono ?_; rintro e ww ⟨rfl, rfl⟩)
  clear x35 x36 x37 x38
  refine (c9 _).mono ?_
  rintro e w9 ⟨rfl, k1⟩
  have K39 := hid (K33.out.trans k1)
  have Nav39 := hid (Nav33.out.keep k1)
  have Ncv39 := hid (Ncv33.out.keep k1)
  have Niv39 := hid (Niv34.out.keep k1)
  clear K33 k1 Nav33 Ncv33 Niv34
  have b0 := bx_new w9 (0) (r)
  have ka := Kp.alloc w9 (ob (0) (r)) []
  have K40 := hid (K39.out.trans ka)
  have Nav40 := hid (Nav39.out.keep ka)
  have Ncv40 := hid (Ncv39.out.keep ka)
  have Niv40 := hid (Niv39.out.keep ka)
  clear K39 ka Nav39 Ncv39 Niv39
  have Njv41 := hid b0
  clear b0
  have x42 := Njv41.out.c0
  have x43 := Njv41.out.c1
  go_wp2_with (go_at_call 17; refine (num_any _ _).mono ?_; rintro e ww ⟨rfl, rfl⟩)
  go_ret
  exact ⟨rfl, K40.out⟩

set_option maxRecDepth 100000 in
set_option maxHeartbeats 4000000 in
theorem back_no_ok_ge (kn : KnownOk) (w : World) (h : Wd w) (a b c d n : Int) (q1 q2 q3 : Int) (hA : ofP n = (q1, q2, q3)) (hq : q3 ≠ 0) (u v g : Int) (hB : addP a b c d = (u, v, g)) (hg0 : g = 0) (hB2 : subP u v c d = (a, b, 0)) (x y e1 e2 : Int) (hC1 : ticksP a b = (x, e1)) (hC2 : ticksP c d = (y, e2)) (hs1 : 0 ≤ e1 ∧ e1 ≤ 5) (hs2 : 0 ≤ e2 ∧ e2 ≤ 5) (hs : e1 + e2 = 0) (z : Int) (hD : cmpP a b c d = z) (hz : 0 ≤ z) (p q r : Int) (hE : ofP x = (p, q, 0)) (hE2 : subP p q a b = (0, r, 0)) (hr : r < 1000000) :
    Calls Tryd.prog 6 #[sp a b, sp c d, .int .i64 n] w fun e w' => e = .returned (.bool true) ∧ Kp w w' [] := by
  have c1 := fun w => of6_any w n
  simp only [hA] at c1
  have hq1 : (q3 == 0) = false := by simp; omega
  have hq2 : ¬ q3 = 0 := hq
  have c3 := fun w => add_any w a b c d
  simp only [hB] at c3
  subst hg0
  have c4 := fun w => sub_any w u v c d
  simp only [hB2] at c4
  have c5 := fun w => ticks_any w a b
  have c6 := fun w => ticks_any w c d
  simp only [hC1] at c5
  simp only [hC2] at c6
  have we : IntKind.i64.wrap (e1 + e2) = e1 + e2 := wrap_id ⟨by omega, by omega⟩
  have hs6 : e1 = 0 := by omega
  have hs7 : e2 = 0 := by omega
  subst hs6 hs7
  have c7 := fun w => cmp_any w a b c d
  have c8 := fun w => of6_any w x
  have c9 := fun w => sub_any w p q a b
  simp only [hD] at c7
  simp only [hE] at c8
  simp only [hE2] at c9
  have hr1 : decide (r < 1000000) = true := by simp; omega
  have hg := guard_sp
  have he := neq_sp
  have HW := hid h
  have HK := hid kn
  clear h kn hA hB hC1 hC2 hB2 hD hE hE2 hs 
  obtain ⟨b1, b2, k0⟩ := bx2 w a b c d
  have K0 := hid k0
  have NA := hid b1
  have NC := hid b2
  clear b1 b2 k0
  go_enter Tryd.func6, Tryd.ntmps6
  go_wp2_with (go_at_call 17; refine (num_any _ _).mono ?_; rintro e ww ⟨rfl, rfl⟩)
  refine (HK.out _ (HW.out.keep K0.out)).mono ?_
  rintro e w1 ⟨rfl, k1⟩
  have K1 := hid (K0.out.trans k1)
  have Nav1 := hid (NA.out.keep k1)
  have Ncv1 := hid (NC.out.keep k1)
  clear K0 k1 NA NC
  go_wp2_with (go_at_call 17; refine (num_any _ _).mono ?_; rintro e ww ⟨rfl, rfl⟩)
  refine (c1 _).mono ?_
  rintro e w2 ⟨rfl, k1⟩
  have K2 := hid (K1.out.trans k1)
  have Nav2 := hid (Nav1.out.keep k1)
  have Ncv2 := hid (Ncv1.out.keep k1)
  clear K1 k1 Nav1 Ncv1
  have b0 := bx_new w2 (q1) (q2)
  have ka := Kp.alloc w2 (ob (q1) (q2)) []
  have K3 := hid (K2.out.trans ka)
  have Nav3 := hid (Nav2.out.keep ka)
  have Ncv3 := hid (Ncv2.out.keep ka)
  clear K2 ka Nav2 Ncv2
  have Nsv4 := hid b0
  clear b0
  have x5 := Nav3.out.c0
  have x6 := Nav3.out.c1
  have x7 := Ncv3.out.c0
  have x8 := Ncv3.out.c1
  go_wp2_with (go_at_call 17; refine (num_any _ _).mono ?_; rintro e ww ⟨rfl, rfl⟩)
  clear x5 x6 x7 x8
  refine (c3 _).mono ?_
  rintro e w3 ⟨rfl, k1⟩
  have K9 := hid (K3.out.trans k1)
  have Nav9 := hid (Nav3.out.keep k1)
  have Ncv9 := hid (Ncv3.out.keep k1)
  clear K3 k1 Nav3 Ncv3
  have b0 := bx_new w3 (u) (v)
  have ka := Kp.alloc w3 (ob (u) (v)) []
  have K10 := hid (K9.out.trans ka)
  have Nav10 := hid (Nav9.out.keep ka)
  have Ncv10 := hid (Ncv9.out.keep ka)
  clear K9 ka Nav9 Ncv9
  have Nmv11 := hid b0
  clear b0
  have x12 := Nmv11.out.c0
  have x13 := Nmv11.out.c1
  have x14 := Ncv10.out.c0
  have x15 := Ncv10.out.c1
  go_wp2_with (go_at_call 17; refine (num_any _ _).mono ?_; rintro e ww ⟨rfl, rfl⟩)
  clear x12 x13 x14 x15
  refine (c4 _).mono ?_
  rintro e w4 ⟨rfl, k1⟩
  have K16 := hid (K10.out.trans k1)
  have Nav16 := hid (Nav10.out.keep k1)
  have Ncv16 := hid (Ncv10.out.keep k1)
  have Nmv16 := hid (Nmv11.out.keep k1)
  clear K10 k1 Nav10 Ncv10 Nmv11
  have b0 := bx_new w4 (a) (b)
  have ka := Kp.alloc w4 (ob (a) (b)) []
  have K17 := hid (K16.out.trans ka)
  have Nav17 := hid (Nav16.out.keep ka)
  have Ncv17 := hid (Ncv16.out.keep ka)
  have Nmv17 := hid (Nmv16.out.keep ka)
  clear K16 ka Nav16 Ncv16 Nmv16
  have Nkv18 := hid b0
  clear b0
  have x19 := Nkv18.out.c0
  have x20 := Nkv18.out.c1
  have x21 := Nav17.out.c0
  have x22 := Nav17.out.c1
  go_wp2_with (go_at_call 17; refine (num_any _ _).mono ?_; rintro e ww ⟨rfl, rfl⟩)
  clear x19 x20 x21 x22
  refine (c5 _).mono ?_
  rintro e w5 ⟨rfl, k1⟩
  have K23 := hid (K17.out.trans k1)
  have Nav23 := hid (Nav17.out.keep k1)
  have Ncv23 := hid (Ncv17.out.keep k1)
  have Nmv23 := hid (Nmv17.out.keep k1)
  have Nkv23 := hid (Nkv18.out.keep k1)
  clear K17 k1 Nav17 Ncv17 Nmv17 Nkv18
  have x24 := Ncv23.out.c0
  have x25 := Ncv23.out.c1
  go_wp2_with (go_at_call 17; refine (num_any _ _).mono ?_; rintro e ww ⟨rfl, rfl⟩)
  clear x24 x25
  refine (c6 _).mono ?_
  rintro e w6 ⟨rfl, k1⟩
  have K26 := hid (K23.out.trans k1)
  have Nav26 := hid (Nav23.out.keep k1)
  have Ncv26 := hid (Ncv23.out.keep k1)
  have Nmv26 := hid (Nmv23.out.keep k1)
  have Nkv26 := hid (Nkv23.out.keep k1)
  clear K23 k1 Nav23 Ncv23 Nmv23 Nkv23
  have x27 := Nav26.out.c0
  have x28 := Nav26.out.c1
  have x29 := Ncv26.out.c0
  have x30 := Ncv26.out.c1
  go_wp2_with (go_at_call 17; refine (num_any _ _).mono ?_; rintro e ww ⟨rfl, rfl⟩)
  clear x27 x28 x29 x30
  refine (c7 _).mono ?_
  rintro e w7 ⟨rfl, k1⟩
  have K31 := hid (K26.out.trans k1)
  have Nav31 := hid (Nav26.out.keep k1)
  have Ncv31 := hid (Ncv26.out.keep k1)
  clear K26 k1 Nav26 Ncv26
  go_wp2_with (go_at_call 17; refine (num_any _ _).mono ?_; rintro e ww ⟨rfl, rfl⟩)
  refine (c8 _).mono ?_
  rintro e w8 ⟨rfl, k1⟩
  have K32 := hid (K31.out.trans k1)
  have Nav32 := hid (Nav31.out.keep k1)
  have Ncv32 := hid (Ncv31.out.keep k1)
  clear K31 k1 Nav31 Ncv31
  have b0 := bx_new w8 (p) (q)
  have ka := Kp.alloc w8 (ob (p) (q)) []
  have K33 := hid (K32.out.trans ka)
  have Nav33 := hid (Nav32.out.keep ka)
  have Ncv33 := hid (Ncv32.out.keep ka)
  clear K32 ka Nav32 Ncv32
  have Niv34 := hid b0
  clear b0
  have x35 := Niv34.out.c0
  have x36 := Niv34.out.c1
  have x37 := Nav33.out.c0
  have x38 := Nav33.out.c1
  go_wp2_with (go_at_call 17; refine (num_any _ _).mono ?_; rintro e ww ⟨rfl, rfl⟩)
  clear x35 x36 x37 x38
  refine (c9 _).mono ?_
  rintro e w9 ⟨rfl, k1⟩
  have K39 := hid (K33.out.trans k1)
  have Nav39 := hid (Nav33.out.keep k1)
  have Ncv39 := hid (Ncv33.out.keep k1)
  have Niv39 := hid (Niv34.out.keep k1)
  clear K33 k1 Nav33 Ncv33 Niv34
  have b0 := bx_new w9 (0) (r)
  have ka := Kp.alloc w9 (ob (0) (r)) []
  have K40 := hid (K39.out.trans ka)
  have Nav40 := hid (Nav39.out.keep ka)
  have Ncv40 := hid (Ncv39.out.keep ka)
  have Niv40 := hid (Niv39.out.keep ka)
  clear K39 ka Nav39 Ncv39 Niv39
  have Njv41 := hid b0
  clear b0
  have x42 := Njv41.out.c0
  have x43 := Njv41.out.c1
  go_wp2_with (go_at_call 17; refine (num_any _ _).mono ?_; rintro e ww ⟨rfl, rfl⟩)
  go_ret
  exact ⟨rfl, K40.out⟩

set_option maxRecDepth 100000 in
set_option maxHeartbeats 4000000 in
theorem back_no_no_no (kn : KnownOk) (w : World) (h : Wd w) (a b c d n : Int) (q1 q2 q3 : Int) (hA : ofP n = (q1, q2, q3)) (hq : q3 ≠ 0) (u v g : Int) (hB : addP a b c d = (u, v, g)) (hg0 : g ≠ 0) (x y e1 e2 : Int) (hC1 : ticksP a b = (x, e1)) (hC2 : ticksP c d = (y, e2)) (hs1 : 0 ≤ e1 ∧ e1 ≤ 5) (hs2 : 0 ≤ e2 ∧ e2 ≤ 5) (hs : e1 + e2 ≠ 0) :
    Calls Tryd.prog 6 #[sp a b, sp c d, .int .i64 n] w fun e w' => e = .returned (.bool true) ∧ Kp w w' [] := by
  have c1 := fun w => of6_any w n
  simp only [hA] at c1
  have hq1 : (q3 == 0) = false := by simp; omega
  have hq2 : ¬ q3 = 0 := hq
  have c3 := fun w => add_any w a b c d
  simp only [hB] at c3
  have hg1 : (g == 0) = false := by simp; omega
  have hg2 : ¬ g = 0 := hg0
  have c5 := fun w => ticks_any w a b
  have c6 := fun w => ticks_any w c d
  simp only [hC1] at c5
  simp only [hC2] at c6
  have we : IntKind.i64.wrap (e1 + e2) = e1 + e2 := wrap_id ⟨by omega, by omega⟩
  have hs3 : (e1 + e2 == 0) = false := by simp; omega
  have hs4 : ¬ e1 + e2 = 0 := hs
  have hs5 : (e1 + e2 != 0) = true := by simp; omega
  have hg := guard_sp
  have he := neq_sp
  have HW := hid h
  have HK := hid kn
  clear h kn hA hB hC1 hC2 
  obtain ⟨b1, b2, k0⟩ := bx2 w a b c d
  have K0 := hid k0
  have NA := hid b1
  have NC := hid b2
  clear b1 b2 k0
  go_enter Tryd.func6, Tryd.ntmps6
  go_wp2_with (go_at_call 17; refine (num_any _ _).mono ?_; rintro e ww ⟨rfl, rfl⟩)
  refine (HK.out _ (HW.out.keep K0.out)).mono ?_
  rintro e w1 ⟨rfl, k1⟩
  have K1 := hid (K0.out.trans k1)
  have Nav1 := hid (NA.out.keep k1)
  have Ncv1 := hid (NC.out.keep k1)
  clear K0 k1 NA NC
  go_wp2_with (go_at_call 17; refine (num_any _ _).mono ?_; rintro e ww ⟨rfl, rfl⟩)
  refine (c1 _).mono ?_
  rintro e w2 ⟨rfl, k1⟩
  have K2 := hid (K1.out.trans k1)
  have Nav2 := hid (Nav1.out.keep k1)
  have Ncv2 := hid (Ncv1.out.keep k1)
  clear K1 k1 Nav1 Ncv1
  have b0 := bx_new w2 (q1) (q2)
  have ka := Kp.alloc w2 (ob (q1) (q2)) []
  have K3 := hid (K2.out.trans ka)
  have Nav3 := hid (Nav2.out.keep ka)
  have Ncv3 := hid (Ncv2.out.keep ka)
  clear K2 ka Nav2 Ncv2
  have Nsv4 := hid b0
  clear b0
  have x5 := Nav3.out.c0
  have x6 := Nav3.out.c1
  have x7 := Ncv3.out.c0
  have x8 := Ncv3.out.c1
  go_wp2_with (go_at_call 17; refine (num_any _ _).mono ?_; rintro e ww ⟨rfl, rfl⟩)
  clear x5 x6 x7 x8
  refine (c3 _).mono ?_
  rintro e w3 ⟨rfl, k1⟩
  have K9 := hid (K3.out.trans k1)
  have Nav9 := hid (Nav3.out.keep k1)
  have Ncv9 := hid (Ncv3.out.keep k1)
  clear K3 k1 Nav3 Ncv3
  have b0 := bx_new w3 (u) (v)
  have ka := Kp.alloc w3 (ob (u) (v)) []
  have K10 := hid (K9.out.trans ka)
  have Nav10 := hid (Nav9.out.keep ka)
  have Ncv10 := hid (Ncv9.out.keep ka)
  clear K9 ka Nav9 Ncv9
  have Nmv11 := hid b0
  clear b0
  have x12 := Nav10.out.c0
  have x13 := Nav10.out.c1
  go_wp2_with (go_at_call 17; refine (num_any _ _).mono ?_; rintro e ww ⟨rfl, rfl⟩)
  clear x12 x13
  refine (c5 _).mono ?_
  rintro e w4 ⟨rfl, k1⟩
  have K14 := hid (K10.out.trans k1)
  have Nav14 := hid (Nav10.out.keep k1)
  have Ncv14 := hid (Ncv10.out.keep k1)
  have Nmv14 := hid (Nmv11.out.keep k1)
  clear K10 k1 Nav10 Ncv10 Nmv11
  have x15 := Ncv14.out.c0
  have x16 := Ncv14.out.c1
  go_wp2_with (go_at_call 17; refine (num_any _ _).mono ?_; rintro e ww ⟨rfl, rfl⟩)
  clear x15 x16
  refine (c6 _).mono ?_
  rintro e w5 ⟨rfl, k1⟩
  have K17 := hid (K14.out.trans k1)
  have Nav17 := hid (Nav14.out.keep k1)
  have Ncv17 := hid (Ncv14.out.keep k1)
  have Nmv17 := hid (Nmv14.out.keep k1)
  clear K14 k1 Nav14 Ncv14 Nmv14
  go_wp2_with (go_at_call 17; refine (num_any _ _).mono ?_; rintro e ww ⟨rfl, rfl⟩)
  go_ret
  exact ⟨rfl, K17.out⟩

set_option maxRecDepth 100000 in
set_option maxHeartbeats 4000000 in
theorem back_no_no_lt (kn : KnownOk) (w : World) (h : Wd w) (a b c d n : Int) (q1 q2 q3 : Int) (hA : ofP n = (q1, q2, q3)) (hq : q3 ≠ 0) (u v g : Int) (hB : addP a b c d = (u, v, g)) (hg0 : g ≠ 0) (x y e1 e2 : Int) (hC1 : ticksP a b = (x, e1)) (hC2 : ticksP c d = (y, e2)) (hs1 : 0 ≤ e1 ∧ e1 ≤ 5) (hs2 : 0 ≤ e2 ∧ e2 ≤ 5) (hs : e1 + e2 = 0) (z : Int) (hD : cmpP a b c d = z) (hz : z < 0) (hxy : x ≤ y) (p q r : Int) (hE : ofP x = (p, q, 0)) (hE2 : subP p q a b = (0, r, 0)) (hr : r < 1000000) :
    Calls Tryd.prog 6 #[sp a b, sp c d, .int .i64 n] w fun e w' => e = .returned (.bool true) ∧ Kp w w' [] := by
  have c1 := fun w => of6_any w n
  simp only [hA] at c1
  have hq1 : (q3 == 0) = false := by simp; omega
  have hq2 : ¬ q3 = 0 := hq
  have c3 := fun w => add_any w a b c d
  simp only [hB] at c3
  have hg1 : (g == 0) = false := by simp; omega
  have hg2 : ¬ g = 0 := hg0
  have c5 := fun w => ticks_any w a b
  have c6 := fun w => ticks_any w c d
  simp only [hC1] at c5
  simp only [hC2] at c6
  have we : IntKind.i64.wrap (e1 + e2) = e1 + e2 := wrap_id ⟨by omega, by omega⟩
  have hs6 : e1 = 0 := by omega
  have hs7 : e2 = 0 := by omega
  subst hs6 hs7
  have c7 := fun w => cmp_any w a b c d
  have c8 := fun w => of6_any w x
  have c9 := fun w => sub_any w p q a b
  simp only [hD] at c7
  simp only [hE] at c8
  simp only [hE2] at c9
  have hr1 : decide (r < 1000000) = true := by simp; omega
  have hg := guard_sp
  have he := neq_sp
  have HW := hid h
  have HK := hid kn
  clear h kn hA hB hC1 hC2 hD hE hE2 hs 
  obtain ⟨b1, b2, k0⟩ := bx2 w a b c d
  have K0 := hid k0
  have NA := hid b1
  have NC := hid b2
  clear b1 b2 k0
  go_enter Tryd.func6, Tryd.ntmps6
  go_wp2_with (go_at_call 17; refine (num_any _ _).mono ?_; rintro e ww ⟨rfl, rfl⟩)
  refine (HK.out _ (HW.out.keep K0.out)).mono ?_
  rintro e w1 ⟨rfl, k1⟩
  have K1 := hid (K0.out.trans k1)
  have Nav1 := hid (NA.out.keep k1)
  have Ncv1 := hid (NC.out.keep k1)
  clear K0 k1 NA NC
  go_wp2_with (go_at_call 17; refine (num_any _ _).mono ?_; rintro e ww ⟨rfl, rfl⟩)
  refine (c1 _).mono ?_
  rintro e w2 ⟨rfl, k1⟩
  have K2 := hid (K1.out.trans k1)
  have Nav2 := hid (Nav1.out.keep k1)
  have Ncv2 := hid (Ncv1.out.keep k1)
  clear K1 k1 Nav1 Ncv1
  have b0 := bx_new w2 (q1) (q2)
  have ka := Kp.alloc w2 (ob (q1) (q2)) []
  have K3 := hid (K2.out.trans ka)
  have Nav3 := hid (Nav2.out.keep ka)
  have Ncv3 := hid (Ncv2.out.keep ka)
  clear K2 ka Nav2 Ncv2
  have Nsv4 := hid b0
  clear b0
  have x5 := Nav3.out.c0
  have x6 := Nav3.out.c1
  have x7 := Ncv3.out.c0
  have x8 := Ncv3.out.c1
  go_wp2_with (go_at_call 17; refine (num_any _ _).mono ?_; rintro e ww ⟨rfl, rfl⟩)
  clear x5 x6 x7 x8
  refine (c3 _).mono ?_
  rintro e w3 ⟨rfl, k1⟩
  have K9 := hid (K3.out.trans k1)
  have Nav9 := hid (Nav3.out.keep k1)
  have Ncv9 := hid (Ncv3.out.keep k1)
  clear K3 k1 Nav3 Ncv3
  have b0 := bx_new w3 (u) (v)
  have ka := Kp.alloc w3 (ob (u) (v)) []
  have K10 := hid (K9.out.trans ka)
  have Nav10 := hid (Nav9.out.keep ka)
  have Ncv10 := hid (Ncv9.out.keep ka)
  clear K9 ka Nav9 Ncv9
  have Nmv11 := hid b0
  clear b0
  have x12 := Nav10.out.c0
  have x13 := Nav10.out.c1
  go_wp2_with (go_at_call 17; refine (num_any _ _).mono ?_; rintro e ww ⟨rfl, rfl⟩)
  clear x12 x13
  refine (c5 _).mono ?_
  rintro e w4 ⟨rfl, k1⟩
  have K14 := hid (K10.out.trans k1)
  have Nav14 := hid (Nav10.out.keep k1)
  have Ncv14 := hid (Ncv10.out.keep k1)
  have Nmv14 := hid (Nmv11.out.keep k1)
  clear K10 k1 Nav10 Ncv10 Nmv11
  have x15 := Ncv14.out.c0
  have x16 := Ncv14.out.c1
  go_wp2_with (go_at_call 17; refine (num_any _ _).mono ?_; rintro e ww ⟨rfl, rfl⟩)
  clear x15 x16
  refine (c6 _).mono ?_
  rintro e w5 ⟨rfl, k1⟩
  have K17 := hid (K14.out.trans k1)
  have Nav17 := hid (Nav14.out.keep k1)
  have Ncv17 := hid (Ncv14.out.keep k1)
  have Nmv17 := hid (Nmv14.out.keep k1)
  clear K14 k1 Nav14 Ncv14 Nmv14
  have x18 := Nav17.out.c0
  have x19 := Nav17.out.c1
  have x20 := Ncv17.out.c0
  have x21 := Ncv17.out.c1
  go_wp2_with (go_at_call 17; refine (num_any _ _).mono ?_; rintro e ww ⟨rfl, rfl⟩)
  clear x18 x19 x20 x21
  refine (c7 _).mono ?_
  rintro e w6 ⟨rfl, k1⟩
  have K22 := hid (K17.out.trans k1)
  have Nav22 := hid (Nav17.out.keep k1)
  have Ncv22 := hid (Ncv17.out.keep k1)
  clear K17 k1 Nav17 Ncv17
  go_wp2_with (go_at_call 17; refine (num_any _ _).mono ?_; rintro e ww ⟨rfl, rfl⟩)
  refine (c8 _).mono ?_
  rintro e w7 ⟨rfl, k1⟩
  have K23 := hid (K22.out.trans k1)
  have Nav23 := hid (Nav22.out.keep k1)
  have Ncv23 := hid (Ncv22.out.keep k1)
  clear K22 k1 Nav22 Ncv22
  have b0 := bx_new w7 (p) (q)
  have ka := Kp.alloc w7 (ob (p) (q)) []
  have K24 := hid (K23.out.trans ka)
  have Nav24 := hid (Nav23.out.keep ka)
  have Ncv24 := hid (Ncv23.out.keep ka)
  clear K23 ka Nav23 Ncv23
  have Niv25 := hid b0
  clear b0
  have x26 := Niv25.out.c0
  have x27 := Niv25.out.c1
  have x28 := Nav24.out.c0
  have x29 := Nav24.out.c1
  go_wp2_with (go_at_call 17; refine (num_any _ _).mono ?_; rintro e ww ⟨rfl, rfl⟩)
  clear x26 x27 x28 x29
  refine (c9 _).mono ?_
  rintro e w8 ⟨rfl, k1⟩
  have K30 := hid (K24.out.trans k1)
  have Nav30 := hid (Nav24.out.keep k1)
  have Ncv30 := hid (Ncv24.out.keep k1)
  have Niv30 := hid (Niv25.out.keep k1)
  clear K24 k1 Nav24 Ncv24 Niv25
  have b0 := bx_new w8 (0) (r)
  have ka := Kp.alloc w8 (ob (0) (r)) []
  have K31 := hid (K30.out.trans ka)
  have Nav31 := hid (Nav30.out.keep ka)
  have Ncv31 := hid (Ncv30.out.keep ka)
  have Niv31 := hid (Niv30.out.keep ka)
  clear K30 ka Nav30 Ncv30 Niv30
  have Njv32 := hid b0
  clear b0
  have x33 := Njv32.out.c0
  have x34 := Njv32.out.c1
  go_wp2_with (go_at_call 17; refine (num_any _ _).mono ?_; rintro e ww ⟨rfl, rfl⟩)
  go_ret
  exact ⟨rfl, K31.out⟩

set_option maxRecDepth 100000 in
set_option maxHeartbeats 4000000 in
theorem back_no_no_ge (kn : KnownOk) (w : World) (h : Wd w) (a b c d n : Int) (q1 q2 q3 : Int) (hA : ofP n = (q1, q2, q3)) (hq : q3 ≠ 0) (u v g : Int) (hB : addP a b c d = (u, v, g)) (hg0 : g ≠ 0) (x y e1 e2 : Int) (hC1 : ticksP a b = (x, e1)) (hC2 : ticksP c d = (y, e2)) (hs1 : 0 ≤ e1 ∧ e1 ≤ 5) (hs2 : 0 ≤ e2 ∧ e2 ≤ 5) (hs : e1 + e2 = 0) (z : Int) (hD : cmpP a b c d = z) (hz : 0 ≤ z) (p q r : Int) (hE : ofP x = (p, q, 0)) (hE2 : subP p q a b = (0, r, 0)) (hr : r < 1000000) :
    Calls Tryd.prog 6 #[sp a b, sp c d, .int .i64 n] w fun e w' => e = .returned (.bool true) ∧ Kp w w' [] := by
  have c1 := fun w => of6_any w n
  simp only [hA] at c1
  have hq1 : (q3 == 0) = false := by simp; omega
  have hq2 : ¬ q3 = 0 := hq
  have c3 := fun w => add_any w a b c d
  simp only [hB] at c3
  have hg1 : (g == 0) = false := by simp; omega
  have hg2 : ¬ g = 0 := hg0
  have c5 := fun w => ticks_any w a b
  have c6 := fun w => ticks_any w c d
  simp only [hC1] at c5
  simp only [hC2] at c6
  have we : IntKind.i64.wrap (e1 + e2) = e1 + e2 := wrap_id ⟨by omega, by omega⟩
  have hs6 : e1 = 0 := by omega
  have hs7 : e2 = 0 := by omega
  subst hs6 hs7
  have c7 := fun w => cmp_any w a b c d
  have c8 := fun w => of6_any w x
  have c9 := fun w => sub_any w p q a b
  simp only [hD] at c7
  simp only [hE] at c8
  simp only [hE2] at c9
  have hr1 : decide (r < 1000000) = true := by simp; omega
  have hg := guard_sp
  have he := neq_sp
  have HW := hid h
  have HK := hid kn
  clear h kn hA hB hC1 hC2 hD hE hE2 hs 
  obtain ⟨b1, b2, k0⟩ := bx2 w a b c d
  have K0 := hid k0
  have NA := hid b1
  have NC := hid b2
  clear b1 b2 k0
  go_enter Tryd.func6, Tryd.ntmps6
  go_wp2_with (go_at_call 17; refine (num_any _ _).mono ?_; rintro e ww ⟨rfl, rfl⟩)
  refine (HK.out _ (HW.out.keep K0.out)).mono ?_
  rintro e w1 ⟨rfl, k1⟩
  have K1 := hid (K0.out.trans k1)
  have Nav1 := hid (NA.out.keep k1)
  have Ncv1 := hid (NC.out.keep k1)
  clear K0 k1 NA NC
  go_wp2_with (go_at_call 17; refine (num_any _ _).mono ?_; rintro e ww ⟨rfl, rfl⟩)
  refine (c1 _).mono ?_
  rintro e w2 ⟨rfl, k1⟩
  have K2 := hid (K1.out.trans k1)
  have Nav2 := hid (Nav1.out.keep k1)
  have Ncv2 := hid (Ncv1.out.keep k1)
  clear K1 k1 Nav1 Ncv1
  have b0 := bx_new w2 (q1) (q2)
  have ka := Kp.alloc w2 (ob (q1) (q2)) []
  have K3 := hid (K2.out.trans ka)
  have Nav3 := hid (Nav2.out.keep ka)
  have Ncv3 := hid (Ncv2.out.keep ka)
  clear K2 ka Nav2 Ncv2
  have Nsv4 := hid b0
  clear b0
  have x5 := Nav3.out.c0
  have x6 := Nav3.out.c1
  have x7 := Ncv3.out.c0
  have x8 := Ncv3.out.c1
  go_wp2_with (go_at_call 17; refine (num_any _ _).mono ?_; rintro e ww ⟨rfl, rfl⟩)
  clear x5 x6 x7 x8
  refine (c3 _).mono ?_
  rintro e w3 ⟨rfl, k1⟩
  have K9 := hid (K3.out.trans k1)
  have Nav9 := hid (Nav3.out.keep k1)
  have Ncv9 := hid (Ncv3.out.keep k1)
  clear K3 k1 Nav3 Ncv3
  have b0 := bx_new w3 (u) (v)
  have ka := Kp.alloc w3 (ob (u) (v)) []
  have K10 := hid (K9.out.trans ka)
  have Nav10 := hid (Nav9.out.keep ka)
  have Ncv10 := hid (Ncv9.out.keep ka)
  clear K9 ka Nav9 Ncv9
  have Nmv11 := hid b0
  clear b0
  have x12 := Nav10.out.c0
  have x13 := Nav10.out.c1
  go_wp2_with (go_at_call 17; refine (num_any _ _).mono ?_; rintro e ww ⟨rfl, rfl⟩)
  clear x12 x13
  refine (c5 _).mono ?_
  rintro e w4 ⟨rfl, k1⟩
  have K14 := hid (K10.out.trans k1)
  have Nav14 := hid (Nav10.out.keep k1)
  have Ncv14 := hid (Ncv10.out.keep k1)
  have Nmv14 := hid (Nmv11.out.keep k1)
  clear K10 k1 Nav10 Ncv10 Nmv11
  have x15 := Ncv14.out.c0
  have x16 := Ncv14.out.c1
  go_wp2_with (go_at_call 17; refine (num_any _ _).mono ?_; rintro e ww ⟨rfl, rfl⟩)
  clear x15 x16
  refine (c6 _).mono ?_
  rintro e w5 ⟨rfl, k1⟩
  have K17 := hid (K14.out.trans k1)
  have Nav17 := hid (Nav14.out.keep k1)
  have Ncv17 := hid (Ncv14.out.keep k1)
  have Nmv17 := hid (Nmv14.out.keep k1)
  clear K14 k1 Nav14 Ncv14 Nmv14
  have x18 := Nav17.out.c0
  have x19 := Nav17.out.c1
  have x20 := Ncv17.out.c0
  have x21 := Ncv17.out.c1
  go_wp2_with (go_at_call 17; refine (num_any _ _).mono ?_; rintro e ww ⟨rfl, rfl⟩)
  clear x18 x19 x20 x21
  refine (c7 _).mono ?_
  rintro e w6 ⟨rfl, k1⟩
  have K22 := hid (K17.out.trans k1)
  have Nav22 := hid (Nav17.out.keep k1)
  have Ncv22 := hid (Ncv17.out.keep k1)
  clear K17 k1 Nav17 Ncv17
  go_wp2_with (go_at_call 17; refine (num_any _ _).mono ?_; rintro e ww ⟨rfl, rfl⟩)
  refine (c8 _).mono ?_
  rintro e w7 ⟨rfl, k1⟩
  have K23 := hid (K22.out.trans k1)
  have Nav23 := hid (Nav22.out.keep k1)
  have Ncv23 := hid (Ncv22.out.keep k1)
  clear K22 k1 Nav22 Ncv22
  have b0 := bx_new w7 (p) (q)
  have ka := Kp.alloc w7 (ob (p) (q)) []
  have K24 := hid (K23.out.trans ka)
  have Nav24 := hid (Nav23.out.keep ka)
  have Ncv24 := hid (Ncv23.out.keep ka)
  clear K23 ka Nav23 Ncv23
  have Niv25 := hid b0
  clear b0
  have x26 := Niv25.out.c0
  have x27 := Niv25.out.c1
  have x28 := Nav24.out.c0
  have x29 := Nav24.out.c1
  go_wp2_with (go_at_call 17; refine (num_any _ _).mono ?_; rintro e ww ⟨rfl, rfl⟩)
  clear x26 x27 x28 x29
  refine (c9 _).mono ?_
  rintro e w8 ⟨rfl, k1⟩
  have K30 := hid (K24.out.trans k1)
  have Nav30 := hid (Nav24.out.keep k1)
  have Ncv30 := hid (Ncv24.out.keep k1)
  have Niv30 := hid (Niv25.out.keep k1)
  clear K24 k1 Nav24 Ncv24 Niv25
  have b0 := bx_new w8 (0) (r)
  have ka := Kp.alloc w8 (ob (0) (r)) []
  have K31 := hid (K30.out.trans ka)
  have Nav31 := hid (Nav30.out.keep ka)
  have Ncv31 := hid (Ncv30.out.keep ka)
  have Niv31 := hid (Niv30.out.keep ka)
  clear K30 ka Nav30 Ncv30 Niv30
  have Njv32 := hid b0
  clear b0
  have x33 := Njv32.out.c0
  have x34 := Njv32.out.c1
  go_wp2_with (go_at_call 17; refine (num_any _ _).mono ?_; rintro e ww ⟨rfl, rfl⟩)
  go_ret
  exact ⟨rfl, K31.out⟩

end Go.Proofs.YtojdahgoapknjaaDoor
