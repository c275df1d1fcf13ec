/- SpanTexts: the walk. -/
import Derived.Test.YtojdahgoapknjaaDoorKnownOk
import Derived.Test.YtojdahgoapknjaaDoorPlain
namespace Go.Proofs.YtojdahgoapknjaaDoor
open Go.RowKit Go.Shelf
set_option linter.unusedVariables false
attribute [local go_sem] Oper.semAt_some

theorem txt_len (a b : Int) (m : may a b = true) : (txt a b).length < 1000000 := by
  obtain ⟨a1, a2, b1, b2⟩ := may_iff.1 m
  obtain ⟨F, B, h, hF, h9, -⟩ := txt_parts a b m
  have hl : F.length ≤ 10 := by rw [hF]; exact dec_le 9 a.toNat (by omega)
  rw [h, List.length_append, List.length_cons]; omega
theorem rtext_a (w : World) (a b : Int) (m : may a b = true) : Calls Tryd.prog 28 #[sp a b] w fun x w' => x = .returned (.string ⟨(txt a b).toArray⟩) ∧ Kp w w' [] := by
  obtain ⟨a1, a2, b1, b2⟩ := may_iff.1 m
  have h := rtext_ok w a.toNat b.toNat (by omega) (by omega)
  rw [show ((a.toNat : Nat) : Int) = a by omega, show ((b.toNat : Nat) : Int) = b by omega] at h
  exact h

set_option maxRecDepth 100000 in
set_option maxHeartbeats 4000000 in
theorem texts_long (kn : KnownOk) (w : World) (a b : Int) (t : List UInt8) (h : Wd w) (hl : 9000 < t.length) : Calls Tryd.prog 5 #[sp a b, .string ⟨t.toArray⟩] w fun e w' => e = .returned (.bool true) ∧ Kp w w' [] := by
  have HW := hid h
  have HK := hid kn
  clear h kn
  have K0 := hid (Kp.alloc w (ob a b) [])
  have NS := hid (bx_new w a b)
  have h1 : (9000 : Int) < (t.length : Int) := by omega
  have h2 : decide ((9000 : Int) < (t.length : Int)) = true := by simp; omega
  go_enter Tryd.func5, Tryd.ntmps5
  go_wp2_with fail
  refine (HK.out _ (HW.out.keep K0.out)).mono ?_
  rintro e wz ⟨rfl, k1⟩
  have KZ := hid (K0.out.trans k1)
  clear k1
  go_wp2_with fail
  go_ret
  exact ⟨rfl, KZ.out⟩

set_option maxRecDepth 100000 in
set_option maxHeartbeats 4000000 in
theorem texts_no (kn : KnownOk) (w : World) (a b : Int) (t : List UInt8) (h : Wd w) (hl : t.length ≤ 9000) (m : may a b = false) : Calls Tryd.prog 5 #[sp a b, .string ⟨t.toArray⟩] w fun e w' => e = .returned (.bool true) ∧ Kp w w' [] := by
  have HW := hid h
  have HK := hid kn
  clear h kn
  have K0 := hid (Kp.alloc w (ob a b) [])
  have NS := hid (bx_new w a b)
  have h1 : ¬ (9000 : Int) < (t.length : Int) := by omega
  have h2 : decide ((9000 : Int) < (t.length : Int)) = false := by simp; omega
  have c1 := fun w h => parse_any w t (by omega) h
  have c2 := fun w => rparse_any w t hl
  obtain ⟨r, hr⟩ : ∃ r, parseP t = r := ⟨_, rfl⟩
  simp only [hr] at c1 c2
  clear hr
  obtain ⟨r1, r2, r3⟩ := r
  have hg := guard_sp
  have he := eql_sp
  have hn := neq_sp
  have c3 := fun w => text_no w a b m
  have c4 := fun w => rmay_any w a b
  rw [m] at c4
  have e1 := eql_str [] []
  go_enter Tryd.func5, Tryd.ntmps5
  go_wp2_with fail
  refine (c1 _ (HW.out.keep K0.out)).mono ?_
  rintro e w1 ⟨rfl, k1⟩
  have K1 := hid (K0.out.trans k1)
  have Nsv1 := hid (NS.out.keep k1)
  clear K0 k1 NS
  have b0 := bx_new w1 (r1) (r2)
  have ka := Kp.alloc w1 (ob (r1) (r2)) []
  have K2 := hid (K1.out.trans ka)
  have Nsv2 := hid (Nsv1.out.keep ka)
  clear K1 ka Nsv1
  have Nxv3 := hid b0
  clear b0
  go_wp2_with fail
  refine (c2 _).mono ?_
  rintro e w2 ⟨rfl, k1⟩
  have K4 := hid (K2.out.trans k1)
  have Nsv4 := hid (Nsv2.out.keep k1)
  have Nxv4 := hid (Nxv3.out.keep k1)
  clear K2 k1 Nsv2 Nxv3
  have b0 := bx_new w2 (r1) (r2)
  have ka := Kp.alloc w2 (ob (r1) (r2)) []
  have K5 := hid (K4.out.trans ka)
  have Nsv5 := hid (Nsv4.out.keep ka)
  have Nxv5 := hid (Nxv4.out.keep ka)
  clear K4 ka Nsv4 Nxv4
  have Nyv6 := hid b0
  clear b0
  have x7 := Nsv5.out.c0
  have x8 := Nsv5.out.c1
  have x9 := Nxv5.out.c0
  have x10 := Nxv5.out.c1
  have x11 := Nyv6.out.c0
  have x12 := Nyv6.out.c1
  go_wp2_with (go_at_call 17; refine (num_any _ _).mono ?_; rintro e ww ⟨rfl, rfl⟩)
  clear x7 x8 x9 x10 x11 x12
  refine (c3 _).mono ?_
  rintro e w3 ⟨rfl, k1⟩
  have K13 := hid (K5.out.trans k1)
  have Nsv13 := hid (Nsv5.out.keep k1)
  have Nxv13 := hid (Nxv5.out.keep k1)
  have Nyv13 := hid (Nyv6.out.keep k1)
  clear K5 k1 Nsv5 Nxv5 Nyv6
  have x14 := Nsv13.out.c0
  have x15 := Nsv13.out.c1
  go_wp2_with fail
  clear x14 x15
  refine (c4 _).mono ?_
  rintro e w4 ⟨rfl, k1⟩
  have K16 := hid (K13.out.trans k1)
  have Nsv16 := hid (Nsv13.out.keep k1)
  have Nxv16 := hid (Nxv13.out.keep k1)
  have Nyv16 := hid (Nyv13.out.keep k1)
  clear K13 k1 Nsv13 Nxv13 Nyv13
  go_wp2_with (go_at_call 17; refine (num_any _ _).mono ?_; rintro e ww ⟨rfl, rfl⟩)
  refine (HK.out _ (HW.out.keep K16.out)).mono ?_
  rintro e wz ⟨rfl, k1⟩
  have KZ := hid (K16.out.trans k1)
  clear k1
  go_wp2_with fail
  go_ret
  exact ⟨rfl, KZ.out⟩

set_option maxRecDepth 100000 in
set_option maxHeartbeats 4000000 in
theorem texts_ok (kn : KnownOk) (w : World) (a b : Int) (t : List UInt8) (h : Wd w) (hl : t.length ≤ 9000) (m : may a b = true) : Calls Tryd.prog 5 #[sp a b, .string ⟨t.toArray⟩] w fun e w' => e = .returned (.bool true) ∧ Kp w w' [] := by
  have HW := hid h
  have HK := hid kn
  clear h kn
  have K0 := hid (Kp.alloc w (ob a b) [])
  have NS := hid (bx_new w a b)
  have h1 : ¬ (9000 : Int) < (t.length : Int) := by omega
  have h2 : decide ((9000 : Int) < (t.length : Int)) = false := by simp; omega
  have c1 := fun w h => parse_any w t (by omega) h
  have c2 := fun w => rparse_any w t hl
  obtain ⟨r, hr⟩ : ∃ r, parseP t = r := ⟨_, rfl⟩
  simp only [hr] at c1 c2
  clear hr
  obtain ⟨r1, r2, r3⟩ := r
  have hg := guard_sp
  have he := eql_sp
  have hn := neq_sp
  have c3 := fun w h => text_ok w a b m h
  have c4 := fun w => rmay_any w a b
  rw [m] at c4
  have c5 := fun w h => parse_any w (txt a b) (txt_len a b m) h
  rw [parse_txt a b m] at c5
  have c6 := fun w => rtext_a w a b m
  obtain ⟨U, hU⟩ : ∃ U, txt a b = U := ⟨_, rfl⟩
  simp only [txE, hU] at c3 c5 c6
  clear hU m
  have e1 := eql_str U U
  go_enter Tryd.func5, Tryd.ntmps5
  go_wp2_with fail
  refine (c1 _ (HW.out.keep K0.out)).mono ?_
  rintro e w1 ⟨rfl, k1⟩
  have K1 := hid (K0.out.trans k1)
  have Nsv1 := hid (NS.out.keep k1)
  clear K0 k1 NS
  have b0 := bx_new w1 (r1) (r2)
  have ka := Kp.alloc w1 (ob (r1) (r2)) []
  have K2 := hid (K1.out.trans ka)
  have Nsv2 := hid (Nsv1.out.keep ka)
  clear K1 ka Nsv1
  have Nxv3 := hid b0
  clear b0
  go_wp2_with fail
  refine (c2 _).mono ?_
  rintro e w2 ⟨rfl, k1⟩
  have K4 := hid (K2.out.trans k1)
  have Nsv4 := hid (Nsv2.out.keep k1)
  have Nxv4 := hid (Nxv3.out.keep k1)
  clear K2 k1 Nsv2 Nxv3
  have b0 := bx_new w2 (r1) (r2)
  have ka := Kp.alloc w2 (ob (r1) (r2)) []
  have K5 := hid (K4.out.trans ka)
  have Nsv5 := hid (Nsv4.out.keep ka)
  have Nxv5 := hid (Nxv4.out.keep ka)
  clear K4 ka Nsv4 Nxv4
  have Nyv6 := hid b0
  clear b0
  have x7 := Nsv5.out.c0
  have x8 := Nsv5.out.c1
  have x9 := Nxv5.out.c0
  have x10 := Nxv5.out.c1
  have x11 := Nyv6.out.c0
  have x12 := Nyv6.out.c1
  go_wp2_with (go_at_call 17; refine (num_any _ _).mono ?_; rintro e ww ⟨rfl, rfl⟩)
  clear x7 x8 x9 x10 x11 x12
  refine (c3 _ (HW.out.keep K5.out)).mono ?_
  rintro e w3 ⟨rfl, k1⟩
  have K13 := hid (K5.out.trans k1)
  have Nsv13 := hid (Nsv5.out.keep k1)
  have Nxv13 := hid (Nxv5.out.keep k1)
  have Nyv13 := hid (Nyv6.out.keep k1)
  clear K5 k1 Nsv5 Nxv5 Nyv6
  have x14 := Nsv13.out.c0
  have x15 := Nsv13.out.c1
  go_wp2_with fail
  clear x14 x15
  refine (c4 _).mono ?_
  rintro e w4 ⟨rfl, k1⟩
  have K16 := hid (K13.out.trans k1)
  have Nsv16 := hid (Nsv13.out.keep k1)
  have Nxv16 := hid (Nxv13.out.keep k1)
  have Nyv16 := hid (Nyv13.out.keep k1)
  clear K13 k1 Nsv13 Nxv13 Nyv13
  go_wp2_with fail
  refine (c5 _ (HW.out.keep K16.out)).mono ?_
  rintro e w5 ⟨rfl, k1⟩
  have K17 := hid (K16.out.trans k1)
  have Nsv17 := hid (Nsv16.out.keep k1)
  have Nxv17 := hid (Nxv16.out.keep k1)
  have Nyv17 := hid (Nyv16.out.keep k1)
  clear K16 k1 Nsv16 Nxv16 Nyv16
  have b0 := bx_new w5 (a) (b)
  have ka := Kp.alloc w5 (ob (a) (b)) []
  have K18 := hid (K17.out.trans ka)
  have Nsv18 := hid (Nsv17.out.keep ka)
  have Nxv18 := hid (Nxv17.out.keep ka)
  have Nyv18 := hid (Nyv17.out.keep ka)
  clear K17 ka Nsv17 Nxv17 Nyv17
  have Nzv19 := hid b0
  clear b0
  have x20 := Nsv18.out.c0
  have x21 := Nsv18.out.c1
  have x22 := Nzv19.out.c0
  have x23 := Nzv19.out.c1
  go_wp2_with fail
  clear x20 x21 x22 x23
  refine (c6 _).mono ?_
  rintro e w6 ⟨rfl, k1⟩
  have K24 := hid (K18.out.trans k1)
  have Nsv24 := hid (Nsv18.out.keep k1)
  have Nxv24 := hid (Nxv18.out.keep k1)
  have Nyv24 := hid (Nyv18.out.keep k1)
  have Nzv24 := hid (Nzv19.out.keep k1)
  clear K18 k1 Nsv18 Nxv18 Nyv18 Nzv19
  have x25 := Nsv24.out.c0
  have x26 := Nsv24.out.c1
  have x27 := Nzv24.out.c0
  have x28 := Nzv24.out.c1
  go_wp2_with (go_at_call 17; refine (num_any _ _).mono ?_; rintro e ww ⟨rfl, rfl⟩)
  refine (HK.out _ (HW.out.keep K24.out)).mono ?_
  rintro e wz ⟨rfl, k1⟩
  have KZ := hid (K24.out.trans k1)
  clear k1
  go_wp2_with fail
  go_ret
  exact ⟨rfl, KZ.out⟩

theorem spanTexts_walk (kn : KnownOk) (w : World) (a b : Int) (t : List UInt8) (h : Wd w) : Calls Tryd.prog 5 #[sp a b, .string ⟨t.toArray⟩] w fun e w' => e = .returned (.bool true) ∧ Kp w w' [] := by
  by_cases hl : t.length ≤ 9000
  · cases m : may a b with
    | false => exact texts_no kn w a b t h hl m
    | true => exact texts_ok kn w a b t h hl m
  · exact texts_long kn w a b t h (by omega)
end Go.Proofs.YtojdahgoapknjaaDoor
