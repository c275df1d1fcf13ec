/- SpanTicks: the walk. -/
import Derived.Test.YtojdahgoapknjaaDoorKnownOk
namespace Go.Proofs.YtojdahgoapknjaaDoor
open Go.RowKit Go.Shelf
set_option linter.unusedVariables false

set_option maxRecDepth 100000 in
set_option maxHeartbeats 4000000 in
theorem spanTicks_walk (kn : KnownOk) (w : World) (a b n : Int) (h : Wd w) : Calls Tryd.prog 4 #[sp a b, .int .i64 n] w fun e w' => e = .returned (.bool true) ∧ Kp w w' [] := by
  have c1 := fun w => ticks_any w a b
  have c2 := fun w => rticks_any w a b
  have c3 := fun w => of6_any w n
  have c4 := fun w => rof6_any w n
  obtain ⟨r, hr⟩ : ∃ r, ticksP a b = r := ⟨_, rfl⟩
  obtain ⟨q, hq⟩ : ∃ q, ofP n = q := ⟨_, rfl⟩
  simp only [hr, hq] at c1 c2 c3 c4
  clear hr hq
  obtain ⟨r1, r2⟩ := r
  obtain ⟨q1, q2, q3⟩ := q
  have hg := guard_sp
  have he := eql_sp
  have HW := hid h
  have HK := hid kn
  clear h kn
  have K0 := hid (Kp.alloc w (ob a b) [])
  have NS := hid (bx_new w a b)
  go_enter Tryd.func4, Tryd.ntmps4
  go_wp2_with fail
  refine (c1 _).mono ?_
  rintro e w1 ⟨rfl, k1⟩
  have K1 := hid (K0.out.trans k1)
  have Nsv1 := hid (NS.out.keep k1)
  clear K0 k1 NS
  have x2 := Nsv1.out.c0
  have x3 := Nsv1.out.c1
  go_wp2_with fail
  clear x2 x3
  refine (c2 _).mono ?_
  rintro e w2 ⟨rfl, k1⟩
  have K4 := hid (K1.out.trans k1)
  have Nsv4 := hid (Nsv1.out.keep k1)
  clear K1 k1 Nsv1
  go_wp2_with fail
  refine (c3 _).mono ?_
  rintro e w3 ⟨rfl, k1⟩
  have K5 := hid (K4.out.trans k1)
  clear K4 k1
  have b0 := bx_new w3 (q1) (q2)
  have ka := Kp.alloc w3 (ob (q1) (q2)) []
  have K6 := hid (K5.out.trans ka)
  clear K5 ka
  have Ncv7 := hid b0
  clear b0
  go_wp2_with fail
  refine (c4 _).mono ?_
  rintro e w4 ⟨rfl, k1⟩
  have K8 := hid (K6.out.trans k1)
  have Ncv8 := hid (Ncv7.out.keep k1)
  clear K6 k1 Ncv7
  have b0 := bx_new w4 (q1) (q2)
  have ka := Kp.alloc w4 (ob (q1) (q2)) []
  have K9 := hid (K8.out.trans ka)
  have Ncv9 := hid (Ncv8.out.keep ka)
  clear K8 ka Ncv8
  have Ndv10 := hid b0
  clear b0
  have x11 := Ncv9.out.c0
  have x12 := Ncv9.out.c1
  have x13 := Ndv10.out.c0
  have x14 := Ndv10.out.c1
  go_wp2_with (go_at_call 17; refine (num_any _ _).mono ?_; rintro e ww ⟨rfl, rfl⟩)
  refine (HK.out _ (HW.out.keep K9.out)).mono ?_
  rintro e wz ⟨rfl, k1⟩
  have KZ := hid (K9.out.trans k1)
  clear k1
  go_wp2_with fail
  go_ret
  exact ⟨rfl, KZ.out⟩
end Go.Proofs.YtojdahgoapknjaaDoor
