/- SpanAdds: the ways without the loop. -/
import Derived.Test.YtojdahgoapknjaaDoorAddsB
namespace Go.Proofs.YtojdahgoapknjaaDoor
open Go.RowKit Go.Shelf
set_option linter.unusedVariables false

set_option maxRecDepth 100000 in
set_option maxHeartbeats 8000000 in
theorem adds_x_lo (kn : KnownOk) (w : World) (h : Wd w) (a b c d e f n : Int) (u1 u2 g1 u3 u4 g2 u5 u6 g3 u7 u8 g4 : Int) (h1 : addP a b c d = (u1, u2, g1)) (h1s : addP c d a b = (u1, u2, g1)) (h2 : addP u1 u2 e f = (u3, u4, g2)) (h3 : addP c d e f = (u5, u6, g3)) (h4 : addP a b u5 u6 = (u7, u8, g4)) (s1 : 0 ≤ g1 ∧ g1 ≤ 5) (s2 : 0 ≤ g2 ∧ g2 ≤ 5) (s3 : 0 ≤ g3 ∧ g3 ≤ 5) (s4 : 0 ≤ g4 ∧ g4 ≤ 5) (hs : g1 = 0 ∧ g2 = 0 ∧ g3 = 0 ∧ g4 = 0) (e1 : u3 = u7) (e2 : u4 = u8) (z1 z2 : Int) (hz1 : cmpP u7 u8 u1 u2 = z1) (hz2 : cmpP u1 u2 a b = z2) (z1p : 0 ≤ z1) (z2p : 0 ≤ z2) (hn : n < 0) :
    Calls Tryd.prog 7 #[l6 a b c d e f, .int .i64 n] w fun x w' => x = .returned (.bool true) ∧ Kp w w' [] := by
  have c1 := fun w => add_any w a b c d
  have c2 := fun w => add_any w c d a b
  have c3 := fun w => add_any w u1 u2 e f
  have c4 := fun w => add_any w c d e f
  have c5 := fun w => add_any w a b u5 u6
  simp only [h1] at c1
  simp only [h1s] at c2
  simp only [h2] at c3
  simp only [h3] at c4
  simp only [h4] at c5
  obtain ⟨rfl, rfl, rfl, rfl⟩ := hs
  subst e1 e2
  have c6 := fun w => cmp_any w u3 u4 u1 u2
  have c7 := fun w => cmp_any w u1 u2 a b
  simp only [hz1] at c6
  simp only [hz2] at c7
  clear hz1 hz2
  have hg := guard_sp
  have he := neq_sp
  have hq := eql_sp
  have HW := hid h
  have HK := hid kn
  clear h kn h1 h1s h2 h3 h4
  have K0 := hid (Kp.alloc w (o6 a b c d e f) [])
  have NL := hid (b6_new w a b c d e f)
  go_enter Tryd.func7, Tryd.ntmps7
  go_wp2_with (go_at_call 17; refine (num_any _ _).mono ?_; rintro e ww ⟨rfl, rfl⟩)
  refine (HK.out _ (HW.out.keep K0.out)).mono ?_
  rintro e w1 ⟨rfl, k1⟩
  have K1 := hid (K0.out.trans k1)
  have Nlv1 := hid (NL.out.keep k1)
  clear K0 k1 NL
  have x2 := Nlv1.out.c0
  have x3 := Nlv1.out.c1
  have x4 := Nlv1.out.c2
  have x5 := Nlv1.out.c3
  have x6 := Nlv1.out.c4
  have x7 := Nlv1.out.c5
  go_wp2_with (go_at_call 17; refine (num_any _ _).mono ?_; rintro e ww ⟨rfl, rfl⟩)
  clear x2 x3 x4 x5 x6 x7
  refine (c1 _).mono ?_
  rintro e w2 ⟨rfl, k1⟩
  have K8 := hid (K1.out.trans k1)
  have Nlv8 := hid (Nlv1.out.keep k1)
  clear K1 k1 Nlv1
  have b0 := bx_new w2 (u1) (u2)
  have ka := Kp.alloc w2 (ob (u1) (u2)) []
  have K9 := hid (K8.out.trans ka)
  have Nlv9 := hid (Nlv8.out.keep ka)
  clear K8 ka Nlv8
  have Nav10 := hid b0
  clear b0
  have x11 := Nlv9.out.c0
  have x12 := Nlv9.out.c1
  have x13 := Nlv9.out.c2
  have x14 := Nlv9.out.c3
  have x15 := Nlv9.out.c4
  have x16 := Nlv9.out.c5
  go_wp2_with (go_at_call 17; refine (num_any _ _).mono ?_; rintro e ww ⟨rfl, rfl⟩)
  clear x11 x12 x13 x14 x15 x16
  refine (c2 _).mono ?_
  rintro e w3 ⟨rfl, k1⟩
  have K17 := hid (K9.out.trans k1)
  have Nlv17 := hid (Nlv9.out.keep k1)
  have Nav17 := hid (Nav10.out.keep k1)
  clear K9 k1 Nlv9 Nav10
  have b0 := bx_new w3 (u1) (u2)
  have ka := Kp.alloc w3 (ob (u1) (u2)) []
  have K18 := hid (K17.out.trans ka)
  have Nlv18 := hid (Nlv17.out.keep ka)
  have Nav18 := hid (Nav17.out.keep ka)
  clear K17 ka Nlv17 Nav17
  have Nbv19 := hid b0
  clear b0
  have x20 := Nav18.out.c0
  have x21 := Nav18.out.c1
  have x22 := Nbv19.out.c0
  have x23 := Nbv19.out.c1
  have x24 := Nlv18.out.c0
  have x25 := Nlv18.out.c1
  have x26 := Nlv18.out.c2
  have x27 := Nlv18.out.c3
  have x28 := Nlv18.out.c4
  have x29 := Nlv18.out.c5
  go_wp2_with (go_at_call 17; refine (num_any _ _).mono ?_; rintro e ww ⟨rfl, rfl⟩)
  clear x20 x21 x22 x23 x24 x25 x26 x27 x28 x29
  refine (c3 _).mono ?_
  rintro e w4 ⟨rfl, k1⟩
  have K30 := hid (K18.out.trans k1)
  have Nlv30 := hid (Nlv18.out.keep k1)
  have Nav30 := hid (Nav18.out.keep k1)
  have Nbv30 := hid (Nbv19.out.keep k1)
  clear K18 k1 Nlv18 Nav18 Nbv19
  have b0 := bx_new w4 (u3) (u4)
  have ka := Kp.alloc w4 (ob (u3) (u4)) []
  have K31 := hid (K30.out.trans ka)
  have Nlv31 := hid (Nlv30.out.keep ka)
  have Nav31 := hid (Nav30.out.keep ka)
  have Nbv31 := hid (Nbv30.out.keep ka)
  clear K30 ka Nlv30 Nav30 Nbv30
  have Ncv32 := hid b0
  clear b0
  have x33 := Nlv31.out.c0
  have x34 := Nlv31.out.c1
  have x35 := Nlv31.out.c2
  have x36 := Nlv31.out.c3
  have x37 := Nlv31.out.c4
  have x38 := Nlv31.out.c5
  go_wp2_with (go_at_call 17; refine (num_any _ _).mono ?_; rintro e ww ⟨rfl, rfl⟩)
  clear x33 x34 x35 x36 x37 x38
  refine (c4 _).mono ?_
  rintro e w5 ⟨rfl, k1⟩
  have K39 := hid (K31.out.trans k1)
  have Nlv39 := hid (Nlv31.out.keep k1)
  have Nav39 := hid (Nav31.out.keep k1)
  have Ncv39 := hid (Ncv32.out.keep k1)
  clear K31 k1 Nlv31 Nav31 Ncv32
  have b0 := bx_new w5 (u5) (u6)
  have ka := Kp.alloc w5 (ob (u5) (u6)) []
  have K40 := hid (K39.out.trans ka)
  have Nlv40 := hid (Nlv39.out.keep ka)
  have Nav40 := hid (Nav39.out.keep ka)
  have Ncv40 := hid (Ncv39.out.keep ka)
  clear K39 ka Nlv39 Nav39 Ncv39
  have Ndv41 := hid b0
  clear b0
  have x42 := Ndv41.out.c0
  have x43 := Ndv41.out.c1
  have x44 := Nlv40.out.c0
  have x45 := Nlv40.out.c1
  have x46 := Nlv40.out.c2
  have x47 := Nlv40.out.c3
  have x48 := Nlv40.out.c4
  have x49 := Nlv40.out.c5
  go_wp2_with (go_at_call 17; refine (num_any _ _).mono ?_; rintro e ww ⟨rfl, rfl⟩)
  clear x42 x43 x44 x45 x46 x47 x48 x49
  refine (c5 _).mono ?_
  rintro e w6 ⟨rfl, k1⟩
  have K50 := hid (K40.out.trans k1)
  have Nlv50 := hid (Nlv40.out.keep k1)
  have Nav50 := hid (Nav40.out.keep k1)
  have Ncv50 := hid (Ncv40.out.keep k1)
  have Ndv50 := hid (Ndv41.out.keep k1)
  clear K40 k1 Nlv40 Nav40 Ncv40 Ndv41
  have b0 := bx_new w6 (u3) (u4)
  have ka := Kp.alloc w6 (ob (u3) (u4)) []
  have K51 := hid (K50.out.trans ka)
  have Nlv51 := hid (Nlv50.out.keep ka)
  have Nav51 := hid (Nav50.out.keep ka)
  have Ncv51 := hid (Ncv50.out.keep ka)
  have Ndv51 := hid (Ndv50.out.keep ka)
  clear K50 ka Nlv50 Nav50 Ncv50 Ndv50
  have Niv52 := hid b0
  clear b0
  have x53 := Ncv51.out.c0
  have x54 := Ncv51.out.c1
  have x55 := Niv52.out.c0
  have x56 := Niv52.out.c1
  have x57 := Nav51.out.c0
  have x58 := Nav51.out.c1
  have x59 := Nlv51.out.c0
  have x60 := Nlv51.out.c1
  have x61 := Nlv51.out.c2
  have x62 := Nlv51.out.c3
  have x63 := Nlv51.out.c4
  have x64 := Nlv51.out.c5
  go_wp2_with (go_at_call 17; refine (num_any _ _).mono ?_; rintro e ww ⟨rfl, rfl⟩)
  clear x53 x54 x55 x56 x57 x58 x59 x60 x61 x62 x63 x64
  refine (c6 _).mono ?_
  rintro e w7 ⟨rfl, k1⟩
  have K65 := hid (K51.out.trans k1)
  have Nlv65 := hid (Nlv51.out.keep k1)
  have Nav65 := hid (Nav51.out.keep k1)
  have Ncv65 := hid (Ncv51.out.keep k1)
  have Niv65 := hid (Niv52.out.keep k1)
  clear K51 k1 Nlv51 Nav51 Ncv51 Niv52
  have x66 := Nav65.out.c0
  have x67 := Nav65.out.c1
  have x68 := Nlv65.out.c0
  have x69 := Nlv65.out.c1
  have x70 := Nlv65.out.c2
  have x71 := Nlv65.out.c3
  have x72 := Nlv65.out.c4
  have x73 := Nlv65.out.c5
  go_wp2_with (go_at_call 17; refine (num_any _ _).mono ?_; rintro e ww ⟨rfl, rfl⟩)
  clear x66 x67 x68 x69 x70 x71 x72 x73
  refine (c7 _).mono ?_
  rintro e w8 ⟨rfl, k1⟩
  have K74 := hid (K65.out.trans k1)
  have Nlv74 := hid (Nlv65.out.keep k1)
  have Nav74 := hid (Nav65.out.keep k1)
  have Ncv74 := hid (Ncv65.out.keep k1)
  have Niv74 := hid (Niv65.out.keep k1)
  clear K65 k1 Nlv65 Nav65 Ncv65 Niv65
  go_wp2_with (go_at_call 17; refine (num_any _ _).mono ?_; rintro e ww ⟨rfl, rfl⟩)
  go_ret
  exact ⟨rfl, K74.out⟩

set_option maxRecDepth 100000 in
set_option maxHeartbeats 8000000 in
theorem adds_x_hi (kn : KnownOk) (w : World) (h : Wd w) (a b c d e f n : Int) (u1 u2 g1 u3 u4 g2 u5 u6 g3 u7 u8 g4 : Int) (h1 : addP a b c d = (u1, u2, g1)) (h1s : addP c d a b = (u1, u2, g1)) (h2 : addP u1 u2 e f = (u3, u4, g2)) (h3 : addP c d e f = (u5, u6, g3)) (h4 : addP a b u5 u6 = (u7, u8, g4)) (s1 : 0 ≤ g1 ∧ g1 ≤ 5) (s2 : 0 ≤ g2 ∧ g2 ≤ 5) (s3 : 0 ≤ g3 ∧ g3 ≤ 5) (s4 : 0 ≤ g4 ∧ g4 ≤ 5) (hs : g1 = 0 ∧ g2 = 0 ∧ g3 = 0 ∧ g4 = 0) (e1 : u3 = u7) (e2 : u4 = u8) (z1 z2 : Int) (hz1 : cmpP u7 u8 u1 u2 = z1) (hz2 : cmpP u1 u2 a b = z2) (z1p : 0 ≤ z1) (z2p : 0 ≤ z2) (hn : 60 < n) :
    Calls Tryd.prog 7 #[l6 a b c d e f, .int .i64 n] w fun x w' => x = .returned (.bool true) ∧ Kp w w' [] := by
  have c1 := fun w => add_any w a b c d
  have c2 := fun w => add_any w c d a b
  have c3 := fun w => add_any w u1 u2 e f
  have c4 := fun w => add_any w c d e f
  have c5 := fun w => add_any w a b u5 u6
  simp only [h1] at c1
  simp only [h1s] at c2
  simp only [h2] at c3
  simp only [h3] at c4
  simp only [h4] at c5
  obtain ⟨rfl, rfl, rfl, rfl⟩ := hs
  subst e1 e2
  have c6 := fun w => cmp_any w u3 u4 u1 u2
  have c7 := fun w => cmp_any w u1 u2 a b
  simp only [hz1] at c6
  simp only [hz2] at c7
  clear hz1 hz2
  have hg := guard_sp
  have he := neq_sp
  have hq := eql_sp
  have HW := hid h
  have HK := hid kn
  clear h kn h1 h1s h2 h3 h4
  have K0 := hid (Kp.alloc w (o6 a b c d e f) [])
  have NL := hid (b6_new w a b c d e f)
  go_enter Tryd.func7, Tryd.ntmps7
  go_wp2_with (go_at_call 17; refine (num_any _ _).mono ?_; rintro e ww ⟨rfl, rfl⟩)
  refine (HK.out _ (HW.out.keep K0.out)).mono ?_
  rintro e w1 ⟨rfl, k1⟩
  have K1 := hid (K0.out.trans k1)
  have Nlv1 := hid (NL.out.keep k1)
  clear K0 k1 NL
  have x2 := Nlv1.out.c0
  have x3 := Nlv1.out.c1
  have x4 := Nlv1.out.c2
  have x5 := Nlv1.out.c3
  have x6 := Nlv1.out.c4
  have x7 := Nlv1.out.c5
  go_wp2_with (go_at_call 17; refine (num_any _ _).mono ?_; rintro e ww ⟨rfl, rfl⟩)
  clear x2 x3 x4 x5 x6 x7
  refine (c1 _).mono ?_
  rintro e w2 ⟨rfl, k1⟩
  have K8 := hid (K1.out.trans k1)
  have Nlv8 := hid (Nlv1.out.keep k1)
  clear K1 k1 Nlv1
  have b0 := bx_new w2 (u1) (u2)
  have ka := Kp.alloc w2 (ob (u1) (u2)) []
  have K9 := hid (K8.out.trans ka)
  have Nlv9 := hid (Nlv8.out.keep ka)
  clear K8 ka Nlv8
  have Nav10 := hid b0
  clear b0
  have x11 := Nlv9.out.c0
  have x12 := Nlv9.out.c1
  have x13 := Nlv9.out.c2
  have x14 := Nlv9.out.c3
  have x15 := Nlv9.out.c4
  have x16 := Nlv9.out.c5
  go_wp2_with (go_at_call 17; refine (num_any _ _).mono ?_; rintro e ww ⟨rfl, rfl⟩)
  clear x11 x12 x13 x14 x15 x16
  refine (c2 _).mono ?_
  rintro e w3 ⟨rfl, k1⟩
  have K17 := hid (K9.out.trans k1)
  have Nlv17 := hid (Nlv9.out.keep k1)
  have Nav17 := hid (Nav10.out.keep k1)
  clear K9 k1 Nlv9 Nav10
  have b0 := bx_new w3 (u1) (u2)
  have ka := Kp.alloc w3 (ob (u1) (u2)) []
  have K18 := hid (K17.out.trans ka)
  have Nlv18 := hid (Nlv17.out.keep ka)
  have Nav18 := hid (Nav17.out.keep ka)
  clear K17 ka Nlv17 Nav17
  have Nbv19 := hid b0
  clear b0
  have x20 := Nav18.out.c0
  have x21 := Nav18.out.c1
  have x22 := Nbv19.out.c0
  have x23 := Nbv19.out.c1
  have x24 := Nlv18.out.c0
  have x25 := Nlv18.out.c1
  have x26 := Nlv18.out.c2
  have x27 := Nlv18.out.c3
  have x28 := Nlv18.out.c4
  have x29 := Nlv18.out.c5
  go_wp2_with (go_at_call 17; refine (num_any _ _).mono ?_; rintro e ww ⟨rfl, rfl⟩)
  clear x20 x21 x22 x23 x24 x25 x26 x27 x28 x29
  refine (c3 _).mono ?_
  rintro e w4 ⟨rfl, k1⟩
  have K30 := hid (K18.out.trans k1)
  have Nlv30 := hid (Nlv18.out.keep k1)
  have Nav30 := hid (Nav18.out.keep k1)
  have Nbv30 := hid (Nbv19.out.keep k1)
  clear K18 k1 Nlv18 Nav18 Nbv19
  have b0 := bx_new w4 (u3) (u4)
  have ka := Kp.alloc w4 (ob (u3) (u4)) []
  have K31 := hid (K30.out.trans ka)
  have Nlv31 := hid (Nlv30.out.keep ka)
  have Nav31 := hid (Nav30.out.keep ka)
  have Nbv31 := hid (Nbv30.out.keep ka)
  clear K30 ka Nlv30 Nav30 Nbv30
  have Ncv32 := hid b0
  clear b0
  have x33 := Nlv31.out.c0
  have x34 := Nlv31.out.c1
  have x35 := Nlv31.out.c2
  have x36 := Nlv31.out.c3
  have x37 := Nlv31.out.c4
  have x38 := Nlv31.out.c5
  go_wp2_with (go_at_call 17; refine (num_any _ _).mono ?_; rintro e ww ⟨rfl, rfl⟩)
  clear x33 x34 x35 x36 x37 x38
  refine (c4 _).mono ?_
  rintro e w5 ⟨rfl, k1⟩
  have K39 := hid (K31.out.trans k1)
  have Nlv39 := hid (Nlv31.out.keep k1)
  have Nav39 := hid (Nav31.out.keep k1)
  have Ncv39 := hid (Ncv32.out.keep k1)
  clear K31 k1 Nlv31 Nav31 Ncv32
  have b0 := bx_new w5 (u5) (u6)
  have ka := Kp.alloc w5 (ob (u5) (u6)) []
  have K40 := hid (K39.out.trans ka)
  have Nlv40 := hid (Nlv39.out.keep ka)
  have Nav40 := hid (Nav39.out.keep ka)
  have Ncv40 := hid (Ncv39.out.keep ka)
  clear K39 ka Nlv39 Nav39 Ncv39
  have Ndv41 := hid b0
  clear b0
  have x42 := Ndv41.out.c0
  have x43 := Ndv41.out.c1
  have x44 := Nlv40.out.c0
  have x45 := Nlv40.out.c1
  have x46 := Nlv40.out.c2
  have x47 := Nlv40.out.c3
  have x48 := Nlv40.out.c4
  have x49 := Nlv40.out.c5
  go_wp2_with (go_at_call 17; refine (num_any _ _).mono ?_; rintro e ww ⟨rfl, rfl⟩)
  clear x42 x43 x44 x45 x46 x47 x48 x49
  refine (c5 _).mono ?_
  rintro e w6 ⟨rfl, k1⟩
  have K50 := hid (K40.out.trans k1)
  have Nlv50 := hid (Nlv40.out.keep k1)
  have Nav50 := hid (Nav40.out.keep k1)
  have Ncv50 := hid (Ncv40.out.keep k1)
  have Ndv50 := hid (Ndv41.out.keep k1)
  clear K40 k1 Nlv40 Nav40 Ncv40 Ndv41
  have b0 := bx_new w6 (u3) (u4)
  have ka := Kp.alloc w6 (ob (u3) (u4)) []
  have K51 := hid (K50.out.trans ka)
  have Nlv51 := hid (Nlv50.out.keep ka)
  have Nav51 := hid (Nav50.out.keep ka)
  have Ncv51 := hid (Ncv50.out.keep ka)
  have Ndv51 := hid (Ndv50.out.keep ka)
  clear K50 ka Nlv50 Nav50 Ncv50 Ndv50
  have Niv52 := hid b0
  clear b0
  have x53 := Ncv51.out.c0
  have x54 := Ncv51.out.c1
  have x55 := Niv52.out.c0
  have x56 := Niv52.out.c1
  have x57 := Nav51.out.c0
  have x58 := Nav51.out.c1
  have x59 := Nlv51.out.c0
  have x60 := Nlv51.out.c1
  have x61 := Nlv51.out.c2
  have x62 := Nlv51.out.c3
  have x63 := Nlv51.out.c4
  have x64 := Nlv51.out.c5
  go_wp2_with (go_at_call 17; refine (num_any _ _).mono ?_; rintro e ww ⟨rfl, rfl⟩)
  clear x53 x54 x55 x56 x57 x58 x59 x60 x61 x62 x63 x64
  refine (c6 _).mono ?_
  rintro e w7 ⟨rfl, k1⟩
  have K65 := hid (K51.out.trans k1)
  have Nlv65 := hid (Nlv51.out.keep k1)
  have Nav65 := hid (Nav51.out.keep k1)
  have Ncv65 := hid (Ncv51.out.keep k1)
  have Niv65 := hid (Niv52.out.keep k1)
  clear K51 k1 Nlv51 Nav51 Ncv51 Niv52
  have x66 := Nav65.out.c0
  have x67 := Nav65.out.c1
  have x68 := Nlv65.out.c0
  have x69 := Nlv65.out.c1
  have x70 := Nlv65.out.c2
  have x71 := Nlv65.out.c3
  have x72 := Nlv65.out.c4
  have x73 := Nlv65.out.c5
  go_wp2_with (go_at_call 17; refine (num_any _ _).mono ?_; rintro e ww ⟨rfl, rfl⟩)
  clear x66 x67 x68 x69 x70 x71 x72 x73
  refine (c7 _).mono ?_
  rintro e w8 ⟨rfl, k1⟩
  have K74 := hid (K65.out.trans k1)
  have Nlv74 := hid (Nlv65.out.keep k1)
  have Nav74 := hid (Nav65.out.keep k1)
  have Ncv74 := hid (Ncv65.out.keep k1)
  have Niv74 := hid (Niv65.out.keep k1)
  clear K65 k1 Nlv65 Nav65 Ncv65 Niv65
  go_wp2_with (go_at_call 17; refine (num_any _ _).mono ?_; rintro e ww ⟨rfl, rfl⟩)
  go_ret
  exact ⟨rfl, K74.out⟩

set_option maxRecDepth 100000 in
set_option maxHeartbeats 8000000 in
theorem adds_z_lo (kn : KnownOk) (w : World) (h : Wd w) (a b c d e f n : Int) (u1 u2 g1 u3 u4 g2 u5 u6 g3 u7 u8 g4 : Int) (h1 : addP a b c d = (u1, u2, g1)) (h1s : addP c d a b = (u1, u2, g1)) (h2 : addP u1 u2 e f = (u3, u4, g2)) (h3 : addP c d e f = (u5, u6, g3)) (h4 : addP a b u5 u6 = (u7, u8, g4)) (s1 : 0 ≤ g1 ∧ g1 ≤ 5) (s2 : 0 ≤ g2 ∧ g2 ≤ 5) (s3 : 0 ≤ g3 ∧ g3 ≤ 5) (s4 : 0 ≤ g4 ∧ g4 ≤ 5) (hs : g1 + g2 ≠ 0) (hn : n < 0) :
    Calls Tryd.prog 7 #[l6 a b c d e f, .int .i64 n] w fun x w' => x = .returned (.bool true) ∧ Kp w w' [] := by
  have c1 := fun w => add_any w a b c d
  have c2 := fun w => add_any w c d a b
  have c3 := fun w => add_any w u1 u2 e f
  have c4 := fun w => add_any w c d e f
  have c5 := fun w => add_any w a b u5 u6
  simp only [h1] at c1
  simp only [h1s] at c2
  simp only [h2] at c3
  simp only [h3] at c4
  simp only [h4] at c5
  have w1 : IntKind.i64.wrap (g1 + g2) = g1 + g2 := wrap_id ⟨by omega, by omega⟩
  have w2 : IntKind.i64.wrap (g1 + g2 + g3) = g1 + g2 + g3 := wrap_id ⟨by omega, by omega⟩
  have w3 : IntKind.i64.wrap (g1 + g2 + g3 + g4) = g1 + g2 + g3 + g4 := wrap_id ⟨by omega, by omega⟩
  have t1 : (g1 + g2 == 0) = false := by simp; omega
  have t2 : (g1 + g2 + g3 + g4 == 0) = false := by simp; omega
  have t3 : ¬ g1 + g2 = 0 := hs
  have t4 : ¬ g1 + g2 + g3 + g4 = 0 := by omega
  have hg := guard_sp
  have he := neq_sp
  have hq := eql_sp
  have HW := hid h
  have HK := hid kn
  clear h kn h1 h1s h2 h3 h4
  have K0 := hid (Kp.alloc w (o6 a b c d e f) [])
  have NL := hid (b6_new w a b c d e f)
  go_enter Tryd.func7, Tryd.ntmps7
  go_wp2_with (go_at_call 17; refine (num_any _ _).mono ?_; rintro e ww ⟨rfl, rfl⟩)
  refine (HK.out _ (HW.out.keep K0.out)).mono ?_
  rintro e w1 ⟨rfl, k1⟩
  have K1 := hid (K0.out.trans k1)
  have Nlv1 := hid (NL.out.keep k1)
  clear K0 k1 NL
  have x2 := Nlv1.out.c0
  have x3 := Nlv1.out.c1
  have x4 := Nlv1.out.c2
  have x5 := Nlv1.out.c3
  have x6 := Nlv1.out.c4
  have x7 := Nlv1.out.c5
  go_wp2_with (go_at_call 17; refine (num_any _ _).mono ?_; rintro e ww ⟨rfl, rfl⟩)
  clear x2 x3 x4 x5 x6 x7
  refine (c1 _).mono ?_
  rintro e w2 ⟨rfl, k1⟩
  have K8 := hid (K1.out.trans k1)
  have Nlv8 := hid (Nlv1.out.keep k1)
  clear K1 k1 Nlv1
  have b0 := bx_new w2 (u1) (u2)
  have ka := Kp.alloc w2 (ob (u1) (u2)) []
  have K9 := hid (K8.out.trans ka)
  have Nlv9 := hid (Nlv8.out.keep ka)
  clear K8 ka Nlv8
  have Nav10 := hid b0
  clear b0
  have x11 := Nlv9.out.c0
  have x12 := Nlv9.out.c1
  have x13 := Nlv9.out.c2
  have x14 := Nlv9.out.c3
  have x15 := Nlv9.out.c4
  have x16 := Nlv9.out.c5
  go_wp2_with (go_at_call 17; refine (num_any _ _).mono ?_; rintro e ww ⟨rfl, rfl⟩)
  clear x11 x12 x13 x14 x15 x16
  refine (c2 _).mono ?_
  rintro e w3 ⟨rfl, k1⟩
  have K17 := hid (K9.out.trans k1)
  have Nlv17 := hid (Nlv9.out.keep k1)
  have Nav17 := hid (Nav10.out.keep k1)
  clear K9 k1 Nlv9 Nav10
  have b0 := bx_new w3 (u1) (u2)
  have ka := Kp.alloc w3 (ob (u1) (u2)) []
  have K18 := hid (K17.out.trans ka)
  have Nlv18 := hid (Nlv17.out.keep ka)
  have Nav18 := hid (Nav17.out.keep ka)
  clear K17 ka Nlv17 Nav17
  have Nbv19 := hid b0
  clear b0
  have x20 := Nav18.out.c0
  have x21 := Nav18.out.c1
  have x22 := Nbv19.out.c0
  have x23 := Nbv19.out.c1
  have x24 := Nlv18.out.c0
  have x25 := Nlv18.out.c1
  have x26 := Nlv18.out.c2
  have x27 := Nlv18.out.c3
  have x28 := Nlv18.out.c4
  have x29 := Nlv18.out.c5
  go_wp2_with (go_at_call 17; refine (num_any _ _).mono ?_; rintro e ww ⟨rfl, rfl⟩)
  clear x20 x21 x22 x23 x24 x25 x26 x27 x28 x29
  refine (c3 _).mono ?_
  rintro e w4 ⟨rfl, k1⟩
  have K30 := hid (K18.out.trans k1)
  have Nlv30 := hid (Nlv18.out.keep k1)
  have Nav30 := hid (Nav18.out.keep k1)
  have Nbv30 := hid (Nbv19.out.keep k1)
  clear K18 k1 Nlv18 Nav18 Nbv19
  have b0 := bx_new w4 (u3) (u4)
  have ka := Kp.alloc w4 (ob (u3) (u4)) []
  have K31 := hid (K30.out.trans ka)
  have Nlv31 := hid (Nlv30.out.keep ka)
  have Nav31 := hid (Nav30.out.keep ka)
  have Nbv31 := hid (Nbv30.out.keep ka)
  clear K30 ka Nlv30 Nav30 Nbv30
  have Ncv32 := hid b0
  clear b0
  have x33 := Nlv31.out.c0
  have x34 := Nlv31.out.c1
  have x35 := Nlv31.out.c2
  have x36 := Nlv31.out.c3
  have x37 := Nlv31.out.c4
  have x38 := Nlv31.out.c5
  go_wp2_with (go_at_call 17; refine (num_any _ _).mono ?_; rintro e ww ⟨rfl, rfl⟩)
  clear x33 x34 x35 x36 x37 x38
  refine (c4 _).mono ?_
  rintro e w5 ⟨rfl, k1⟩
  have K39 := hid (K31.out.trans k1)
  have Nlv39 := hid (Nlv31.out.keep k1)
  have Nav39 := hid (Nav31.out.keep k1)
  have Ncv39 := hid (Ncv32.out.keep k1)
  clear K31 k1 Nlv31 Nav31 Ncv32
  have b0 := bx_new w5 (u5) (u6)
  have ka := Kp.alloc w5 (ob (u5) (u6)) []
  have K40 := hid (K39.out.trans ka)
  have Nlv40 := hid (Nlv39.out.keep ka)
  have Nav40 := hid (Nav39.out.keep ka)
  have Ncv40 := hid (Ncv39.out.keep ka)
  clear K39 ka Nlv39 Nav39 Ncv39
  have Ndv41 := hid b0
  clear b0
  have x42 := Ndv41.out.c0
  have x43 := Ndv41.out.c1
  have x44 := Nlv40.out.c0
  have x45 := Nlv40.out.c1
  have x46 := Nlv40.out.c2
  have x47 := Nlv40.out.c3
  have x48 := Nlv40.out.c4
  have x49 := Nlv40.out.c5
  go_wp2_with (go_at_call 17; refine (num_any _ _).mono ?_; rintro e ww ⟨rfl, rfl⟩)
  clear x42 x43 x44 x45 x46 x47 x48 x49
  refine (c5 _).mono ?_
  rintro e w6 ⟨rfl, k1⟩
  have K50 := hid (K40.out.trans k1)
  have Nlv50 := hid (Nlv40.out.keep k1)
  have Nav50 := hid (Nav40.out.keep k1)
  have Ncv50 := hid (Ncv40.out.keep k1)
  have Ndv50 := hid (Ndv41.out.keep k1)
  clear K40 k1 Nlv40 Nav40 Ncv40 Ndv41
  have b0 := bx_new w6 (u7) (u8)
  have ka := Kp.alloc w6 (ob (u7) (u8)) []
  have K51 := hid (K50.out.trans ka)
  have Nlv51 := hid (Nlv50.out.keep ka)
  have Nav51 := hid (Nav50.out.keep ka)
  have Ncv51 := hid (Ncv50.out.keep ka)
  have Ndv51 := hid (Ndv50.out.keep ka)
  clear K50 ka Nlv50 Nav50 Ncv50 Ndv50
  have Niv52 := hid b0
  clear b0
  have x53 := Ncv51.out.c0
  have x54 := Ncv51.out.c1
  have x55 := Niv52.out.c0
  have x56 := Niv52.out.c1
  have x57 := Nav51.out.c0
  have x58 := Nav51.out.c1
  have x59 := Nlv51.out.c0
  have x60 := Nlv51.out.c1
  have x61 := Nlv51.out.c2
  have x62 := Nlv51.out.c3
  have x63 := Nlv51.out.c4
  have x64 := Nlv51.out.c5
  go_wp2_with (go_at_call 17; refine (num_any _ _).mono ?_; rintro e ww ⟨rfl, rfl⟩)
  go_ret
  exact ⟨rfl, K51.out⟩

set_option maxRecDepth 100000 in
set_option maxHeartbeats 8000000 in
theorem adds_z_hi (kn : KnownOk) (w : World) (h : Wd w) (a b c d e f n : Int) (u1 u2 g1 u3 u4 g2 u5 u6 g3 u7 u8 g4 : Int) (h1 : addP a b c d = (u1, u2, g1)) (h1s : addP c d a b = (u1, u2, g1)) (h2 : addP u1 u2 e f = (u3, u4, g2)) (h3 : addP c d e f = (u5, u6, g3)) (h4 : addP a b u5 u6 = (u7, u8, g4)) (s1 : 0 ≤ g1 ∧ g1 ≤ 5) (s2 : 0 ≤ g2 ∧ g2 ≤ 5) (s3 : 0 ≤ g3 ∧ g3 ≤ 5) (s4 : 0 ≤ g4 ∧ g4 ≤ 5) (hs : g1 + g2 ≠ 0) (hn : 60 < n) :
    Calls Tryd.prog 7 #[l6 a b c d e f, .int .i64 n] w fun x w' => x = .returned (.bool true) ∧ Kp w w' [] := by
  have c1 := fun w => add_any w a b c d
  have c2 := fun w => add_any w c d a b
  have c3 := fun w => add_any w u1 u2 e f
  have c4 := fun w => add_any w c d e f
  have c5 := fun w => add_any w a b u5 u6
  simp only [h1] at c1
  simp only [h1s] at c2
  simp only [h2] at c3
  simp only [h3] at c4
  simp only [h4] at c5
  have w1 : IntKind.i64.wrap (g1 + g2) = g1 + g2 := wrap_id ⟨by omega, by omega⟩
  have w2 : IntKind.i64.wrap (g1 + g2 + g3) = g1 + g2 + g3 := wrap_id ⟨by omega, by omega⟩
  have w3 : IntKind.i64.wrap (g1 + g2 + g3 + g4) = g1 + g2 + g3 + g4 := wrap_id ⟨by omega, by omega⟩
  have t1 : (g1 + g2 == 0) = false := by simp; omega
  have t2 : (g1 + g2 + g3 + g4 == 0) = false := by simp; omega
  have t3 : ¬ g1 + g2 = 0 := hs
  have t4 : ¬ g1 + g2 + g3 + g4 = 0 := by omega
  have hg := guard_sp
  have he := neq_sp
  have hq := eql_sp
  have HW := hid h
  have HK := hid kn
  clear h kn h1 h1s h2 h3 h4
  have K0 := hid (Kp.alloc w (o6 a b c d e f) [])
  have NL := hid (b6_new w a b c d e f)
  go_enter Tryd.func7, Tryd.ntmps7
  go_wp2_with (go_at_call 17; refine (num_any _ _).mono ?_; rintro e ww ⟨rfl, rfl⟩)
  refine (HK.out _ (HW.out.keep K0.out)).mono ?_
  rintro e w1 ⟨rfl, k1⟩
  have K1 := hid (K0.out.trans k1)
  have Nlv1 := hid (NL.out.keep k1)
  clear K0 k1 NL
  have x2 := Nlv1.out.c0
  have x3 := Nlv1.out.c1
  have x4 := Nlv1.out.c2
  have x5 := Nlv1.out.c3
  have x6 := Nlv1.out.c4
  have x7 := Nlv1.out.c5
  go_wp2_with (go_at_call 17; refine (num_any _ _).mono ?_; rintro e ww ⟨rfl, rfl⟩)
  clear x2 x3 x4 x5 x6 x7
  refine (c1 _).mono ?_
  rintro e w2 ⟨rfl, k1⟩
  have K8 := hid (K1.out.trans k1)
  have Nlv8 := hid (Nlv1.out.keep k1)
  clear K1 k1 Nlv1
  have b0 := bx_new w2 (u1) (u2)
  have ka := Kp.alloc w2 (ob (u1) (u2)) []
  have K9 := hid (K8.out.trans ka)
  have Nlv9 := hid (Nlv8.out.keep ka)
  clear K8 ka Nlv8
  have Nav10 := hid b0
  clear b0
  have x11 := Nlv9.out.c0
  have x12 := Nlv9.out.c1
  have x13 := Nlv9.out.c2
  have x14 := Nlv9.out.c3
  have x15 := Nlv9.out.c4
  have x16 := Nlv9.out.c5
  go_wp2_with (go_at_call 17; refine (num_any _ _).mono ?_; rintro e ww ⟨rfl, rfl⟩)
  clear x11 x12 x13 x14 x15 x16
  refine (c2 _).mono ?_
  rintro e w3 ⟨rfl, k1⟩
  have K17 := hid (K9.out.trans k1)
  have Nlv17 := hid (Nlv9.out.keep k1)
  have Nav17 := hid (Nav10.out.keep k1)
  clear K9 k1 Nlv9 Nav10
  have b0 := bx_new w3 (u1) (u2)
  have ka := Kp.alloc w3 (ob (u1) (u2)) []
  have K18 := hid (K17.out.trans ka)
  have Nlv18 := hid (Nlv17.out.keep ka)
  have Nav18 := hid (Nav17.out.keep ka)
  clear K17 ka Nlv17 Nav17
  have Nbv19 := hid b0
  clear b0
  have x20 := Nav18.out.c0
  have x21 := Nav18.out.c1
  have x22 := Nbv19.out.c0
  have x23 := Nbv19.out.c1
  have x24 := Nlv18.out.c0
  have x25 := Nlv18.out.c1
  have x26 := Nlv18.out.c2
  have x27 := Nlv18.out.c3
  have x28 := Nlv18.out.c4
  have x29 := Nlv18.out.c5
  go_wp2_with (go_at_call 17; refine (num_any _ _).mono ?_; rintro e ww ⟨rfl, rfl⟩)
  clear x20 x21 x22 x23 x24 x25 x26 x27 x28 x29
  refine (c3 _).mono ?_
  rintro e w4 ⟨rfl, k1⟩
  have K30 := hid (K18.out.trans k1)
  have Nlv30 := hid (Nlv18.out.keep k1)
  have Nav30 := hid (Nav18.out.keep k1)
  have Nbv30 := hid (Nbv19.out.keep k1)
  clear K18 k1 Nlv18 Nav18 Nbv19
  have b0 := bx_new w4 (u3) (u4)
  have ka := Kp.alloc w4 (ob (u3) (u4)) []
  have K31 := hid (K30.out.trans ka)
  have Nlv31 := hid (Nlv30.out.keep ka)
  have Nav31 := hid (Nav30.out.keep ka)
  have Nbv31 := hid (Nbv30.out.keep ka)
  clear K30 ka Nlv30 Nav30 Nbv30
  have Ncv32 := hid b0
  clear b0
  have x33 := Nlv31.out.c0
  have x34 := Nlv31.out.c1
  have x35 := Nlv31.out.c2
  have x36 := Nlv31.out.c3
  have x37 := Nlv31.out.c4
  have x38 := Nlv31.out.c5
  go_wp2_with (go_at_call 17; refine (num_any _ _).mono ?_; rintro e ww ⟨rfl, rfl⟩)
  clear x33 x34 x35 x36 x37 x38
  refine (c4 _).mono ?_
  rintro e w5 ⟨rfl, k1⟩
  have K39 := hid (K31.out.trans k1)
  have Nlv39 := hid (Nlv31.out.keep k1)
  have Nav39 := hid (Nav31.out.keep k1)
  have Ncv39 := hid (Ncv32.out.keep k1)
  clear K31 k1 Nlv31 Nav31 Ncv32
  have b0 := bx_new w5 (u5) (u6)
  have ka := Kp.alloc w5 (ob (u5) (u6)) []
  have K40 := hid (K39.out.trans ka)
  have Nlv40 := hid (Nlv39.out.keep ka)
  have Nav40 := hid (Nav39.out.keep ka)
  have Ncv40 := hid (Ncv39.out.keep ka)
  clear K39 ka Nlv39 Nav39 Ncv39
  have Ndv41 := hid b0
  clear b0
  have x42 := Ndv41.out.c0
  have x43 := Ndv41.out.c1
  have x44 := Nlv40.out.c0
  have x45 := Nlv40.out.c1
  have x46 := Nlv40.out.c2
  have x47 := Nlv40.out.c3
  have x48 := Nlv40.out.c4
  have x49 := Nlv40.out.c5
  go_wp2_with (go_at_call 17; refine (num_any _ _).mono ?_; rintro e ww ⟨rfl, rfl⟩)
  clear x42 x43 x44 x45 x46 x47 x48 x49
  refine (c5 _).mono ?_
  rintro e w6 ⟨rfl, k1⟩
  have K50 := hid (K40.out.trans k1)
  have Nlv50 := hid (Nlv40.out.keep k1)
  have Nav50 := hid (Nav40.out.keep k1)
  have Ncv50 := hid (Ncv40.out.keep k1)
  have Ndv50 := hid (Ndv41.out.keep k1)
  clear K40 k1 Nlv40 Nav40 Ncv40 Ndv41
  have b0 := bx_new w6 (u7) (u8)
  have ka := Kp.alloc w6 (ob (u7) (u8)) []
  have K51 := hid (K50.out.trans ka)
  have Nlv51 := hid (Nlv50.out.keep ka)
  have Nav51 := hid (Nav50.out.keep ka)
  have Ncv51 := hid (Ncv50.out.keep ka)
  have Ndv51 := hid (Ndv50.out.keep ka)
  clear K50 ka Nlv50 Nav50 Ncv50 Ndv50
  have Niv52 := hid b0
  clear b0
  have x53 := Ncv51.out.c0
  have x54 := Ncv51.out.c1
  have x55 := Niv52.out.c0
  have x56 := Niv52.out.c1
  have x57 := Nav51.out.c0
  have x58 := Nav51.out.c1
  have x59 := Nlv51.out.c0
  have x60 := Nlv51.out.c1
  have x61 := Nlv51.out.c2
  have x62 := Nlv51.out.c3
  have x63 := Nlv51.out.c4
  have x64 := Nlv51.out.c5
  go_wp2_with (go_at_call 17; refine (num_any _ _).mono ?_; rintro e ww ⟨rfl, rfl⟩)
  go_ret
  exact ⟨rfl, K51.out⟩

set_option maxRecDepth 100000 in
set_option maxHeartbeats 8000000 in
theorem adds_z_may (kn : KnownOk) (w : World) (h : Wd w) (a b c d e f n : Int) (u1 u2 g1 u3 u4 g2 u5 u6 g3 u7 u8 g4 : Int) (h1 : addP a b c d = (u1, u2, g1)) (h1s : addP c d a b = (u1, u2, g1)) (h2 : addP u1 u2 e f = (u3, u4, g2)) (h3 : addP c d e f = (u5, u6, g3)) (h4 : addP a b u5 u6 = (u7, u8, g4)) (s1 : 0 ≤ g1 ∧ g1 ≤ 5) (s2 : 0 ≤ g2 ∧ g2 ≤ 5) (s3 : 0 ≤ g3 ∧ g3 ≤ 5) (s4 : 0 ≤ g4 ∧ g4 ≤ 5) (hs : g1 + g2 ≠ 0) (hn0 : 0 ≤ n) (hn1 : n ≤ 60) (hm : may a b = false) :
    Calls Tryd.prog 7 #[l6 a b c d e f, .int .i64 n] w fun x w' => x = .returned (.bool true) ∧ Kp w w' [] := by
  have c1 := fun w => add_any w a b c d
  have c2 := fun w => add_any w c d a b
  have c3 := fun w => add_any w u1 u2 e f
  have c4 := fun w => add_any w c d e f
  have c5 := fun w => add_any w a b u5 u6
  simp only [h1] at c1
  simp only [h1s] at c2
  simp only [h2] at c3
  simp only [h3] at c4
  simp only [h4] at c5
  have w1 : IntKind.i64.wrap (g1 + g2) = g1 + g2 := wrap_id ⟨by omega, by omega⟩
  have w2 : IntKind.i64.wrap (g1 + g2 + g3) = g1 + g2 + g3 := wrap_id ⟨by omega, by omega⟩
  have w3 : IntKind.i64.wrap (g1 + g2 + g3 + g4) = g1 + g2 + g3 + g4 := wrap_id ⟨by omega, by omega⟩
  have t1 : (g1 + g2 == 0) = false := by simp; omega
  have t2 : (g1 + g2 + g3 + g4 == 0) = false := by simp; omega
  have t3 : ¬ g1 + g2 = 0 := hs
  have t4 : ¬ g1 + g2 + g3 + g4 = 0 := by omega
  have cm := fun w => may_any w a b
  simp only [hm] at cm
  have hg := guard_sp
  have he := neq_sp
  have hq := eql_sp
  have HW := hid h
  have HK := hid kn
  clear h kn h1 h1s h2 h3 h4
  have K0 := hid (Kp.alloc w (o6 a b c d e f) [])
  have NL := hid (b6_new w a b c d e f)
  go_enter Tryd.func7, Tryd.ntmps7
  go_wp2_with (go_at_call 17; refine (num_any _ _).mono ?_; rintro e ww ⟨rfl, rfl⟩)
  refine (HK.out _ (HW.out.keep K0.out)).mono ?_
  rintro e w1 ⟨rfl, k1⟩
  have K1 := hid (K0.out.trans k1)
  have Nlv1 := hid (NL.out.keep k1)
  clear K0 k1 NL
  have x2 := Nlv1.out.c0
  have x3 := Nlv1.out.c1
  have x4 := Nlv1.out.c2
  have x5 := Nlv1.out.c3
  have x6 := Nlv1.out.c4
  have x7 := Nlv1.out.c5
  go_wp2_with (go_at_call 17; refine (num_any _ _).mono ?_; rintro e ww ⟨rfl, rfl⟩)
  clear x2 x3 x4 x5 x6 x7
  refine (c1 _).mono ?_
  rintro e w2 ⟨rfl, k1⟩
  have K8 := hid (K1.out.trans k1)
  have Nlv8 := hid (Nlv1.out.keep k1)
  clear K1 k1 Nlv1
  have b0 := bx_new w2 (u1) (u2)
  have ka := Kp.alloc w2 (ob (u1) (u2)) []
  have K9 := hid (K8.out.trans ka)
  have Nlv9 := hid (Nlv8.out.keep ka)
  clear K8 ka Nlv8
  have Nav10 := hid b0
  clear b0
  have x11 := Nlv9.out.c0
  have x12 := Nlv9.out.c1
  have x13 := Nlv9.out.c2
  have x14 := Nlv9.out.c3
  have x15 := Nlv9.out.c4
  have x16 := Nlv9.out.c5
  go_wp2_with (go_at_call 17; refine (num_any _ _).mono ?_; rintro e ww ⟨rfl, rfl⟩)
  clear x11 x12 x13 x14 x15 x16
  refine (c2 _).mono ?_
  rintro e w3 ⟨rfl, k1⟩
  have K17 := hid (K9.out.trans k1)
  have Nlv17 := hid (Nlv9.out.keep k1)
  have Nav17 := hid (Nav10.out.keep k1)
  clear K9 k1 Nlv9 Nav10
  have b0 := bx_new w3 (u1) (u2)
  have ka := Kp.alloc w3 (ob (u1) (u2)) []
  have K18 := hid (K17.out.trans ka)
  have Nlv18 := hid (Nlv17.out.keep ka)
  have Nav18 := hid (Nav17.out.keep ka)
  clear K17 ka Nlv17 Nav17
  have Nbv19 := hid b0
  clear b0
  have x20 := Nav18.out.c0
  have x21 := Nav18.out.c1
  have x22 := Nbv19.out.c0
  have x23 := Nbv19.out.c1
  have x24 := Nlv18.out.c0
  have x25 := Nlv18.out.c1
  have x26 := Nlv18.out.c2
  have x27 := Nlv18.out.c3
  have x28 := Nlv18.out.c4
  have x29 := Nlv18.out.c5
  go_wp2_with (go_at_call 17; refine (num_any _ _).mono ?_; rintro e ww ⟨rfl, rfl⟩)
  clear x20 x21 x22 x23 x24 x25 x26 x27 x28 x29
  refine (c3 _).mono ?_
  rintro e w4 ⟨rfl, k1⟩
  have K30 := hid (K18.out.trans k1)
  have Nlv30 := hid (Nlv18.out.keep k1)
  have Nav30 := hid (Nav18.out.keep k1)
  have Nbv30 := hid (Nbv19.out.keep k1)
  clear K18 k1 Nlv18 Nav18 Nbv19
  have b0 := bx_new w4 (u3) (u4)
  have ka := Kp.alloc w4 (ob (u3) (u4)) []
  have K31 := hid (K30.out.trans ka)
  have Nlv31 := hid (Nlv30.out.keep ka)
  have Nav31 := hid (Nav30.out.keep ka)
  have Nbv31 := hid (Nbv30.out.keep ka)
  clear K30 ka Nlv30 Nav30 Nbv30
  have Ncv32 := hid b0
  clear b0
  have x33 := Nlv31.out.c0
  have x34 := Nlv31.out.c1
  have x35 := Nlv31.out.c2
  have x36 := Nlv31.out.c3
  have x37 := Nlv31.out.c4
  have x38 := Nlv31.out.c5
  go_wp2_with (go_at_call 17; refine (num_any _ _).mono ?_; rintro e ww ⟨rfl, rfl⟩)
  clear x33 x34 x35 x36 x37 x38
  refine (c4 _).mono ?_
  rintro e w5 ⟨rfl, k1⟩
  have K39 := hid (K31.out.trans k1)
  have Nlv39 := hid (Nlv31.out.keep k1)
  have Nav39 := hid (Nav31.out.keep k1)
  have Ncv39 := hid (Ncv32.out.keep k1)
  clear K31 k1 Nlv31 Nav31 Ncv32
  have b0 := bx_new w5 (u5) (u6)
  have ka := Kp.alloc w5 (ob (u5) (u6)) []
  have K40 := hid (K39.out.trans ka)
  have Nlv40 := hid (Nlv39.out.keep ka)
  have Nav40 := hid (Nav39.out.keep ka)
  have Ncv40 := hid (Ncv39.out.keep ka)
  clear K39 ka Nlv39 Nav39 Ncv39
  have Ndv41 := hid b0
  clear b0
  have x42 := Ndv41.out.c0
  have x43 := Ndv41.out.c1
  have x44 := Nlv40.out.c0
  have x45 := Nlv40.out.c1
  have x46 := Nlv40.out.c2
  have x47 := Nlv40.out.c3
  have x48 := Nlv40.out.c4
  have x49 := Nlv40.out.c5
  go_wp2_with (go_at_call 17; refine (num_any _ _).mono ?_; rintro e ww ⟨rfl, rfl⟩)
  clear x42 x43 x44 x45 x46 x47 x48 x49
  refine (c5 _).mono ?_
  rintro e w6 ⟨rfl, k1⟩
  have K50 := hid (K40.out.trans k1)
  have Nlv50 := hid (Nlv40.out.keep k1)
  have Nav50 := hid (Nav40.out.keep k1)
  have Ncv50 := hid (Ncv40.out.keep k1)
  have Ndv50 := hid (Ndv41.out.keep k1)
  clear K40 k1 Nlv40 Nav40 Ncv40 Ndv41
  have b0 := bx_new w6 (u7) (u8)
  have ka := Kp.alloc w6 (ob (u7) (u8)) []
  have K51 := hid (K50.out.trans ka)
  have Nlv51 := hid (Nlv50.out.keep ka)
  have Nav51 := hid (Nav50.out.keep ka)
  have Ncv51 := hid (Ncv50.out.keep ka)
  have Ndv51 := hid (Ndv50.out.keep ka)
  clear K50 ka Nlv50 Nav50 Ncv50 Ndv50
  have Niv52 := hid b0
  clear b0
  have x53 := Ncv51.out.c0
  have x54 := Ncv51.out.c1
  have x55 := Niv52.out.c0
  have x56 := Niv52.out.c1
  have x57 := Nav51.out.c0
  have x58 := Nav51.out.c1
  have x59 := Nlv51.out.c0
  have x60 := Nlv51.out.c1
  have x61 := Nlv51.out.c2
  have x62 := Nlv51.out.c3
  have x63 := Nlv51.out.c4
  have x64 := Nlv51.out.c5
  go_wp2_with (go_at_call 17; refine (num_any _ _).mono ?_; rintro e ww ⟨rfl, rfl⟩)
  clear x53 x54 x55 x56 x57 x58 x59 x60 x61 x62 x63 x64
  refine (cm _).mono ?_
  rintro e w7 ⟨rfl, k1⟩
  have K65 := hid (K51.out.trans k1)
  have Nlv65 := hid (Nlv51.out.keep k1)
  clear K51 k1 Nlv51
  go_wp2_with (go_at_call 17; refine (num_any _ _).mono ?_; rintro e ww ⟨rfl, rfl⟩)
  go_ret
  exact ⟨rfl, K65.out⟩

end Go.Proofs.YtojdahgoapknjaaDoor
