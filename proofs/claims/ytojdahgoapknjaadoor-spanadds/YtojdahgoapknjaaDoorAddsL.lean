/- SpanAdds: the ways with the loop. -/
import Derived.Test.YtojdahgoapknjaaDoorAddsB
namespace Go.Proofs.YtojdahgoapknjaaDoor
open Go.RowKit Go.Shelf
set_option linter.unusedVariables false

/-- So many times, told as a span. -/
def Sk (T : Int) (k : Nat) (s m : Int) : Prop := s = T * (k : Int) / 1000000000 ∧ m = T * (k : Int) % 1000000000 ∧ 0 ≤ T * (k : Int) ∧ T * (k : Int) ≤ 2147483647999999999
theorem sk_zero (T : Int) (h : 0 ≤ T) : Sk T 0 0 0 := by unfold Sk; simp
theorem loop_step {a b T : Int} (s m : Int) (k : Nat) (hm : may a b = true) (hT : tot a b = T) (h : Sk T k s m) :
    (∃ s' m', addP s m a b = (s', m', 0) ∧ Sk T (k + 1) s' m') ∨ (addP s m a b = (0, 0, 5) ∧ 2147483647999999999 < T * ((k + 1 : Nat) : Int)) := by
  obtain ⟨rfl, rfl, h0, h1⟩ := h
  have tb := tot_bds hm
  rw [hT] at tb
  have e : T * ((k + 1 : Nat) : Int) = T * (k : Int) + T := by rw [Int.natCast_add, Int.mul_add]; simp
  unfold Sk
  rw [e]
  generalize T * (k : Int) = x at *
  have mx : may (x / 1000000000) (x % 1000000000) = true := may_iff.2 ⟨by omega, by omega, by omega, by omega⟩
  have tx : tot (x / 1000000000) (x % 1000000000) = x := by unfold tot; omega
  have ea : addP (x / 1000000000) (x % 1000000000) a b = ofN (x + T) := by unfold addP; rw [mx, hm, tx, hT]; rfl
  rw [ea]
  by_cases hf : x + T ≤ 2147483647999999999
  · exact Or.inl ⟨_, _, ofN_ok (by omega), rfl, rfl, by omega, hf⟩
  · exact Or.inr ⟨ofN_big (by omega), by omega⟩
theorem times_end {a b T : Int} (s m : Int) (k : Nat) (hm : may a b = true) (hT : tot a b = T) (h : Sk T k s m) : timesP a b (k : Int) = (s, m, 0) := by
  obtain ⟨rfl, rfl, h0, h1⟩ := h
  unfold timesP
  rw [hm, hT, show decide ((0 : Int) ≤ (k : Int)) = true by simp]
  simp only [Bool.and_self, if_true]
  rw [ofN_ok (by omega)]
theorem times_full {a b T : Int} (k : Nat) (n : Int) (hm : may a b = true) (hT : tot a b = T) (h : 2147483647999999999 < T * ((k + 1 : Nat) : Int)) (hn : ((k + 1 : Nat) : Int) ≤ n) : timesP a b n = (0, 0, 5) := by
  have tb := tot_bds hm
  rw [hT] at tb
  have e : T * ((k + 1 : Nat) : Int) ≤ T * n := Int.mul_le_mul_of_nonneg_left hn tb.1
  unfold timesP
  rw [hm, hT, show decide ((0 : Int) ≤ n) = true by simp; omega]
  simp only [Bool.and_self, if_true]
  rw [ofN_big (by omega)]

set_option maxRecDepth 100000 in
set_option maxHeartbeats 8000000 in
theorem adds_x_loop (kn : KnownOk) (w : World) (h : Wd w) (a b c d e f n : Int) (u1 u2 g1 u3 u4 g2 u5 u6 g3 u7 u8 g4 : Int) (h1 : addP a b c d = (u1, u2, g1)) (h1s : addP c d a b = (u1, u2, g1)) (h2 : addP u1 u2 e f = (u3, u4, g2)) (h3 : addP c d e f = (u5, u6, g3)) (h4 : addP a b u5 u6 = (u7, u8, g4)) (s1 : 0 ≤ g1 ∧ g1 ≤ 5) (s2 : 0 ≤ g2 ∧ g2 ≤ 5) (s3 : 0 ≤ g3 ∧ g3 ≤ 5) (s4 : 0 ≤ g4 ∧ g4 ≤ 5) (hs : g1 = 0 ∧ g2 = 0 ∧ g3 = 0 ∧ g4 = 0) (e1 : u3 = u7) (e2 : u4 = u8) (z1 z2 : Int) (hz1 : cmpP u7 u8 u1 u2 = z1) (hz2 : cmpP u1 u2 a b = z2) (z1p : 0 ≤ z1) (z2p : 0 ≤ z2) (hn0 : 0 ≤ n) (hn1 : n ≤ 60) (hm : may a b = true) :
    Calls Tryd.prog 7 #[l6 a b c d e f, .int .i64 n] w fun x w' => x = .returned (.bool true) ∧ Kp w w' [] := by
  have c1 := fun w => add_any w a b c d
  have c2 := fun w => add_any w c d a b
  have c3 := fun w => add_any w u1 u2 e f
  have c4 := fun w => add_any w c d e f
  have c5 := fun w => add_any w a b u5 u6
  simp only [h1] at c1
  simp only [h1s] at c2
  simp only [h2] at c3
  simp only [h3] at c4
  simp only [h4] at c5
  obtain ⟨rfl, rfl, rfl, rfl⟩ := hs
  subst e1 e2
  have c6 := fun w => cmp_any w u3 u4 u1 u2
  have c7 := fun w => cmp_any w u1 u2 a b
  simp only [hz1] at c6
  simp only [hz2] at c7
  clear hz1 hz2
  have cm := fun w => may_any w a b
  simp only [hm] at cm
  have HM := hid hm
  clear hm
  have hg := guard_sp
  have he := neq_sp
  have hq := eql_sp
  have HW := hid h
  have HK := hid kn
  clear h kn h1 h1s h2 h3 h4
  have K0 := hid (Kp.alloc w (o6 a b c d e f) [])
  have NL := hid (b6_new w a b c d e f)
  go_enter Tryd.func7, Tryd.ntmps7
  go_wp2_with (go_at_call 17; refine (num_any _ _).mono ?_; rintro e ww ⟨rfl, rfl⟩)
  refine (HK.out _ (HW.out.keep K0.out)).mono ?_
  rintro e w1 ⟨rfl, k1⟩
  have K1 := hid (K0.out.trans k1)
  have Nlv1 := hid (NL.out.keep k1)
  clear K0 k1 NL
  have x2 := Nlv1.out.c0
  have x3 := Nlv1.out.c1
  have x4 := Nlv1.out.c2
  have x5 := Nlv1.out.c3
  have x6 := Nlv1.out.c4
  have x7 := Nlv1.out.c5
  go_wp2_with (go_at_call 17; refine (num_any _ _).mono ?_; rintro e ww ⟨rfl, rfl⟩)
  clear x2 x3 x4 x5 x6 x7
  refine (c1 _).mono ?_
  rintro e w2 ⟨rfl, k1⟩
  have K8 := hid (K1.out.trans k1)
  have Nlv8 := hid (Nlv1.out.keep k1)
  clear K1 k1 Nlv1
  have b0 := bx_new w2 (u1) (u2)
  have ka := Kp.alloc w2 (ob (u1) (u2)) []
  have K9 := hid (K8.out.trans ka)
  have Nlv9 := hid (Nlv8.out.keep ka)
  clear K8 ka Nlv8
  have Nav10 := hid b0
  clear b0
  have x11 := Nlv9.out.c0
  have x12 := Nlv9.out.c1
  have x13 := Nlv9.out.c2
  have x14 := Nlv9.out.c3
  have x15 := Nlv9.out.c4
  have x16 := Nlv9.out.c5
  go_wp2_with (go_at_call 17; refine (num_any _ _).mono ?_; rintro e ww ⟨rfl, rfl⟩)
  clear x11 x12 x13 x14 x15 x16
  refine (c2 _).mono ?_
  rintro e w3 ⟨rfl, k1⟩
  have K17 := hid (K9.out.trans k1)
  have Nlv17 := hid (Nlv9.out.keep k1)
  have Nav17 := hid (Nav10.out.keep k1)
  clear K9 k1 Nlv9 Nav10
  have b0 := bx_new w3 (u1) (u2)
  have ka := Kp.alloc w3 (ob (u1) (u2)) []
  have K18 := hid (K17.out.trans ka)
  have Nlv18 := hid (Nlv17.out.keep ka)
  have Nav18 := hid (Nav17.out.keep ka)
  clear K17 ka Nlv17 Nav17
  have Nbv19 := hid b0
  clear b0
  have x20 := Nav18.out.c0
  have x21 := Nav18.out.c1
  have x22 := Nbv19.out.c0
  have x23 := Nbv19.out.c1
  have x24 := Nlv18.out.c0
  have x25 := Nlv18.out.c1
  have x26 := Nlv18.out.c2
  have x27 := Nlv18.out.c3
  have x28 := Nlv18.out.c4
  have x29 := Nlv18.out.c5
  go_wp2_with (go_at_call 17; refine (num_any _ _).mono ?_; rintro e ww ⟨rfl, rfl⟩)
  clear x20 x21 x22 x23 x24 x25 x26 x27 x28 x29
  refine (c3 _).mono ?_
  rintro e w4 ⟨rfl, k1⟩
  have K30 := hid (K18.out.trans k1)
  have Nlv30 := hid (Nlv18.out.keep k1)
  have Nav30 := hid (Nav18.out.keep k1)
  have Nbv30 := hid (Nbv19.out.keep k1)
  clear K18 k1 Nlv18 Nav18 Nbv19
  have b0 := bx_new w4 (u3) (u4)
  have ka := Kp.alloc w4 (ob (u3) (u4)) []
  have K31 := hid (K30.out.trans ka)
  have Nlv31 := hid (Nlv30.out.keep ka)
  have Nav31 := hid (Nav30.out.keep ka)
  have Nbv31 := hid (Nbv30.out.keep ka)
  clear K30 ka Nlv30 Nav30 Nbv30
  have Ncv32 := hid b0
  clear b0
  have x33 := Nlv31.out.c0
  have x34 := Nlv31.out.c1
  have x35 := Nlv31.out.c2
  have x36 := Nlv31.out.c3
  have x37 := Nlv31.out.c4
  have x38 := Nlv31.out.c5
  go_wp2_with (go_at_call 17; refine (num_any _ _).mono ?_; rintro e ww ⟨rfl, rfl⟩)
  clear x33 x34 x35 x36 x37 x38
  refine (c4 _).mono ?_
  rintro e w5 ⟨rfl, k1⟩
  have K39 := hid (K31.out.trans k1)
  have Nlv39 := hid (Nlv31.out.keep k1)
  have Nav39 := hid (Nav31.out.keep k1)
  have Ncv39 := hid (Ncv32.out.keep k1)
  clear K31 k1 Nlv31 Nav31 Ncv32
  have b0 := bx_new w5 (u5) (u6)
  have ka := Kp.alloc w5 (ob (u5) (u6)) []
  have K40 := hid (K39.out.trans ka)
  have Nlv40 := hid (Nlv39.out.keep ka)
  have Nav40 := hid (Nav39.out.keep ka)
  have Ncv40 := hid (Ncv39.out.keep ka)
  clear K39 ka Nlv39 Nav39 Ncv39
  have Ndv41 := hid b0
  clear b0
  have x42 := Ndv41.out.c0
  have x43 := Ndv41.out.c1
  have x44 := Nlv40.out.c0
  have x45 := Nlv40.out.c1
  have x46 := Nlv40.out.c2
  have x47 := Nlv40.out.c3
  have x48 := Nlv40.out.c4
  have x49 := Nlv40.out.c5
  go_wp2_with (go_at_call 17; refine (num_any _ _).mono ?_; rintro e ww ⟨rfl, rfl⟩)
  clear x42 x43 x44 x45 x46 x47 x48 x49
  refine (c5 _).mono ?_
  rintro e w6 ⟨rfl, k1⟩
  have K50 := hid (K40.out.trans k1)
  have Nlv50 := hid (Nlv40.out.keep k1)
  have Nav50 := hid (Nav40.out.keep k1)
  have Ncv50 := hid (Ncv40.out.keep k1)
  have Ndv50 := hid (Ndv41.out.keep k1)
  clear K40 k1 Nlv40 Nav40 Ncv40 Ndv41
  have b0 := bx_new w6 (u3) (u4)
  have ka := Kp.alloc w6 (ob (u3) (u4)) []
  have K51 := hid (K50.out.trans ka)
  have Nlv51 := hid (Nlv50.out.keep ka)
  have Nav51 := hid (Nav50.out.keep ka)
  have Ncv51 := hid (Ncv50.out.keep ka)
  have Ndv51 := hid (Ndv50.out.keep ka)
  clear K50 ka Nlv50 Nav50 Ncv50 Ndv50
  have Niv52 := hid b0
  clear b0
  have x53 := Ncv51.out.c0
  have x54 := Ncv51.out.c1
  have x55 := Niv52.out.c0
  have x56 := Niv52.out.c1
  have x57 := Nav51.out.c0
  have x58 := Nav51.out.c1
  have x59 := Nlv51.out.c0
  have x60 := Nlv51.out.c1
  have x61 := Nlv51.out.c2
  have x62 := Nlv51.out.c3
  have x63 := Nlv51.out.c4
  have x64 := Nlv51.out.c5
  go_wp2_with (go_at_call 17; refine (num_any _ _).mono ?_; rintro e ww ⟨rfl, rfl⟩)
  clear x53 x54 x55 x56 x57 x58 x59 x60 x61 x62 x63 x64
  refine (c6 _).mono ?_
  rintro e w7 ⟨rfl, k1⟩
  have K65 := hid (K51.out.trans k1)
  have Nlv65 := hid (Nlv51.out.keep k1)
  have Nav65 := hid (Nav51.out.keep k1)
  have Ncv65 := hid (Ncv51.out.keep k1)
  have Niv65 := hid (Niv52.out.keep k1)
  clear K51 k1 Nlv51 Nav51 Ncv51 Niv52
  have x66 := Nav65.out.c0
  have x67 := Nav65.out.c1
  have x68 := Nlv65.out.c0
  have x69 := Nlv65.out.c1
  have x70 := Nlv65.out.c2
  have x71 := Nlv65.out.c3
  have x72 := Nlv65.out.c4
  have x73 := Nlv65.out.c5
  go_wp2_with (go_at_call 17; refine (num_any _ _).mono ?_; rintro e ww ⟨rfl, rfl⟩)
  clear x66 x67 x68 x69 x70 x71 x72 x73
  refine (c7 _).mono ?_
  rintro e w8 ⟨rfl, k1⟩
  have K74 := hid (K65.out.trans k1)
  have Nlv74 := hid (Nlv65.out.keep k1)
  have Nav74 := hid (Nav65.out.keep k1)
  have Ncv74 := hid (Ncv65.out.keep k1)
  have Niv74 := hid (Niv65.out.keep k1)
  clear K65 k1 Nlv65 Nav65 Ncv65 Niv65
  have x75 := Nlv74.out.c0
  have x76 := Nlv74.out.c1
  have x77 := Nlv74.out.c2
  have x78 := Nlv74.out.c3
  have x79 := Nlv74.out.c4
  have x80 := Nlv74.out.c5
  go_wp2_with (go_at_call 17; refine (num_any _ _).mono ?_; rintro e ww ⟨rfl, rfl⟩)
  clear x75 x76 x77 x78 x79 x80
  refine (cm _).mono ?_
  rintro e w9 ⟨rfl, k1⟩
  have K81 := hid (K74.out.trans k1)
  have Nlv81 := hid (Nlv74.out.keep k1)
  clear K74 k1 Nlv74
  have SZ := hid (show w.heap.size < w9.heap.size from lt_of_block Nlv81.out)
  go_wp2_with (go_at_call 17; refine (num_any _ _).mono ?_; rintro e ww ⟨rfl, rfl⟩)
  have b0 := bx_new w9 0 0
  have ka := Kp.alloc w9 (ob 0 0) []
  have K82 := hid (K81.out.trans ka)
  have Nlv82 := hid (Nlv81.out.keep ka)
  clear K81 ka Nlv81
  have BS := hid b0
  clear b0
  obtain ⟨W0, hW0⟩ : ∃ W0, w9.alloc (ob 0 0) = W0 := ⟨_, rfl⟩
  rw [hW0] at K82 Nlv82 BS
  simp only [hW0]
  obtain ⟨ps, hps⟩ : ∃ ps, w9.heap.size = ps := ⟨_, rfl⟩
  rw [hps] at BS SZ
  simp only [hps]
  clear hW0 hps
  obtain ⟨T, hT⟩ : ∃ T, tot a b = T := ⟨_, rfl⟩
  have TB := tot_bds HM.out
  have LS := @loop_step a b T
  have TE := @times_end a b T
  have TF := @times_full a b T
  have LS := hid (fun s m k h => LS s m k HM.out hT h)
  have TE := hid (fun s m k h => TE s m k HM.out hT h)
  have TF := hid (fun k n h h' => TF k n HM.out hT h h')
  rw [hT] at TB
  have TB := hid TB
  clear hT
  go_loopw [16, 17] (fun vf vk W => ∃ (k : Nat) (s m : Int), (k : Int) ≤ n ∧ vf = .bool false ∧ vk = .int .i64 k ∧ Hid (Sk T k s m) ∧ Hid (Bx W ps s m) ∧ Hid (Kp W0 W [ps])) (fun _ vk _ => 60 - (intOf vk).toNat)
  case atStart => exact ⟨0, 0, 0, by omega, rfl, rfl, sk_zero T TB.out.1, BS, Kp.refl _ _⟩
  case round =>
    obtain ⟨k, s, m, hk, rfl, rfl, hS, hB, hK⟩ := hrel
    have KW := hid (K82.out.past hK.out (by intro i hi hl; have := SZ.out; simp at hi; omega))
    have LW := hid (show B6 wr w.heap.size a b c d e f from (hK.out.block w.heap.size (lt_of_block Nlv82.out) (by have := SZ.out; simp; omega)).trans Nlv82.out)
    have y0 := LW.out.c0
    have y1 := LW.out.c1
    by_cases hlt : (k : Int) < n
    · have y2 := hB.out.c0
      have y3 := hB.out.c1
      rcases LS.out s m k hS.out with ⟨s', m', hA, hS'⟩ | ⟨hA, hF⟩
      · have ca := fun w => add_any w s m a b
        simp only [hA] at ca
        clear hA
        go_wp2_with (go_at_call 17; refine (num_any _ _).mono ?_; rintro e ww ⟨rfl, rfl⟩)
        refine (ca _).mono ?_
        rintro e1 v1 ⟨rfl, k1⟩
        clear y0 y1 y2 y3
        have HB1 := hid ((hB.out.keep k1).keep (Kp.alloc v1 (ob s' m') []))
        have HN1 := hid (bx_new v1 s' m')
        have HK1 := hid (hK.out.past (k1.trans (Kp.alloc v1 (ob s' m') [])) (by intro i hi; cases hi))
        clear k1 ca
        have y0 := HN1.out.c0
        have y1 := HN1.out.c1
        have y2 := HB1.out.c0
        have y3 := HB1.out.c1
        have y4 := HB1.out.f0
        have y5 := HB1.out.f1
        go_wp2_with (go_at_call 17; refine (num_any _ _).mono ?_; rintro e ww ⟨rfl, rfl⟩)
        go_roundw
        case rel => exact ⟨k + 1, s', m', by omega, rfl, by simp, hS', HB1.out.set s' m', HK1.out.trans (Kp.two _ _ _ _)⟩
        case measure => simp [intOf]; omega
      · have ca := fun w => add_any w s m a b
        simp only [hA] at ca
        have ct := fun w => times_any w a b n ⟨by omega, by omega⟩
        simp only [TF.out k n hF (by omega)] at ct
        clear hA
        go_wp2_with (go_at_call 17; refine (num_any _ _).mono ?_; rintro e ww ⟨rfl, rfl⟩)
        refine (ca _).mono ?_
        rintro e1 v1 ⟨rfl, k1⟩
        clear y0 y1 y2 y3
        have HK1 := hid ((KW.out.trans k1).trans (Kp.alloc v1 (ob 0 0) []))
        have HL1 := hid ((LW.out.keep k1).keep (Kp.alloc v1 (ob 0 0) []))
        clear k1 ca
        have y0 := HL1.out.c0
        have y1 := HL1.out.c1
        go_wp2_with (go_at_call 17; refine (num_any _ _).mono ?_; rintro e ww ⟨rfl, rfl⟩)
        refine (ct _).mono ?_
        rintro e1 v2 ⟨rfl, k1⟩
        clear y0 y1
        have HK2 := hid ((HK1.out.trans k1).trans (Kp.alloc v2 (ob 0 0) []))
        have HN2 := hid (bx_new v2 0 0)
        clear k1 ct
        have y0 := HN2.out.c0
        have y1 := HN2.out.c1
        go_wp2_with (go_at_call 17; refine (num_any _ _).mono ?_; rintro e ww ⟨rfl, rfl⟩)
        go_ret
        exact ⟨rfl, HK2.out⟩
    · have ct := fun w => times_any w a b n ⟨by omega, by omega⟩
      have hkn : n = (k : Int) := by omega
      simp only [show timesP a b n = (s, m, 0) by rw [hkn]; exact TE.out s m k hS.out] at ct
      have hkn2 := hid hkn
      clear hkn
      have hlt' : n ≤ (k : Int) := by omega
      go_wp2_with (go_at_call 17; refine (num_any _ _).mono ?_; rintro e ww ⟨rfl, rfl⟩)
      refine (ct _).mono ?_
      rintro e1 v2 ⟨rfl, k1⟩
      clear y0 y1
      have HK2 := hid ((KW.out.trans k1).trans (Kp.alloc v2 (ob s m) []))
      have HN2 := hid (bx_new v2 s m)
      have HB2 := hid ((hB.out.keep k1).keep (Kp.alloc v2 (ob s m) []))
      clear k1 ct
      have y0 := HN2.out.c0
      have y1 := HN2.out.c1
      have y2 := HB2.out.c0
      have y3 := HB2.out.c1
      go_wp2_with (go_at_call 17; refine (num_any _ _).mono ?_; rintro e ww ⟨rfl, rfl⟩)
      go_ret
      exact ⟨rfl, HK2.out⟩

set_option maxRecDepth 100000 in
set_option maxHeartbeats 8000000 in
theorem adds_z_loop (kn : KnownOk) (w : World) (h : Wd w) (a b c d e f n : Int) (u1 u2 g1 u3 u4 g2 u5 u6 g3 u7 u8 g4 : Int) (h1 : addP a b c d = (u1, u2, g1)) (h1s : addP c d a b = (u1, u2, g1)) (h2 : addP u1 u2 e f = (u3, u4, g2)) (h3 : addP c d e f = (u5, u6, g3)) (h4 : addP a b u5 u6 = (u7, u8, g4)) (s1 : 0 ≤ g1 ∧ g1 ≤ 5) (s2 : 0 ≤ g2 ∧ g2 ≤ 5) (s3 : 0 ≤ g3 ∧ g3 ≤ 5) (s4 : 0 ≤ g4 ∧ g4 ≤ 5) (hs : g1 + g2 ≠ 0) (hn0 : 0 ≤ n) (hn1 : n ≤ 60) (hm : may a b = true) :
    Calls Tryd.prog 7 #[l6 a b c d e f, .int .i64 n] w fun x w' => x = .returned (.bool true) ∧ Kp w w' [] := by
  have c1 := fun w => add_any w a b c d
  have c2 := fun w => add_any w c d a b
  have c3 := fun w => add_any w u1 u2 e f
  have c4 := fun w => add_any w c d e f
  have c5 := fun w => add_any w a b u5 u6
  simp only [h1] at c1
  simp only [h1s] at c2
  simp only [h2] at c3
  simp only [h3] at c4
  simp only [h4] at c5
  have w1 : IntKind.i64.wrap (g1 + g2) = g1 + g2 := wrap_id ⟨by omega, by omega⟩
  have w2 : IntKind.i64.wrap (g1 + g2 + g3) = g1 + g2 + g3 := wrap_id ⟨by omega, by omega⟩
  have w3 : IntKind.i64.wrap (g1 + g2 + g3 + g4) = g1 + g2 + g3 + g4 := wrap_id ⟨by omega, by omega⟩
  have t1 : (g1 + g2 == 0) = false := by simp; omega
  have t2 : (g1 + g2 + g3 + g4 == 0) = false := by simp; omega
  have t3 : ¬ g1 + g2 = 0 := hs
  have t4 : ¬ g1 + g2 + g3 + g4 = 0 := by omega
  have cm := fun w => may_any w a b
  simp only [hm] at cm
  have HM := hid hm
  clear hm
  have hg := guard_sp
  have he := neq_sp
  have hq := eql_sp
  have HW := hid h
  have HK := hid kn
  clear h kn h1 h1s h2 h3 h4
  have K0 := hid (Kp.alloc w (o6 a b c d e f) [])
  have NL := hid (b6_new w a b c d e f)
  go_enter Tryd.func7, Tryd.ntmps7
  go_wp2_with (go_at_call 17; refine (num_any _ _).mono ?_; rintro e ww ⟨rfl, rfl⟩)
  refine (HK.out _ (HW.out.keep K0.out)).mono ?_
  rintro e w1 ⟨rfl, k1⟩
  have K1 := hid (K0.out.trans k1)
  have Nlv1 := hid (NL.out.keep k1)
  clear K0 k1 NL
  have x2 := Nlv1.out.c0
  have x3 := Nlv1.out.c1
  have x4 := Nlv1.out.c2
  have x5 := Nlv1.out.c3
  have x6 := Nlv1.out.c4
  have x7 := Nlv1.out.c5
  go_wp2_with (go_at_call 17; refine (num_any _ _).mono ?_; rintro e ww ⟨rfl, rfl⟩)
  clear x2 x3 x4 x5 x6 x7
  refine (c1 _).mono ?_
  rintro e w2 ⟨rfl, k1⟩
  have K8 := hid (K1.out.trans k1)
  have Nlv8 := hid (Nlv1.out.keep k1)
  clear K1 k1 Nlv1
  have b0 := bx_new w2 (u1) (u2)
  have ka := Kp.alloc w2 (ob (u1) (u2)) []
  have K9 := hid (K8.out.trans ka)
  have Nlv9 := hid (Nlv8.out.keep ka)
  clear K8 ka Nlv8
  have Nav10 := hid b0
  clear b0
  have x11 := Nlv9.out.c0
  have x12 := Nlv9.out.c1
  have x13 := Nlv9.out.c2
  have x14 := Nlv9.out.c3
  have x15 := Nlv9.out.c4
  have x16 := Nlv9.out.c5
  go_wp2_with (go_at_call 17; refine (num_any _ _).mono ?_; rintro e ww ⟨rfl, rfl⟩)
  clear x11 x12 x13 x14 x15 x16
  refine (c2 _).mono ?_
  rintro e w3 ⟨rfl, k1⟩
  have K17 := hid (K9.out.trans k1)
  have Nlv17 := hid (Nlv9.out.keep k1)
  have Nav17 := hid (Nav10.out.keep k1)
  clear K9 k1 Nlv9 Nav10
  have b0 := bx_new w3 (u1) (u2)
  have ka := Kp.alloc w3 (ob (u1) (u2)) []
  have K18 := hid (K17.out.trans ka)
  have Nlv18 := hid (Nlv17.out.keep ka)
  have Nav18 := hid (Nav17.out.keep ka)
  clear K17 ka Nlv17 Nav17
  have Nbv19 := hid b0
  clear b0
  have x20 := Nav18.out.c0
  have x21 := Nav18.out.c1
  have x22 := Nbv19.out.c0
  have x23 := Nbv19.out.c1
  have x24 := Nlv18.out.c0
  have x25 := Nlv18.out.c1
  have x26 := Nlv18.out.c2
  have x27 := Nlv18.out.c3
  have x28 := Nlv18.out.c4
  have x29 := Nlv18.out.c5
  go_wp2_with (go_at_call 17; refine (num_any _ _).mono ?_; rintro e ww ⟨rfl, rfl⟩)
  clear x20 x21 x22 x23 x24 x25 x26 x27 x28 x29
  refine (c3 _).mono ?_
  rintro e w4 ⟨rfl, k1⟩
  have K30 := hid (K18.out.trans k1)
  have Nlv30 := hid (Nlv18.out.keep k1)
  have Nav30 := hid (Nav18.out.keep k1)
  have Nbv30 := hid (Nbv19.out.keep k1)
  clear K18 k1 Nlv18 Nav18 Nbv19
  have b0 := bx_new w4 (u3) (u4)
  have ka := Kp.alloc w4 (ob (u3) (u4)) []
  have K31 := hid (K30.out.trans ka)
  have Nlv31 := hid (Nlv30.out.keep ka)
  have Nav31 := hid (Nav30.out.keep ka)
  have Nbv31 := hid (Nbv30.out.keep ka)
  clear K30 ka Nlv30 Nav30 Nbv30
  have Ncv32 := hid b0
  clear b0
  have x33 := Nlv31.out.c0
  have x34 := Nlv31.out.c1
  have x35 := Nlv31.out.c2
  have x36 := Nlv31.out.c3
  have x37 := Nlv31.out.c4
  have x38 := Nlv31.out.c5
  go_wp2_with (go_at_call 17; refine (num_any _ _).mono ?_; rintro e ww ⟨rfl, rfl⟩)
  clear x33 x34 x35 x36 x37 x38
  refine (c4 _).mono ?_
  rintro e w5 ⟨rfl, k1⟩
  have K39 := hid (K31.out.trans k1)
  have Nlv39 := hid (Nlv31.out.keep k1)
  have Nav39 := hid (Nav31.out.keep k1)
  have Ncv39 := hid (Ncv32.out.keep k1)
  clear K31 k1 Nlv31 Nav31 Ncv32
  have b0 := bx_new w5 (u5) (u6)
  have ka := Kp.alloc w5 (ob (u5) (u6)) []
  have K40 := hid (K39.out.trans ka)
  have Nlv40 := hid (Nlv39.out.keep ka)
  have Nav40 := hid (Nav39.out.keep ka)
  have Ncv40 := hid (Ncv39.out.keep ka)
  clear K39 ka Nlv39 Nav39 Ncv39
  have Ndv41 := hid b0
  clear b0
  have x42 := Ndv41.out.c0
  have x43 := Ndv41.out.c1
  have x44 := Nlv40.out.c0
  have x45 := Nlv40.out.c1
  have x46 := Nlv40.out.c2
  have x47 := Nlv40.out.c3
  have x48 := Nlv40.out.c4
  have x49 := Nlv40.out.c5
  go_wp2_with (go_at_call 17; refine (num_any _ _).mono ?_; rintro e ww ⟨rfl, rfl⟩)
  clear x42 x43 x44 x45 x46 x47 x48 x49
  refine (c5 _).mono ?_
  rintro e w6 ⟨rfl, k1⟩
  have K50 := hid (K40.out.trans k1)
  have Nlv50 := hid (Nlv40.out.keep k1)
  have Nav50 := hid (Nav40.out.keep k1)
  have Ncv50 := hid (Ncv40.out.keep k1)
  have Ndv50 := hid (Ndv41.out.keep k1)
  clear K40 k1 Nlv40 Nav40 Ncv40 Ndv41
  have b0 := bx_new w6 (u7) (u8)
  have ka := Kp.alloc w6 (ob (u7) (u8)) []
  have K51 := hid (K50.out.trans ka)
  have Nlv51 := hid (Nlv50.out.keep ka)
  have Nav51 := hid (Nav50.out.keep ka)
  have Ncv51 := hid (Ncv50.out.keep ka)
  have Ndv51 := hid (Ndv50.out.keep ka)
  clear K50 ka Nlv50 Nav50 Ncv50 Ndv50
  have Niv52 := hid b0
  clear b0
  have x53 := Ncv51.out.c0
  have x54 := Ncv51.out.c1
  have x55 := Niv52.out.c0
  have x56 := Niv52.out.c1
  have x57 := Nav51.out.c0
  have x58 := Nav51.out.c1
  have x59 := Nlv51.out.c0
  have x60 := Nlv51.out.c1
  have x61 := Nlv51.out.c2
  have x62 := Nlv51.out.c3
  have x63 := Nlv51.out.c4
  have x64 := Nlv51.out.c5
  go_wp2_with (go_at_call 17; refine (num_any _ _).mono ?_; rintro e ww ⟨rfl, rfl⟩)
  clear x53 x54 x55 x56 x57 x58 x59 x60 x61 x62 x63 x64
  refine (cm _).mono ?_
  rintro e w7 ⟨rfl, k1⟩
  have K65 := hid (K51.out.trans k1)
  have Nlv65 := hid (Nlv51.out.keep k1)
  clear K51 k1 Nlv51
  have SZ := hid (show w.heap.size < w7.heap.size from lt_of_block Nlv65.out)
  go_wp2_with (go_at_call 17; refine (num_any _ _).mono ?_; rintro e ww ⟨rfl, rfl⟩)
  have b0 := bx_new w7 0 0
  have ka := Kp.alloc w7 (ob 0 0) []
  have K66 := hid (K65.out.trans ka)
  have Nlv66 := hid (Nlv65.out.keep ka)
  clear K65 ka Nlv65
  have BS := hid b0
  clear b0
  obtain ⟨W0, hW0⟩ : ∃ W0, w7.alloc (ob 0 0) = W0 := ⟨_, rfl⟩
  rw [hW0] at K66 Nlv66 BS
  simp only [hW0]
  obtain ⟨ps, hps⟩ : ∃ ps, w7.heap.size = ps := ⟨_, rfl⟩
  rw [hps] at BS SZ
  simp only [hps]
  clear hW0 hps
  obtain ⟨T, hT⟩ : ∃ T, tot a b = T := ⟨_, rfl⟩
  have TB := tot_bds HM.out
  have LS := @loop_step a b T
  have TE := @times_end a b T
  have TF := @times_full a b T
  have LS := hid (fun s m k h => LS s m k HM.out hT h)
  have TE := hid (fun s m k h => TE s m k HM.out hT h)
  have TF := hid (fun k n h h' => TF k n HM.out hT h h')
  rw [hT] at TB
  have TB := hid TB
  clear hT
  go_loopw [16, 17] (fun vf vk W => ∃ (k : Nat) (s m : Int), (k : Int) ≤ n ∧ vf = .bool false ∧ vk = .int .i64 k ∧ Hid (Sk T k s m) ∧ Hid (Bx W ps s m) ∧ Hid (Kp W0 W [ps])) (fun _ vk _ => 60 - (intOf vk).toNat)
  case atStart => exact ⟨0, 0, 0, by omega, rfl, rfl, sk_zero T TB.out.1, BS, Kp.refl _ _⟩
  case round =>
    obtain ⟨k, s, m, hk, rfl, rfl, hS, hB, hK⟩ := hrel
    have KW := hid (K66.out.past hK.out (by intro i hi hl; have := SZ.out; simp at hi; omega))
    have LW := hid (show B6 wr w.heap.size a b c d e f from (hK.out.block w.heap.size (lt_of_block Nlv66.out) (by have := SZ.out; simp; omega)).trans Nlv66.out)
    have y0 := LW.out.c0
    have y1 := LW.out.c1
    by_cases hlt : (k : Int) < n
    · have y2 := hB.out.c0
      have y3 := hB.out.c1
      rcases LS.out s m k hS.out with ⟨s', m', hA, hS'⟩ | ⟨hA, hF⟩
      · have ca := fun w => add_any w s m a b
        simp only [hA] at ca
        clear hA
        go_wp2_with (go_at_call 17; refine (num_any _ _).mono ?_; rintro e ww ⟨rfl, rfl⟩)
        refine (ca _).mono ?_
        rintro e1 v1 ⟨rfl, k1⟩
        clear y0 y1 y2 y3
        have HB1 := hid ((hB.out.keep k1).keep (Kp.alloc v1 (ob s' m') []))
        have HN1 := hid (bx_new v1 s' m')
        have HK1 := hid (hK.out.past (k1.trans (Kp.alloc v1 (ob s' m') [])) (by intro i hi; cases hi))
        clear k1 ca
        have y0 := HN1.out.c0
        have y1 := HN1.out.c1
        have y2 := HB1.out.c0
        have y3 := HB1.out.c1
        have y4 := HB1.out.f0
        have y5 := HB1.out.f1
        go_wp2_with (go_at_call 17; refine (num_any _ _).mono ?_; rintro e ww ⟨rfl, rfl⟩)
        go_roundw
        case rel => exact ⟨k + 1, s', m', by omega, rfl, by simp, hS', HB1.out.set s' m', HK1.out.trans (Kp.two _ _ _ _)⟩
        case measure => simp [intOf]; omega
      · have ca := fun w => add_any w s m a b
        simp only [hA] at ca
        have ct := fun w => times_any w a b n ⟨by omega, by omega⟩
        simp only [TF.out k n hF (by omega)] at ct
        clear hA
        go_wp2_with (go_at_call 17; refine (num_any _ _).mono ?_; rintro e ww ⟨rfl, rfl⟩)
        refine (ca _).mono ?_
        rintro e1 v1 ⟨rfl, k1⟩
        clear y0 y1 y2 y3
        have HK1 := hid ((KW.out.trans k1).trans (Kp.alloc v1 (ob 0 0) []))
        have HL1 := hid ((LW.out.keep k1).keep (Kp.alloc v1 (ob 0 0) []))
        clear k1 ca
        have y0 := HL1.out.c0
        have y1 := HL1.out.c1
        go_wp2_with (go_at_call 17; refine (num_any _ _).mono ?_; rintro e ww ⟨rfl, rfl⟩)
        refine (ct _).mono ?_
        rintro e1 v2 ⟨rfl, k1⟩
        clear y0 y1
        have HK2 := hid ((HK1.out.trans k1).trans (Kp.alloc v2 (ob 0 0) []))
        have HN2 := hid (bx_new v2 0 0)
        clear k1 ct
        have y0 := HN2.out.c0
        have y1 := HN2.out.c1
        go_wp2_with (go_at_call 17; refine (num_any _ _).mono ?_; rintro e ww ⟨rfl, rfl⟩)
        go_ret
        exact ⟨rfl, HK2.out⟩
    · have ct := fun w => times_any w a b n ⟨by omega, by omega⟩
      have hkn : n = (k : Int) := by omega
      simp only [show timesP a b n = (s, m, 0) by rw [hkn]; exact TE.out s m k hS.out] at ct
      have hkn2 := hid hkn
      clear hkn
      have hlt' : n ≤ (k : Int) := by omega
      go_wp2_with (go_at_call 17; refine (num_any _ _).mono ?_; rintro e ww ⟨rfl, rfl⟩)
      refine (ct _).mono ?_
      rintro e1 v2 ⟨rfl, k1⟩
      clear y0 y1
      have HK2 := hid ((KW.out.trans k1).trans (Kp.alloc v2 (ob s m) []))
      have HN2 := hid (bx_new v2 s m)
      have HB2 := hid ((hB.out.keep k1).keep (Kp.alloc v2 (ob s m) []))
      clear k1 ct
      have y0 := HN2.out.c0
      have y1 := HN2.out.c1
      have y2 := HB2.out.c0
      have y3 := HB2.out.c1
      go_wp2_with (go_at_call 17; refine (num_any _ _).mono ?_; rintro e ww ⟨rfl, rfl⟩)
      go_ret
      exact ⟨rfl, HK2.out⟩

end Go.Proofs.YtojdahgoapknjaaDoor
