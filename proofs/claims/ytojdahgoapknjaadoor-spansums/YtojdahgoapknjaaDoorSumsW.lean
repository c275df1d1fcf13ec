/- SpanSums: the walk. -/
import Derived.Test.YtojdahgoapknjaaDoorKnownOk
import Derived.Test.YtojdahgoapknjaaDoorRsub
import Derived.Test.YtojdahgoapknjaaDoorRtimes
import Derived.Deep.RegionHeldLaw
namespace Go.Proofs.YtojdahgoapknjaaDoor
open Go.RowKit Go.Shelf
set_option linter.unusedVariables false

set_option maxRecDepth 100000 in
set_option maxHeartbeats 100000000 in
theorem spanSums_walk (kn : KnownOk) (w : World) (a b c d n : Int) (hn : I64 n) (h : Wd w) : Calls Tryd.prog 3 #[sp a b, sp c d, .int .i64 n] w fun e w' => e = .returned (.bool true) ∧ Kp w w' [] := by
  have c1 := fun w => add_any w a b c d
  have c2 := fun w => radd_any w a b c d
  have c3 := fun w => sub_any w a b c d
  have c4 := fun w => rsub_any w a b c d
  have c5 := fun w => times_any w a b n hn
  have c6 := fun w => rtimes_any w a b n hn
  have c7 := fun w => may_any w a b
  have c8 := fun w => rmay_any w a b
  have c9 := fun w => cmp_any w a b c d
  have c10 := fun w => rcmp_any w a b c d
  obtain ⟨r, hr⟩ : ∃ r, addP a b c d = r := ⟨_, rfl⟩
  obtain ⟨q, hq⟩ : ∃ q, subP a b c d = q := ⟨_, rfl⟩
  obtain ⟨t, ht⟩ : ∃ t, timesP a b n = t := ⟨_, rfl⟩
  obtain ⟨m, hm⟩ : ∃ m, may a b = m := ⟨_, rfl⟩
  obtain ⟨z, hz⟩ : ∃ z, cmpP a b c d = z := ⟨_, rfl⟩
  simp only [hr, hq, ht, hm, hz] at c1 c2 c3 c4 c5 c6 c7 c8 c9 c10
  clear hr hq ht hm hz hn
  obtain ⟨r1, r2, r3⟩ := r
  obtain ⟨q1, q2, q3⟩ := q
  obtain ⟨t1, t2, t3⟩ := t
  have hg := guard_sp
  have he := eql_sp
  have HW := hid h
  have HK := hid kn
  clear h kn
  obtain ⟨b1, b2, k0⟩ := bx2 w a b c d
  have K0 := hid k0
  have NA := hid b1
  have NC := hid b2
  clear b1 b2 k0
  go_enter Tryd.func3, Tryd.ntmps3
  go_wp2_with fail
  refine (c1 _).mono ?_
  rintro e w1 ⟨rfl, k1⟩
  have K1 := hid (K0.out.trans k1)
  have Nav1 := hid (NA.out.keep k1)
  have Ncv1 := hid (NC.out.keep k1)
  clear K0 k1 NA NC
  have b0 := bx_new w1 (r1) (r2)
  have ka := Kp.alloc w1 (ob (r1) (r2)) []
  have K2 := hid (K1.out.trans ka)
  have Nav2 := hid (Nav1.out.keep ka)
  have Ncv2 := hid (Ncv1.out.keep ka)
  clear K1 ka Nav1 Ncv1
  have Ngv3 := hid b0
  clear b0
  have x4 := Nav2.out.c0
  have x5 := Nav2.out.c1
  have x6 := Ncv2.out.c0
  have x7 := Ncv2.out.c1
  go_wp2_with fail
  clear x4 x5 x6 x7
  refine (c2 _).mono ?_
  rintro e w2 ⟨rfl, k1⟩
  have K8 := hid (K2.out.trans k1)
  have Nav8 := hid (Nav2.out.keep k1)
  have Ncv8 := hid (Ncv2.out.keep k1)
  have Ngv8 := hid (Ngv3.out.keep k1)
  clear K2 k1 Nav2 Ncv2 Ngv3
  have b0 := bx_new w2 (r1) (r2)
  have ka := Kp.alloc w2 (ob (r1) (r2)) []
  have K9 := hid (K8.out.trans ka)
  have Nav9 := hid (Nav8.out.keep ka)
  have Ncv9 := hid (Ncv8.out.keep ka)
  have Ngv9 := hid (Ngv8.out.keep ka)
  clear K8 ka Nav8 Ncv8 Ngv8
  have Nhv10 := hid b0
  clear b0
  have x11 := Nav9.out.c0
  have x12 := Nav9.out.c1
  have x13 := Ncv9.out.c0
  have x14 := Ncv9.out.c1
  go_wp2_with fail
  clear x11 x12 x13 x14
  refine (c3 _).mono ?_
  rintro e w3 ⟨rfl, k1⟩
  have K15 := hid (K9.out.trans k1)
  have Nav15 := hid (Nav9.out.keep k1)
  have Ncv15 := hid (Ncv9.out.keep k1)
  have Ngv15 := hid (Ngv9.out.keep k1)
  have Nhv15 := hid (Nhv10.out.keep k1)
  clear K9 k1 Nav9 Ncv9 Ngv9 Nhv10
  have b0 := bx_new w3 (q1) (q2)
  have ka := Kp.alloc w3 (ob (q1) (q2)) []
  have K16 := hid (K15.out.trans ka)
  have Nav16 := hid (Nav15.out.keep ka)
  have Ncv16 := hid (Ncv15.out.keep ka)
  have Ngv16 := hid (Ngv15.out.keep ka)
  have Nhv16 := hid (Nhv15.out.keep ka)
  clear K15 ka Nav15 Ncv15 Ngv15 Nhv15
  have Niv17 := hid b0
  clear b0
  have x18 := Nav16.out.c0
  have x19 := Nav16.out.c1
  have x20 := Ncv16.out.c0
  have x21 := Ncv16.out.c1
  go_wp2_with fail
  clear x18 x19 x20 x21
  refine (c4 _).mono ?_
  rintro e w4 ⟨rfl, k1⟩
  have K22 := hid (K16.out.trans k1)
  have Nav22 := hid (Nav16.out.keep k1)
  have Ncv22 := hid (Ncv16.out.keep k1)
  have Ngv22 := hid (Ngv16.out.keep k1)
  have Nhv22 := hid (Nhv16.out.keep k1)
  have Niv22 := hid (Niv17.out.keep k1)
  clear K16 k1 Nav16 Ncv16 Ngv16 Nhv16 Niv17
  have b0 := bx_new w4 (q1) (q2)
  have ka := Kp.alloc w4 (ob (q1) (q2)) []
  have K23 := hid (K22.out.trans ka)
  have Nav23 := hid (Nav22.out.keep ka)
  have Ncv23 := hid (Ncv22.out.keep ka)
  have Ngv23 := hid (Ngv22.out.keep ka)
  have Nhv23 := hid (Nhv22.out.keep ka)
  have Niv23 := hid (Niv22.out.keep ka)
  clear K22 ka Nav22 Ncv22 Ngv22 Nhv22 Niv22
  have Njv24 := hid b0
  clear b0
  have x25 := Nav23.out.c0
  have x26 := Nav23.out.c1
  go_wp2_with fail
  clear x25 x26
  refine (c5 _).mono ?_
  rintro e w5 ⟨rfl, k1⟩
  have K27 := hid (K23.out.trans k1)
  have Nav27 := hid (Nav23.out.keep k1)
  have Ncv27 := hid (Ncv23.out.keep k1)
  have Ngv27 := hid (Ngv23.out.keep k1)
  have Nhv27 := hid (Nhv23.out.keep k1)
  have Niv27 := hid (Niv23.out.keep k1)
  have Njv27 := hid (Njv24.out.keep k1)
  clear K23 k1 Nav23 Ncv23 Ngv23 Nhv23 Niv23 Njv24
  have b0 := bx_new w5 (t1) (t2)
  have ka := Kp.alloc w5 (ob (t1) (t2)) []
  have K28 := hid (K27.out.trans ka)
  have Nav28 := hid (Nav27.out.keep ka)
  have Ncv28 := hid (Ncv27.out.keep ka)
  have Ngv28 := hid (Ngv27.out.keep ka)
  have Nhv28 := hid (Nhv27.out.keep ka)
  have Niv28 := hid (Niv27.out.keep ka)
  have Njv28 := hid (Njv27.out.keep ka)
  clear K27 ka Nav27 Ncv27 Ngv27 Nhv27 Niv27 Njv27
  have Nkv29 := hid b0
  clear b0
  have x30 := Nav28.out.c0
  have x31 := Nav28.out.c1
  go_wp2_with fail
  clear x30 x31
  refine (c6 _).mono ?_
  rintro e w6 ⟨rfl, k1⟩
  have K32 := hid (K28.out.trans k1)
  have Nav32 := hid (Nav28.out.keep k1)
  have Ncv32 := hid (Ncv28.out.keep k1)
  have Ngv32 := hid (Ngv28.out.keep k1)
  have Nhv32 := hid (Nhv28.out.keep k1)
  have Niv32 := hid (Niv28.out.keep k1)
  have Njv32 := hid (Njv28.out.keep k1)
  have Nkv32 := hid (Nkv29.out.keep k1)
  clear K28 k1 Nav28 Ncv28 Ngv28 Nhv28 Niv28 Njv28 Nkv29
  have b0 := bx_new w6 (t1) (t2)
  have ka := Kp.alloc w6 (ob (t1) (t2)) []
  have K33 := hid (K32.out.trans ka)
  have Nav33 := hid (Nav32.out.keep ka)
  have Ncv33 := hid (Ncv32.out.keep ka)
  have Ngv33 := hid (Ngv32.out.keep ka)
  have Nhv33 := hid (Nhv32.out.keep ka)
  have Niv33 := hid (Niv32.out.keep ka)
  have Njv33 := hid (Njv32.out.keep ka)
  have Nkv33 := hid (Nkv32.out.keep ka)
  clear K32 ka Nav32 Ncv32 Ngv32 Nhv32 Niv32 Njv32 Nkv32
  have Nlv34 := hid b0
  clear b0
  go_wp2_with fail
  have KF := hid K33.out
  have Zc := hid (show Bx (w6.alloc (ob t1 t2)) (w.heap.size + 1) c d from Ncv33.out)
  have Za := hid (show Bx (w6.alloc (ob t1 t2)) w.heap.size a b from Nav33.out)
  have Zg := hid (show Bx (w6.alloc (ob t1 t2)) w1.heap.size r1 r2 from Ngv33.out)
  have Zh := hid (show Bx (w6.alloc (ob t1 t2)) w2.heap.size r1 r2 from Nhv33.out)
  have Zi := hid (show Bx (w6.alloc (ob t1 t2)) w3.heap.size q1 q2 from Niv33.out)
  have Zj := hid (show Bx (w6.alloc (ob t1 t2)) w4.heap.size q1 q2 from Njv33.out)
  have Zk := hid (show Bx (w6.alloc (ob t1 t2)) w5.heap.size t1 t2 from Nkv33.out)
  have Zl := hid (show Bx (w6.alloc (ob t1 t2)) w6.heap.size t1 t2 from Nlv34.out)
  clear K33 Ncv33 Nav33 Ngv33 Nhv33 Niv33 Njv33 Nkv33 Nlv34
  obtain ⟨wz, hwz⟩ : ∃ wz, w6.alloc (ob t1 t2) = wz := ⟨_, rfl⟩
  rw [hwz] at KF Zc Za Zg Zh Zi Zj Zk Zl
  simp only [hwz]
  obtain ⟨pc, hpc⟩ : ∃ pc, w.heap.size + 1 = pc := ⟨_, rfl⟩
  rw [hpc] at Zc
  simp only [hpc]
  obtain ⟨pa, hpa⟩ : ∃ pa, w.heap.size = pa := ⟨_, rfl⟩
  rw [hpa] at Za
  simp only [hpa]
  obtain ⟨pg, hpg⟩ : ∃ pg, w1.heap.size = pg := ⟨_, rfl⟩
  rw [hpg] at Zg
  simp only [hpg]
  obtain ⟨ph, hph⟩ : ∃ ph, w2.heap.size = ph := ⟨_, rfl⟩
  rw [hph] at Zh
  simp only [hph]
  obtain ⟨pi, hpi⟩ : ∃ pi, w3.heap.size = pi := ⟨_, rfl⟩
  rw [hpi] at Zi
  simp only [hpi]
  obtain ⟨pj, hpj⟩ : ∃ pj, w4.heap.size = pj := ⟨_, rfl⟩
  rw [hpj] at Zj
  simp only [hpj]
  obtain ⟨pk, hpk⟩ : ∃ pk, w5.heap.size = pk := ⟨_, rfl⟩
  rw [hpk] at Zk
  simp only [hpk]
  obtain ⟨pl, hpl⟩ : ∃ pl, w6.heap.size = pl := ⟨_, rfl⟩
  rw [hpl] at Zl
  simp only [hpl]
  clear hwz hpc hpa hpg hph hpi hpj hpk hpl c1 c2 c3 c4 c5 c6
  go_region_held_law (fun W => W.cell? ⟨pc, 0, none⟩ = some (.int .i64 c) ∧ W.cell? ⟨pc, 1, none⟩ = some (.int .i64 d) ∧ W.cell? ⟨pa, 0, none⟩ = some (.int .i64 a) ∧ W.cell? ⟨pa, 1, none⟩ = some (.int .i64 b) ∧ W.cell? ⟨pg, 0, none⟩ = some (.int .i64 r1) ∧ W.cell? ⟨pg, 1, none⟩ = some (.int .i64 r2) ∧ W.cell? ⟨ph, 0, none⟩ = some (.int .i64 r1) ∧ W.cell? ⟨ph, 1, none⟩ = some (.int .i64 r2) ∧ W.cell? ⟨pi, 0, none⟩ = some (.int .i64 q1) ∧ W.cell? ⟨pi, 1, none⟩ = some (.int .i64 q2) ∧ W.cell? ⟨pj, 0, none⟩ = some (.int .i64 q1) ∧ W.cell? ⟨pj, 1, none⟩ = some (.int .i64 q2) ∧ W.cell? ⟨pk, 0, none⟩ = some (.int .i64 t1) ∧ W.cell? ⟨pk, 1, none⟩ = some (.int .i64 t2) ∧ W.cell? ⟨pl, 0, none⟩ = some (.int .i64 t1) ∧ W.cell? ⟨pl, 1, none⟩ = some (.int .i64 t2))
    (first
      | exact ⟨(Zc.out.drew.keep ((((hk1.trans hk2).trans hk3).trans hk4).trans hk5)).c0, (Zc.out.drew.keep ((((hk1.trans hk2).trans hk3).trans hk4).trans hk5)).c1, (Za.out.drew.keep ((((hk1.trans hk2).trans hk3).trans hk4).trans hk5)).c0, (Za.out.drew.keep ((((hk1.trans hk2).trans hk3).trans hk4).trans hk5)).c1, (Zg.out.drew.keep ((((hk1.trans hk2).trans hk3).trans hk4).trans hk5)).c0, (Zg.out.drew.keep ((((hk1.trans hk2).trans hk3).trans hk4).trans hk5)).c1, (Zh.out.drew.keep ((((hk1.trans hk2).trans hk3).trans hk4).trans hk5)).c0, (Zh.out.drew.keep ((((hk1.trans hk2).trans hk3).trans hk4).trans hk5)).c1, (Zi.out.drew.keep ((((hk1.trans hk2).trans hk3).trans hk4).trans hk5)).c0, (Zi.out.drew.keep ((((hk1.trans hk2).trans hk3).trans hk4).trans hk5)).c1, (Zj.out.drew.keep ((((hk1.trans hk2).trans hk3).trans hk4).trans hk5)).c0, (Zj.out.drew.keep ((((hk1.trans hk2).trans hk3).trans hk4).trans hk5)).c1, (Zk.out.drew.keep ((((hk1.trans hk2).trans hk3).trans hk4).trans hk5)).c0, (Zk.out.drew.keep ((((hk1.trans hk2).trans hk3).trans hk4).trans hk5)).c1, (Zl.out.drew.keep ((((hk1.trans hk2).trans hk3).trans hk4).trans hk5)).c0, (Zl.out.drew.keep ((((hk1.trans hk2).trans hk3).trans hk4).trans hk5)).c1⟩
      | exact ⟨(Zc.out.drew.keep (((hk1.trans hk2).trans hk3).trans hk4)).c0, (Zc.out.drew.keep (((hk1.trans hk2).trans hk3).trans hk4)).c1, (Za.out.drew.keep (((hk1.trans hk2).trans hk3).trans hk4)).c0, (Za.out.drew.keep (((hk1.trans hk2).trans hk3).trans hk4)).c1, (Zg.out.drew.keep (((hk1.trans hk2).trans hk3).trans hk4)).c0, (Zg.out.drew.keep (((hk1.trans hk2).trans hk3).trans hk4)).c1, (Zh.out.drew.keep (((hk1.trans hk2).trans hk3).trans hk4)).c0, (Zh.out.drew.keep (((hk1.trans hk2).trans hk3).trans hk4)).c1, (Zi.out.drew.keep (((hk1.trans hk2).trans hk3).trans hk4)).c0, (Zi.out.drew.keep (((hk1.trans hk2).trans hk3).trans hk4)).c1, (Zj.out.drew.keep (((hk1.trans hk2).trans hk3).trans hk4)).c0, (Zj.out.drew.keep (((hk1.trans hk2).trans hk3).trans hk4)).c1, (Zk.out.drew.keep (((hk1.trans hk2).trans hk3).trans hk4)).c0, (Zk.out.drew.keep (((hk1.trans hk2).trans hk3).trans hk4)).c1, (Zl.out.drew.keep (((hk1.trans hk2).trans hk3).trans hk4)).c0, (Zl.out.drew.keep (((hk1.trans hk2).trans hk3).trans hk4)).c1⟩
      | exact ⟨(Zc.out.drew.keep ((hk1.trans hk2).trans hk3)).c0, (Zc.out.drew.keep ((hk1.trans hk2).trans hk3)).c1, (Za.out.drew.keep ((hk1.trans hk2).trans hk3)).c0, (Za.out.drew.keep ((hk1.trans hk2).trans hk3)).c1, (Zg.out.drew.keep ((hk1.trans hk2).trans hk3)).c0, (Zg.out.drew.keep ((hk1.trans hk2).trans hk3)).c1, (Zh.out.drew.keep ((hk1.trans hk2).trans hk3)).c0, (Zh.out.drew.keep ((hk1.trans hk2).trans hk3)).c1, (Zi.out.drew.keep ((hk1.trans hk2).trans hk3)).c0, (Zi.out.drew.keep ((hk1.trans hk2).trans hk3)).c1, (Zj.out.drew.keep ((hk1.trans hk2).trans hk3)).c0, (Zj.out.drew.keep ((hk1.trans hk2).trans hk3)).c1, (Zk.out.drew.keep ((hk1.trans hk2).trans hk3)).c0, (Zk.out.drew.keep ((hk1.trans hk2).trans hk3)).c1, (Zl.out.drew.keep ((hk1.trans hk2).trans hk3)).c0, (Zl.out.drew.keep ((hk1.trans hk2).trans hk3)).c1⟩
      | exact ⟨(Zc.out.drew.keep (hk1.trans hk2)).c0, (Zc.out.drew.keep (hk1.trans hk2)).c1, (Za.out.drew.keep (hk1.trans hk2)).c0, (Za.out.drew.keep (hk1.trans hk2)).c1, (Zg.out.drew.keep (hk1.trans hk2)).c0, (Zg.out.drew.keep (hk1.trans hk2)).c1, (Zh.out.drew.keep (hk1.trans hk2)).c0, (Zh.out.drew.keep (hk1.trans hk2)).c1, (Zi.out.drew.keep (hk1.trans hk2)).c0, (Zi.out.drew.keep (hk1.trans hk2)).c1, (Zj.out.drew.keep (hk1.trans hk2)).c0, (Zj.out.drew.keep (hk1.trans hk2)).c1, (Zk.out.drew.keep (hk1.trans hk2)).c0, (Zk.out.drew.keep (hk1.trans hk2)).c1, (Zl.out.drew.keep (hk1.trans hk2)).c0, (Zl.out.drew.keep (hk1.trans hk2)).c1⟩
      | exact ⟨(Zc.out.drew.keep hk1).c0, (Zc.out.drew.keep hk1).c1, (Za.out.drew.keep hk1).c0, (Za.out.drew.keep hk1).c1, (Zg.out.drew.keep hk1).c0, (Zg.out.drew.keep hk1).c1, (Zh.out.drew.keep hk1).c0, (Zh.out.drew.keep hk1).c1, (Zi.out.drew.keep hk1).c0, (Zi.out.drew.keep hk1).c1, (Zj.out.drew.keep hk1).c0, (Zj.out.drew.keep hk1).c1, (Zk.out.drew.keep hk1).c0, (Zk.out.drew.keep hk1).c1, (Zl.out.drew.keep hk1).c0, (Zl.out.drew.keep hk1).c1⟩
      | exact ⟨(Zc.out.drew).c0, (Zc.out.drew).c1, (Za.out.drew).c0, (Za.out.drew).c1, (Zg.out.drew).c0, (Zg.out.drew).c1, (Zh.out.drew).c0, (Zh.out.drew).c1, (Zi.out.drew).c0, (Zi.out.drew).c1, (Zj.out.drew).c0, (Zj.out.drew).c1, (Zk.out.drew).c0, (Zk.out.drew).c1, (Zl.out.drew).c0, (Zl.out.drew).c1⟩)
    (first
      | (go_at_call 17; refine (num_any _ _).mono ?_; rintro e ww ⟨rfl, rfl⟩)
      | (go_at_call 20; refine (HK.out _ (HW.out.keep (KF.out.trans ((Kp.drew wz []).trans (((hk1.trans hk2).trans hk3).trans hk4))))).mono ?_; rintro e y5 ⟨rfl, hk5⟩)
      | (go_at_call 19; refine (c10 _).mono ?_; rintro e y4 ⟨rfl, hk4⟩)
      | (go_at_call 18; refine (c9 _).mono ?_; rintro e y3 ⟨rfl, hk3⟩)
      | (go_at_call 16; refine (c8 _).mono ?_; rintro e y2 ⟨rfl, hk2⟩)
      | (go_at_call 15; refine (c7 _).mono ?_; rintro e y1 ⟨rfl, hk1⟩))
  all_goals (
    have KZ := hid (KF.out.trans ((Kp.drew wz []).trans ((((hk1.trans hk2).trans hk3).trans hk4).trans hk5)))
    clear hk1 hk2 hk3 hk4 hk5 KF Zc Za Zg Zh Zi Zj Zk Zl
    go_wp2_with fail
    go_ret
    exact ⟨rfl, KZ.out⟩)
end Go.Proofs.YtojdahgoapknjaaDoor
