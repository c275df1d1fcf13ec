/- around: one step of a barrier. -/
import Derived.Test.YtpkaeanagdhmiaaPa
namespace Go.Proofs.Ytpkaeanagdhmiaa
open Go.RowKit Go.Shelf Go.Lib Go.Sort Go.Maps
attribute [local go_sem] Oper.semAt_some

set_option maxRecDepth 100000 in
set_option maxHeartbeats 4000000 in
theorem around_any (w : World) (sb rb : Nat) (R : List Nat) (v : Int) (L : List Dl) (k t p : Int) (h : Pa 76 54 w sb rb R v L) (hv : Bok v L) : Calls Try.prog 20 #[.pointer (some ⟨sb, 0, none⟩), .pointer (some ⟨rb, 0, none⟩), .agg #[.int .i64 k, .int .i64 t, .int .i64 p]] w fun e w' => Did 76 54 w w' rb R v (arL v L k t p) e := by
  have HOK := hid h.ok
  have HV := hid hv
  have hlt := h.lt
  obtain ⟨R1, q, rfl, hs, hr, h3, h4⟩ := h
  obtain ⟨W0, hW0⟩ : ∃ W0, w.alloc (.cells #[.int .i64 k, .int .i64 t, .int .i64 p] 34) = W0 := ⟨_, rfl⟩
  obtain ⟨c0, c1, c2⟩ := cell3 w (.int .i64 k) (.int .i64 t) (.int .i64 p)
  have kk : Kp w W0 [] := by rw [← hW0]; exact Kp.alloc _ _ _
  have S0 := hid (hs.same kk)
  have Q0 := hid (hr.same kk)
  have K0 := hid kk
  have HN := hid (And.intro h3 h4)
  have hb1 := cell_two1 hr.2.1
  rw [hW0] at c0 c1 c2
  have hbx : w.heap.size ∉ q :: R1 := fun hm => by
    rcases List.mem_cons.1 hm with e | hm
    · have := hr.lt; omega
    · have := hs.lt _ hm; omega
  have hbr : rb ∉ q :: R1 := fun hm => by
    rcases List.mem_cons.1 hm with e | hm
    · exact hr.ne e
    · exact h3 hm
  have CC := hid (fun (w1 : World) (hk : Kp W0 w1 (q :: R1)) => And.intro (hk.cell c0 hbx) (And.intro (hk.cell c1 hbx) (And.intro (hk.cell c2 hbx) (hk.cell (kk.cell hb1 (by simp)) hbr))))
  have hbx2 : w.heap.size ∉ R1 := fun hm => hbx (by simp [hm])
  have CR := hid (fun (w1 : World) (hk : Kp W0 w1 R1) => And.intro (hk.cell c0 hbx2) (And.intro (hk.cell c1 hbx2) (hk.cell c2 hbx2)))
  have KA := hid (show ∀ (A B : World), Kp A B R1 → Kp A B (q :: R1) from fun _ _ h => h.mono (by intro x hx _; simp [hx]))
  have KB := hid (show ∀ (A B : World), Kp A B [q] → Kp A B (q :: R1) from fun _ _ h => h.mono (by intro x hx _; simp at hx; simp [hx]))
  have HS := hid (show w.heap.size ≤ W0.heap.size from K0.out.size)
  /- Both have gone on. -/
  have FIN := hid (fun (w1 w2 : World) (u : Int) (M : List Dl) (ha : To 76 W0 w1 sb R1 u M) (hb : Rto 54 w1 w2 rb q u M) => (show ∃ R', Pa 76 54 w2 sb rb R' u M ∧ Nw w (R1 ++ [rb, q]) R' ∧ Kp w w2 (R1 ++ [rb, q]) from by
    obtain ⟨R', x1, x2, x3⟩ := pa_fin Q0.out HN.out.1 HN.out.2 ha hb
    exact ⟨R', x1, fun y hy => (x2 y hy).imp id (fun h => Nat.le_trans HS.out h), K0.out.nil.trans x3⟩))
  have MID := hid (fun (w1 : World) (u : Int) (M : List Dl) (ha : To 76 W0 w1 sb R1 u M) => Rm.mid S0.out Q0.out HN.out.1 HN.out.2 ha)
  clear hv hlt hs hr h3 h4 kk hb1 hbx hbr hbx2
  by_cases k1 : k = 1
  · have kt : (k == 1) = true := by simp [k1]
    have hsl : arL v L k t p = baL v L t p := by unfold arL; simp [k1]
    rw [hsl]
    clear hsl
    clear k1
    have HC1 := hid (bwait W0 sb R1 v L t p S0.out HV.out)
    have HC2 := hid (fun (z1 : World) (hT : To 76 W0 z1 sb R1 v (baL v L t p)) => rbwait z1 rb q v L t p (MID.out z1 _ _ hT) HOK.out)
    obtain ⟨E, hE⟩ : ∃ E, putE L t p = E := ⟨_, rfl⟩
    rw [hE] at HC1 HC2
    clear hE
    have hol : (baO v L t p).length ≤ 100000 := by
      unfold baO
      split
      · rw [List.length_append, List.length_map, ord_len HOK.out]; have := HOK.out.len; simp; omega
      · simp
    generalize baO v L t p = O at HC1 HC2 hol
    go_enter Try.func20, Try.ntmps20
    go_wp2_with fail
    refine HC1.out.mono ?_
    rintro e z1 ⟨x, rfl, hx, hT⟩
    have HT := hid (bto hT)
    have HX := hid hx
    obtain ⟨d0, d1, d2⟩ := CR.out z1 (by obtain ⟨_, _, _, k⟩ := bto hT; exact k)
    clear hT c0 c1 c2 hx
    go_wp2_with fail
    refine (HC2.out z1 HT.out).mono ?_
    rintro e z2 ⟨y, rfl, hy, hR⟩
    have F := hid (FIN.out z1 z2 _ _ HT.out hR)
    have HY := hid hy
    have HX2 := hid (show Ns z2 W0.heap.size x O from by
      obtain ⟨q', m, n', k'⟩ := hR
      refine HX.out.kp k' (fun g hg hm => ?_)
      have h5 := (owns_block HX.out hg).1
      have h6 := Q0.out.lt
      simp at hm
      omega)
    clear hR d0 d1 d2 hy HX
    go_wp2_with fail
    refine (ints_any z2 _ _ x y O O HX2.out HY.out hol).mono ?_
    rintro e z3 ⟨rfl, hk⟩
    rw [show decide (O = O) = true by simp]
    have K3 := hid hk
    clear hk HX2 HY
    go_wp2_with (go_at_call 10; refine (num_any _ _).mono ?_; rintro e wx ⟨rfl, hw⟩; obtain rfl := hw.symm)
    refine bodyPost_ret (results_tmp3 rfl _ _ _) rfl ?_
    obtain ⟨R', x1, x2, x3⟩ := F.out
    exact ⟨sb, R', by simp, x1.same K3.out, x2, x3.trans K3.out.nil⟩
  by_cases k2 : k = 2
  · have kt : (k == 2) = true := by simp [k2]
    have kf1 : (k == 1) = false := by simp [k1]
    have hsl : arL v L k t p = baL v L t p := by unfold arL; simp [k2]
    rw [hsl]
    clear hsl
    clear k1 k2
    have HC1 := hid (bwait W0 sb R1 v L t p S0.out HV.out)
    have HC2 := hid (fun (z1 : World) (hT : To 76 W0 z1 sb R1 v (baL v L t p)) => rbwait z1 rb q v L t p (MID.out z1 _ _ hT) HOK.out)
    obtain ⟨E, hE⟩ : ∃ E, putE L t p = E := ⟨_, rfl⟩
    rw [hE] at HC1 HC2
    clear hE
    have hol : (baO v L t p).length ≤ 100000 := by
      unfold baO
      split
      · rw [List.length_append, List.length_map, ord_len HOK.out]; have := HOK.out.len; simp; omega
      · simp
    generalize baO v L t p = O at HC1 HC2 hol
    go_enter Try.func20, Try.ntmps20
    go_wp2_with fail
    refine HC1.out.mono ?_
    rintro e z1 ⟨x, rfl, hx, hT⟩
    have HT := hid (bto hT)
    have HX := hid hx
    obtain ⟨d0, d1, d2⟩ := CR.out z1 (by obtain ⟨_, _, _, k⟩ := bto hT; exact k)
    clear hT c0 c1 c2 hx
    go_wp2_with fail
    refine (HC2.out z1 HT.out).mono ?_
    rintro e z2 ⟨y, rfl, hy, hR⟩
    have F := hid (FIN.out z1 z2 _ _ HT.out hR)
    have HY := hid hy
    have HX2 := hid (show Ns z2 W0.heap.size x O from by
      obtain ⟨q', m, n', k'⟩ := hR
      refine HX.out.kp k' (fun g hg hm => ?_)
      have h5 := (owns_block HX.out hg).1
      have h6 := Q0.out.lt
      simp at hm
      omega)
    clear hR d0 d1 d2 hy HX
    go_wp2_with fail
    refine (ints_any z2 _ _ x y O O HX2.out HY.out hol).mono ?_
    rintro e z3 ⟨rfl, hk⟩
    rw [show decide (O = O) = true by simp]
    have K3 := hid hk
    clear hk HX2 HY
    go_wp2_with (go_at_call 10; refine (num_any _ _).mono ?_; rintro e wx ⟨rfl, hw⟩; obtain rfl := hw.symm)
    refine bodyPost_ret (results_tmp3 rfl _ _ _) rfl ?_
    obtain ⟨R', x1, x2, x3⟩ := F.out
    exact ⟨sb, R', by simp, x1.same K3.out, x2, x3.trans K3.out.nil⟩
  by_cases k3 : k = 3
  · have kt : (k == 3) = true := by simp [k3]
    have kf1 : (k == 1) = false := by simp [k1]
    have kf2 : (k == 2) = false := by simp [k2]
    have hsl : arL v L k t p = baL v L t p := by unfold arL; simp [k3]
    rw [hsl]
    clear hsl
    clear k1 k2 k3
    have HC1 := hid (bwait W0 sb R1 v L t p S0.out HV.out)
    have HC2 := hid (fun (z1 : World) (hT : To 76 W0 z1 sb R1 v (baL v L t p)) => rbwait z1 rb q v L t p (MID.out z1 _ _ hT) HOK.out)
    obtain ⟨E, hE⟩ : ∃ E, putE L t p = E := ⟨_, rfl⟩
    rw [hE] at HC1 HC2
    clear hE
    have hol : (baO v L t p).length ≤ 100000 := by
      unfold baO
      split
      · rw [List.length_append, List.length_map, ord_len HOK.out]; have := HOK.out.len; simp; omega
      · simp
    generalize baO v L t p = O at HC1 HC2 hol
    go_enter Try.func20, Try.ntmps20
    go_wp2_with fail
    refine HC1.out.mono ?_
    rintro e z1 ⟨x, rfl, hx, hT⟩
    have HT := hid (bto hT)
    have HX := hid hx
    obtain ⟨d0, d1, d2⟩ := CR.out z1 (by obtain ⟨_, _, _, k⟩ := bto hT; exact k)
    clear hT c0 c1 c2 hx
    go_wp2_with fail
    refine (HC2.out z1 HT.out).mono ?_
    rintro e z2 ⟨y, rfl, hy, hR⟩
    have F := hid (FIN.out z1 z2 _ _ HT.out hR)
    have HY := hid hy
    have HX2 := hid (show Ns z2 W0.heap.size x O from by
      obtain ⟨q', m, n', k'⟩ := hR
      refine HX.out.kp k' (fun g hg hm => ?_)
      have h5 := (owns_block HX.out hg).1
      have h6 := Q0.out.lt
      simp at hm
      omega)
    clear hR d0 d1 d2 hy HX
    go_wp2_with fail
    refine (ints_any z2 _ _ x y O O HX2.out HY.out hol).mono ?_
    rintro e z3 ⟨rfl, hk⟩
    rw [show decide (O = O) = true by simp]
    have K3 := hid hk
    clear hk HX2 HY
    go_wp2_with (go_at_call 10; refine (num_any _ _).mono ?_; rintro e wx ⟨rfl, hw⟩; obtain rfl := hw.symm)
    refine bodyPost_ret (results_tmp3 rfl _ _ _) rfl ?_
    obtain ⟨R', x1, x2, x3⟩ := F.out
    exact ⟨sb, R', by simp, x1.same K3.out, x2, x3.trans K3.out.nil⟩
  by_cases k4 : k = 4
  · have kt : (k == 4) = true := by simp [k4]
    have kf1 : (k == 1) = false := by simp [k1]
    have kf2 : (k == 2) = false := by simp [k2]
    have kf3 : (k == 3) = false := by simp [k3]
    have hsl : arL v L k t p = lvL L t := by unfold arL; simp [k4]
    rw [hsl]
    clear hsl
    clear k1 k2 k3 k4
    go_enter Try.func20, Try.ntmps20
    go_wp2_with fail
    have d4 := (CC.out W0 (Kp.refl _ _)).2.2.2
    go_region_held_law (fun w1 => w1.cell? ⟨w.heap.size, 0, none⟩ = some (.int .i64 k) ∧ w1.cell? ⟨w.heap.size, 1, none⟩ = some (.int .i64 t) ∧ w1.cell? ⟨w.heap.size, 2, none⟩ = some (.int .i64 p) ∧ w1.cell? ⟨rb, 1, none⟩ = some (.pointer (some ⟨q, 0, none⟩)))
      (first
        | exact CC.out _ (Kp.drew _ _)
        | exact CC.out _ ((Kp.drew _ _).trans (KA.out _ _ hK1))
        | exact CC.out _ (((Kp.drew _ _).trans (KA.out _ _ hK1)).trans hK2.nil)
        | exact CC.out _ (((Kp.drew _ _).trans (KA.out _ _ hK1)).trans (KB.out _ _ hK3.2))
        | exact CC.out _ ((((Kp.drew _ _).trans (KA.out _ _ hK1)).trans (KB.out _ _ hK3.2)).trans hK2.nil)
        | exact CC.out _ ((((Kp.drew _ _).trans (KA.out _ _ hK1)).trans hK2.nil).trans (KB.out _ _ hK3.2)))
      (first
        | (go_at_call 40; have _hh := hK1; refine (rlv_any _ q L t (((Q0.out.same (Kp.drew _ [])).keep hK1 HN.out.1 HN.out.2 (S0.out.same (Kp.drew _ [])).kind).same hK2).2.2 HOK.out).mono ?_; rintro e z3 ⟨rfl, hK3⟩)
        | (go_at_call 10; refine (num_kp _ _).mono ?_; rintro e z2 ⟨rfl, hK2⟩)
        | (go_at_call 34; refine (bleave _ sb R1 v L t (S0.out.same (Kp.drew _ []))).mono ?_; rintro e z1 ⟨rfl, R2, hs2, hn2, hK1⟩))
    have TO := hid (show To 76 W0 z2 sb R1 v (lvL L t) from ⟨R2, hs2.same hK2, hn2, ((Kp.drew W0 R1).trans hK1).trans hK2.nil⟩)
    have F := hid (FIN.out z2 z3 v _ TO.out (rto_of_rt (MID.out z2 v _ TO.out) hK3))
    clear hs2 hn2 hK1 hK2 hK3 TO d4
    obtain ⟨E, hE⟩ : ∃ E, lvE L t = E := ⟨_, rfl⟩
    rw [hE]
    clear hE
    go_wp2
    refine bodyPost_ret (results_tmp3 rfl _ _ _) rfl ?_
    exact ⟨sb, _, by simp, F.out.choose_spec⟩
  by_cases k5 : k = 5
  · have kt : (k == 5) = true := by simp [k5]
    have kf1 : (k == 1) = false := by simp [k1]
    have kf2 : (k == 2) = false := by simp [k2]
    have kf3 : (k == 3) = false := by simp [k3]
    have kf4 : (k == 4) = false := by simp [k4]
    have hsl : arL v L k t p = chgL L t p := by unfold arL; simp [k5]
    rw [hsl]
    clear hsl
    clear k1 k2 k3 k4 k5
    go_enter Try.func20, Try.ntmps20
    go_wp2_with fail
    have d4 := (CC.out W0 (Kp.refl _ _)).2.2.2
    go_region_held_law (fun w1 => w1.cell? ⟨w.heap.size, 0, none⟩ = some (.int .i64 k) ∧ w1.cell? ⟨w.heap.size, 1, none⟩ = some (.int .i64 t) ∧ w1.cell? ⟨w.heap.size, 2, none⟩ = some (.int .i64 p) ∧ w1.cell? ⟨rb, 1, none⟩ = some (.pointer (some ⟨q, 0, none⟩)))
      (first
        | exact CC.out _ (Kp.drew _ _)
        | exact CC.out _ ((Kp.drew _ _).trans (KA.out _ _ hK1))
        | exact CC.out _ (((Kp.drew _ _).trans (KA.out _ _ hK1)).trans hK2.nil)
        | exact CC.out _ (((Kp.drew _ _).trans (KA.out _ _ hK1)).trans (KB.out _ _ hK3.2))
        | exact CC.out _ ((((Kp.drew _ _).trans (KA.out _ _ hK1)).trans (KB.out _ _ hK3.2)).trans hK2.nil)
        | exact CC.out _ ((((Kp.drew _ _).trans (KA.out _ _ hK1)).trans hK2.nil).trans (KB.out _ _ hK3.2)))
      (first
        | (go_at_call 41; have _hh := hK1; refine (rchg_any _ q L t p (((Q0.out.same (Kp.drew _ [])).keep hK1 HN.out.1 HN.out.2 (S0.out.same (Kp.drew _ [])).kind).same hK2).2.2 HOK.out).mono ?_; rintro e z3 ⟨rfl, hK3⟩)
        | (go_at_call 10; refine (num_kp _ _).mono ?_; rintro e z2 ⟨rfl, hK2⟩)
        | (go_at_call 48; refine (bchange _ sb R1 v L t p (S0.out.same (Kp.drew _ []))).mono ?_; rintro e z1 ⟨rfl, R2, hs2, hn2, hK1⟩))
    have TO := hid (show To 76 W0 z2 sb R1 v (chgL L t p) from ⟨R2, hs2.same hK2, hn2, ((Kp.drew W0 R1).trans hK1).trans hK2.nil⟩)
    have F := hid (FIN.out z2 z3 v _ TO.out (rto_of_rt (MID.out z2 v _ TO.out) hK3))
    clear hs2 hn2 hK1 hK2 hK3 TO d4
    obtain ⟨E, hE⟩ : ∃ E, chgE L t p = E := ⟨_, rfl⟩
    rw [hE]
    clear hE
    go_wp2
    refine bodyPost_ret (results_tmp3 rfl _ _ _) rfl ?_
    exact ⟨sb, _, by simp, F.out.choose_spec⟩
  have hsl : arL v L k t p = L := by unfold arL; simp [k1, k2, k3, k4, k5]
  rw [hsl]
  clear hsl
  by_cases k6 : k = 6
  · have kt : (k == 6) = true := by simp [k6]
    have kf1 : (k == 1) = false := by simp [k1]
    have kf2 : (k == 2) = false := by simp [k2]
    have kf3 : (k == 3) = false := by simp [k3]
    have kf4 : (k == 4) = false := by simp [k4]
    have kf5 : (k == 5) = false := by simp [k5]
    clear k1 k2 k3 k4 k5 k6
    go_enter Try.func20, Try.ntmps20
    go_wp2_with fail
    refine (bcopy W0 sb R1 v L S0.out).mono ?_
    rintro e z1 ⟨cb, RC, rfl, hC, hCn, hk1⟩
    have C1 := hid (And.intro hC (And.intro hCn hk1))
    clear hC hCn hk1 c0 c1 c2
    have HSM := hid (bsame z1 _ _ RC R1 v v L L C1.out.1.sv (S0.out.same C1.out.2.2).sv)
    have e1 : RC.isEmpty = false := by obtain ⟨-, wb, R0, rfl, -⟩ := C1.out.1; rfl
    have e2 : R1.isEmpty = false := by obtain ⟨-, wb, R0, rfl, -⟩ := S0.out; rfl
    rw [show (decide (v = v) && (decide (RC.isEmpty = R1.isEmpty) && decide (L = L))) = true by rw [e1, e2]; simp] at HSM
    clear e1 e2
    go_wp2_with fail
    refine HSM.out.mono ?_
    rintro e z2 ⟨rfl, hk2⟩
    have C2 := hid (And.intro (C1.out.1.same hk2) (And.intro C1.out.2.1 (C1.out.2.2.trans hk2)))
    clear hk2 C1 HSM
    go_wp2_with fail
    refine (bwait z2 sb R1 v L 15 31 (S0.out.same C2.out.2.2) HV.out).mono ?_
    rintro e z3 ⟨x, rfl, -, R3, s3, n3, k3, -⟩
    have T3 := hid (And.intro s3 (And.intro n3 k3))
    clear s3 n3 k3
    go_wp2_with fail
    refine (bwait z3 sb R3 _ _ 14 30 T3.out.1 (HV.out.wait 15 31)).mono ?_
    rintro e z4 ⟨y, rfl, -, hT4⟩
    have T4 := hid (show To 76 z2 z4 sb R1 v (baL v (baL v L 15 31) 14 30) from by
      obtain ⟨R4, s4, n4, k4, -⟩ := hT4
      refine ⟨R4, s4, T3.out.2.1.trans n4 T3.out.2.2.size, T3.out.2.2.past k4 (fun x hx hl => ?_)⟩
      rcases T3.out.2.1 x hx with q | q
      · exact q
      · omega)
    clear hT4 T3
    have F := hid (pa_copy S0.out Q0.out HN.out.1 HN.out.2 C2.out.2.2 C2.out.1 C2.out.2.1 T4.out)
    go_wp2
    refine bodyPost_ret (results_tmp3 rfl _ _ _) rfl ?_
    obtain ⟨R', x1, x2, x3⟩ := F.out
    exact ⟨cb, R', by simp, x1, fun y hy => (x2 y hy).imp id (fun h => Nat.le_trans HS.out h), K0.out.nil.trans x3⟩
  · have kf6 : (k == 6) = false := by simp [k6]
    have kf1 : (k == 1) = false := by simp [k1]
    have kf2 : (k == 2) = false := by simp [k2]
    have kf3 : (k == 3) = false := by simp [k3]
    have kf4 : (k == 4) = false := by simp [k4]
    have kf5 : (k == 5) = false := by simp [k5]
    clear k1 k2 k3 k4 k5 k6
    go_enter Try.func20, Try.ntmps20
    go_wp2
    refine bodyPost_ret (results_tmp3 rfl _ _ _) rfl ?_
    obtain ⟨R', x1, x2, x3⟩ := FIN.out W0 W0 v L (To.stay S0.out (Kp.refl _ _)) (Rto.stay Q0.out (Kp.refl _ _))
    exact ⟨sb, R', by simp, x1, x2, x3⟩
end Go.Proofs.Ytpkaeanagdhmiaa
