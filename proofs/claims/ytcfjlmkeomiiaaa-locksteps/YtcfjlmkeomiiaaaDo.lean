/- do: one step of both. -/
import Derived.Test.YtcfjlmkeomiiaaaPa
namespace Go.Proofs.Ytcfjlmkeomiiaaa
open Go.RowKit Go.Shelf Go.Lib Go.Sort Go.Maps
attribute [local go_sem] Oper.semAt_some

set_option maxRecDepth 100000 in
set_option maxHeartbeats 4000000 in
theorem do_any (w : World) (lb rb : Nat) (R : List Nat) (M : Lk) (k t p : Int) (h : Pa w lb rb R M) (hM : Lok M) (ht : i64 t) : Calls Try.prog 9 #[.pointer (some ⟨lb, 0, none⟩), .pointer (some ⟨rb, 0, none⟩), .agg #[.int .i64 k, .int .i64 t, .int .i64 p]] w fun e w' => Did w w' rb R (stM M k t p) e := by
  obtain ⟨R1, a, b, rfl, hs, hr, h3⟩ := h
  have hm := hM.mid
  obtain ⟨W0, hW0⟩ : ∃ W0, w.alloc (.cells #[.int .i64 k, .int .i64 t, .int .i64 p] 30) = W0 := ⟨_, rfl⟩
  obtain ⟨c0, c1, c2⟩ := cell3 w (.int .i64 k) (.int .i64 t) (.int .i64 p)
  have kk : Kp w W0 [] := by rw [← hW0]; exact Kp.alloc _ _ _
  have S0 := hid (hs.same kk)
  have Q0 := hid (hr.same kk)
  have K0 := hid kk
  have HN := hid h3
  rw [hW0] at c0 c1 c2
  have hbx : w.heap.size ∉ R1 := fun hx => by have := hs.lt _ hx; omega
  have CR := hid (fun (w1 : World) (hk : Kp W0 w1 R1) => And.intro (hk.cell c0 hbx) (And.intro (hk.cell c1 hbx) (hk.cell c2 hbx)))
  have HS := hid (show w.heap.size ≤ W0.heap.size from K0.out.size)
  have HOLD := hid (show ∀ x ∈ [rb, a, b], x < W0.heap.size from Q0.out.old)
  /- Both have gone on. -/
  have FIN := hid (fun (w1 w2 w3 : World) (M' : Lk) (ha : To W0 w1 lb R1 M') (hb : Rkt w1 w2 rb a b M') (hc : Kp w2 w3 []) => (show ∃ R', Pa w3 lb rb R' M' ∧ Nw w (R1 ++ [rb, a, b]) R' ∧ Kp w w3 (R1 ++ [rb, a, b]) from by
    obtain ⟨R', x1, x2, x3⟩ := pa_fin Q0.out HN.out ha hb
    exact ⟨R', x1.same hc, fun y hy => (x2 y hy).imp id (fun h => Nat.le_trans HS.out h), (K0.out.nil.trans x3).trans hc.nil⟩))
  have MID := hid (fun (w1 : World) (M' : Lk) (ha : To W0 w1 lb R1 M') => Rk.mid S0.out Q0.out HN.out ha)
  clear hs hr h3 kk hbx
  unfold stM
  by_cases k1 : k = 1
  · have kt : (k == 1) = true := by simp [k1]
    rw [if_pos k1]
    clear k1
    have H1 := hid (lread W0 lb R1 M t p S0.out hm)
    have H2 := hid (fun (z : World) (hz : Rk z rb a b M) => rread z rb a b M t p false hz hm)
    generalize rdB M t p = B at H1 H2
    generalize askE M t p false = E at H1 H2
    generalize rdM M t p false = MN at H1 H2 ⊢
    clear hM hm ht
    go_enter Try.func9, Try.ntmps9
    go_wp2_with fail
    refine H1.out.mono ?_
    rintro e z1 ⟨rfl, hT⟩
    have T1 := hid hT
    obtain ⟨-, -, -, k1⟩ := hT
    obtain ⟨d0, d1, d2⟩ := CR.out z1 k1
    clear k1 c0 c1 c2
    go_wp2_with fail
    refine (H2.out z1 (MID.out z1 _ T1.out)).mono ?_
    rintro e z2 ⟨rfl, hR⟩
    have F := hid (FIN.out z1 z2 z2 _ T1.out hR (Kp.refl _ _))
    clear hR
    go_wp2_with (go_at_call 18; refine (num_any _ _).mono ?_; rintro e wx ⟨rfl, hw⟩; obtain rfl := hw.symm)
    refine bodyPost_ret (results_tmp3 rfl _ _ _) rfl ?_
    obtain ⟨R', x1, x2, x3⟩ := F.out
    exact ⟨lb, R', by simp, x1, x2, x3⟩
  by_cases k2 : k = 2
  · have kt : (k == 2) = true := by simp [k2]
    have kf1 : (k == 1) = false := by simp [k1]
    rw [if_neg k1, if_pos k2]
    clear k1 k2
    have H1 := hid (lwrite W0 lb R1 M t p S0.out hm)
    have H2 := hid (fun (z : World) (hz : Rk z rb a b M) => rwrite z rb a b M t p false hz hm)
    generalize wrB M t p = B at H1 H2
    generalize askE M t p true = E at H1 H2
    generalize wrM M t p false = MN at H1 H2 ⊢
    clear hM hm ht
    go_enter Try.func9, Try.ntmps9
    go_wp2_with fail
    refine H1.out.mono ?_
    rintro e z1 ⟨rfl, hT⟩
    have T1 := hid hT
    obtain ⟨-, -, -, k1⟩ := hT
    obtain ⟨d0, d1, d2⟩ := CR.out z1 k1
    clear k1 c0 c1 c2
    go_wp2_with fail
    refine (H2.out z1 (MID.out z1 _ T1.out)).mono ?_
    rintro e z2 ⟨rfl, hR⟩
    have F := hid (FIN.out z1 z2 z2 _ T1.out hR (Kp.refl _ _))
    clear hR
    go_wp2_with (go_at_call 18; refine (num_any _ _).mono ?_; rintro e wx ⟨rfl, hw⟩; obtain rfl := hw.symm)
    refine bodyPost_ret (results_tmp3 rfl _ _ _) rfl ?_
    obtain ⟨R', x1, x2, x3⟩ := F.out
    exact ⟨lb, R', by simp, x1, x2, x3⟩
  by_cases k3 : k = 3
  · have kt : (k == 3) = true := by simp [k3]
    have kf1 : (k == 1) = false := by simp [k1]
    have kf2 : (k == 2) = false := by simp [k2]
    rw [if_neg k1, if_neg k2, if_pos k3]
    clear k1 k2 k3
    have H1 := hid (ltryR W0 lb R1 M t p S0.out hm)
    have H2 := hid (fun (z : World) (hz : Rk z rb a b M) => rread z rb a b M t p true hz hm)
    generalize rdB M t p = B at H1 H2
    generalize askE M t p false = E at H1 H2
    generalize rdM M t p true = MN at H1 H2 ⊢
    clear hM hm ht
    go_enter Try.func9, Try.ntmps9
    go_wp2_with fail
    refine H1.out.mono ?_
    rintro e z1 ⟨rfl, hT⟩
    have T1 := hid hT
    obtain ⟨-, -, -, k1⟩ := hT
    obtain ⟨d0, d1, d2⟩ := CR.out z1 k1
    clear k1 c0 c1 c2
    go_wp2_with fail
    refine (H2.out z1 (MID.out z1 _ T1.out)).mono ?_
    rintro e z2 ⟨rfl, hR⟩
    have F := hid (FIN.out z1 z2 z2 _ T1.out hR (Kp.refl _ _))
    clear hR
    go_wp2_with (go_at_call 18; refine (num_any _ _).mono ?_; rintro e wx ⟨rfl, hw⟩; obtain rfl := hw.symm)
    refine bodyPost_ret (results_tmp3 rfl _ _ _) rfl ?_
    obtain ⟨R', x1, x2, x3⟩ := F.out
    exact ⟨lb, R', by simp, x1, x2, x3⟩
  by_cases k4 : k = 4
  · have kt : (k == 4) = true := by simp [k4]
    have kf1 : (k == 1) = false := by simp [k1]
    have kf2 : (k == 2) = false := by simp [k2]
    have kf3 : (k == 3) = false := by simp [k3]
    rw [if_neg k1, if_neg k2, if_neg k3, if_pos k4]
    clear k1 k2 k3 k4
    have H1 := hid (ltryW W0 lb R1 M t p S0.out hm)
    have H2 := hid (fun (z : World) (hz : Rk z rb a b M) => rwrite z rb a b M t p true hz hm)
    generalize wrB M t p = B at H1 H2
    generalize askE M t p true = E at H1 H2
    generalize wrM M t p true = MN at H1 H2 ⊢
    clear hM hm ht
    go_enter Try.func9, Try.ntmps9
    go_wp2_with fail
    refine H1.out.mono ?_
    rintro e z1 ⟨rfl, hT⟩
    have T1 := hid hT
    obtain ⟨-, -, -, k1⟩ := hT
    obtain ⟨d0, d1, d2⟩ := CR.out z1 k1
    clear k1 c0 c1 c2
    go_wp2_with fail
    refine (H2.out z1 (MID.out z1 _ T1.out)).mono ?_
    rintro e z2 ⟨rfl, hR⟩
    have F := hid (FIN.out z1 z2 z2 _ T1.out hR (Kp.refl _ _))
    clear hR
    go_wp2_with (go_at_call 18; refine (num_any _ _).mono ?_; rintro e wx ⟨rfl, hw⟩; obtain rfl := hw.symm)
    refine bodyPost_ret (results_tmp3 rfl _ _ _) rfl ?_
    obtain ⟨R', x1, x2, x3⟩ := F.out
    exact ⟨lb, R', by simp, x1, x2, x3⟩
  by_cases k5 : k = 5
  · have kt : (k == 5) = true := by simp [k5]
    have kf1 : (k == 1) = false := by simp [k1]
    have kf2 : (k == 2) = false := by simp [k2]
    have kf3 : (k == 3) = false := by simp [k3]
    have kf4 : (k == 4) = false := by simp [k4]
    rw [if_neg k1, if_neg k2, if_neg k3, if_neg k4, if_pos k5]
    clear k1 k2 k3 k4 k5
    have H1 := hid (lunlock W0 lb R1 M t S0.out hm)
    have H2 := hid (fun (z : World) (hz : Rk z rb a b M) => runlock z rb a b M t hz hm)
    have hlen := unO_len hm t 
    generalize unO M t = O at H1 H2 hlen
    generalize unE M t = E at H1 H2
    generalize unM M t = MN at H1 H2 ⊢
    generalize hOl : O.length = m at H1 H2
    clear hM hm ht hOl
    go_enter Try.func9, Try.ntmps9
    go_wp2_with fail
    refine H1.out.mono ?_
    rintro e z1 ⟨ao, cap, rfl, hL⟩
    have T1 := hid hL.to
    have N1 := hid hL.1
    obtain ⟨-, -, -, k1⟩ := hL.to
    obtain ⟨d0, d1, d2⟩ := CR.out z1 k1
    clear k1 c0 c1 c2 hL
    go_wp2_with fail
    refine (H2.out z1 (MID.out z1 _ T1.out)).mono ?_
    rintro e z2 ⟨ao2, cap2, rfl, hn2, hR⟩
    have NX := hid (show Ns z2 W0.heap.size (.slice ao m cap) O from N1.out.kp hR.2 (fun g hg hx => by have := (owns_block N1.out hg).1; have := HOLD.out g hx; omega))
    have NY := hid hn2
    have R2 := hid hR
    clear hR hn2 d0 d1 d2
    go_wp2_with fail
    refine (ints_yes _ _ _ _ _ O NX.out NY.out hlen).mono ?_
    rintro e z3 ⟨rfl, hk⟩
    have F := hid (FIN.out z1 z2 z3 _ T1.out R2.out hk)
    clear hk NX NY R2 T1 N1
    go_wp2_with (go_at_call 18; refine (num_any _ _).mono ?_; rintro e wx ⟨rfl, hw⟩; obtain rfl := hw.symm)
    refine bodyPost_ret (results_tmp3 rfl _ _ _) rfl ?_
    obtain ⟨R', x1, x2, x3⟩ := F.out
    exact ⟨lb, R', by simp, x1, x2, x3⟩
  by_cases k6 : k = 6
  · have kt : (k == 6) = true := by simp [k6]
    have kf1 : (k == 1) = false := by simp [k1]
    have kf2 : (k == 2) = false := by simp [k2]
    have kf3 : (k == 3) = false := by simp [k3]
    have kf4 : (k == 4) = false := by simp [k4]
    have kf5 : (k == 5) = false := by simp [k5]
    rw [if_neg k1, if_neg k2, if_neg k3, if_neg k4, if_neg k5, if_pos k6]
    clear k1 k2 k3 k4 k5 k6
    have H1 := hid (lleave W0 lb R1 M t S0.out hm ht)
    have H2 := hid (fun (z : World) (hz : Rk z rb a b M) => rleave z rb a b M t hz hm)
    have hlen := leO_len hm t 
    generalize leO M t = O at H1 H2 hlen
    generalize leE M t = E at H1 H2
    generalize leM M t = MN at H1 H2 ⊢
    generalize hOl : O.length = m at H1 H2
    clear hM hm ht hOl
    go_enter Try.func9, Try.ntmps9
    go_wp2_with fail
    refine H1.out.mono ?_
    rintro e z1 ⟨ao, cap, rfl, hL⟩
    have T1 := hid hL.to
    have N1 := hid hL.1
    obtain ⟨-, -, -, k1⟩ := hL.to
    obtain ⟨d0, d1, d2⟩ := CR.out z1 k1
    clear k1 c0 c1 c2 hL
    go_wp2_with fail
    refine (H2.out z1 (MID.out z1 _ T1.out)).mono ?_
    rintro e z2 ⟨ao2, cap2, rfl, hn2, hR⟩
    have NX := hid (show Ns z2 W0.heap.size (.slice ao m cap) O from N1.out.kp hR.2 (fun g hg hx => by have := (owns_block N1.out hg).1; have := HOLD.out g hx; omega))
    have NY := hid hn2
    have R2 := hid hR
    clear hR hn2 d0 d1 d2
    go_wp2_with fail
    refine (ints_yes _ _ _ _ _ O NX.out NY.out hlen).mono ?_
    rintro e z3 ⟨rfl, hk⟩
    have F := hid (FIN.out z1 z2 z3 _ T1.out R2.out hk)
    clear hk NX NY R2 T1 N1
    go_wp2_with (go_at_call 18; refine (num_any _ _).mono ?_; rintro e wx ⟨rfl, hw⟩; obtain rfl := hw.symm)
    refine bodyPost_ret (results_tmp3 rfl _ _ _) rfl ?_
    obtain ⟨R', x1, x2, x3⟩ := F.out
    exact ⟨lb, R', by simp, x1, x2, x3⟩
  by_cases k7 : k = 7
  · have kt : (k == 7) = true := by simp [k7]
    have kf1 : (k == 1) = false := by simp [k1]
    have kf2 : (k == 2) = false := by simp [k2]
    have kf3 : (k == 3) = false := by simp [k3]
    have kf4 : (k == 4) = false := by simp [k4]
    have kf5 : (k == 5) = false := by simp [k5]
    have kf6 : (k == 6) = false := by simp [k6]
    rw [if_neg k1, if_neg k2, if_neg k3, if_neg k4, if_neg k5, if_neg k6, if_pos k7]
    clear k1 k2 k3 k4 k5 k6 k7
    have H1 := hid (lchange W0 lb R1 M t p S0.out hm ht)
    have H2 := hid (fun (z : World) (hz : Rk z rb a b M) => rchange z rb a b M t p hz hm)
    have hlen := chO_len hm t p 
    generalize chO M t p = O at H1 H2 hlen
    generalize chgEL M t p = E at H1 H2
    generalize chM M t p = MN at H1 H2 ⊢
    generalize hOl : O.length = m at H1 H2
    clear hM hm ht hOl
    go_enter Try.func9, Try.ntmps9
    go_wp2_with fail
    refine H1.out.mono ?_
    rintro e z1 ⟨ao, cap, rfl, hL⟩
    have T1 := hid hL.to
    have N1 := hid hL.1
    obtain ⟨-, -, -, k1⟩ := hL.to
    obtain ⟨d0, d1, d2⟩ := CR.out z1 k1
    clear k1 c0 c1 c2 hL
    go_wp2_with fail
    refine (H2.out z1 (MID.out z1 _ T1.out)).mono ?_
    rintro e z2 ⟨ao2, cap2, rfl, hn2, hR⟩
    have NX := hid (show Ns z2 W0.heap.size (.slice ao m cap) O from N1.out.kp hR.2 (fun g hg hx => by have := (owns_block N1.out hg).1; have := HOLD.out g hx; omega))
    have NY := hid hn2
    have R2 := hid hR
    clear hR hn2 d0 d1 d2
    go_wp2_with fail
    refine (ints_yes _ _ _ _ _ O NX.out NY.out hlen).mono ?_
    rintro e z3 ⟨rfl, hk⟩
    have F := hid (FIN.out z1 z2 z3 _ T1.out R2.out hk)
    clear hk NX NY R2 T1 N1
    go_wp2_with (go_at_call 18; refine (num_any _ _).mono ?_; rintro e wx ⟨rfl, hw⟩; obtain rfl := hw.symm)
    refine bodyPost_ret (results_tmp3 rfl _ _ _) rfl ?_
    obtain ⟨R', x1, x2, x3⟩ := F.out
    exact ⟨lb, R', by simp, x1, x2, x3⟩
  rw [if_neg k1, if_neg k2, if_neg k3, if_neg k4, if_neg k5, if_neg k6, if_neg k7]
  by_cases k8 : k = 8
  · have kt : (k == 8) = true := by simp [k8]
    have kf1 : (k == 1) = false := by simp [k1]
    have kf2 : (k == 2) = false := by simp [k2]
    have kf3 : (k == 3) = false := by simp [k3]
    have kf4 : (k == 4) = false := by simp [k4]
    have kf5 : (k == 5) = false := by simp [k5]
    have kf6 : (k == 6) = false := by simp [k6]
    have kf7 : (k == 7) = false := by simp [k7]
    clear k1 k2 k3 k4 k5 k6 k7 k8
    have HC := hid (lcopy W0 lb R1 M S0.out)
    have HSm := hid (fun (z : World) (cb : Nat) (RC : List Nat) (h1 : Lc z cb RC M) (h2 : Lc z lb R1 M) => lsame z cb lb RC R1 M M h1 h2)
    rw [same_refl M] at HSm
    have HU := hid (fun (z : World) (h2 : Lc z lb R1 M) => lunlock z lb R1 M 1 h2 hm)
    have hm1 := (hM.un 1).mid
    have HRd := hid (fun (z : World) (R2 : List Nat) (h2 : Lc z lb R2 (unM M 1)) => lread z lb R2 _ 15 31 h2 hm1)
    have hm2 := ((hM.un 1).rd 15 31 false).mid
    have HLv := hid (fun (z : World) (R2 : List Nat) (h2 : Lc z lb R2 (rdM (unM M 1) 15 31 false)) => lleave z lb R2 _ 2 h2 hm2 ⟨by decide, by decide⟩)
    generalize leM (rdM (unM M 1) 15 31 false) 2 = M3 at HLv
    generalize leO (rdM (unM M 1) 15 31 false) 2 = O3 at HLv
    generalize leE (rdM (unM M 1) 15 31 false) 2 = E3 at HLv
    generalize rdM (unM M 1) 15 31 false = M2 at HRd HLv
    generalize rdB (unM M 1) 15 31 = B2 at HRd
    generalize askE (unM M 1) 15 31 false = E2 at HRd
    generalize unM M 1 = M1 at HU HRd
    generalize unO M 1 = O1 at HU
    generalize unE M 1 = E1 at HU
    generalize O1.length = n1 at HU
    generalize O3.length = n3 at HLv
    clear hM hm ht hm1 hm2
    go_enter Try.func9, Try.ntmps9
    go_wp2_with fail
    refine HC.out.mono ?_
    rintro e z1 ⟨cb, RC, rfl, hc, hf, hk⟩
    have C1 := hid (And.intro hc (And.intro hf hk))
    clear hc hf hk
    go_wp2_with fail
    refine (HSm.out z1 cb RC C1.out.1 (S0.out.same C1.out.2.2)).mono ?_
    rintro e z2 ⟨rfl, hk⟩
    have C2 := hid (show Lc z2 cb RC M ∧ (∀ k ∈ RC, W0.heap.size ≤ k) ∧ Kp W0 z2 [] from ⟨C1.out.1.same hk, C1.out.2.1, C1.out.2.2.trans hk⟩)
    clear hk C1
    go_wp2_with fail
    refine (HU.out z2 (S0.out.same C2.out.2.2)).mono ?_
    rintro e z3 ⟨ao1, cap1, rfl, hL⟩
    obtain ⟨R3, s3, n3, k3⟩ := hL.to
    have S3 := hid s3
    have N3 := hid (And.intro n3 k3)
    clear hL s3 n3 k3
    go_wp2_with fail
    refine (HRd.out z3 R3 S3.out).mono ?_
    rintro e z4 ⟨rfl, hT⟩
    obtain ⟨R4, s4, n4, k4⟩ := to_step N3.out.1 N3.out.2 hT
    have S4 := hid s4
    have N4 := hid (And.intro n4 k4)
    clear hT s4 n4 k4
    go_wp2_with fail
    refine (HLv.out z4 R4 S4.out).mono ?_
    rintro e z5 ⟨ao3, cap3, rfl, hL⟩
    have F := hid (pa_copy S0.out Q0.out HN.out C2.out.2.2 C2.out.1 C2.out.2.1 (to_step N4.out.1 N4.out.2 hL.to))
    clear hL c0 c1 c2
    go_wp2
    refine bodyPost_ret (results_tmp3 rfl _ _ _) rfl ?_
    obtain ⟨R', x1, x2, x3⟩ := F.out
    exact ⟨cb, R', by simp, x1, fun y hy => (x2 y hy).imp id (fun h => Nat.le_trans HS.out h), K0.out.nil.trans x3⟩
  · have kf8 : (k == 8) = false := by simp [k8]
    have kf1 : (k == 1) = false := by simp [k1]
    have kf2 : (k == 2) = false := by simp [k2]
    have kf3 : (k == 3) = false := by simp [k3]
    have kf4 : (k == 4) = false := by simp [k4]
    have kf5 : (k == 5) = false := by simp [k5]
    have kf6 : (k == 6) = false := by simp [k6]
    have kf7 : (k == 7) = false := by simp [k7]
    clear k1 k2 k3 k4 k5 k6 k7 k8
    clear hM hm ht
    go_enter Try.func9, Try.ntmps9
    go_wp2
    refine bodyPost_ret (results_tmp3 rfl _ _ _) rfl ?_
    obtain ⟨R', x1, x2, x3⟩ := FIN.out W0 W0 W0 M (To.stay S0.out (Kp.refl _ _)) (Rkt.stay Q0.out (Kp.refl _ _)) (Kp.refl _ _)
    exact ⟨lb, R', by simp, x1, x2, x3⟩
end Go.Proofs.Ytcfjlmkeomiiaaa
