/- do: one step. -/
import Derived.Test.YtpkjnjhbgjgfaaaPa
namespace Go.Proofs.Ytpkjnjhbgjgfaaa
open Go.RowKit Go.Shelf Go.Lib Go.Sort Go.Maps
attribute [local go_sem] Oper.semAt_some

set_option maxRecDepth 100000 in
set_option maxHeartbeats 4000000 in
theorem do_any (w : World) (cb rb : Nat) (R : List Nat) (m : Int) (L : List Dl) (k t p u : Int) (h : Pa w cb rb R m L) : Calls Try.prog 9 #[.pointer (some ⟨cb, 0, none⟩), .pointer (some ⟨rb, 0, none⟩), .agg #[.int .i64 k, .int .i64 t, .int .i64 p, .int .i64 u]] w fun e w' => Did w w' rb R (stM m L k t p u) (stL m L k t p u) e := by
  have HOK := hid h.ok
  obtain ⟨R1, q, rfl, hs, hr, h3, h4⟩ := h
  obtain ⟨W0, hW0⟩ : ∃ W0, w.alloc (.cells #[.int .i64 k, .int .i64 t, .int .i64 p, .int .i64 u] 30) = W0 := ⟨_, rfl⟩
  obtain ⟨c0, c1, c2, c3⟩ := cell4 w (.int .i64 k) (.int .i64 t) (.int .i64 p) (.int .i64 u)
  have kk : Kp w W0 [] := by rw [← hW0]; exact Kp.alloc _ _ _
  have S0 := hid (hs.same kk)
  have Q0 := hid (hr.same kk)
  have K0 := hid kk
  have HN := hid (And.intro h3 h4)
  have hb0 := cell_two0 hr.1
  rw [hW0] at c0 c1 c2 c3
  have hbx : w.heap.size ∉ q :: R1 := fun hm => by
    rcases List.mem_cons.1 hm with e | hm
    · have := hr.lt; omega
    · have := hs.lt _ hm; omega
  have hbr : rb ∉ q :: R1 := fun hm => by
    rcases List.mem_cons.1 hm with e | hm
    · exact hr.ne e
    · exact h3 hm
  have CC := hid (fun (w1 : World) (hk : Kp W0 w1 (q :: R1)) => And.intro (hk.cell c0 hbx) (And.intro (hk.cell c1 hbx) (And.intro (hk.cell c2 hbx) (And.intro (hk.cell c3 hbx) (hk.cell (kk.cell hb0 (by simp)) hbr)))))
  have KA := hid (show ∀ (A B : World), Kp A B R1 → Kp A B (q :: R1) from fun _ _ h => h.mono (by intro x hx _; simp [hx]))
  have KB := hid (show ∀ (A B : World), Kp A B [q] → Kp A B (q :: R1) from fun _ _ h => h.mono (by intro x hx _; simp at hx; simp [hx]))
  have HS := hid (show w.heap.size ≤ W0.heap.size from K0.out.size)
  /- Both have gone on. -/
  have FIN := hid (fun (w1 w2 : World) (u' : Int) (M : List Dl) (ha : To W0 w1 cb R1 u' M) (hb : Rto w1 w2 rb q u' M) => (show ∃ R', Pa w2 cb rb R' u' M ∧ Nw w (R1 ++ [rb, q]) R' ∧ Kp w w2 (R1 ++ [rb, q]) from by
    obtain ⟨R', x1, x2, x3⟩ := pa_fin Q0.out HN.out.1 HN.out.2 ha hb
    exact ⟨R', x1, fun y hy => (x2 y hy).imp id (fun h => Nat.le_trans HS.out h), K0.out.nil.trans x3⟩))
  have MID := hid (fun (w1 : World) (u' : Int) (M : List Dl) (ha : To W0 w1 cb R1 u' M) => Rm.mid S0.out Q0.out HN.out.1 HN.out.2 ha)
  have hby : w.heap.size ∉ rb :: q :: R1 := fun hm => by
    rcases List.mem_cons.1 hm with e | hm
    · have := hr.lt; omega
    · exact hbx hm
  have CD := hid (fun (w1 : World) (hk : Kp W0 w1 (rb :: q :: R1)) => And.intro (hk.cell c0 hby) (And.intro (hk.cell c1 hby) (And.intro (hk.cell c2 hby) (hk.cell c3 hby))))
  have KD := hid (show ∀ (A B : World), Kp A B R1 → Kp A B (rb :: q :: R1) from fun _ _ h => h.mono (by intro x hx _; simp [hx]))
  have KC := hid (show ∀ (A B : World), Kp A B [rb, q] → Kp A B (rb :: q :: R1) from fun _ _ h => h.mono (by intro x hx _; simp at hx; rcases hx with rfl | rfl <;> simp))
  clear hs hr h3 h4 kk hb0 hbx hbr hby
  by_cases k1 : k = 1
  · have kt : (k == 1) = true := by simp [k1]
    have hsv : stM m L k t p u = cwM m L t p u := by unfold stM; simp [k1]
    have hsl : stL m L k t p u = cwL m L t p u := by unfold stL; simp [k1]
    rw [hsv, hsl]
    clear hsv hsl
    clear k1
    go_enter Try.func9, Try.ntmps9
    go_wp2_with fail
    have d4 := (CC.out W0 (Kp.refl _ _)).2.2.2.2
    go_region_held_law (fun w1 => w1.cell? ⟨w.heap.size, 0, none⟩ = some (.int .i64 k) ∧ w1.cell? ⟨w.heap.size, 1, none⟩ = some (.int .i64 t) ∧ w1.cell? ⟨w.heap.size, 2, none⟩ = some (.int .i64 p) ∧ w1.cell? ⟨w.heap.size, 3, none⟩ = some (.int .i64 u))
      (first
        | exact CD.out _ (Kp.drew _ _)
        | exact CD.out _ ((Kp.drew _ _).trans (KD.out _ _ hK1))
        | exact CD.out _ (((Kp.drew _ _).trans (KD.out _ _ hK1)).trans hK2.nil)
        | exact CD.out _ (((Kp.drew _ _).trans (KD.out _ _ hK1)).trans (KC.out _ _ hK3))
        | exact CD.out _ ((((Kp.drew _ _).trans (KD.out _ _ hK1)).trans (KC.out _ _ hK3)).trans hK2.nil)
        | exact CD.out _ ((((Kp.drew _ _).trans (KD.out _ _ hK1)).trans hK2.nil).trans (KC.out _ _ hK3)))
      (first
        | (go_at_call 26; have _hh := hK1; refine (rwait _ rb q m L t p u (((Q0.out.same (Kp.drew _ [])).keep hK1 HN.out.1 HN.out.2 (S0.out.same (Kp.drew _ [])).kind).same hK2) HOK.out).mono ?_; rintro e z3 ⟨rfl, q3, hr3, hn3, hK3⟩)
        | (go_at_call 17; refine (num_kp _ _).mono ?_; rintro e z2 ⟨rfl, hK2⟩)
        | (go_at_call 16; refine (cwait _ cb R1 m L t p u (S0.out.same (Kp.drew _ []))).mono ?_; rintro e z1 ⟨rfl, R2, hs2, hn2, hK1⟩))
    have TO := hid (show To W0 z2 cb R1 (cwM m L t p u) (cwL m L t p u) from ⟨R2, hs2.same hK2, hn2, ((Kp.drew W0 R1).trans hK1).trans hK2.nil⟩)
    have F := hid (FIN.out z2 z3 _ _ TO.out ⟨q3, hr3, hn3, hK3⟩)
    clear hs2 hn2 hK1 hK2 hK3 hr3 hn3 TO d4
    obtain ⟨E, hE⟩ : ∃ E, cwE m L t p u = E := ⟨_, rfl⟩
    rw [hE]
    clear hE
    go_wp2
    refine bodyPost_ret (results_tmp3 rfl _ _ _) rfl ?_
    exact ⟨cb, _, by simp, F.out.choose_spec⟩
  by_cases k2 : k = 2
  · have kt : (k == 2) = true := by simp [k2]
    have kf1 : (k == 1) = false := by simp [k1]
    have hsv : stM m L k t p u = m := by unfold stM; simp [k2]
    have hsl : stL m L k t p u = takeL L := by unfold stL; simp [k2]
    rw [hsv, hsl]
    clear hsv hsl
    clear k1 k2
    have HC1 := hid (csignal W0 cb R1 m L S0.out)
    have HC2 := hid (fun (z1 : World) (hT : To W0 z1 cb R1 m (takeL L)) => rtake_any z1 q L (MID.out z1 _ _ hT).2 HOK.out)
    have RC := hid (fun (z1 : World) (hT : To W0 z1 cb R1 m (takeL L)) => cell_two0 (MID.out z1 _ _ hT).1)
    have RD := hid (fun (z1 z2 : World) (hT : To W0 z1 cb R1 m (takeL L)) (hr : Rt z1 z2 q (takeL L)) => FIN.out z1 z2 _ _ hT (rto_of_rt (MID.out z1 _ _ hT) hr))
    generalize takeL L = TL at HC1 HC2 RC RD ⊢
    obtain ⟨B, hB⟩ : ∃ B, fstB L = B := ⟨_, rfl⟩
    obtain ⟨E, hE⟩ : ∃ E, fstT L = E := ⟨_, rfl⟩
    rw [hB, hE] at HC1 HC2
    clear hB hE
    go_enter Try.func9, Try.ntmps9
    go_wp2_with fail
    refine HC1.out.mono ?_
    rintro e z1 ⟨rfl, hT⟩
    have HT := hid hT
    have e0 := RC.out z1 hT
    clear hT c0 c1 c2 c3
    go_wp2_with fail
    refine (HC2.out z1 HT.out).mono ?_
    rintro e z2 ⟨rfl, hR⟩
    have F := hid (RD.out z1 z2 HT.out hR)
    clear hR e0
    have hbb := fun w => run_equal_bool (P := Try.prog) w 4 B B Try.underlying4
    go_wp2
    refine bodyPost_ret (results_tmp3 rfl _ _ _) rfl ?_
    exact ⟨cb, _, by simp, F.out.choose_spec⟩
  by_cases k3 : k = 3
  · have kt : (k == 3) = true := by simp [k3]
    have kf1 : (k == 1) = false := by simp [k1]
    have kf2 : (k == 2) = false := by simp [k2]
    have hsv : stM m L k t p u = m := by unfold stM; simp [k3]
    have hsl : stL m L k t p u = [] := by unfold stL; simp [k3]
    rw [hsv, hsl]
    clear hsv hsl
    clear k1 k2 k3
    have HC1 := hid (fun z (hk : Kp W0 z []) => cbroad z cb R1 m L (S0.out.same hk))
    have hlen : ((ordL L).map (·.1)).length ≤ 100000 := by rw [List.length_map, ord_len HOK.out]; have := HOK.out.len; omega
    have HC2 := hid (fun (z : World) (hz : Rf z q L) => rclear_any z q L hz HOK.out)
    generalize (ordL L).map (·.1) = OL at HC1 HC2 hlen
    go_enter Try.func9, Try.ntmps9
    go_wp2_with fail
    have d4 := (CC.out W0 (Kp.refl _ _)).2.2.2.2
    go_region_held_law (fun w1 => w1.cell? ⟨rb, 0, none⟩ = some (.pointer (some ⟨q, 0, none⟩)))
      (first
        | exact (CC.out _ (Kp.drew _ _)).2.2.2.2
        | exact (CC.out _ ((Kp.drew _ _).trans (KA.out _ _ hK1))).2.2.2.2
        | exact (CC.out _ (((Kp.drew _ _).trans (KA.out _ _ hK1)).trans (KB.out _ _ hK2.2))).2.2.2.2
        | exact (CC.out _ ((((Kp.drew _ _).trans (KA.out _ _ hK1)).trans (KB.out _ _ hK2.2)).trans hK3.nil)).2.2.2.2)
      (first
        | (go_at_call 19; have hq4 := hX.kp hK2.2 (hXo z2); have hq5 := ints_yes z2 _ _ x y OL hq4 hY hlen; refine hq5.mono ?_; rintro e z3 ⟨rfl, hK3⟩)
        | (go_at_call 28; refine (HC2.out _ ((Q0.out.same (Kp.drew _ [])).keep hK1 HN.out.1 HN.out.2 (S0.out.same (Kp.drew _ [])).kind).2).mono ?_; rintro e z2 ⟨⟨y, rfl, hY⟩, hK2⟩)
        | (go_at_call 21; refine (HC1.out _ (Kp.drew _ _)).mono ?_; rintro e z1 ⟨x, rfl, hX, R2, hs2, hn2, hK1⟩; have hXo := fun (_ : World) => (show ∀ g, x.ownBlock = some g → g ∉ [q] from fun g hg hm => by simp at hm; have := (owns_block hX hg).1; have h7 := Q0.out.lt.2; subst hm; exact Nat.lt_irrefl _ (Nat.lt_of_lt_of_le h7 this)))
        | fail)
    have TO := hid (show To W0 z1 cb R1 m [] from ⟨R2, hs2, fun k hk => .inl (hn2 k hk), (Kp.drew W0 R1).trans hK1⟩)
    have F := hid (show ∃ R', Pa z3 cb rb R' m [] ∧ Nw w (R1 ++ [rb, q]) R' ∧ Kp w z3 (R1 ++ [rb, q]) from by
      obtain ⟨R', x1, x2, x3⟩ := FIN.out z1 z2 m _ TO.out (rto_of_rt (MID.out z1 m _ TO.out) hK2)
      exact ⟨R', x1.same hK3, x2, x3.trans hK3.nil⟩)
    clear hs2 hn2 hK1 hK2 hK3 hX hY hXo TO d4
    go_wp2
    refine bodyPost_ret (results_tmp3 rfl _ _ _) rfl ?_
    exact ⟨cb, _, by simp, F.out.choose_spec⟩
  by_cases k4 : k = 4
  · have kt : (k == 4) = true := by simp [k4]
    have kf1 : (k == 1) = false := by simp [k1]
    have kf2 : (k == 2) = false := by simp [k2]
    have kf3 : (k == 3) = false := by simp [k3]
    have hsv : stM m L k t p u = m := by unfold stM; simp [k4]
    have hsl : stL m L k t p u = lvL L t := by unfold stL; simp [k4]
    rw [hsv, hsl]
    clear hsv hsl
    clear k1 k2 k3 k4
    go_enter Try.func9, Try.ntmps9
    go_wp2_with fail
    have d4 := (CC.out W0 (Kp.refl _ _)).2.2.2.2
    go_region_held_law (fun w1 => w1.cell? ⟨w.heap.size, 0, none⟩ = some (.int .i64 k) ∧ w1.cell? ⟨w.heap.size, 1, none⟩ = some (.int .i64 t) ∧ w1.cell? ⟨w.heap.size, 2, none⟩ = some (.int .i64 p) ∧ w1.cell? ⟨w.heap.size, 3, none⟩ = some (.int .i64 u) ∧ w1.cell? ⟨rb, 0, none⟩ = some (.pointer (some ⟨q, 0, none⟩)))
      (first
        | exact CC.out _ (Kp.drew _ _)
        | exact CC.out _ ((Kp.drew _ _).trans (KA.out _ _ hK1))
        | exact CC.out _ (((Kp.drew _ _).trans (KA.out _ _ hK1)).trans hK2.nil)
        | exact CC.out _ (((Kp.drew _ _).trans (KA.out _ _ hK1)).trans (KB.out _ _ hK3.2))
        | exact CC.out _ ((((Kp.drew _ _).trans (KA.out _ _ hK1)).trans (KB.out _ _ hK3.2)).trans hK2.nil)
        | exact CC.out _ ((((Kp.drew _ _).trans (KA.out _ _ hK1)).trans hK2.nil).trans (KB.out _ _ hK3.2)))
      (first
        | (go_at_call 29; have _hh := hK1; refine (rlv_any _ q L t (((Q0.out.same (Kp.drew _ [])).keep hK1 HN.out.1 HN.out.2 (S0.out.same (Kp.drew _ [])).kind).same hK2).2 HOK.out).mono ?_; rintro e z3 ⟨rfl, hK3⟩)
        | (go_at_call 17; refine (num_kp _ _).mono ?_; rintro e z2 ⟨rfl, hK2⟩)
        | (go_at_call 22; refine (cleave _ cb R1 m L t (S0.out.same (Kp.drew _ []))).mono ?_; rintro e z1 ⟨rfl, R2, hs2, hn2, hK1⟩))
    have TO := hid (show To W0 z2 cb R1 m (lvL L t) from ⟨R2, hs2.same hK2, hn2, ((Kp.drew W0 R1).trans hK1).trans hK2.nil⟩)
    have F := hid (FIN.out z2 z3 m _ TO.out (rto_of_rt (MID.out z2 m _ TO.out) hK3))
    clear hs2 hn2 hK1 hK2 hK3 TO d4
    obtain ⟨E, hE⟩ : ∃ E, lvE L t = E := ⟨_, rfl⟩
    rw [hE]
    clear hE
    go_wp2
    refine bodyPost_ret (results_tmp3 rfl _ _ _) rfl ?_
    exact ⟨cb, _, by simp, F.out.choose_spec⟩
  by_cases k5 : k = 5
  · have kt : (k == 5) = true := by simp [k5]
    have kf1 : (k == 1) = false := by simp [k1]
    have kf2 : (k == 2) = false := by simp [k2]
    have kf3 : (k == 3) = false := by simp [k3]
    have kf4 : (k == 4) = false := by simp [k4]
    have hsv : stM m L k t p u = m := by unfold stM; simp [k5]
    have hsl : stL m L k t p u = chgL L t p := by unfold stL; simp [k5]
    rw [hsv, hsl]
    clear hsv hsl
    clear k1 k2 k3 k4 k5
    go_enter Try.func9, Try.ntmps9
    go_wp2_with fail
    have d4 := (CC.out W0 (Kp.refl _ _)).2.2.2.2
    go_region_held_law (fun w1 => w1.cell? ⟨w.heap.size, 0, none⟩ = some (.int .i64 k) ∧ w1.cell? ⟨w.heap.size, 1, none⟩ = some (.int .i64 t) ∧ w1.cell? ⟨w.heap.size, 2, none⟩ = some (.int .i64 p) ∧ w1.cell? ⟨w.heap.size, 3, none⟩ = some (.int .i64 u) ∧ w1.cell? ⟨rb, 0, none⟩ = some (.pointer (some ⟨q, 0, none⟩)))
      (first
        | exact CC.out _ (Kp.drew _ _)
        | exact CC.out _ ((Kp.drew _ _).trans (KA.out _ _ hK1))
        | exact CC.out _ (((Kp.drew _ _).trans (KA.out _ _ hK1)).trans hK2.nil)
        | exact CC.out _ (((Kp.drew _ _).trans (KA.out _ _ hK1)).trans (KB.out _ _ hK3.2))
        | exact CC.out _ ((((Kp.drew _ _).trans (KA.out _ _ hK1)).trans (KB.out _ _ hK3.2)).trans hK2.nil)
        | exact CC.out _ ((((Kp.drew _ _).trans (KA.out _ _ hK1)).trans hK2.nil).trans (KB.out _ _ hK3.2)))
      (first
        | (go_at_call 30; have _hh := hK1; refine (rchg_any _ q L t p (((Q0.out.same (Kp.drew _ [])).keep hK1 HN.out.1 HN.out.2 (S0.out.same (Kp.drew _ [])).kind).same hK2).2 HOK.out).mono ?_; rintro e z3 ⟨rfl, hK3⟩)
        | (go_at_call 17; refine (num_kp _ _).mono ?_; rintro e z2 ⟨rfl, hK2⟩)
        | (go_at_call 23; refine (cchange _ cb R1 m L t p (S0.out.same (Kp.drew _ []))).mono ?_; rintro e z1 ⟨rfl, R2, hs2, hn2, hK1⟩))
    have TO := hid (show To W0 z2 cb R1 m (chgL L t p) from ⟨R2, hs2.same hK2, hn2, ((Kp.drew W0 R1).trans hK1).trans hK2.nil⟩)
    have F := hid (FIN.out z2 z3 m _ TO.out (rto_of_rt (MID.out z2 m _ TO.out) hK3))
    clear hs2 hn2 hK1 hK2 hK3 TO d4
    obtain ⟨E, hE⟩ : ∃ E, chgE L t p = E := ⟨_, rfl⟩
    rw [hE]
    clear hE
    go_wp2
    refine bodyPost_ret (results_tmp3 rfl _ _ _) rfl ?_
    exact ⟨cb, _, by simp, F.out.choose_spec⟩
  have hsv : stM m L k t p u = m := by unfold stM; simp [k1]
  have hsl : stL m L k t p u = L := by unfold stL; simp [k1, k2, k3, k4, k5]
  rw [hsv, hsl]
  clear hsv hsl
  by_cases k6 : k = 6
  · have kt : (k == 6) = true := by simp [k6]
    have kf1 : (k == 1) = false := by simp [k1]
    have kf2 : (k == 2) = false := by simp [k2]
    have kf3 : (k == 3) = false := by simp [k3]
    have kf4 : (k == 4) = false := by simp [k4]
    have kf5 : (k == 5) = false := by simp [k5]
    clear k1 k2 k3 k4 k5 k6
    go_enter Try.func9, Try.ntmps9
    go_wp2_with fail
    refine (ccopy W0 cb R1 m L S0.out).mono ?_
    rintro e z1 ⟨nb, RC, rfl, hC, hCn, hk1⟩
    have C1 := hid (And.intro hC (And.intro hCn hk1))
    clear hC hCn hk1 c0 c1 c2 c3
    have HSM := hid (csame z1 _ _ RC R1 m m L L C1.out.1.cv (S0.out.same C1.out.2.2).cv)
    have e1 : RC.isEmpty = false := by obtain ⟨wb, R0, rfl, -⟩ := C1.out.1; rfl
    have e2 : R1.isEmpty = false := by obtain ⟨wb, R0, rfl, -⟩ := S0.out; rfl
    rw [show sameC RC R1 m m L L = true by unfold sameC; rw [e1, e2]; simp] at HSM
    clear e1 e2
    go_wp2_with fail
    refine HSM.out.mono ?_
    rintro e z2 ⟨rfl, hk⟩
    have C2 := hid (show Cm z2 nb RC m L ∧ (∀ k ∈ RC, W0.heap.size ≤ k) ∧ Kp W0 z2 [] from ⟨C1.out.1.same hk, C1.out.2.1, C1.out.2.2.trans hk⟩)
    clear hk C1 HSM
    go_wp2_with fail
    refine (csignal z2 cb R1 m L (S0.out.same C2.out.2.2)).mono ?_
    rintro e z3 ⟨rfl, hT3⟩
    have T3 := hid hT3
    clear hT3
    go_wp2_with fail
    refine (cwait z3 cb T3.out.choose _ _ 15 31 99 T3.out.choose_spec.1).mono ?_
    rintro e z4 ⟨rfl, hT4⟩
    have T4 := hid (show To z2 z4 cb R1 (cwM m (takeL L) 15 31 99) (cwL m (takeL L) 15 31 99) from by
      obtain ⟨R4, s4, n4, k4⟩ := hT4
      refine ⟨R4, s4, T3.out.choose_spec.2.1.trans n4 T3.out.choose_spec.2.2.size, T3.out.choose_spec.2.2.past k4 (fun x hx hl => ?_)⟩
      rcases T3.out.choose_spec.2.1 x hx with q | q
      · exact q
      · omega)
    clear hT4 T3
    go_wp2_with fail
    refine (cbroad z4 cb T4.out.choose _ _ T4.out.choose_spec.1).mono ?_
    rintro e z5 ⟨x, rfl, hT5⟩
    have T5 := hid (show ∃ u' M', To z2 z5 cb R1 u' M' from by
      obtain ⟨R4, s4, n4, k4⟩ := hT5.to
      refine ⟨_, _, R4, s4, T4.out.choose_spec.2.1.trans n4 T4.out.choose_spec.2.2.size, T4.out.choose_spec.2.2.past k4 (fun x hx hl => ?_)⟩
      rcases T4.out.choose_spec.2.1 x hx with q | q
      · exact q
      · omega)
    clear hT5 T4
    have F := hid (pa_copy S0.out Q0.out HN.out.1 HN.out.2 C2.out.2.2 C2.out.1 C2.out.2.1 T5.out.choose_spec.choose_spec)
    go_wp2
    refine bodyPost_ret (results_tmp3 rfl _ _ _) rfl ?_
    obtain ⟨R', x1, x2, x3⟩ := F.out
    exact ⟨nb, R', by simp, x1, fun y hy => (x2 y hy).imp id (fun h => Nat.le_trans HS.out h), K0.out.nil.trans x3⟩
  · have kf6 : (k == 6) = false := by simp [k6]
    have kf1 : (k == 1) = false := by simp [k1]
    have kf2 : (k == 2) = false := by simp [k2]
    have kf3 : (k == 3) = false := by simp [k3]
    have kf4 : (k == 4) = false := by simp [k4]
    have kf5 : (k == 5) = false := by simp [k5]
    clear k1 k2 k3 k4 k5 k6
    go_enter Try.func9, Try.ntmps9
    go_wp2
    refine bodyPost_ret (results_tmp3 rfl _ _ _) rfl ?_
    obtain ⟨R', x1, x2, x3⟩ := FIN.out W0 W0 m L (To.stay S0.out (Kp.refl _ _)) (Rto.stay Q0.out (Kp.refl _ _))
    exact ⟨cb, R', by simp, x1, x2, x3⟩
end Go.Proofs.Ytpkjnjhbgjgfaaa
