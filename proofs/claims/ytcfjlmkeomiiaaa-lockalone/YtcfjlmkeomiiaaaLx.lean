/- next: who is let in next. -/
import Derived.Test.YtcfjlmkeomiiaaaLn
namespace Go.Proofs.Ytcfjlmkeomiiaaa
open Go.RowKit Go.Shelf Go.Lib Go.Sort Go.Maps
attribute [local go_sem] Oper.semAt_some

theorem fstP_pos {L : List Dl} (h : okL L) : decide (0 < fstP L) = fstB L := by
  cases hb : fstB L
  · rw [fstP_none hb]; rfl
  · have := (fst_rng h hb).2.1
    simp; omega
theorem byW_eq {M : Lk} (hq : okL M.q) : byW M = (!heldL M && decide (0 < fstP M.q) && decide (fstP M.r ≤ fstP M.q)) := by
  unfold byW
  rw [fstP_pos hq]
  cases hb : fstB M.r
  · rw [fstP_none hb]
    cases hc : fstB M.q
    · simp
    · have := (fst_rng hq hc).2.1
      rw [show decide ((0 : Int) ≤ fstP M.q) = true by simp; omega]
      simp
  · simp
theorem byR_eq {M : Lk} (hr : okL M.r) : byR M = (decide (0 < fstP M.r) && mayR M (fstT M.r) (fstP M.r)) := by
  unfold byR
  rw [fstP_pos hr]
  cases hb : mayR M (fstT M.r) (fstP M.r)
  · simp
  · rw [decide_eq_true (mayR_neg _ _ hb)]
    simp
/-- What next tells. -/
noncomputable def nxW (M : Lk) : Int := if byW M then 1 else 0
noncomputable def nxT (M : Lk) : Int := if byW M then fstT M.q else if byR M then fstT M.r else 0
noncomputable def nxB (M : Lk) : Bool := byW M || byR M
theorem two96 (w : World) (a b c d : Value) : ((w.alloc (.cells #[a, b] 96)).alloc (.cells #[c, d] 96)).cell? ⟨w.heap.size, 0, none⟩ = some a ∧ ((w.alloc (.cells #[a, b] 96)).alloc (.cells #[c, d] 96)).cell? ⟨w.heap.size, 1, none⟩ = some b ∧ ((w.alloc (.cells #[a, b] 96)).alloc (.cells #[c, d] 96)).cell? ⟨w.heap.size + 1, 0, none⟩ = some c ∧ ((w.alloc (.cells #[a, b] 96)).alloc (.cells #[c, d] 96)).cell? ⟨w.heap.size + 1, 1, none⟩ = some d := by
  refine ⟨?_, ?_, ?_, ?_⟩ <;> simp
set_option maxRecDepth 100000 in
set_option maxHeartbeats 1000000 in
theorem lnext (w : World) (lb : Nat) (R : List Nat) (M : Lk) (h : Lc w lb R M) (hm : Lmid M) : Calls Try.prog 76 #[.pointer (some ⟨lb, 0, none⟩)] w fun e w' => e = .returned (.tuple #[.int .i64 (nxW M), .int .i64 (nxT M), .bool (nxB M)]) ∧ Kp w w' [] := by
  have HL := hid (fun (z : World) (hk : Kp w z []) => lheld z _ R M (h.same hk).lv)
  have HM := hid (fun (hP : 0 < fstP M.r) (z : World) (hk : Kp w z []) => lmay z lb R M (fstT M.r) (fstP M.r) (h.same hk) (by
    have hb : fstB M.r = true := by rw [← fstP_pos hm.rk]; simpa using hP
    exact (fst_rng hm.rk hb).1) (by omega))
  obtain ⟨mb, a, b, Ra, Rb, -, h⟩ := h
  have H0 := hid (lfirst0 w lb mb a b Ra Rb M h)
  have H1 := hid (fun (z : World) (hk : Kp w z []) => lfirst1 z lb mb a b Ra Rb M (h.same hk))
  unfold nxW nxT nxB
  rw [byW_eq hm.qk, byR_eq hm.rk]
  generalize mayR M (fstT M.r) (fstP M.r) = MB at HM ⊢
  generalize fstT M.r = rT at H0 HM ⊢
  generalize fstP M.r = rP at H0 HM ⊢
  generalize fstT M.q = qT at H1 ⊢
  generalize fstP M.q = qP at H1 ⊢
  generalize heldL M = HB at HL ⊢
  clear h hm
  cases HB with
  | true =>
    rw [Bool.not_true, Bool.false_and, Bool.false_and]
    by_cases g1 : 0 < rP
    · rw [decide_eq_true g1, Bool.true_and]
      cases MB with
      | false =>
        go_enter Try.func76, Try.ntmps76
        go_wp2_with fail
        refine H0.out.mono ?_
        rintro e z1 ⟨rfl, hk1⟩
        have K1 := hid hk1
        clear hk1
        go_wp2_with fail
        refine (H1.out _ K1.out).mono ?_
        rintro e z2 ⟨rfl, hk2⟩
        have K2 := hid (K1.out.trans hk2)
        clear hk2
        obtain ⟨x0, x1, y0, y1⟩ := two96 z2 (.int .i64 rT) (.int .i64 rP) (.int .i64 qT) (.int .i64 qP)
        have K3 := hid ((K2.out.trans (Kp.alloc z2 (.cells #[.int .i64 rT, .int .i64 rP] 96) [])).trans (Kp.alloc _ (.cells #[.int .i64 qT, .int .i64 qP] 96) []))
        go_wp2_with fail
        refine (HL.out _ K3.out).mono ?_
        rintro e wx ⟨rfl, hw⟩; obtain rfl := hw.symm
        go_wp2_with fail
        refine (HM.out g1 _ K3.out).mono ?_
        rintro e z4 ⟨rfl, hk4⟩
        have K4 := hid (K3.out.trans hk4)
        clear hk4 x0 x1 y0 y1
        go_wp2
        refine bodyPost_ret (results_tmp3 rfl _ _ _) rfl ?_
        exact ⟨by simp, K4.out⟩
      | true =>
        go_enter Try.func76, Try.ntmps76
        go_wp2_with fail
        refine H0.out.mono ?_
        rintro e z1 ⟨rfl, hk1⟩
        have K1 := hid hk1
        clear hk1
        go_wp2_with fail
        refine (H1.out _ K1.out).mono ?_
        rintro e z2 ⟨rfl, hk2⟩
        have K2 := hid (K1.out.trans hk2)
        clear hk2
        obtain ⟨x0, x1, y0, y1⟩ := two96 z2 (.int .i64 rT) (.int .i64 rP) (.int .i64 qT) (.int .i64 qP)
        have K3 := hid ((K2.out.trans (Kp.alloc z2 (.cells #[.int .i64 rT, .int .i64 rP] 96) [])).trans (Kp.alloc _ (.cells #[.int .i64 qT, .int .i64 qP] 96) []))
        go_wp2_with fail
        refine (HL.out _ K3.out).mono ?_
        rintro e wx ⟨rfl, hw⟩; obtain rfl := hw.symm
        have XX := hid (fun (z : World) (hk : Kp ((z2.alloc (.cells #[.int .i64 rT, .int .i64 rP] 96)).alloc (.cells #[.int .i64 qT, .int .i64 qP] 96)) z []) => hk.cell x0 (by simp))
        go_wp2_with fail
        refine (HM.out g1 _ K3.out).mono ?_
        rintro e z4 ⟨rfl, hk4⟩
        have K4 := hid (K3.out.trans hk4)
        have x5 := XX.out _ hk4
        clear hk4 x0 x1 y0 y1
        go_wp2_with fail
        go_quiet (fail)
        go_wp2
        refine bodyPost_ret (results_tmp3 rfl _ _ _) rfl ?_
        exact ⟨by simp, K4.out.trans (Kp.drewN _ _ _)⟩
    · have g1d : decide (0 < rP) = false := decide_eq_false g1
      rw [g1d, Bool.false_and]
      go_enter Try.func76, Try.ntmps76
      go_wp2_with fail
      refine H0.out.mono ?_
      rintro e z1 ⟨rfl, hk1⟩
      have K1 := hid hk1
      clear hk1
      go_wp2_with fail
      refine (H1.out _ K1.out).mono ?_
      rintro e z2 ⟨rfl, hk2⟩
      have K2 := hid (K1.out.trans hk2)
      clear hk2
      obtain ⟨x0, x1, y0, y1⟩ := two96 z2 (.int .i64 rT) (.int .i64 rP) (.int .i64 qT) (.int .i64 qP)
      have K3 := hid ((K2.out.trans (Kp.alloc z2 (.cells #[.int .i64 rT, .int .i64 rP] 96) [])).trans (Kp.alloc _ (.cells #[.int .i64 qT, .int .i64 qP] 96) []))
      go_wp2_with fail
      refine (HL.out _ K3.out).mono ?_
      rintro e wx ⟨rfl, hw⟩; obtain rfl := hw.symm
      go_wp2
      refine bodyPost_ret (results_tmp3 rfl _ _ _) rfl ?_
      exact ⟨by simp, K3.out⟩
  | false =>
    rw [Bool.not_false, Bool.true_and]
    by_cases g2 : 0 < qP
    · rw [decide_eq_true g2, Bool.true_and]
      by_cases g3 : rP ≤ qP
      · rw [decide_eq_true g3]
        go_enter Try.func76, Try.ntmps76
        go_wp2_with fail
        refine H0.out.mono ?_
        rintro e z1 ⟨rfl, hk1⟩
        have K1 := hid hk1
        clear hk1
        go_wp2_with fail
        refine (H1.out _ K1.out).mono ?_
        rintro e z2 ⟨rfl, hk2⟩
        have K2 := hid (K1.out.trans hk2)
        clear hk2
        obtain ⟨x0, x1, y0, y1⟩ := two96 z2 (.int .i64 rT) (.int .i64 rP) (.int .i64 qT) (.int .i64 qP)
        have K3 := hid ((K2.out.trans (Kp.alloc z2 (.cells #[.int .i64 rT, .int .i64 rP] 96) [])).trans (Kp.alloc _ (.cells #[.int .i64 qT, .int .i64 qP] 96) []))
        go_wp2_with fail
        refine (HL.out _ K3.out).mono ?_
        rintro e wx ⟨rfl, hw⟩; obtain rfl := hw.symm
        go_wp2_with fail
        go_quiet (fail)
        go_wp2
        refine bodyPost_ret (results_tmp3 rfl _ _ _) rfl ?_
        exact ⟨by simp, K3.out.trans (Kp.drewN _ _ _)⟩
      · have g3d : decide (rP ≤ qP) = false := decide_eq_false g3
        rw [g3d]
        by_cases g1 : 0 < rP
        · rw [decide_eq_true g1, Bool.true_and]
          cases MB with
          | false =>
            go_enter Try.func76, Try.ntmps76
            go_wp2_with fail
            refine H0.out.mono ?_
            rintro e z1 ⟨rfl, hk1⟩
            have K1 := hid hk1
            clear hk1
            go_wp2_with fail
            refine (H1.out _ K1.out).mono ?_
            rintro e z2 ⟨rfl, hk2⟩
            have K2 := hid (K1.out.trans hk2)
            clear hk2
            obtain ⟨x0, x1, y0, y1⟩ := two96 z2 (.int .i64 rT) (.int .i64 rP) (.int .i64 qT) (.int .i64 qP)
            have K3 := hid ((K2.out.trans (Kp.alloc z2 (.cells #[.int .i64 rT, .int .i64 rP] 96) [])).trans (Kp.alloc _ (.cells #[.int .i64 qT, .int .i64 qP] 96) []))
            go_wp2_with fail
            refine (HL.out _ K3.out).mono ?_
            rintro e wx ⟨rfl, hw⟩; obtain rfl := hw.symm
            go_wp2_with fail
            refine (HM.out g1 _ K3.out).mono ?_
            rintro e z4 ⟨rfl, hk4⟩
            have K4 := hid (K3.out.trans hk4)
            clear hk4 x0 x1 y0 y1
            go_wp2
            refine bodyPost_ret (results_tmp3 rfl _ _ _) rfl ?_
            exact ⟨by simp, K4.out⟩
          | true =>
            go_enter Try.func76, Try.ntmps76
            go_wp2_with fail
            refine H0.out.mono ?_
            rintro e z1 ⟨rfl, hk1⟩
            have K1 := hid hk1
            clear hk1
            go_wp2_with fail
            refine (H1.out _ K1.out).mono ?_
            rintro e z2 ⟨rfl, hk2⟩
            have K2 := hid (K1.out.trans hk2)
            clear hk2
            obtain ⟨x0, x1, y0, y1⟩ := two96 z2 (.int .i64 rT) (.int .i64 rP) (.int .i64 qT) (.int .i64 qP)
            have K3 := hid ((K2.out.trans (Kp.alloc z2 (.cells #[.int .i64 rT, .int .i64 rP] 96) [])).trans (Kp.alloc _ (.cells #[.int .i64 qT, .int .i64 qP] 96) []))
            go_wp2_with fail
            refine (HL.out _ K3.out).mono ?_
            rintro e wx ⟨rfl, hw⟩; obtain rfl := hw.symm
            have XX := hid (fun (z : World) (hk : Kp ((z2.alloc (.cells #[.int .i64 rT, .int .i64 rP] 96)).alloc (.cells #[.int .i64 qT, .int .i64 qP] 96)) z []) => hk.cell x0 (by simp))
            go_wp2_with fail
            refine (HM.out g1 _ K3.out).mono ?_
            rintro e z4 ⟨rfl, hk4⟩
            have K4 := hid (K3.out.trans hk4)
            have x5 := XX.out _ hk4
            clear hk4 x0 x1 y0 y1
            go_wp2_with fail
            go_quiet (fail)
            go_wp2
            refine bodyPost_ret (results_tmp3 rfl _ _ _) rfl ?_
            exact ⟨by simp, K4.out.trans (Kp.drewN _ _ _)⟩
        · exfalso; omega
    · have g2d : decide (0 < qP) = false := decide_eq_false g2
      rw [g2d, Bool.false_and]
      by_cases g1 : 0 < rP
      · rw [decide_eq_true g1, Bool.true_and]
        cases MB with
        | false =>
          go_enter Try.func76, Try.ntmps76
          go_wp2_with fail
          refine H0.out.mono ?_
          rintro e z1 ⟨rfl, hk1⟩
          have K1 := hid hk1
          clear hk1
          go_wp2_with fail
          refine (H1.out _ K1.out).mono ?_
          rintro e z2 ⟨rfl, hk2⟩
          have K2 := hid (K1.out.trans hk2)
          clear hk2
          obtain ⟨x0, x1, y0, y1⟩ := two96 z2 (.int .i64 rT) (.int .i64 rP) (.int .i64 qT) (.int .i64 qP)
          have K3 := hid ((K2.out.trans (Kp.alloc z2 (.cells #[.int .i64 rT, .int .i64 rP] 96) [])).trans (Kp.alloc _ (.cells #[.int .i64 qT, .int .i64 qP] 96) []))
          go_wp2_with fail
          refine (HL.out _ K3.out).mono ?_
          rintro e wx ⟨rfl, hw⟩; obtain rfl := hw.symm
          go_wp2_with fail
          refine (HM.out g1 _ K3.out).mono ?_
          rintro e z4 ⟨rfl, hk4⟩
          have K4 := hid (K3.out.trans hk4)
          clear hk4 x0 x1 y0 y1
          go_wp2
          refine bodyPost_ret (results_tmp3 rfl _ _ _) rfl ?_
          exact ⟨by simp, K4.out⟩
        | true =>
          go_enter Try.func76, Try.ntmps76
          go_wp2_with fail
          refine H0.out.mono ?_
          rintro e z1 ⟨rfl, hk1⟩
          have K1 := hid hk1
          clear hk1
          go_wp2_with fail
          refine (H1.out _ K1.out).mono ?_
          rintro e z2 ⟨rfl, hk2⟩
          have K2 := hid (K1.out.trans hk2)
          clear hk2
          obtain ⟨x0, x1, y0, y1⟩ := two96 z2 (.int .i64 rT) (.int .i64 rP) (.int .i64 qT) (.int .i64 qP)
          have K3 := hid ((K2.out.trans (Kp.alloc z2 (.cells #[.int .i64 rT, .int .i64 rP] 96) [])).trans (Kp.alloc _ (.cells #[.int .i64 qT, .int .i64 qP] 96) []))
          go_wp2_with fail
          refine (HL.out _ K3.out).mono ?_
          rintro e wx ⟨rfl, hw⟩; obtain rfl := hw.symm
          have XX := hid (fun (z : World) (hk : Kp ((z2.alloc (.cells #[.int .i64 rT, .int .i64 rP] 96)).alloc (.cells #[.int .i64 qT, .int .i64 qP] 96)) z []) => hk.cell x0 (by simp))
          go_wp2_with fail
          refine (HM.out g1 _ K3.out).mono ?_
          rintro e z4 ⟨rfl, hk4⟩
          have K4 := hid (K3.out.trans hk4)
          have x5 := XX.out _ hk4
          clear hk4 x0 x1 y0 y1
          go_wp2_with fail
          go_quiet (fail)
          go_wp2
          refine bodyPost_ret (results_tmp3 rfl _ _ _) rfl ?_
          exact ⟨by simp, K4.out.trans (Kp.drewN _ _ _)⟩
      · have g1d : decide (0 < rP) = false := decide_eq_false g1
        rw [g1d, Bool.false_and]
        go_enter Try.func76, Try.ntmps76
        go_wp2_with fail
        refine H0.out.mono ?_
        rintro e z1 ⟨rfl, hk1⟩
        have K1 := hid hk1
        clear hk1
        go_wp2_with fail
        refine (H1.out _ K1.out).mono ?_
        rintro e z2 ⟨rfl, hk2⟩
        have K2 := hid (K1.out.trans hk2)
        clear hk2
        obtain ⟨x0, x1, y0, y1⟩ := two96 z2 (.int .i64 rT) (.int .i64 rP) (.int .i64 qT) (.int .i64 qP)
        have K3 := hid ((K2.out.trans (Kp.alloc z2 (.cells #[.int .i64 rT, .int .i64 rP] 96) [])).trans (Kp.alloc _ (.cells #[.int .i64 qT, .int .i64 qP] 96) []))
        go_wp2_with fail
        refine (HL.out _ K3.out).mono ?_
        rintro e wx ⟨rfl, hw⟩; obtain rfl := hw.symm
        go_wp2
        refine bodyPost_ret (results_tmp3 rfl _ _ _) rfl ?_
        exact ⟨by simp, K3.out⟩
end Go.Proofs.Ytcfjlmkeomiiaaa
