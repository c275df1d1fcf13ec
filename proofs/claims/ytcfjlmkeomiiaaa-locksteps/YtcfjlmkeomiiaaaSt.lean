/- stands: both tell the same. -/
import Derived.Test.YtcfjlmkeomiiaaaPa
namespace Go.Proofs.Ytcfjlmkeomiiaaa
open Go.RowKit Go.Shelf Go.Lib Go.Sort Go.Maps
attribute [local go_sem] Oper.semAt_some

set_option maxRecDepth 100000 in
set_option maxHeartbeats 4000000 in
theorem stands_any (w : World) (lb rb : Nat) (R : List Nat) (M : Lk) (h : Pa w lb rb R M) (hM : Lok M) : Calls Try.prog 10 #[.pointer (some ⟨lb, 0, none⟩), .pointer (some ⟨rb, 0, none⟩)] w fun e w' => e = .returned (.bool true) ∧ Kp w w' [] := by
  obtain ⟨R1, a, b, rfl, hs, hr, -⟩ := h
  have hm := hM.mid
  have HW := hid (lwriter w _ R1 M hs.lv)
  have HH := hid (lheld w _ R1 M hs.lv)
  have RH := hid (rheld w rb a b M hr)
  have LW := hid (fun (t : Int) (ht : i64 t) => lwaiting w _ R1 M t hs.lv ht)
  have RW := hid (fun (t : Int) => rwaiting w rb a b M t hr hm.rk hm.qk)
  have LR := hid (fun (t : Int) (ht : i64 t) => lreads w _ R1 M t hs.lv ht)
  have HC := hid (fun (n : Nat) (hn : n < 16) => hr.cc hn)
  have CC := hid (fun (z : World) (hk : Kp w z []) => And.intro (hr.same hk).cr (hr.same hk).cq)
  have L0 := hid (fun (z : World) (hk : Kp w z []) => lreaders z _ R1 M (hs.same hk).lv)
  have L1 := hid (fun (z : World) (hk : Kp w z []) => lwriters z _ R1 M (hs.same hk).lv)
  have Q0 := hid (fun (z : World) (hk : Kp w z []) => rlist_any z a M.r (hr.same hk).rr hm.rk)
  have Q1 := hid (fun (z : World) (hk : Kp w z []) => rlist_any z b M.q (hr.same hk).rq hm.qk)
  have n0 : ((ordL M.r).map (·.1)).length ≤ 100000 := by rw [List.length_map, ord_len hm.rk]; have := hm.rk.len; omega
  have n1 : ((ordL M.q).map (·.1)).length ≤ 100000 := by rw [List.length_map, ord_len hm.qk]; have := hm.qk.len; omega
  have N0 := hid n0
  have N1 := hid n1
  generalize (ordL M.r).map (·.1) = OR at L0 Q0 N0
  generalize (ordL M.q).map (·.1) = OQ at L1 Q1 N1
  have cw := hr.cw
  unfold wrV wrI at HW
  have HX := hid (show ∃ V B, (if 0 ≤ M.w then M.w else 0) = V ∧ decide (0 ≤ M.w) = B ∧ ((B = true ∧ V = M.w ∧ 0 ≤ M.w) ∨ (B = false ∧ V = 0 ∧ M.w < 0)) from by
    by_cases hx : 0 ≤ M.w
    · exact ⟨_, _, rfl, rfl, .inl ⟨by simp [hx], by rw [if_pos hx], hx⟩⟩
    · exact ⟨_, _, rfl, rfl, .inr ⟨by simp [hx], by rw [if_neg hx], by omega⟩⟩)
  obtain ⟨V, B, e1, e2, hVB⟩ := HX.out
  rw [e1, e2] at HW
  clear e1 e2 HX hs hr hm hM n0 n1
  generalize heldL M = HB at HH RH
  generalize M.w = X at cw hVB
  go_enter Try.func10, Try.ntmps10
  go_wp2_with fail
  refine HW.out.mono ?_
  rintro e wx ⟨rfl, hw⟩; obtain rfl := hw.symm
  have hcase : ((B = true ∧ V = X ∧ 0 ≤ X) ∨ (B = false ∧ V = 0 ∧ X < 0)) := hVB
  clear hVB
  rcases hcase with ⟨rfl, rfl, hX⟩ | ⟨rfl, rfl, hX⟩
  · have hXd : decide (0 ≤ V) = true := decide_eq_true hX
    go_wp2_with fail
    refine HH.out.mono ?_
    rintro e wx ⟨rfl, hw⟩; obtain rfl := hw.symm
    go_wp2_with fail
    refine RH.out.mono ?_
    rintro e wx ⟨rfl, hw⟩; obtain rfl := hw.symm
    go_wp2_with fail
    go_loopw [7] (fun v wr => ∃ t : Int, -1 ≤ t ∧ t ≤ 17 ∧ v = .int .i64 t ∧ Hid (wr = w)) (fun v _ => (17 - intOf v).toNat)
    case atStart => exact ⟨-1, by decide, by decide, rfl, hid rfl⟩
    case round =>
      obtain ⟨t, h0, h1, rfl, hWE⟩ := hrel
      have hWE := hWE.out.symm
      subst hWE
      by_cases hlt : t ≤ 16
      · have hwr : IntKind.i64.wrap (t + 1) = t + 1 := IntWalk.i64_in _ ⟨by omega, by omega⟩
        have LWt := hid (LW.out t ⟨by omega, by omega⟩)
        have RWt := hid (RW.out t)
        have LRt := hid (LR.out t ⟨by omega, by omega⟩)
        have hc0 : ∀ n : Nat, t = n → n < 16 → cntC M.c t = M.c n := fun n e hn => by subst e; rw [cnt_in (by omega)]; simp
        have hc1 : ¬ (0 ≤ t ∧ t < 16) → cntC M.c t = 0 := fun e => by unfold cntC; rw [if_neg e]
        generalize cntC M.c t = CT at LRt hc0 hc1
        generalize (hasP M.q t || hasP M.r t) = AB at LWt RWt
        generalize hasP M.q t = A at LWt RWt
        by_cases hin : 0 ≤ t ∧ t < 16
        · obtain ⟨n, rfl⟩ := int_nat hin.1
          have hn : n < 16 := by omega
          have cc := HC.out n hn
          have hn0 : (0 : Int) ≤ n := by omega
          have hn1 : (n : Int) < 16 := by omega
          have ec := hc0 n rfl hn
          subst ec
          clear hc0 hc1 hin
          generalize M.c n = CT at cc LRt
          go_wp2_with fail
          refine LWt.out.mono ?_
          rintro e wx ⟨rfl, hw⟩; obtain rfl := hw.symm
          go_wp2_with fail
          refine RWt.out.mono ?_
          rintro e wx ⟨rfl, hw⟩; obtain rfl := hw.symm
          go_wp2_with fail
          refine LRt.out.mono ?_
          rintro e wx ⟨rfl, hw⟩; obtain rfl := hw.symm
          go_wp2
          go_roundw
          case rel => exact ⟨_, by omega, by omega, rfl, hid (by trivial)⟩
          case measure => simp [intOf]; omega
        · have ec := hc1 hin
          subst ec
          clear hc0 hc1
          rcases (show t = -1 ∨ t = 16 by omega) with rfl | rfl
          · clear hin
            go_wp2_with fail
            refine LWt.out.mono ?_
            rintro e wx ⟨rfl, hw⟩; obtain rfl := hw.symm
            go_wp2_with fail
            refine RWt.out.mono ?_
            rintro e wx ⟨rfl, hw⟩; obtain rfl := hw.symm
            go_wp2_with fail
            refine LRt.out.mono ?_
            rintro e wx ⟨rfl, hw⟩; obtain rfl := hw.symm
            go_wp2
            go_roundw
            case rel => exact ⟨0, by decide, by decide, by simp, hid (by trivial)⟩
            case measure => simp [intOf]
          · clear hin
            go_wp2_with fail
            refine LWt.out.mono ?_
            rintro e wx ⟨rfl, hw⟩; obtain rfl := hw.symm
            go_wp2_with fail
            refine RWt.out.mono ?_
            rintro e wx ⟨rfl, hw⟩; obtain rfl := hw.symm
            go_wp2_with fail
            refine LRt.out.mono ?_
            rintro e wx ⟨rfl, hw⟩; obtain rfl := hw.symm
            go_wp2
            go_roundw
            case rel => exact ⟨17, by decide, by decide, by simp, hid (by trivial)⟩
            case measure => simp [intOf]
      · have hltI : decide (t ≤ 16) = false := decide_eq_false hlt
        go_wp2_with fail
        rename_i QQ KK hKK
        have K0 := hid (Kp.drew w [])
        refine wp_region_held_drew (S := fun W : World => W.cell? ⟨rb, 17, none⟩ = some (.pointer (some ⟨a, 0, none⟩)) ∧ W.cell? ⟨rb, 18, none⟩ = some (.pointer (some ⟨b, 0, none⟩))) (by kernel_rfl) (CC.out _ (Kp.drew _ _)) (fun hHeld => ?_)
        refine wpAnyH_take (i := 0) (v := .pointer (some ⟨lb, 0, none⟩)) rfl (by kernel_rfl) (by kernel_rfl) (by kernel_rfl) (fun _ _ _ h => h) (Or.inl ⟨by kernel_rfl, fun w _ => by kernel_rfl⟩) hHeld ?_
        refine wpAnyH_take (i := 2) (v := .pointer (some ⟨rb, 0, none⟩)) rfl (by kernel_rfl) (by kernel_rfl) (by kernel_rfl) (fun _ _ _ h => h) (Or.inl ⟨by kernel_rfl, fun w _ => by kernel_rfl⟩) hHeld ?_
        refine wpAnyH_take (i := 3) (v := .pointer (some ⟨rb, 0, none⟩)) rfl (by kernel_rfl) (by kernel_rfl) (by kernel_rfl) (fun _ _ _ h => h) (Or.inl ⟨by kernel_rfl, fun w _ => by kernel_rfl⟩) hHeld ?_
        refine wpAnyH_take (i := 4) (v := .pointer (some ⟨rb, 17, none⟩)) rfl (by kernel_rfl) (by kernel_rfl) (by kernel_rfl) (fun _ _ _ h => h) (Or.inl ⟨by kernel_rfl, fun w _ => by kernel_rfl⟩) hHeld ?_
        refine wpAnyH_take (i := 5) (v := .pointer (some ⟨a, 0, none⟩)) rfl (by kernel_rfl) (by kernel_rfl) (by kernel_rfl) (fun _ _ _ h => h) (Or.inl ⟨by kernel_rfl, by intro w hSw; obtain ⟨s1, s2⟩ := hSw; go_simp⟩) hHeld ?_
        refine wpAnyH_ready (rs := [1]) (by kernel_rfl) (by simp) ?_
        refine AllReadyH.cons rfl (fun K hK => ?_) AllReadyH.nil
        go_simp
        refine (L0.out _ K0.out).mono ?_
        rintro e z1 ⟨x1, rfl, hx, hk⟩
        have X1 := hid hx
        have K1 := hid (K0.out.trans hk)
        clear hx hk
        go_simp
        refine hK.out _ _ (CC.out _ K1.out) (fun hHeld => ?_)
        refine wpAnyH_ready (rs := [6]) (by kernel_rfl) (by simp) ?_
        refine AllReadyH.cons rfl (fun K hK => ?_) AllReadyH.nil
        go_simp
        refine (Q0.out _ K1.out).mono ?_
        rintro e z2 ⟨y1, rfl, hy, hk⟩
        have Y1 := hid hy
        have X2 := hid (X1.out.keep hk)
        have K2 := hid (K1.out.trans hk)
        clear hy hk
        go_simp
        refine hK.out _ _ (CC.out _ K2.out) (fun hHeld => ?_)
        refine wpAnyH_ready (rs := [7]) (by kernel_rfl) (by simp) ?_
        refine AllReadyH.cons rfl (fun K hK => ?_) AllReadyH.nil
        go_simp
        refine (ints_yes _ _ _ x1 y1 OR X2.out Y1.out N0.out).mono ?_
        rintro e z3 ⟨rfl, hk⟩
        have K3 := hid (K2.out.trans hk)
        clear hk X1 X2 Y1
        go_simp
        refine hK.out _ _ (CC.out _ K3.out) (fun hHeld => ?_)
        refine wpAnyH_take (i := 8) (v := .bool true) rfl (by kernel_rfl) (by kernel_rfl) (by kernel_rfl) (fun _ _ _ h => h) (Or.inl ⟨by kernel_rfl, fun w _ => by kernel_rfl⟩) hHeld ?_
        refine wpAnyH_take (i := 9) (v := .pointer (some ⟨lb, 0, none⟩)) rfl (by kernel_rfl) (by kernel_rfl) (by kernel_rfl) (fun _ _ _ h => h) (Or.inl ⟨by kernel_rfl, fun w _ => by kernel_rfl⟩) hHeld ?_
        refine wpAnyH_take (i := 11) (v := .pointer (some ⟨rb, 0, none⟩)) rfl (by kernel_rfl) (by kernel_rfl) (by kernel_rfl) (fun _ _ _ h => h) (Or.inl ⟨by kernel_rfl, fun w _ => by kernel_rfl⟩) hHeld ?_
        refine wpAnyH_take (i := 12) (v := .pointer (some ⟨rb, 0, none⟩)) rfl (by kernel_rfl) (by kernel_rfl) (by kernel_rfl) (fun _ _ _ h => h) (Or.inl ⟨by kernel_rfl, fun w _ => by kernel_rfl⟩) hHeld ?_
        refine wpAnyH_take (i := 13) (v := .pointer (some ⟨rb, 18, none⟩)) rfl (by kernel_rfl) (by kernel_rfl) (by kernel_rfl) (fun _ _ _ h => h) (Or.inl ⟨by kernel_rfl, fun w _ => by kernel_rfl⟩) hHeld ?_
        refine wpAnyH_take (i := 14) (v := .pointer (some ⟨b, 0, none⟩)) rfl (by kernel_rfl) (by kernel_rfl) (by kernel_rfl) (fun _ _ _ h => h) (Or.inl ⟨by kernel_rfl, by intro w hSw; obtain ⟨s1, s2⟩ := hSw; go_simp⟩) hHeld ?_
        refine wpAnyH_ready (rs := [10]) (by kernel_rfl) (by simp) ?_
        refine AllReadyH.cons rfl (fun K hK => ?_) AllReadyH.nil
        go_simp
        refine (L1.out _ K3.out).mono ?_
        rintro e z4 ⟨x2, rfl, hx, hk⟩
        have X1 := hid hx
        have K4 := hid (K3.out.trans hk)
        clear hx hk
        go_simp
        refine hK.out _ _ (CC.out _ K4.out) (fun hHeld => ?_)
        refine wpAnyH_ready (rs := [15]) (by kernel_rfl) (by simp) ?_
        refine AllReadyH.cons rfl (fun K hK => ?_) AllReadyH.nil
        go_simp
        refine (Q1.out _ K4.out).mono ?_
        rintro e z5 ⟨y2, rfl, hy, hk⟩
        have Y1 := hid hy
        have X2 := hid (X1.out.keep hk)
        have K5 := hid (K4.out.trans hk)
        clear hy hk
        go_simp
        refine hK.out _ _ (CC.out _ K5.out) (fun hHeld => ?_)
        refine wpAnyH_ready (rs := [16]) (by kernel_rfl) (by simp) ?_
        refine AllReadyH.cons rfl (fun K hK => ?_) AllReadyH.nil
        go_simp
        refine (ints_yes _ _ _ x2 y2 OQ X2.out Y1.out N1.out).mono ?_
        rintro e z6 ⟨rfl, hk⟩
        have K6 := hid (K5.out.trans hk)
        clear hk X1 X2 Y1
        go_simp
        refine hK.out _ _ (CC.out _ K6.out) (fun hHeld => ?_)
        refine wpAnyH_take (i := 17) (v := .bool true) rfl (by kernel_rfl) (by kernel_rfl) (by kernel_rfl) (fun _ _ _ h => h) (Or.inl ⟨by kernel_rfl, fun w _ => by kernel_rfl⟩) hHeld ?_
        refine wpAnyH_take (i := 18) (v := .bool true) rfl (by kernel_rfl) (by kernel_rfl) (by kernel_rfl) (fun _ _ _ h => h) (Or.inl ⟨by kernel_rfl, fun w _ => by kernel_rfl⟩) hHeld ?_
        refine wpAnyH_done (by kernel_rfl) ?_ _
        refine hKK _ _ (wp_ret ?_)
        exact bodyPost_ret (v := .bool true) (by kernel_rfl) rfl ⟨rfl, K6.out⟩
  · have hXd : decide (0 ≤ X) = false := by simp; omega
    have hX2 : ¬ 0 ≤ X := by omega
    go_wp2_with fail
    refine HH.out.mono ?_
    rintro e wx ⟨rfl, hw⟩; obtain rfl := hw.symm
    go_wp2_with fail
    refine RH.out.mono ?_
    rintro e wx ⟨rfl, hw⟩; obtain rfl := hw.symm
    go_wp2_with fail
    go_loopw [7] (fun v wr => ∃ t : Int, -1 ≤ t ∧ t ≤ 17 ∧ v = .int .i64 t ∧ Hid (wr = w)) (fun v _ => (17 - intOf v).toNat)
    case atStart => exact ⟨-1, by decide, by decide, rfl, hid rfl⟩
    case round =>
      obtain ⟨t, h0, h1, rfl, hWE⟩ := hrel
      have hWE := hWE.out.symm
      subst hWE
      by_cases hlt : t ≤ 16
      · have hwr : IntKind.i64.wrap (t + 1) = t + 1 := IntWalk.i64_in _ ⟨by omega, by omega⟩
        have LWt := hid (LW.out t ⟨by omega, by omega⟩)
        have RWt := hid (RW.out t)
        have LRt := hid (LR.out t ⟨by omega, by omega⟩)
        have hc0 : ∀ n : Nat, t = n → n < 16 → cntC M.c t = M.c n := fun n e hn => by subst e; rw [cnt_in (by omega)]; simp
        have hc1 : ¬ (0 ≤ t ∧ t < 16) → cntC M.c t = 0 := fun e => by unfold cntC; rw [if_neg e]
        generalize cntC M.c t = CT at LRt hc0 hc1
        generalize (hasP M.q t || hasP M.r t) = AB at LWt RWt
        generalize hasP M.q t = A at LWt RWt
        by_cases hin : 0 ≤ t ∧ t < 16
        · obtain ⟨n, rfl⟩ := int_nat hin.1
          have hn : n < 16 := by omega
          have cc := HC.out n hn
          have hn0 : (0 : Int) ≤ n := by omega
          have hn1 : (n : Int) < 16 := by omega
          have ec := hc0 n rfl hn
          subst ec
          clear hc0 hc1 hin
          generalize M.c n = CT at cc LRt
          go_wp2_with fail
          refine LWt.out.mono ?_
          rintro e wx ⟨rfl, hw⟩; obtain rfl := hw.symm
          go_wp2_with fail
          refine RWt.out.mono ?_
          rintro e wx ⟨rfl, hw⟩; obtain rfl := hw.symm
          go_wp2_with fail
          refine LRt.out.mono ?_
          rintro e wx ⟨rfl, hw⟩; obtain rfl := hw.symm
          go_wp2
          go_roundw
          case rel => exact ⟨_, by omega, by omega, rfl, hid (by trivial)⟩
          case measure => simp [intOf]; omega
        · have ec := hc1 hin
          subst ec
          clear hc0 hc1
          rcases (show t = -1 ∨ t = 16 by omega) with rfl | rfl
          · clear hin
            go_wp2_with fail
            refine LWt.out.mono ?_
            rintro e wx ⟨rfl, hw⟩; obtain rfl := hw.symm
            go_wp2_with fail
            refine RWt.out.mono ?_
            rintro e wx ⟨rfl, hw⟩; obtain rfl := hw.symm
            go_wp2_with fail
            refine LRt.out.mono ?_
            rintro e wx ⟨rfl, hw⟩; obtain rfl := hw.symm
            go_wp2
            go_roundw
            case rel => exact ⟨0, by decide, by decide, by simp, hid (by trivial)⟩
            case measure => simp [intOf]
          · clear hin
            go_wp2_with fail
            refine LWt.out.mono ?_
            rintro e wx ⟨rfl, hw⟩; obtain rfl := hw.symm
            go_wp2_with fail
            refine RWt.out.mono ?_
            rintro e wx ⟨rfl, hw⟩; obtain rfl := hw.symm
            go_wp2_with fail
            refine LRt.out.mono ?_
            rintro e wx ⟨rfl, hw⟩; obtain rfl := hw.symm
            go_wp2
            go_roundw
            case rel => exact ⟨17, by decide, by decide, by simp, hid (by trivial)⟩
            case measure => simp [intOf]
      · have hltI : decide (t ≤ 16) = false := decide_eq_false hlt
        go_wp2_with fail
        rename_i QQ KK hKK
        have K0 := hid (Kp.drew w [])
        refine wp_region_held_drew (S := fun W : World => W.cell? ⟨rb, 17, none⟩ = some (.pointer (some ⟨a, 0, none⟩)) ∧ W.cell? ⟨rb, 18, none⟩ = some (.pointer (some ⟨b, 0, none⟩))) (by kernel_rfl) (CC.out _ (Kp.drew _ _)) (fun hHeld => ?_)
        refine wpAnyH_take (i := 0) (v := .pointer (some ⟨lb, 0, none⟩)) rfl (by kernel_rfl) (by kernel_rfl) (by kernel_rfl) (fun _ _ _ h => h) (Or.inl ⟨by kernel_rfl, fun w _ => by kernel_rfl⟩) hHeld ?_
        refine wpAnyH_take (i := 2) (v := .pointer (some ⟨rb, 0, none⟩)) rfl (by kernel_rfl) (by kernel_rfl) (by kernel_rfl) (fun _ _ _ h => h) (Or.inl ⟨by kernel_rfl, fun w _ => by kernel_rfl⟩) hHeld ?_
        refine wpAnyH_take (i := 3) (v := .pointer (some ⟨rb, 0, none⟩)) rfl (by kernel_rfl) (by kernel_rfl) (by kernel_rfl) (fun _ _ _ h => h) (Or.inl ⟨by kernel_rfl, fun w _ => by kernel_rfl⟩) hHeld ?_
        refine wpAnyH_take (i := 4) (v := .pointer (some ⟨rb, 17, none⟩)) rfl (by kernel_rfl) (by kernel_rfl) (by kernel_rfl) (fun _ _ _ h => h) (Or.inl ⟨by kernel_rfl, fun w _ => by kernel_rfl⟩) hHeld ?_
        refine wpAnyH_take (i := 5) (v := .pointer (some ⟨a, 0, none⟩)) rfl (by kernel_rfl) (by kernel_rfl) (by kernel_rfl) (fun _ _ _ h => h) (Or.inl ⟨by kernel_rfl, by intro w hSw; obtain ⟨s1, s2⟩ := hSw; go_simp⟩) hHeld ?_
        refine wpAnyH_ready (rs := [1]) (by kernel_rfl) (by simp) ?_
        refine AllReadyH.cons rfl (fun K hK => ?_) AllReadyH.nil
        go_simp
        refine (L0.out _ K0.out).mono ?_
        rintro e z1 ⟨x1, rfl, hx, hk⟩
        have X1 := hid hx
        have K1 := hid (K0.out.trans hk)
        clear hx hk
        go_simp
        refine hK.out _ _ (CC.out _ K1.out) (fun hHeld => ?_)
        refine wpAnyH_ready (rs := [6]) (by kernel_rfl) (by simp) ?_
        refine AllReadyH.cons rfl (fun K hK => ?_) AllReadyH.nil
        go_simp
        refine (Q0.out _ K1.out).mono ?_
        rintro e z2 ⟨y1, rfl, hy, hk⟩
        have Y1 := hid hy
        have X2 := hid (X1.out.keep hk)
        have K2 := hid (K1.out.trans hk)
        clear hy hk
        go_simp
        refine hK.out _ _ (CC.out _ K2.out) (fun hHeld => ?_)
        refine wpAnyH_ready (rs := [7]) (by kernel_rfl) (by simp) ?_
        refine AllReadyH.cons rfl (fun K hK => ?_) AllReadyH.nil
        go_simp
        refine (ints_yes _ _ _ x1 y1 OR X2.out Y1.out N0.out).mono ?_
        rintro e z3 ⟨rfl, hk⟩
        have K3 := hid (K2.out.trans hk)
        clear hk X1 X2 Y1
        go_simp
        refine hK.out _ _ (CC.out _ K3.out) (fun hHeld => ?_)
        refine wpAnyH_take (i := 8) (v := .bool true) rfl (by kernel_rfl) (by kernel_rfl) (by kernel_rfl) (fun _ _ _ h => h) (Or.inl ⟨by kernel_rfl, fun w _ => by kernel_rfl⟩) hHeld ?_
        refine wpAnyH_take (i := 9) (v := .pointer (some ⟨lb, 0, none⟩)) rfl (by kernel_rfl) (by kernel_rfl) (by kernel_rfl) (fun _ _ _ h => h) (Or.inl ⟨by kernel_rfl, fun w _ => by kernel_rfl⟩) hHeld ?_
        refine wpAnyH_take (i := 11) (v := .pointer (some ⟨rb, 0, none⟩)) rfl (by kernel_rfl) (by kernel_rfl) (by kernel_rfl) (fun _ _ _ h => h) (Or.inl ⟨by kernel_rfl, fun w _ => by kernel_rfl⟩) hHeld ?_
        refine wpAnyH_take (i := 12) (v := .pointer (some ⟨rb, 0, none⟩)) rfl (by kernel_rfl) (by kernel_rfl) (by kernel_rfl) (fun _ _ _ h => h) (Or.inl ⟨by kernel_rfl, fun w _ => by kernel_rfl⟩) hHeld ?_
        refine wpAnyH_take (i := 13) (v := .pointer (some ⟨rb, 18, none⟩)) rfl (by kernel_rfl) (by kernel_rfl) (by kernel_rfl) (fun _ _ _ h => h) (Or.inl ⟨by kernel_rfl, fun w _ => by kernel_rfl⟩) hHeld ?_
        refine wpAnyH_take (i := 14) (v := .pointer (some ⟨b, 0, none⟩)) rfl (by kernel_rfl) (by kernel_rfl) (by kernel_rfl) (fun _ _ _ h => h) (Or.inl ⟨by kernel_rfl, by intro w hSw; obtain ⟨s1, s2⟩ := hSw; go_simp⟩) hHeld ?_
        refine wpAnyH_ready (rs := [10]) (by kernel_rfl) (by simp) ?_
        refine AllReadyH.cons rfl (fun K hK => ?_) AllReadyH.nil
        go_simp
        refine (L1.out _ K3.out).mono ?_
        rintro e z4 ⟨x2, rfl, hx, hk⟩
        have X1 := hid hx
        have K4 := hid (K3.out.trans hk)
        clear hx hk
        go_simp
        refine hK.out _ _ (CC.out _ K4.out) (fun hHeld => ?_)
        refine wpAnyH_ready (rs := [15]) (by kernel_rfl) (by simp) ?_
        refine AllReadyH.cons rfl (fun K hK => ?_) AllReadyH.nil
        go_simp
        refine (Q1.out _ K4.out).mono ?_
        rintro e z5 ⟨y2, rfl, hy, hk⟩
        have Y1 := hid hy
        have X2 := hid (X1.out.keep hk)
        have K5 := hid (K4.out.trans hk)
        clear hy hk
        go_simp
        refine hK.out _ _ (CC.out _ K5.out) (fun hHeld => ?_)
        refine wpAnyH_ready (rs := [16]) (by kernel_rfl) (by simp) ?_
        refine AllReadyH.cons rfl (fun K hK => ?_) AllReadyH.nil
        go_simp
        refine (ints_yes _ _ _ x2 y2 OQ X2.out Y1.out N1.out).mono ?_
        rintro e z6 ⟨rfl, hk⟩
        have K6 := hid (K5.out.trans hk)
        clear hk X1 X2 Y1
        go_simp
        refine hK.out _ _ (CC.out _ K6.out) (fun hHeld => ?_)
        refine wpAnyH_take (i := 17) (v := .bool true) rfl (by kernel_rfl) (by kernel_rfl) (by kernel_rfl) (fun _ _ _ h => h) (Or.inl ⟨by kernel_rfl, fun w _ => by kernel_rfl⟩) hHeld ?_
        refine wpAnyH_take (i := 18) (v := .bool true) rfl (by kernel_rfl) (by kernel_rfl) (by kernel_rfl) (fun _ _ _ h => h) (Or.inl ⟨by kernel_rfl, fun w _ => by kernel_rfl⟩) hHeld ?_
        refine wpAnyH_done (by kernel_rfl) ?_ _
        refine hKK _ _ (wp_ret ?_)
        exact bodyPost_ret (v := .bool true) (by kernel_rfl) rfl ⟨rfl, K6.out⟩
end Go.Proofs.Ytcfjlmkeomiiaaa
