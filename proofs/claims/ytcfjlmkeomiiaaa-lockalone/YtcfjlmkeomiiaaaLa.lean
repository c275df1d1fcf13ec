/- Unlock. -/
import Derived.Test.YtcfjlmkeomiiaaaLy
import Derived.Test.YtcfjlmkeomiiaaaLt
namespace Go.Proofs.Ytcfjlmkeomiiaaa
open Go.RowKit Go.Shelf Go.Lib Go.Sort Go.Maps
attribute [local go_sem] Oper.semAt_some

/-- What thenLetIn answers, and leaves. -/
noncomputable def lO (E : Int) (M : Lk) : List Int := if E = 0 then (letN M).1 else []
noncomputable def lM (E : Int) (M : Lk) : Lk := if E = 0 then (letN M).2 else M
theorem let_any (w : World) (lb : Nat) (R : List Nat) (M : Lk) (E : Int) (h : Lc w lb R M) (hm : Lmid M) : Calls Try.prog 48 #[.pointer (some ⟨lb, 0, none⟩), .int .i64 E] w fun e w' => ∃ ao cap, e = .returned (.tuple #[.slice ao (lO E M).length cap, .int .i64 E]) ∧ Tl w w' lb R (lM E M) (.slice ao (lO E M).length cap) (lO E M) := by
  unfold lO lM
  by_cases hE : E = 0
  · subst hE
    exact let_yes w lb R M h hm
  · rw [if_neg hE, if_neg hE]
    exact let_no w lb R M E h hE
set_option maxRecDepth 100000 in
set_option maxHeartbeats 1000000 in
/-- Unlock's function. -/
theorem un_asks (w : World) (lb g1 g2 : Nat) (R : List Nat) (M : Lk) (t : Int) (h : Lc w lb R M) (ht : 0 ≤ t ∧ t < 16) (hcs : 0 ≤ M.c t.toNat ∧ M.c t.toNat ≤ 32767) (h1 : w.cell? ⟨g1, 0, none⟩ = some (.pointer (some ⟨lb, 0, none⟩))) (h2 : w.cell? ⟨g2, 0, none⟩ = some (.int .i64 t)) : Calls Try.prog 59 #[.pointer (some ⟨g1, 0, none⟩), .pointer (some ⟨g2, 0, none⟩)] w fun e w' => e = .returned (.int .i64 (unE M t)) ∧ To w w' lb R (if unE M t = 0 then unK M t else M) := by
  have HL := hid h
  obtain ⟨mb, a, b, Ra, Rb, rfl, h⟩ := h
  obtain ⟨P, hP, hT⟩ := h.mp
  have FA := hid (fun (z : World) (hk : Kp w z []) => And.intro (hk.cell h1 (by simp)) (And.intro (hk.cell h2 (by simp)) (And.intro (hk.cell h.c0 (by simp)) (And.intro (hk.cell h.c1 (by simp)) ((h.same hk).free 0)))))
  have FL := hid (fun (z : World) (hk : Kp w z []) => (show (Instr.lookup 53 (.map (some mb)) (.int .i64 t) false).run Try.prog z = .ok (.int .i64 (M.c t.toNat)) z from by
    have := (hP.keep hk (by simp)).look53 (k := t) ⟨by omega, by omega⟩
    rw [hT.get, cnt_in ht] at this
    exact this))
  have hmt : mayT t = true := by simp [mayT]; omega
  have eE : unE M t = if M.w = t then 0 else if 0 < M.c t.toNat then 0 else 6 := by unfold unE; rw [hmt]; rfl
  rw [eE]
  unfold unK
  by_cases hw : M.w = t
  · rw [if_pos hw, if_pos rfl, if_pos hw]
    have e1 : (M.w == t) = true := by simp [hw]
    have HS := hid (fun (z : World) (hk : Kp w z []) => to_writer (HL.out.same hk) (-1) (by omega) (by omega))
    generalize M.w = X at FA e1
    clear h hP hT ht hcs h1 h2 hmt eE hw
    obtain ⟨a1, a2, a3, a4, -⟩ := FA.out w (Kp.refl _ _)
    go_enter Try.func59, Try.ntmps59
    go_wp2_with fail
    go_quiet (fail)
    have kz := Kp.drewN w nq []
    generalize w.drewN nq = z at kz
    have K1 := hid kz
    clear a1 a2 a3 a4
    obtain ⟨a1, a2, a3, a4, f0⟩ := FA.out z kz
    clear kz
    go_wp2
    go_ret
    exact ⟨rfl, (HS.out z K1.out).first K1.out⟩
  · rw [if_neg hw, if_neg hw]
    have e1 : (M.w == t) = false := by simp [hw]
    by_cases h3 : 1 < M.c t.toNat
    · rw [if_pos (show 0 < M.c t.toNat by omega), if_pos rfl]
      have hwr : IntKind.i64.wrap (M.c t.toNat - 1) = M.c t.toNat - 1 := IntWalk.i64_in _ ⟨by omega, by omega⟩
      have HS := hid (fun (z : World) (hk : Kp w z []) => (show ∃ z2, (Instr.mapUpdate 53 (.map (some mb)) (.int .i64 t) (.int .i64 (M.c t.toNat - 1))).run Try.prog z = .ok () z2 ∧ To w z2 lb (lb :: mb :: (Ra ++ Rb)) { M with c := updC M.c t (M.c t.toNat - 1) } from by
        obtain ⟨z2, hrun, hm, hk2⟩ := (hP.keep hk (by simp)).store (k := t) (v := M.c t.toNat - 1) (by omega) (by omega) (by omega) (by omega) (hT.len hP.rises)
        exact ⟨z2, hrun, (to_count (h.same hk) hm hk2 (hT.put hP.rises ht (by omega))).first hk⟩))
      generalize ({ M with c := updC M.c t (M.c t.toNat - 1) } : Lk) = MM at HS ⊢
      generalize M.c t.toNat = C at FL hwr HS h3
      generalize M.w = X at FA e1
      clear h hP hT ht hcs h1 h2 hmt eE hw
      obtain ⟨a1, a2, a3, a4, -⟩ := FA.out w (Kp.refl _ _)
      go_enter Try.func59, Try.ntmps59
      go_wp2_with fail
      go_quiet (fail)
      have kz := Kp.drewN w nq []
      generalize w.drewN nq = z at kz
      have K1 := hid kz
      clear a1 a2 a3 a4
      obtain ⟨a1, a2, a3, a4, f0⟩ := FA.out z kz
      have hl : ∀ n, (Instr.lookup 53 (.map (some mb)) (.int .i64 t) false).run Try.prog (z.drewN n) = .ok (.int .i64 C) (z.drewN n) := fun n => FL.out _ (K1.out.trans (Kp.drewN _ _ _))
      clear kz
      go_wp2_with fail
      go_quiet (fail)
      have kz := K1.out.trans (Kp.drewN z nq [])
      generalize z.drewN nq = y at kz
      have K2 := hid kz
      clear a1 a2 a3 a4 f0 hl K1
      obtain ⟨a1, a2, a3, a4, f0⟩ := FA.out y kz
      have hl := FL.out y.drew (kz.trans (Kp.drew _ _))
      obtain ⟨z2, hrun, hto⟩ := HS.out y.drew (kz.trans (Kp.drew _ _))
      have HTO := hid hto
      clear kz hto
      go_wp2_with fail
      go_region
      all_goals go_wp2
      all_goals go_ret
      all_goals exact ⟨rfl, HTO.out⟩
    · have e3 : decide (1 < M.c t.toNat) = false := decide_eq_false h3
      by_cases h4 : M.c t.toNat = 1
      · rw [if_pos (show 0 < M.c t.toNat by omega), if_pos rfl]
        have e4 : (M.c t.toNat == 1) = true := by simp [h4]
        have HS := hid (fun (z : World) (hk : Kp w z []) => (show ∃ z2, (Builtin.delete_ #[53, 3] 0 #[.map (some mb), .int .i64 t]).run Try.prog z = .ok (.tuple #[]) z2 ∧ To w z2 lb (lb :: mb :: (Ra ++ Rb)) { M with c := updC M.c t (M.c t.toNat - 1) } from by
          obtain ⟨z2, hrun, hm, hk2⟩ := (hP.keep hk (by simp)).drop (k := t) (by omega) (by omega) 0
          rw [h4]
          exact ⟨z2, hrun, (to_count (h.same hk) hm hk2 (hT.del hP.rises ht)).first hk⟩))
        generalize ({ M with c := updC M.c t (M.c t.toNat - 1) } : Lk) = MM at HS ⊢
        generalize M.c t.toNat = C at FL h3 e3 e4
        generalize M.w = X at FA e1
        clear h hP hT ht hcs h1 h2 hmt eE hw h4
        obtain ⟨a1, a2, a3, a4, -⟩ := FA.out w (Kp.refl _ _)
        go_enter Try.func59, Try.ntmps59
        go_wp2_with fail
        go_quiet (fail)
        have kz := Kp.drewN w nq []
        generalize w.drewN nq = z at kz
        have K1 := hid kz
        clear a1 a2 a3 a4
        obtain ⟨a1, a2, a3, a4, f0⟩ := FA.out z kz
        have hl : ∀ n, (Instr.lookup 53 (.map (some mb)) (.int .i64 t) false).run Try.prog (z.drewN n) = .ok (.int .i64 C) (z.drewN n) := fun n => FL.out _ (K1.out.trans (Kp.drewN _ _ _))
        clear kz
        go_wp2_with fail
        go_quiet (fail)
        have kz := K1.out.trans (Kp.drewN z nq [])
        generalize z.drewN nq = y at kz
        have K2 := hid kz
        clear a1 a2 a3 a4 f0 hl K1
        obtain ⟨a1, a2, a3, a4, f0⟩ := FA.out y kz
        have hl : ∀ n, (Instr.lookup 53 (.map (some mb)) (.int .i64 t) false).run Try.prog (y.drewN n) = .ok (.int .i64 C) (y.drewN n) := fun n => FL.out _ (K2.out.trans (Kp.drewN _ _ _))
        clear kz
        go_wp2_with fail
        go_quiet (fail)
        have kz := K2.out.trans (Kp.drewN y nq [])
        generalize y.drewN nq = x at kz
        have K3 := hid kz
        clear a1 a2 a3 a4 f0 hl K2
        obtain ⟨a1, a2, a3, a4, f0⟩ := FA.out x kz
        obtain ⟨z2, hrun, hto⟩ := HS.out x.drew (kz.trans (Kp.drew _ _))
        have HTO := hid hto
        clear kz hto
        go_wp2_with fail
        go_region
        all_goals go_wp2
        all_goals go_ret
        all_goals exact ⟨rfl, HTO.out⟩
      · rw [if_neg (show ¬ 0 < M.c t.toNat by omega), if_neg (by decide)]
        have e4 : (M.c t.toNat == 1) = false := by simp [h4]
        generalize M.c t.toNat = C at FL h3 e3 e4
        generalize M.w = X at FA e1
        clear h hP hT ht hcs h1 h2 hmt eE hw h4
        obtain ⟨a1, a2, a3, a4, -⟩ := FA.out w (Kp.refl _ _)
        go_enter Try.func59, Try.ntmps59
        go_wp2_with fail
        go_quiet (fail)
        have kz := Kp.drewN w nq []
        generalize w.drewN nq = z at kz
        have K1 := hid kz
        clear a1 a2 a3 a4
        obtain ⟨a1, a2, a3, a4, f0⟩ := FA.out z kz
        have hl : ∀ n, (Instr.lookup 53 (.map (some mb)) (.int .i64 t) false).run Try.prog (z.drewN n) = .ok (.int .i64 C) (z.drewN n) := fun n => FL.out _ (K1.out.trans (Kp.drewN _ _ _))
        clear kz
        go_wp2_with fail
        go_quiet (fail)
        have kz := K1.out.trans (Kp.drewN z nq [])
        generalize z.drewN nq = y at kz
        have K2 := hid kz
        clear a1 a2 a3 a4 f0 hl K1
        obtain ⟨a1, a2, a3, a4, f0⟩ := FA.out y kz
        have hl : ∀ n, (Instr.lookup 53 (.map (some mb)) (.int .i64 t) false).run Try.prog (y.drewN n) = .ok (.int .i64 C) (y.drewN n) := fun n => FL.out _ (K2.out.trans (Kp.drewN _ _ _))
        clear kz
        go_wp2_with fail
        go_quiet (fail)
        have kz := K2.out.trans (Kp.drewN y nq [])
        generalize y.drewN nq = x at kz
        have K3 := hid kz
        clear kz a1 a2 a3 a4 f0 hl
        go_wp2
        go_ret
        exact ⟨rfl, To.stay HL.out K3.out⟩
set_option maxRecDepth 100000 in
set_option maxHeartbeats 1000000 in
/-- Unlock. -/
theorem lunlock (w : World) (lb : Nat) (R : List Nat) (M : Lk) (t : Int) (h : Lc w lb R M) (hm : Lmid M) : Calls Try.prog 21 #[.pointer (some ⟨lb, 0, none⟩), .int .i64 t] w fun e w' => ∃ ao cap, e = .returned (.tuple #[.slice ao (unO M t).length cap, .int .i64 (unE M t)]) ∧ Tl w w' lb R (unM M t) (.slice ao (unO M t).length cap) (unO M t) := by
  obtain ⟨kb, cb1, cb2⟩ := boxes w lb t
  obtain ⟨W0, hW0⟩ : ∃ W0, (w.alloc (.cells #[.pointer (some ⟨lb, 0, none⟩)] 23)).alloc (.cells #[.int .i64 t] 3) = W0 := ⟨_, rfl⟩
  rw [hW0] at kb cb1 cb2
  have K0 := hid kb
  have hlt := h.lt
  have CB := hid (fun (z : World) (hk : Kp W0 z R) => And.intro (hk.cell cb1 (fun hm => by have := hlt _ hm; omega)) (hk.cell cb2 (fun hm => by have := hlt _ hm; omega)))
  have T52 := hid (fun z => lthread_kp z t)
  have HW := hid hW0
  have e1 : unO M t = lO (unE M t) (if unE M t = 0 then unK M t else M) := by unfold unO lO; split <;> rfl
  have e2 : unM M t = lM (unE M t) (if unE M t = 0 then unK M t else M) := by unfold unM lM; split <;> rfl
  have hmid : Lmid (if unE M t = 0 then unK M t else M) := by
    split
    · rename_i hE; exact hm.un hE
    · exact hm
  rw [e1, e2]
  /- what asked leaves -/
  have HA := hid (fun (z : World) (hk : Kp W0 z []) => (show Calls Try.prog 51 #[.pointer (some ⟨lb, 0, none⟩), .bool (mayT t), .func (.func 59) #[] #[.pointer (some ⟨w.heap.size, 0, none⟩), .pointer (some ⟨w.heap.size + 1, 0, none⟩)]] z fun e w' => e = .returned (.int .i64 (unE M t)) ∧ To z w' lb R (if unE M t = 0 then unK M t else M) from by
    have hz := h.same (kb.trans hk)
    cases hT : mayT t
    · have : unE M t = 2 := by unfold unE; rw [hT]; rfl
      rw [this, if_neg (by decide)]
      refine (asked_arg z lb R M _ hz).mono ?_
      rintro e w' ⟨rfl, rfl⟩
      exact ⟨rfl, To.stay hz (Kp.refl _ _)⟩
    · have ht : 0 ≤ t ∧ t < 16 := by simpa [mayT] using hT
      exact asked_59 z lb _ _ R M _ _ hz (un_asks z lb _ _ R M t hz ht (hm.cs _ (by omega)) (hk.cell cb1 (by simp)) (hk.cell cb2 (by simp)))))
  have HLt := hid (fun (z : World) (R1 : List Nat) (hz : Lc z lb R1 (if unE M t = 0 then unK M t else M)) => let_any z lb R1 _ (unE M t) hz hmid)
  generalize (if unE M t = 0 then unK M t else M) = MK at HA HLt ⊢
  generalize unE M t = E at HA HLt ⊢
  generalize mayT t = B at T52 HA
  generalize (lO E MK).length = n at HLt ⊢
  clear h hm e1 e2 hmid kb cb1 cb2 hW0 hlt
  go_enter Try.func21, Try.ntmps21
  go_wp2_with fail
  rw [HW.out]
  rename_i QQ KK hKK
  refine wp_region_held_drew (S := fun W : World => W.cell? ⟨w.heap.size, 0, none⟩ = some (.pointer (some ⟨lb, 0, none⟩)) ∧ W.cell? ⟨w.heap.size + 1, 0, none⟩ = some (.int .i64 t)) (by kernel_rfl) (CB.out _ (Kp.drew _ _)) (fun hHeld => ?_)
  refine wpAnyH_take (i := 0) (v := .pointer (some ⟨lb, 0, none⟩)) rfl (by kernel_rfl) (by kernel_rfl) (by kernel_rfl) (fun _ _ _ h => h) (Or.inl ⟨by kernel_rfl, by intro w hSw; obtain ⟨s1, s2⟩ := hSw; go_simp⟩) hHeld ?_
  refine wpAnyH_take (i := 1) (v := .pointer (some ⟨lb, 0, none⟩)) rfl (by kernel_rfl) (by kernel_rfl) (by kernel_rfl) (fun _ _ _ h => h) (Or.inl ⟨by kernel_rfl, by intro w hSw; obtain ⟨s1, s2⟩ := hSw; go_simp⟩) hHeld ?_
  refine wpAnyH_take (i := 2) (v := .int .i64 t) rfl (by kernel_rfl) (by kernel_rfl) (by kernel_rfl) (fun _ _ _ h => h) (Or.inl ⟨by kernel_rfl, by intro w hSw; obtain ⟨s1, s2⟩ := hSw; go_simp⟩) hHeld ?_
  refine wpAnyH_take (i := 4) (v := .func (.func 59) #[] #[.pointer (some ⟨w.heap.size, 0, none⟩), .pointer (some ⟨w.heap.size + 1, 0, none⟩)]) rfl (by kernel_rfl) (by kernel_rfl) (by kernel_rfl) (fun _ _ _ h => h) (Or.inl ⟨by kernel_rfl, fun w _ => by kernel_rfl⟩) hHeld ?_
  refine wpAnyH_ready (rs := [3]) (by kernel_rfl) (by simp) ?_
  refine AllReadyH.cons rfl (fun K hK => ?_) AllReadyH.nil
  go_simp
  refine (T52.out _).mono ?_
  rintro e z1 ⟨rfl, hk⟩
  have K1 := hid ((Kp.drew W0 []).trans hk)
  clear hk
  go_simp
  refine hK.out _ _ (CB.out _ K1.out.nil) (fun hHeld => ?_)
  refine wpAnyH_ready (rs := [5]) (by kernel_rfl) (by simp) ?_
  refine AllReadyH.cons rfl (fun K hK => ?_) AllReadyH.nil
  go_simp
  refine (HA.out _ K1.out).mono ?_
  rintro e z2 ⟨rfl, hT⟩
  have TA := hid (hT.first K1.out)
  obtain ⟨R1, s1, n1, k1⟩ := hT.first K1.out
  have K2 := hid k1
  have S1 := hid s1
  have N1 := hid n1
  clear hT s1 n1 k1
  go_simp
  refine hK.out _ _ (CB.out _ K2.out) (fun hHeld => ?_)
  refine wpAnyH_ready (rs := [6]) (by kernel_rfl) (by simp) ?_
  refine AllReadyH.cons rfl (fun K hK => ?_) AllReadyH.nil
  go_simp
  refine (HLt.out _ R1 S1.out).mono ?_
  rintro e z3 ⟨ao, cap, rfl, hl⟩
  have FIN := hid (show Tl w z3 lb R (lM E MK) (.slice ao n cap) (lO E MK) from Tl.first K0.out (by
    obtain ⟨hn, R2, s2, n2, k2, f2⟩ := hl
    refine ⟨hn.low K2.out.size, R2, s2, N1.out.trans n2 K2.out.size, K2.out.past k2 (fun k hk hl => ?_), f2⟩
    rcases N1.out k hk with q | q
    · exact q
    · omega))
  have K3 := hid (show Kp W0 z3 R from by
    obtain ⟨hn, R2, s2, n2, k2, f2⟩ := hl
    refine K2.out.past k2 (fun k hk hl => ?_)
    rcases N1.out k hk with q | q
    · exact q
    · omega)
  clear hl
  go_simp
  refine hK.out _ _ (CB.out _ K3.out) (fun hHeld => ?_)
  refine wpAnyH_take (i := 7) (v := .slice ao n cap) rfl (by kernel_rfl) (by kernel_rfl) (by kernel_rfl) (fun _ _ _ h => h) (Or.inl ⟨by kernel_rfl, fun w _ => by kernel_rfl⟩) hHeld ?_
  refine wpAnyH_take (i := 8) (v := .int .i64 E) rfl (by kernel_rfl) (by kernel_rfl) (by kernel_rfl) (fun _ _ _ h => h) (Or.inl ⟨by kernel_rfl, fun w _ => by kernel_rfl⟩) hHeld ?_
  refine wpAnyH_take (i := 9) (v := .slice ao n cap) rfl (by kernel_rfl) (by kernel_rfl) (by kernel_rfl) (fun _ _ _ h => h) (Or.inl ⟨by kernel_rfl, fun w _ => by kernel_rfl⟩) hHeld ?_
  refine wpAnyH_take (i := 10) (v := .int .i64 E) rfl (by kernel_rfl) (by kernel_rfl) (by kernel_rfl) (fun _ _ _ h => h) (Or.inl ⟨by kernel_rfl, fun w _ => by kernel_rfl⟩) hHeld ?_
  refine wpAnyH_done (by kernel_rfl) ?_ _
  refine hKK _ _ ?_
  go_wp2
  go_ret2
  exact ⟨ao, cap, rfl, FIN.out⟩
end Go.Proofs.Ytcfjlmkeomiiaaa
