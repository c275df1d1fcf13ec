/- TryRead, TryWrite, Read, Write. -/
import Derived.Test.YtcfjlmkeomiiaaaLn
namespace Go.Proofs.Ytcfjlmkeomiiaaa
open Go.RowKit Go.Shelf Go.Lib Go.Sort Go.Maps
attribute [local go_sem] Oper.semAt_some

theorem ask_rd {M : Lk} (h : Lmid M) {t p : Int} (ht : mayT t = true) (hp : mayP p = true) : askE M t p false = rdE M t := by
  unfold askE rdE busyB
  rw [ht, hp]
  simp only [Bool.and_self, if_true, Bool.false_and, Bool.or_false, Bool.not_false, Bool.true_and]
  split
  · rfl
  · have := (h.cs t.toNat (by simp [mayT] at ht; omega)).2
    by_cases e : M.c t.toNat = 32767
    · rw [if_pos e, if_pos (by simp; omega)]
    · rw [if_neg e, if_neg (by simp; omega)]
theorem ask_wr {M : Lk} {t p : Int} (ht : mayT t = true) (hp : mayP p = true) : askE M t p true = wrE M t := by
  unfold askE wrE busyB
  rw [ht, hp]
  simp only [Bool.and_self, if_true, Bool.true_and, Bool.not_true, Bool.false_and]
  split <;> rfl
theorem ask_arg {M : Lk} {t p : Int} {wr : Bool} (h : (mayT t && mayP p) = false) : askE M t p wr = 2 := by
  unfold askE
  rw [h]
  rfl
/-- Two boxes, made here. -/
theorem boxes (w : World) (lb : Nat) (t : Int) : Kp w ((w.alloc (.cells #[.pointer (some ⟨lb, 0, none⟩)] 23)).alloc (.cells #[.int .i64 t] 3)) [] ∧ ((w.alloc (.cells #[.pointer (some ⟨lb, 0, none⟩)] 23)).alloc (.cells #[.int .i64 t] 3)).cell? ⟨w.heap.size, 0, none⟩ = some (.pointer (some ⟨lb, 0, none⟩)) ∧ ((w.alloc (.cells #[.pointer (some ⟨lb, 0, none⟩)] 23)).alloc (.cells #[.int .i64 t] 3)).cell? ⟨w.heap.size + 1, 0, none⟩ = some (.int .i64 t) := by
  refine ⟨(Kp.alloc w _ []).trans (Kp.alloc _ _ []), ?_, ?_⟩ <;> simp
theorem boxes_nil (w : World) (p : Option Addr) (t : Int) : Kp w ((w.alloc (.cells #[.pointer p] 23)).alloc (.cells #[.int .i64 t] 3)) [] ∧ ((w.alloc (.cells #[.pointer p] 23)).alloc (.cells #[.int .i64 t] 3)).cell? ⟨w.heap.size, 0, none⟩ = some (.pointer p) ∧ ((w.alloc (.cells #[.pointer p] 23)).alloc (.cells #[.int .i64 t] 3)).cell? ⟨w.heap.size + 1, 0, none⟩ = some (.int .i64 t) := by
  refine ⟨(Kp.alloc w _ []).trans (Kp.alloc _ _ []), ?_, ?_⟩ <;> simp
theorem lthread_kp (w : World) (t : Int) : Calls Try.prog 52 #[.int .i64 t] w fun e w' => e = .returned (.bool (mayT t)) ∧ Kp w w' [] := (lthread w t).mono fun _ _ ⟨a, b⟩ => ⟨a, by rw [b]; exact Kp.refl _ _⟩
theorem lprio_kp (w : World) (t : Int) : Calls Try.prog 53 #[.int .i64 t] w fun e w' => e = .returned (.bool (mayP t)) ∧ Kp w w' [] := (lprio w t).mono fun _ _ ⟨a, b⟩ => ⟨a, by rw [b]; exact Kp.refl _ _⟩
theorem kp_of {f : Nat} {args : Array Value} {w : World} {v : Value} (h : Calls Try.prog f args w fun e w' => e = .returned v ∧ w' = w) : Calls Try.prog f args w fun e w' => e = .returned v ∧ Kp w w' [] := h.mono fun _ _ ⟨a, b⟩ => ⟨a, by rw [b]; exact Kp.refl _ _⟩
set_option maxRecDepth 100000 in
set_option maxHeartbeats 1000000 in
theorem ltryR (w : World) (lb : Nat) (R : List Nat) (M : Lk) (t p : Int) (h : Lc w lb R M) (hm : Lmid M) : Calls Try.prog 19 #[.pointer (some ⟨lb, 0, none⟩), .int .i64 t, .int .i64 p] w fun e w' => e = .returned (.tuple #[.bool (rdB M t p), .int .i64 (askE M t p false)]) ∧ To w w' lb R (rdM M t p true) := by
  have T52 := hid (fun z => lthread_kp z t)
  have T53 := hid (fun z => lprio_kp z p)
  obtain ⟨kb, cb1, cb2⟩ := boxes w lb t
  obtain ⟨W0, hW0⟩ : ∃ W0, (w.alloc (.cells #[.pointer (some ⟨lb, 0, none⟩)] 23)).alloc (.cells #[.int .i64 t] 3) = W0 := ⟨_, rfl⟩
  rw [hW0] at kb cb1 cb2
  have K0 := hid kb
  have CB := hid (fun (z : World) (hk : Kp W0 z []) => And.intro (hk.cell cb1 (by simp)) (hk.cell cb2 (by simp)))
  have HL := hid (fun (z : World) (hk : Kp W0 z []) => h.same (kb.trans hk))
  have HW := hid hW0
  clear kb cb1 cb2 hW0
  cases hT : mayT t
  · have e2 : askE M t p false = 2 := ask_arg (by rw [hT]; rfl)
    have e1 : rdB M t p = false := by unfold rdB; rw [e2]; rfl
    have e3 : rdM M t p true = M := by unfold rdM; rw [e2]; rfl
    rw [e1, e2, e3]
    rw [hT] at T52
    clear e1 e2 e3 hm hT
    go_enter Try.func19, Try.ntmps19
    go_wp2_with fail
    rw [HW.out]
    rename_i QQ KK hKK
    refine wp_region_held_drew (S := fun W : World => W.cell? ⟨w.heap.size, 0, none⟩ = some (.pointer (some ⟨lb, 0, none⟩)) ∧ W.cell? ⟨w.heap.size + 1, 0, none⟩ = some (.int .i64 t)) (by kernel_rfl) (CB.out _ (Kp.drew _ _)) (fun hHeld => ?_)
    refine wpAnyH_take (i := 0) (v := .pointer (some ⟨lb, 0, none⟩)) rfl (by kernel_rfl) (by kernel_rfl) (by kernel_rfl) (fun _ _ _ h => h) (Or.inl ⟨by kernel_rfl, by intro w hSw; obtain ⟨s1, s2⟩ := hSw; go_simp⟩) hHeld ?_
    refine wpAnyH_take (i := 1) (v := .int .i64 t) rfl (by kernel_rfl) (by kernel_rfl) (by kernel_rfl) (fun _ _ _ h => h) (Or.inl ⟨by kernel_rfl, by intro w hSw; obtain ⟨s1, s2⟩ := hSw; go_simp⟩) hHeld ?_
    refine wpAnyH_take (i := 7) (v := .func (.func 54) #[] #[.pointer (some ⟨w.heap.size, 0, none⟩), .pointer (some ⟨w.heap.size + 1, 0, none⟩)]) rfl (by kernel_rfl) (by kernel_rfl) (by kernel_rfl) (fun _ _ _ h => h) (Or.inl ⟨by kernel_rfl, fun w _ => by kernel_rfl⟩) hHeld ?_
    refine wpAnyH_ready (rs := [2]) (by kernel_rfl) (by simp) ?_
    refine AllReadyH.cons rfl (fun K hK => ?_) AllReadyH.nil
    go_simp
    refine (T52.out _).mono ?_
    rintro e z1 ⟨rfl, hk⟩
    have K1 := hid ((Kp.drew W0 []).trans hk)
    clear hk
    go_simp
    refine hK.out _ _ (CB.out _ K1.out) (fun hHeld => ?_)
    refine wpAnyH_take (i := 3) (v := .bool false) rfl (by kernel_rfl) (by kernel_rfl) (by kernel_rfl) (fun _ _ _ h => h) (Or.inl ⟨by kernel_rfl, fun w _ => by kernel_rfl⟩) hHeld ?_
    refine wpAnyH_take (i := 4) (v := undef) rfl (by kernel_rfl) (by kernel_rfl) (by kernel_rfl) (fun _ _ _ h => h) (Or.inr ⟨by kernel_rfl, rfl⟩) hHeld ?_
    refine wpAnyH_take (i := 5) (v := undef) rfl (by kernel_rfl) (by kernel_rfl) (by kernel_rfl) (fun _ _ _ h => h) (Or.inr ⟨by kernel_rfl, rfl⟩) hHeld ?_
    refine wpAnyH_take (i := 6) (v := .bool false) rfl (by kernel_rfl) (by kernel_rfl) (by kernel_rfl) (fun _ _ _ h => h) (Or.inl ⟨by kernel_rfl, fun w _ => by kernel_rfl⟩) hHeld ?_
    refine wpAnyH_ready (rs := [8]) (by kernel_rfl) (by simp) ?_
    refine AllReadyH.cons rfl (fun K hK => ?_) AllReadyH.nil
    go_simp
    refine (kp_of (asked_arg _ lb R M _ (HL.out _ K1.out))).mono ?_
    rintro e z3 ⟨rfl, hk⟩
    have K3 := hid (K1.out.trans hk)
    clear hk
    go_simp
    refine hK.out _ _ (CB.out _ K3.out) (fun hHeld => ?_)
    refine wpAnyH_take (i := 9) (v := .int .i64 2) rfl (by kernel_rfl) (by kernel_rfl) (by kernel_rfl) (fun _ _ _ h => h) (Or.inl ⟨by kernel_rfl, fun w _ => by kernel_rfl⟩) hHeld ?_
    refine wpAnyH_done (by kernel_rfl) ?_ _
    refine hKK _ _ ?_
    have c1 := (CB.out _ K3.out).1
    have c2 := (CB.out _ K3.out).2
    go_wp2
    go_ret2
    exact ⟨rfl, (To.stay (HL.out _ (Kp.refl _ _)) K3.out).first K0.out⟩
  · rw [hT] at T52
    cases hP : mayP p
    · have e2 : askE M t p false = 2 := ask_arg (by rw [hT, hP]; rfl)
      have e1 : rdB M t p = false := by unfold rdB; rw [e2]; rfl
      have e3 : rdM M t p true = M := by unfold rdM; rw [e2]; rfl
      rw [e1, e2, e3]
      rw [hP] at T53
      clear e1 e2 e3 hm hT hP
      go_enter Try.func19, Try.ntmps19
      go_wp2_with fail
      rw [HW.out]
      rename_i QQ KK hKK
      refine wp_region_held_drew (S := fun W : World => W.cell? ⟨w.heap.size, 0, none⟩ = some (.pointer (some ⟨lb, 0, none⟩)) ∧ W.cell? ⟨w.heap.size + 1, 0, none⟩ = some (.int .i64 t)) (by kernel_rfl) (CB.out _ (Kp.drew _ _)) (fun hHeld => ?_)
      refine wpAnyH_take (i := 0) (v := .pointer (some ⟨lb, 0, none⟩)) rfl (by kernel_rfl) (by kernel_rfl) (by kernel_rfl) (fun _ _ _ h => h) (Or.inl ⟨by kernel_rfl, by intro w hSw; obtain ⟨s1, s2⟩ := hSw; go_simp⟩) hHeld ?_
      refine wpAnyH_take (i := 1) (v := .int .i64 t) rfl (by kernel_rfl) (by kernel_rfl) (by kernel_rfl) (fun _ _ _ h => h) (Or.inl ⟨by kernel_rfl, by intro w hSw; obtain ⟨s1, s2⟩ := hSw; go_simp⟩) hHeld ?_
      refine wpAnyH_take (i := 7) (v := .func (.func 54) #[] #[.pointer (some ⟨w.heap.size, 0, none⟩), .pointer (some ⟨w.heap.size + 1, 0, none⟩)]) rfl (by kernel_rfl) (by kernel_rfl) (by kernel_rfl) (fun _ _ _ h => h) (Or.inl ⟨by kernel_rfl, fun w _ => by kernel_rfl⟩) hHeld ?_
      refine wpAnyH_ready (rs := [2]) (by kernel_rfl) (by simp) ?_
      refine AllReadyH.cons rfl (fun K hK => ?_) AllReadyH.nil
      go_simp
      refine (T52.out _).mono ?_
      rintro e z1 ⟨rfl, hk⟩
      have K1 := hid ((Kp.drew W0 []).trans hk)
      clear hk
      go_simp
      refine hK.out _ _ (CB.out _ K1.out) (fun hHeld => ?_)
      refine wpAnyH_take (i := 3) (v := .bool true) rfl (by kernel_rfl) (by kernel_rfl) (by kernel_rfl) (fun _ _ _ h => h) (Or.inl ⟨by kernel_rfl, fun w _ => by kernel_rfl⟩) hHeld ?_
      refine wpAnyH_take (i := 4) (v := .int .i64 p) rfl (by kernel_rfl) (by kernel_rfl) (by kernel_rfl) (fun _ _ _ h => h) (Or.inl ⟨by kernel_rfl, fun w _ => by kernel_rfl⟩) hHeld ?_
      refine wpAnyH_ready (rs := [5]) (by kernel_rfl) (by simp) ?_
      refine AllReadyH.cons rfl (fun K hK => ?_) AllReadyH.nil
      go_simp
      refine (T53.out _).mono ?_
      rintro e z2 ⟨rfl, hk⟩
      have K2 := hid (K1.out.trans hk)
      clear hk
      go_simp
      refine hK.out _ _ (CB.out _ K2.out) (fun hHeld => ?_)
      refine wpAnyH_take (i := 6) (v := .bool false) rfl (by kernel_rfl) (by kernel_rfl) (by kernel_rfl) (fun _ _ _ h => h) (Or.inl ⟨by kernel_rfl, fun w _ => by kernel_rfl⟩) hHeld ?_
      refine wpAnyH_ready (rs := [8]) (by kernel_rfl) (by simp) ?_
      refine AllReadyH.cons rfl (fun K hK => ?_) AllReadyH.nil
      go_simp
      refine (kp_of (asked_arg _ lb R M _ (HL.out _ K2.out))).mono ?_
      rintro e z3 ⟨rfl, hk⟩
      have K3 := hid (K2.out.trans hk)
      clear hk
      go_simp
      refine hK.out _ _ (CB.out _ K3.out) (fun hHeld => ?_)
      refine wpAnyH_take (i := 9) (v := .int .i64 2) rfl (by kernel_rfl) (by kernel_rfl) (by kernel_rfl) (fun _ _ _ h => h) (Or.inl ⟨by kernel_rfl, fun w _ => by kernel_rfl⟩) hHeld ?_
      refine wpAnyH_done (by kernel_rfl) ?_ _
      refine hKK _ _ ?_
      have c1 := (CB.out _ K3.out).1
      have c2 := (CB.out _ K3.out).2
      go_wp2
      go_ret2
      exact ⟨rfl, (To.stay (HL.out _ (Kp.refl _ _)) K3.out).first K0.out⟩
    · rw [hP] at T53
      have ht : 0 ≤ t ∧ t < 16 := by simpa [mayT] using hT
      have hp : 1 ≤ p := by simp [mayP] at hP; omega
      have e2 : askE M t p false = rdE M t := ask_rd hm hT hP
      have HA := hid (fun (z : World) (hk : Kp W0 z []) => asked_54 z lb w.heap.size (w.heap.size + 1) R M (rdE M t) (fun z' => Kp z z' []) (HL.out z hk) (read_asks z lb _ _ R M t (HL.out z hk) ht (CB.out z hk).1 (CB.out z hk).2))
      have hcs := hm.cs t.toNat (by omega)
      unfold rdB rdM
      rw [e2]
      generalize rdE M t = E at HA ⊢
      clear e2 hT hP hm
      by_cases hE : E = 0
      · subst hE
        rw [if_pos rfl, show decide ((0 : Int) = 0) = true from rfl, Bool.true_and]
        have HM := hid (fun (z : World) (hk : Kp W0 z []) => lmay z lb R M t p (HL.out z hk) ht hp)
        have HH := hid (fun (z : World) (hk : Kp W0 z []) => lhold0 z lb R M t (HL.out z hk) ht hcs.1 hcs.2)
        cases hR : mayR M t p
        · rw [if_neg (by simp), if_pos rfl]
          rw [hR] at HM
          clear hR hcs ht hp
          go_enter Try.func19, Try.ntmps19
          go_wp2_with fail
          rw [HW.out]
          rename_i QQ KK hKK
          refine wp_region_held_drew (S := fun W : World => W.cell? ⟨w.heap.size, 0, none⟩ = some (.pointer (some ⟨lb, 0, none⟩)) ∧ W.cell? ⟨w.heap.size + 1, 0, none⟩ = some (.int .i64 t)) (by kernel_rfl) (CB.out _ (Kp.drew _ _)) (fun hHeld => ?_)
          refine wpAnyH_take (i := 0) (v := .pointer (some ⟨lb, 0, none⟩)) rfl (by kernel_rfl) (by kernel_rfl) (by kernel_rfl) (fun _ _ _ h => h) (Or.inl ⟨by kernel_rfl, by intro w hSw; obtain ⟨s1, s2⟩ := hSw; go_simp⟩) hHeld ?_
          refine wpAnyH_take (i := 1) (v := .int .i64 t) rfl (by kernel_rfl) (by kernel_rfl) (by kernel_rfl) (fun _ _ _ h => h) (Or.inl ⟨by kernel_rfl, by intro w hSw; obtain ⟨s1, s2⟩ := hSw; go_simp⟩) hHeld ?_
          refine wpAnyH_take (i := 7) (v := .func (.func 54) #[] #[.pointer (some ⟨w.heap.size, 0, none⟩), .pointer (some ⟨w.heap.size + 1, 0, none⟩)]) rfl (by kernel_rfl) (by kernel_rfl) (by kernel_rfl) (fun _ _ _ h => h) (Or.inl ⟨by kernel_rfl, fun w _ => by kernel_rfl⟩) hHeld ?_
          refine wpAnyH_ready (rs := [2]) (by kernel_rfl) (by simp) ?_
          refine AllReadyH.cons rfl (fun K hK => ?_) AllReadyH.nil
          go_simp
          refine (T52.out _).mono ?_
          rintro e z1 ⟨rfl, hk⟩
          have K1 := hid ((Kp.drew W0 []).trans hk)
          clear hk
          go_simp
          refine hK.out _ _ (CB.out _ K1.out) (fun hHeld => ?_)
          refine wpAnyH_take (i := 3) (v := .bool true) rfl (by kernel_rfl) (by kernel_rfl) (by kernel_rfl) (fun _ _ _ h => h) (Or.inl ⟨by kernel_rfl, fun w _ => by kernel_rfl⟩) hHeld ?_
          refine wpAnyH_take (i := 4) (v := .int .i64 p) rfl (by kernel_rfl) (by kernel_rfl) (by kernel_rfl) (fun _ _ _ h => h) (Or.inl ⟨by kernel_rfl, fun w _ => by kernel_rfl⟩) hHeld ?_
          refine wpAnyH_ready (rs := [5]) (by kernel_rfl) (by simp) ?_
          refine AllReadyH.cons rfl (fun K hK => ?_) AllReadyH.nil
          go_simp
          refine (T53.out _).mono ?_
          rintro e z2 ⟨rfl, hk⟩
          have K2 := hid (K1.out.trans hk)
          clear hk
          go_simp
          refine hK.out _ _ (CB.out _ K2.out) (fun hHeld => ?_)
          refine wpAnyH_take (i := 6) (v := .bool true) rfl (by kernel_rfl) (by kernel_rfl) (by kernel_rfl) (fun _ _ _ h => h) (Or.inl ⟨by kernel_rfl, fun w _ => by kernel_rfl⟩) hHeld ?_
          refine wpAnyH_ready (rs := [8]) (by kernel_rfl) (by simp) ?_
          refine AllReadyH.cons rfl (fun K hK => ?_) AllReadyH.nil
          go_simp
          refine (HA.out _ K2.out).mono ?_
          rintro e z3 ⟨rfl, hk⟩
          have K3 := hid (K2.out.trans hk)
          clear hk
          go_simp
          refine hK.out _ _ (CB.out _ K3.out) (fun hHeld => ?_)
          refine wpAnyH_take (i := 9) (v := .int .i64 0) rfl (by kernel_rfl) (by kernel_rfl) (by kernel_rfl) (fun _ _ _ h => h) (Or.inl ⟨by kernel_rfl, fun w _ => by kernel_rfl⟩) hHeld ?_
          refine wpAnyH_done (by kernel_rfl) ?_ _
          refine hKK _ _ ?_
          have c1 := (CB.out _ K3.out).1
          have c2 := (CB.out _ K3.out).2
          go_wp2_with fail
          refine (HM.out _ K3.out).mono ?_
          rintro e z4 ⟨rfl, hK4⟩
          have K4 := hid (K3.out.trans hK4)
          clear hK4
          go_wp2
          go_ret2
          exact ⟨rfl, (To.stay (HL.out _ (Kp.refl _ _)) K4.out).first K0.out⟩
        · rw [if_pos rfl]
          rw [hR] at HM
          clear hR hcs ht hp
          go_enter Try.func19, Try.ntmps19
          go_wp2_with fail
          rw [HW.out]
          rename_i QQ KK hKK
          refine wp_region_held_drew (S := fun W : World => W.cell? ⟨w.heap.size, 0, none⟩ = some (.pointer (some ⟨lb, 0, none⟩)) ∧ W.cell? ⟨w.heap.size + 1, 0, none⟩ = some (.int .i64 t)) (by kernel_rfl) (CB.out _ (Kp.drew _ _)) (fun hHeld => ?_)
          refine wpAnyH_take (i := 0) (v := .pointer (some ⟨lb, 0, none⟩)) rfl (by kernel_rfl) (by kernel_rfl) (by kernel_rfl) (fun _ _ _ h => h) (Or.inl ⟨by kernel_rfl, by intro w hSw; obtain ⟨s1, s2⟩ := hSw; go_simp⟩) hHeld ?_
          refine wpAnyH_take (i := 1) (v := .int .i64 t) rfl (by kernel_rfl) (by kernel_rfl) (by kernel_rfl) (fun _ _ _ h => h) (Or.inl ⟨by kernel_rfl, by intro w hSw; obtain ⟨s1, s2⟩ := hSw; go_simp⟩) hHeld ?_
          refine wpAnyH_take (i := 7) (v := .func (.func 54) #[] #[.pointer (some ⟨w.heap.size, 0, none⟩), .pointer (some ⟨w.heap.size + 1, 0, none⟩)]) rfl (by kernel_rfl) (by kernel_rfl) (by kernel_rfl) (fun _ _ _ h => h) (Or.inl ⟨by kernel_rfl, fun w _ => by kernel_rfl⟩) hHeld ?_
          refine wpAnyH_ready (rs := [2]) (by kernel_rfl) (by simp) ?_
          refine AllReadyH.cons rfl (fun K hK => ?_) AllReadyH.nil
          go_simp
          refine (T52.out _).mono ?_
          rintro e z1 ⟨rfl, hk⟩
          have K1 := hid ((Kp.drew W0 []).trans hk)
          clear hk
          go_simp
          refine hK.out _ _ (CB.out _ K1.out) (fun hHeld => ?_)
          refine wpAnyH_take (i := 3) (v := .bool true) rfl (by kernel_rfl) (by kernel_rfl) (by kernel_rfl) (fun _ _ _ h => h) (Or.inl ⟨by kernel_rfl, fun w _ => by kernel_rfl⟩) hHeld ?_
          refine wpAnyH_take (i := 4) (v := .int .i64 p) rfl (by kernel_rfl) (by kernel_rfl) (by kernel_rfl) (fun _ _ _ h => h) (Or.inl ⟨by kernel_rfl, fun w _ => by kernel_rfl⟩) hHeld ?_
          refine wpAnyH_ready (rs := [5]) (by kernel_rfl) (by simp) ?_
          refine AllReadyH.cons rfl (fun K hK => ?_) AllReadyH.nil
          go_simp
          refine (T53.out _).mono ?_
          rintro e z2 ⟨rfl, hk⟩
          have K2 := hid (K1.out.trans hk)
          clear hk
          go_simp
          refine hK.out _ _ (CB.out _ K2.out) (fun hHeld => ?_)
          refine wpAnyH_take (i := 6) (v := .bool true) rfl (by kernel_rfl) (by kernel_rfl) (by kernel_rfl) (fun _ _ _ h => h) (Or.inl ⟨by kernel_rfl, fun w _ => by kernel_rfl⟩) hHeld ?_
          refine wpAnyH_ready (rs := [8]) (by kernel_rfl) (by simp) ?_
          refine AllReadyH.cons rfl (fun K hK => ?_) AllReadyH.nil
          go_simp
          refine (HA.out _ K2.out).mono ?_
          rintro e z3 ⟨rfl, hk⟩
          have K3 := hid (K2.out.trans hk)
          clear hk
          go_simp
          refine hK.out _ _ (CB.out _ K3.out) (fun hHeld => ?_)
          refine wpAnyH_take (i := 9) (v := .int .i64 0) rfl (by kernel_rfl) (by kernel_rfl) (by kernel_rfl) (fun _ _ _ h => h) (Or.inl ⟨by kernel_rfl, fun w _ => by kernel_rfl⟩) hHeld ?_
          refine wpAnyH_done (by kernel_rfl) ?_ _
          refine hKK _ _ ?_
          have c1 := (CB.out _ K3.out).1
          have c2 := (CB.out _ K3.out).2
          go_wp2_with fail
          refine (HM.out _ K3.out).mono ?_
          rintro e z4 ⟨rfl, hK4⟩
          have K4 := hid (K3.out.trans hK4)
          clear hK4 c1 c2
          have c1 := (CB.out _ K4.out).1
          have c2 := (CB.out _ K4.out).2
          go_wp2_with fail
          refine (HH.out _ K4.out).mono ?_
          rintro e z5 ⟨rfl, hT5⟩
          have T5 := hid ((hT5.first K4.out).first K0.out)
          clear hT5 c1 c2
          go_wp2
          go_ret2
          exact ⟨rfl, T5.out⟩
      · rw [if_neg hE, show decide (E = 0) = false by simp [hE], Bool.false_and]
        have hne : (E != 0) = true := by simp [hE]
        clear hE hcs ht hp
        go_enter Try.func19, Try.ntmps19
        go_wp2_with fail
        rw [HW.out]
        rename_i QQ KK hKK
        refine wp_region_held_drew (S := fun W : World => W.cell? ⟨w.heap.size, 0, none⟩ = some (.pointer (some ⟨lb, 0, none⟩)) ∧ W.cell? ⟨w.heap.size + 1, 0, none⟩ = some (.int .i64 t)) (by kernel_rfl) (CB.out _ (Kp.drew _ _)) (fun hHeld => ?_)
        refine wpAnyH_take (i := 0) (v := .pointer (some ⟨lb, 0, none⟩)) rfl (by kernel_rfl) (by kernel_rfl) (by kernel_rfl) (fun _ _ _ h => h) (Or.inl ⟨by kernel_rfl, by intro w hSw; obtain ⟨s1, s2⟩ := hSw; go_simp⟩) hHeld ?_
        refine wpAnyH_take (i := 1) (v := .int .i64 t) rfl (by kernel_rfl) (by kernel_rfl) (by kernel_rfl) (fun _ _ _ h => h) (Or.inl ⟨by kernel_rfl, by intro w hSw; obtain ⟨s1, s2⟩ := hSw; go_simp⟩) hHeld ?_
        refine wpAnyH_take (i := 7) (v := .func (.func 54) #[] #[.pointer (some ⟨w.heap.size, 0, none⟩), .pointer (some ⟨w.heap.size + 1, 0, none⟩)]) rfl (by kernel_rfl) (by kernel_rfl) (by kernel_rfl) (fun _ _ _ h => h) (Or.inl ⟨by kernel_rfl, fun w _ => by kernel_rfl⟩) hHeld ?_
        refine wpAnyH_ready (rs := [2]) (by kernel_rfl) (by simp) ?_
        refine AllReadyH.cons rfl (fun K hK => ?_) AllReadyH.nil
        go_simp
        refine (T52.out _).mono ?_
        rintro e z1 ⟨rfl, hk⟩
        have K1 := hid ((Kp.drew W0 []).trans hk)
        clear hk
        go_simp
        refine hK.out _ _ (CB.out _ K1.out) (fun hHeld => ?_)
        refine wpAnyH_take (i := 3) (v := .bool true) rfl (by kernel_rfl) (by kernel_rfl) (by kernel_rfl) (fun _ _ _ h => h) (Or.inl ⟨by kernel_rfl, fun w _ => by kernel_rfl⟩) hHeld ?_
        refine wpAnyH_take (i := 4) (v := .int .i64 p) rfl (by kernel_rfl) (by kernel_rfl) (by kernel_rfl) (fun _ _ _ h => h) (Or.inl ⟨by kernel_rfl, fun w _ => by kernel_rfl⟩) hHeld ?_
        refine wpAnyH_ready (rs := [5]) (by kernel_rfl) (by simp) ?_
        refine AllReadyH.cons rfl (fun K hK => ?_) AllReadyH.nil
        go_simp
        refine (T53.out _).mono ?_
        rintro e z2 ⟨rfl, hk⟩
        have K2 := hid (K1.out.trans hk)
        clear hk
        go_simp
        refine hK.out _ _ (CB.out _ K2.out) (fun hHeld => ?_)
        refine wpAnyH_take (i := 6) (v := .bool true) rfl (by kernel_rfl) (by kernel_rfl) (by kernel_rfl) (fun _ _ _ h => h) (Or.inl ⟨by kernel_rfl, fun w _ => by kernel_rfl⟩) hHeld ?_
        refine wpAnyH_ready (rs := [8]) (by kernel_rfl) (by simp) ?_
        refine AllReadyH.cons rfl (fun K hK => ?_) AllReadyH.nil
        go_simp
        refine (HA.out _ K2.out).mono ?_
        rintro e z3 ⟨rfl, hk⟩
        have K3 := hid (K2.out.trans hk)
        clear hk
        go_simp
        refine hK.out _ _ (CB.out _ K3.out) (fun hHeld => ?_)
        refine wpAnyH_take (i := 9) (v := .int .i64 E) rfl (by kernel_rfl) (by kernel_rfl) (by kernel_rfl) (fun _ _ _ h => h) (Or.inl ⟨by kernel_rfl, fun w _ => by kernel_rfl⟩) hHeld ?_
        refine wpAnyH_done (by kernel_rfl) ?_ _
        refine hKK _ _ ?_
        have c1 := (CB.out _ K3.out).1
        have c2 := (CB.out _ K3.out).2
        go_wp2
        go_ret2
        exact ⟨rfl, (To.stay (HL.out _ (Kp.refl _ _)) K3.out).first K0.out⟩
end Go.Proofs.Ytcfjlmkeomiiaaa
