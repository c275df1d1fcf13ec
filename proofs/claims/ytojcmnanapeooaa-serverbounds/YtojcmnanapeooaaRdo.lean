/- The reference: Start, Stop, Use. -/
import Derived.Test.YtojcmnanapeooaaRef
namespace Go.Proofs.Ytojcmnanapeooaa
open Go.RowKit Go.Shelf

theorem mayT_no {now : Int} (h : mayT now = false) : now < 0 ∨ 1099511627776 < now := by
  by_cases h1 : now < 0
  · exact .inl h1
  · by_cases h2 : 1099511627776 < now
    · exact .inr h2
    · rw [mayT_iff.2 ⟨by omega, by omega⟩] at h; cases h
set_option maxRecDepth 100000 in
theorem rstart_any (w : World) (sb : Nat) (v : Value) (s : Sv) (now : Int) (h : Rr w sb v s) : Calls Try.prog 25 #[.pointer (some ⟨sb, 0, none⟩), .int .i64 now] w fun e w' => e = .returned (.int .i64 (startE s now)) ∧ Rt w w' sb v (startS s now) := by
  have H := hid h
  have f4 := h.c.free 4
  have f5 := h.c.free 5
  have f6 := h.c.free 6
  have c4 := h.c.c.2.2.2.1
  have c5 := h.c.c.2.2.2.2.1
  have c6 := h.c.c.2.2.2.2.2.1
  have HO := hid (ok_start h.ok now)
  have HS : startS s now = if startE s now = 0 then { s with act := true, since := now, used := 0 } else s := rfl
  clear h
  cases hm : mayT now with
  | false =>
    have e0 : startE s now = 2 := by unfold startE; rw [hm]; rfl
    rw [e0] at HS ⊢
    rw [HS, if_neg (by decide)]
    clear HS e0 HO
    rcases mayT_no hm with hq | hq
    · clear hm
      go_enter Try.func25, Try.ntmps25
      go_wp2
      go_ret
      exact ⟨rfl, Rt.refl H.out⟩
    · clear hm
      have hq0 : ¬ now < 0 := by omega
      go_enter Try.func25, Try.ntmps25
      go_wp2
      go_ret
      exact ⟨rfl, Rt.refl H.out⟩
  | true =>
    obtain ⟨hq0, hq1⟩ := mayT_iff.1 hm
    have d0 : decide (now < 0) = false := decide_eq_false (by omega)
    have d1 : decide (1099511627776 < now) = false := decide_eq_false (by omega)
    cases ha : s.act with
    | true =>
      have e0 : startE s now = 7 := by unfold startE; rw [hm, ha]; rfl
      rw [e0] at HS ⊢
      rw [HS, if_neg (by decide)]
      rw [ha] at c4
      clear HS e0 HO hm
      go_enter Try.func25, Try.ntmps25
      go_wp2
      go_ret
      exact ⟨rfl, Rt.refl H.out⟩
    | false =>
      have e0 : startE s now = 0 := by unfold startE; rw [hm, ha]; rfl
      rw [e0] at HS ⊢
      rw [if_pos rfl] at HS
      rw [HS] at HO ⊢
      rw [ha] at c4
      have HF := hid (show Rt w (((w.setCell ⟨sb, 4, none⟩ (.bool true)).setCell ⟨sb, 5, none⟩ (.int .i64 now)).setCell ⟨sb, 6, none⟩ (.int .i64 0)) sb v { s with act := true, since := now, used := 0 } from
        Rt.own (((H.out.c.set4 true).set5 now).set6 0) (((Kp.setCell w ⟨sb, 4, none⟩ _).trans (Kp.setCell _ ⟨sb, 5, none⟩ _)).trans (Kp.setCell _ ⟨sb, 6, none⟩ _)) H.out rfl HO.out)
      obtain ⟨S', hS'⟩ : ∃ S', ({ s with act := true, since := now, used := 0 } : Sv) = S' := ⟨_, rfl⟩
      rw [hS'] at HF ⊢
      clear HS e0 HO hS' hm
      go_enter Try.func25, Try.ntmps25
      go_wp2
      go_ret
      exact ⟨rfl, HF.out⟩
set_option maxRecDepth 100000 in
theorem rstop_any (hat : AtSame) (w : World) (sb : Nat) (v : Value) (s : Sv) (now : Int) (h : Rr w sb v s) : Calls Try.prog 27 #[.pointer (some ⟨sb, 0, none⟩), .int .i64 now] w fun e w' => e = .returned (.int .i64 (stopE s now)) ∧ Rt w w' sb v (stopS s now) := by
  have hp0 : 0 ≤ s.per := by have := h.ok.b1; have := h.ok.bp; omega
  have ce := hid (over_any hat w sb _ _ _ _ _ _ _ _ s.pcs now h.c h.row h.ok.si.1 h.ok.si.2 hp0 h.ok.pm h.ok.plen)
  have H := hid h
  have c4 := h.c.c.2.2.2.1
  have HO := hid (ok_stop h.ok now)
  have HS : stopS s now = if stopE s now = 0 then overS s now else s := rfl
  clear h hp0 hat
  cases hm : mayT now with
  | false =>
    have e0 : stopE s now = 2 := by unfold stopE; rw [hm]; rfl
    rw [e0] at HS ⊢
    rw [HS, if_neg (by decide)]
    clear HS e0 HO
    rcases mayT_no hm with hq | hq
    · clear hm
      go_enter Try.func27, Try.ntmps27
      go_wp2
      go_ret
      exact ⟨rfl, Rt.refl H.out⟩
    · clear hm
      have hq0 : ¬ now < 0 := by omega
      go_enter Try.func27, Try.ntmps27
      go_wp2
      go_ret
      exact ⟨rfl, Rt.refl H.out⟩
  | true =>
    obtain ⟨hq0, hq1⟩ := mayT_iff.1 hm
    have d0 : decide (now < 0) = false := decide_eq_false (by omega)
    have d1 : decide (1099511627776 < now) = false := decide_eq_false (by omega)
    cases ha : s.act with
    | false =>
      have e0 : stopE s now = 7 := by unfold stopE; rw [hm, ha]; rfl
      rw [e0] at HS ⊢
      rw [HS, if_neg (by decide)]
      rw [ha] at c4
      clear HS e0 HO hm
      go_enter Try.func27, Try.ntmps27
      go_wp2
      go_ret
      exact ⟨rfl, Rt.refl H.out⟩
    | true =>
      have e0 : stopE s now = 0 := by unfold stopE; rw [hm, ha]; rfl
      rw [e0] at HS ⊢
      rw [if_pos rfl] at HS
      rw [HS] at HO ⊢
      rw [ha] at c4
      obtain ⟨S', hS'⟩ : ∃ S', overS s now = S' := ⟨_, rfl⟩
      rw [hS'] at HO ⊢
      have HS' := hid hS'
      clear HS e0 hS' hm
      go_enter Try.func27, Try.ntmps27
      go_wp2_with (go_at_call 37; refine ce.out.mono ?_; rintro e w' ⟨rfl, hE⟩; have HE := hid hE; clear hE)
      go_ret
      obtain ⟨⟨v', a, b, c⟩, k⟩ := HE.out
      refine ⟨rfl, ⟨⟨v', ⟨?_, ?_, HO.out⟩, c⟩, k⟩⟩
      · rw [← HS'.out]; exact a
      · rw [← HS'.out]; exact b
set_option maxRecDepth 100000 in
set_option maxHeartbeats 1000000 in
theorem ruse_any (hat : AtSame) (w : World) (sb : Nat) (v : Value) (s : Sv) (h : Rr w sb v s) : Calls Try.prog 26 #[.pointer (some ⟨sb, 0, none⟩)] w fun e w' => e = .returned (.tuple #[.bool (useB s), .int .i64 (useE s)]) ∧ Rt w w' sb v (useS s) := by
  have ch := rhigh_any w sb v s h
  have H := hid h
  have c4 := h.c.c.2.2.2.1
  have HO := hid (ok_use h.ok)
  cases ha : s.act with
  | false =>
    have e1 : useE s = 7 := by unfold useE; rw [ha]; rfl
    have e2 : useB s = false := by unfold useB; rw [ha]; rfl
    have e3 : useS s = s := by unfold useS; rw [ha]; rfl
    rw [e1, e2, e3]
    rw [ha] at c4
    clear h e1 e2 e3 HO ch hat
    go_enter Try.func26, Try.ntmps26
    go_wp2
    go_ret2
    exact ⟨rfl, Rt.refl H.out⟩
  | true =>
    rw [ha] at c4
    cases hh : highB s with
    | false =>
      have e1 : useE s = 7 := by unfold useE; rw [ha, hh]; rfl
      have e2 : useB s = false := by unfold useB; rw [ha, hh]; rfl
      have e3 : useS s = s := by unfold useS; rw [ha, hh]; rfl
      rw [e1, e2, e3]
      rw [hh] at ch
      clear h e1 e2 e3 HO hat
      go_enter Try.func26, Try.ntmps26
      go_wp2_with (go_at_call 29; refine ch.mono ?_; rintro e w' ⟨rfl, k, rfl⟩)
      go_ret2
      exact ⟨rfl, ⟨v, H.out.same (Kp.drewN _ _ _), fun _ hg => .inl hg⟩, (Kp.drewN _ _ _)⟩
    | true =>
      have e1 : useE s = 0 := by unfold useE; rw [ha, hh]; rfl
      have e2 : useB s = decide (s.left = 1) := by unfold useB; rw [ha, hh]; rfl
      have e3 : useS s = if s.left = 1 then overS (tookS s) 0 else tookS s := by unfold useS; rw [ha, hh]; rfl
      rw [e1, e2]
      rw [e3] at HO ⊢
      rw [hh] at ch
      have hl := (high_iff.1 hh).1
      have hb : s.left ≤ 1099511627776 ∧ 0 ≤ s.used ∧ s.used ≤ 1099511627776 := by
        have := h.ok.all
        have := h.ok.sum
        have := h.ok.u0
        have := h.ok.l0
        have := h.ok.bp
        have := h.ok.pm
        omega
      have hp0 : 0 ≤ s.per := by have := h.ok.b1; have := h.ok.bp; omega
      have cE := hid (fun (W : World) (hc : Rc W sb s.bud s.per s.most (s.left - 1) true s.since (s.used + 1) v) (hr : Dr W 0 v s.pcs) => over_any hat W sb _ _ _ _ _ _ _ _ s.pcs 0 hc hr h.ok.si.1 h.ok.si.2 hp0 h.ok.pm h.ok.plen)
      have HA := hid ha
      clear e1 e2 e3 ha hh hat
      obtain ⟨bu, p, m, l, a, si, u, P⟩ := s
      have ha : a = true := HA.out
      subst ha
      obtain ⟨-, -, c3, -, c5, c6, -⟩ := h.c.c
      have f3 := h.c.free 3
      have f6 := h.c.free 6
      simp only at c3 c4 c5 c6 hl hb cE ⊢
      have hwl : IntKind.i64.wrap (l - 1) = l - 1 := by rw [IntKind.wrap_i64]; omega
      have hwu : IntKind.i64.wrap (u + 1) = u + 1 := by rw [IntKind.wrap_i64]; omega
      have HT := hid (fun (W : World) (hk : Kp w W []) => (show Rc ((W.setCell ⟨sb, 3, none⟩ (.int .i64 (l - 1))).setCell ⟨sb, 6, none⟩ (.int .i64 (u + 1))) sb bu p m (l - 1) true si (u + 1) v ∧ Dr ((W.setCell ⟨sb, 3, none⟩ (.int .i64 (l - 1))).setCell ⟨sb, 6, none⟩ (.int .i64 (u + 1))) 0 v P ∧ Kp w ((W.setCell ⟨sb, 3, none⟩ (.int .i64 (l - 1))).setCell ⟨sb, 6, none⟩ (.int .i64 (u + 1))) [sb] from by
        have hs := H.out.same hk
        have kk : Kp W ((W.setCell ⟨sb, 3, none⟩ (.int .i64 (l - 1))).setCell ⟨sb, 6, none⟩ (.int .i64 (u + 1))) [sb] := (Kp.setCell W ⟨sb, 3, none⟩ _).trans (Kp.setCell _ ⟨sb, 6, none⟩ _)
        exact ⟨(hs.c.set3 _).set6 _, hs.row.kp kk fun g hg e => hs.row.apart hs.c (by decide) (by simp only [List.mem_singleton] at e; rw [← e]; exact hg), hk.nil.trans kk⟩))
      clear h
      by_cases h1 : l = 1
      · rw [if_pos h1] at HO
        rw [if_pos h1, decide_eq_true h1]
        have hz : (l - 1 == 0) = true := by rw [beq_iff_eq]; omega
        obtain ⟨S', hS'⟩ : ∃ S', overS (tookS ⟨bu, p, m, l, true, si, u, P⟩) 0 = S' := ⟨_, rfl⟩
        rw [hS'] at HO ⊢
        have HS' := hid hS'
        clear hS' h1
        go_enter Try.func26, Try.ntmps26
        go_wp2_with (first | (go_at_call 29; refine ch.mono ?_; rintro e w' ⟨rfl, k, rfl⟩) | (go_at_call 37; refine (cE.out _ (HT.out _ (Kp.drewN _ _ _)).1 (HT.out _ (Kp.drewN _ _ _)).2.1).mono ?_; rintro e w' ⟨rfl, hE⟩; have HE := hid hE; clear hE))
        go_ret2
        refine ⟨rfl, ?_⟩
        obtain ⟨t1, t2, t3⟩ := HT.out _ (Kp.drewN _ k [])
        obtain ⟨⟨v', q1, q2, q3⟩, q4⟩ := HE.out
        refine ⟨⟨v', ⟨?_, ?_, HO.out⟩, fun g hg => ?_⟩, (t3.mono (by intro x hx _; simp at hx; simp [hx])).trans q4⟩
        · rw [← HS'.out]; exact q1
        · rw [← HS'.out]; exact q2
        · rcases q3 g hg with r | r
          · exact .inl r
          · exact .inr (Nat.le_trans t3.size r)
      · rw [if_neg h1] at HO
        rw [if_neg h1, decide_eq_false h1]
        have hg : (l - 1 == 0) = false := by rw [beq_eq_false_iff_ne]; omega
        obtain ⟨S', hS'⟩ : ∃ S', tookS ⟨bu, p, m, l, true, si, u, P⟩ = S' := ⟨_, rfl⟩
        rw [hS'] at HO ⊢
        have HS' := hid hS'
        clear hS' h1
        go_enter Try.func26, Try.ntmps26
        go_wp2_with (go_at_call 29; refine ch.mono ?_; rintro e w' ⟨rfl, k, rfl⟩)
        go_ret2
        refine ⟨rfl, ?_⟩
        obtain ⟨t1, t2, t3⟩ := HT.out _ (Kp.drewN _ k [])
        exact Rt.own (by rw [← HS'.out]; exact t1) t3 H.out (by rw [← HS'.out]; rfl) HO.out
end Go.Proofs.Ytojcmnanapeooaa
