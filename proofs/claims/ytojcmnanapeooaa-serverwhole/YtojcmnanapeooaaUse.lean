/- Use. -/
import Derived.Test.YtojcmnanapeooaaChange
namespace Go.Proofs.Ytojcmnanapeooaa
open Go.RowKit Go.Shelf

set_option maxRecDepth 100000 in
set_option maxHeartbeats 1000000 in
theorem use_any (w : World) (sb : Nat) (v : Value) (s : Sv) (h : Sr w sb v s) : Calls Try.prog 15 #[.pointer (some ⟨sb, 0, none⟩)] w fun e w' => e = .returned (.tuple #[.bool (useB s), .int .i64 (useE s)]) ∧ Wt w w' sb v (useS s) := by
  have cz := zero_no w sb _ _ _ _ _ _ _ h.c h.ok.m1
  have ch := high_any w sb v s h
  have H := hid h
  have c3 := h.c.c.2.2.2.1
  have HO := hid (ok_use h.ok)
  cases ha : s.act with
  | false =>
    have e1 : useE s = 7 := by unfold useE; rw [ha]; rfl
    have e2 : useB s = false := by unfold useB; rw [ha]; rfl
    have e3 : useS s = s := by unfold useS; rw [ha]; rfl
    rw [e1, e2, e3]
    rw [ha] at c3
    clear h e1 e2 e3 HO ch
    go_enter Try.func15, Try.ntmps15
    go_wp2_with (first | (go_at_call 30; refine cz.mono ?_; rintro e w' ⟨rfl, rfl⟩))
    go_ret2
    exact ⟨rfl, Wt.refl H.out⟩
  | true =>
    rw [ha] at c3
    cases hh : highB s with
    | false =>
      have e1 : useE s = 7 := by unfold useE; rw [ha, hh]; rfl
      have e2 : useB s = false := by unfold useB; rw [ha, hh]; rfl
      have e3 : useS s = s := by unfold useS; rw [ha, hh]; rfl
      rw [e1, e2, e3]
      rw [hh] at ch
      clear h e1 e2 e3 HO
      go_enter Try.func15, Try.ntmps15
      go_wp2_with (first | (go_at_call 30; refine cz.mono ?_; rintro e w' ⟨rfl, rfl⟩) | (go_at_call 21; refine ch.mono ?_; rintro e w' ⟨rfl, k, rfl⟩))
      go_ret2
      exact ⟨rfl, Wt.same H.out (Kp.drewN _ _ _)⟩
    | true =>
      have e1 : useE s = 0 := by unfold useE; rw [ha, hh]; rfl
      have e2 : useB s = decide (s.left = 1) := by unfold useB; rw [ha, hh]; rfl
      have e3 : useS s = if s.left = 1 then overS (tookS s) 0 else tookS s := by unfold useS; rw [ha, hh]; rfl
      rw [e1, e2]
      rw [e3] at HO ⊢
      rw [hh] at ch
      have hl := (high_iff.1 hh).1
      have hb : s.left ≤ 1099511627776 ∧ 0 ≤ s.used ∧ s.used ≤ 1099511627776 := by
        have := h.ok.all
        have := h.ok.sum
        have := h.ok.u0
        have := h.ok.l0
        have := h.ok.bp
        have := h.ok.pm
        omega
      have hp0 : 0 ≤ s.per := by have := h.ok.b1; have := h.ok.bp; omega
      have cE := hid (fun (W : World) (hc : Sc W sb s.per s.most (s.left - 1) true s.since (s.used + 1) v) (hr : Dr W 0 v s.pcs) => end_any W sb _ _ _ _ _ _ _ s.pcs s.since hc hr h.ok.si.1 h.ok.si.2 hp0 h.ok.pm h.ok.plen)
      have hself := hid (at_self (p := s.per) h.ok.si.1 h.ok.si.2 hp0)
      have HA := hid ha
      clear e1 e2 e3 ha hh
      obtain ⟨bu, p, m, l, a, si, u, P⟩ := s
      have ha : a = true := HA.out
      subst ha
      obtain ⟨-, -, c2, -, c4, c5, -⟩ := h.c.c
      have f2 := h.c.free 2
      have f5 := h.c.free 5
      simp only at c2 c3 c4 c5 hl hb cE hself ⊢
      have hwl : IntKind.i64.wrap (l - 1) = l - 1 := by rw [IntKind.wrap_i64]; omega
      have hwu : IntKind.i64.wrap (u + 1) = u + 1 := by rw [IntKind.wrap_i64]; omega
      have HT := hid (fun (W : World) (hk : Kp w W []) => (show Sc ((W.setCell ⟨sb, 2, none⟩ (.int .i64 (l - 1))).setCell ⟨sb, 5, none⟩ (.int .i64 (u + 1))) sb p m (l - 1) true si (u + 1) v ∧ Dr ((W.setCell ⟨sb, 2, none⟩ (.int .i64 (l - 1))).setCell ⟨sb, 5, none⟩ (.int .i64 (u + 1))) 0 v P ∧ Kp w ((W.setCell ⟨sb, 2, none⟩ (.int .i64 (l - 1))).setCell ⟨sb, 5, none⟩ (.int .i64 (u + 1))) [sb] from by
        have hs := H.out.same hk
        have kk : Kp W ((W.setCell ⟨sb, 2, none⟩ (.int .i64 (l - 1))).setCell ⟨sb, 5, none⟩ (.int .i64 (u + 1))) [sb] := (Kp.setCell W ⟨sb, 2, none⟩ _).trans (Kp.setCell _ ⟨sb, 5, none⟩ _)
        exact ⟨(hs.c.set2 _).set5 _, hs.row.kp kk fun g hg e => hs.row.apart hs.c (by decide) (by simp only [List.mem_singleton] at e; rw [← e]; exact hg), hk.nil.trans kk⟩))
      clear h
      by_cases h1 : l = 1
      · have h1' := h1
        rw [if_pos h1] at HO
        rw [if_pos h1, decide_eq_true h1]
        have hz : l - 1 = 0 := by omega
        obtain ⟨S', hS'⟩ : ∃ S', overS (tookS ⟨bu, p, m, l, true, si, u, P⟩) 0 = S' := ⟨_, rfl⟩
        rw [hS'] at HO ⊢
        have HS' := hid hS'
        have hng : ¬ (0 : Int) < l - 1 := by omega
        clear hS' h1 h1' hz
        go_enter Try.func15, Try.ntmps15
        go_wp2_with (first | (go_at_call 30; refine cz.mono ?_; rintro e w' ⟨rfl, rfl⟩) | (go_at_call 21; refine ch.mono ?_; rintro e w' ⟨rfl, k, rfl⟩) | (go_at_call 32; refine (cE.out _ (HT.out _ (Kp.drewN _ _ _)).1 (HT.out _ (Kp.drewN _ _ _)).2.1).mono ?_; rintro e w' ⟨rfl, hE⟩; have HE := hid hE; clear hE))
        go_ret2
        refine ⟨rfl, ?_⟩
        obtain ⟨t1, t2, t3⟩ := HT.out _ (Kp.drewN _ k [])
        obtain ⟨⟨v', q1, q2, q3⟩, q4⟩ := HE.out
        have hu1 : 0 < u + 1 := by omega
        refine ⟨⟨v', ⟨?_, ?_, HO.out⟩, fun g hg => ?_⟩, (t3.mono (by intro x hx _; simp at hx; simp [hx])).trans q4⟩
        · rw [← HS'.out]; exact q1
        · rw [← HS'.out, over_pcs]
          unfold endP at q2 ⊢
          rw [if_pos hu1] at q2
          rw [hself.out] at q2
          show Dr w' 0 v' (if 0 < u + 1 then P ++ [(atT si p 0, u + 1)] else P)
          rw [if_pos hu1]
          exact q2
        · rcases q3 g hg with r | r
          · exact .inl r
          · exact .inr (Nat.le_trans t3.size r)
      · rw [if_neg h1] at HO
        rw [if_neg h1, decide_eq_false h1]
        have hg : (0 : Int) < l - 1 := by omega
        obtain ⟨S', hS'⟩ : ∃ S', tookS ⟨bu, p, m, l, true, si, u, P⟩ = S' := ⟨_, rfl⟩
        rw [hS'] at HO ⊢
        have HS' := hid hS'
        clear hS' h1
        go_enter Try.func15, Try.ntmps15
        go_wp2_with (first | (go_at_call 30; refine cz.mono ?_; rintro e w' ⟨rfl, rfl⟩) | (go_at_call 21; refine ch.mono ?_; rintro e w' ⟨rfl, k, rfl⟩))
        go_ret2
        refine ⟨rfl, ?_⟩
        obtain ⟨t1, t2, t3⟩ := HT.out _ (Kp.drewN _ k [])
        exact Wt.own (by rw [← HS'.out]; exact t1) t3 H.out (by rw [← HS'.out]; rfl) HO.out
end Go.Proofs.Ytojcmnanapeooaa
