/- do: one step of kind 0. -/
import Derived.BigQuiet
import Derived.Deep.RegionHeldLaw
import Derived.Deep.RegionWith
import Derived.Test.YtllkopekfanfaaaPa
namespace Go.Proofs.Ytllkopekfanfaaa
open Go.RowKit Go.Shelf Go.Lib Go.Sort Go.Maps
attribute [local go_sem] Oper.semAt_some

set_option maxRecDepth 100000 in
set_option maxHeartbeats 4000000 in
theorem do0 (w : World) (qb rb : Nat) (Q : List Nat) (M : Qs) (k t p x y : Int) (hi : i64 t) (k1 : k ≠ 1) (k2 : k ≠ 2) (k3 : k ≠ 3) (k4 : k ≠ 4) (k5 : k ≠ 5) (h : Pa w qb rb Q M) : Calls Try.prog 11 #[.pointer (some ⟨qb, 0, none⟩), .pointer (some ⟨rb, 0, none⟩), .agg #[.int .i64 k, .int .i64 t, .int .i64 p, .int .i64 x, .int .i64 y]] w fun e w' => Did w w' rb Q (M) e := by
  obtain ⟨R, sb, tb, B, rfl, hs, hr, h3, ok⟩ := h
  have HOK := hid ok
  obtain ⟨W0, hW0⟩ : ∃ W0, w.alloc (.cells #[.int .i64 k, .int .i64 t, .int .i64 p, .int .i64 x, .int .i64 y] 36) = W0 := ⟨_, rfl⟩
  obtain ⟨c0, c1, c2, c3, c4⟩ := cellS5 w (.int .i64 k) (.int .i64 t) (.int .i64 p) (.int .i64 x) (.int .i64 y)
  have kk : Kp w W0 [] := by rw [← hW0]; exact Kp.alloc _ _ _
  have S0 := hid (hs.same kk)
  have Q0 := hid (hr.same kk)
  have HN := hid h3
  have K0 := hid kk
  have HS := hid kk.size
  rw [hW0] at c0 c1 c2 c3 c4
  have hbx : w.heap.size ∉ R ++ (rb :: sb :: tb :: B.toList) := fun hm => by
    rcases List.mem_append.1 hm with hm | hm
    · have := hs.lt _ hm; omega
    · have := hr.lt _ hm; omega
  have CC := hid (fun (w1 : World) (hk : Kp W0 w1 (R ++ (rb :: sb :: tb :: B.toList))) => And.intro (hk.cell c0 hbx) (And.intro (hk.cell c1 hbx) (And.intro (hk.cell c2 hbx) (And.intro (hk.cell c3 hbx) (hk.cell c4 hbx)))))
  have KA := hid (show ∀ (A C : World), Kp A C R → Kp A C (R ++ (rb :: sb :: tb :: B.toList)) from fun _ _ h => h.mono (fun x hx _ => List.mem_append_left _ hx))
  have KB := hid (show ∀ (A C : World), Kp A C [rb, sb, tb] → Kp A C (R ++ (rb :: sb :: tb :: B.toList)) from fun _ _ h => h.mono (fun x hx _ => List.mem_append_right _ (by
    simp only [List.mem_cons, List.not_mem_nil, or_false] at hx ⊢
    rcases hx with hx | hx | hx
    · exact .inl hx
    · exact .inr (.inl hx)
    · exact .inr (.inr (.inl hx)))))
  have FIN := hid (fun (w1 w2 : World) (M' : Qs) (hm : Qok M') (ha : To W0 w1 qb R M') (hb : Rto w1 w2 rb sb tb B M') => (show ∃ Q', Pa w2 qb rb Q' M' ∧ Nw w (R ++ (rb :: sb :: tb :: B.toList)) Q' ∧ Kp w w2 (R ++ (rb :: sb :: tb :: B.toList)) from by
    obtain ⟨Q', x1, x2, x3⟩ := pa_fin Q0.out HN.out hm ha hb
    exact ⟨Q', x1, fun y hy => (x2 y hy).imp id (fun h => Nat.le_trans HS.out h), K0.out.nil.trans x3⟩))
  have MID := hid (fun (w1 : World) (M' : Qs) (ha : To W0 w1 qb R M') => Rq.mid S0.out Q0.out HN.out ha)
  have HI := hid hi
  clear hs hr h3 ok kk hbx hi
  have kf1 : (k == 1) = false := by simp [k1]
  have kf2 : (k == 2) = false := by simp [k2]
  have kf3 : (k == 3) = false := by simp [k3]
  have kf4 : (k == 4) = false := by simp [k4]
  have kf5 : (k == 5) = false := by simp [k5]
  have F := hid (FIN.out W0 W0 M HOK.out (To.stay S0.out (Kp.refl _ _)) (Rto.stay Q0.out (Kp.refl _ _)))
  clear k1 k2 k3 k4 k5
  go_enter Try.func11, Try.ntmps11
  go_wp2
  refine bodyPost_ret (results_tmp3 rfl _ _ _) rfl ?_
  obtain ⟨Q', g1, g2, g3⟩ := F.out
  exact ⟨qb, Q', by simp, g1, g2, g3⟩
end Go.Proofs.Ytllkopekfanfaaa

/- do: one step of kind 1. -/
namespace Go.Proofs.Ytllkopekfanfaaa
open Go.RowKit Go.Shelf Go.Lib Go.Sort Go.Maps
attribute [local go_sem] Oper.semAt_some

set_option maxRecDepth 100000 in
set_option maxHeartbeats 4000000 in
theorem do1 (w : World) (qb rb : Nat) (Q : List Nat) (M : Qs) (t p x y : Int) (hi : i64 t) (h : Pa w qb rb Q M) : Calls Try.prog 11 #[.pointer (some ⟨qb, 0, none⟩), .pointer (some ⟨rb, 0, none⟩), .agg #[.int .i64 1, .int .i64 t, .int .i64 p, .int .i64 x, .int .i64 y]] w fun e w' => Did w w' rb Q (sendMM M t p (x, y)) e := by
  obtain ⟨R, sb, tb, B, rfl, hs, hr, h3, ok⟩ := h
  have HOK := hid ok
  obtain ⟨W0, hW0⟩ : ∃ W0, w.alloc (.cells #[.int .i64 1, .int .i64 t, .int .i64 p, .int .i64 x, .int .i64 y] 36) = W0 := ⟨_, rfl⟩
  obtain ⟨c0, c1, c2, c3, c4⟩ := cellS5 w (.int .i64 1) (.int .i64 t) (.int .i64 p) (.int .i64 x) (.int .i64 y)
  have kk : Kp w W0 [] := by rw [← hW0]; exact Kp.alloc _ _ _
  have S0 := hid (hs.same kk)
  have Q0 := hid (hr.same kk)
  have HN := hid h3
  have K0 := hid kk
  have HS := hid kk.size
  rw [hW0] at c0 c1 c2 c3 c4
  have hbx : w.heap.size ∉ R ++ (rb :: sb :: tb :: B.toList) := fun hm => by
    rcases List.mem_append.1 hm with hm | hm
    · have := hs.lt _ hm; omega
    · have := hr.lt _ hm; omega
  have CC := hid (fun (w1 : World) (hk : Kp W0 w1 (R ++ (rb :: sb :: tb :: B.toList))) => And.intro (hk.cell c0 hbx) (And.intro (hk.cell c1 hbx) (And.intro (hk.cell c2 hbx) (And.intro (hk.cell c3 hbx) (hk.cell c4 hbx)))))
  have KA := hid (show ∀ (A C : World), Kp A C R → Kp A C (R ++ (rb :: sb :: tb :: B.toList)) from fun _ _ h => h.mono (fun x hx _ => List.mem_append_left _ hx))
  have KB := hid (show ∀ (A C : World), Kp A C [rb, sb, tb] → Kp A C (R ++ (rb :: sb :: tb :: B.toList)) from fun _ _ h => h.mono (fun x hx _ => List.mem_append_right _ (by
    simp only [List.mem_cons, List.not_mem_nil, or_false] at hx ⊢
    rcases hx with hx | hx | hx
    · exact .inl hx
    · exact .inr (.inl hx)
    · exact .inr (.inr (.inl hx)))))
  have FIN := hid (fun (w1 w2 : World) (M' : Qs) (hm : Qok M') (ha : To W0 w1 qb R M') (hb : Rto w1 w2 rb sb tb B M') => (show ∃ Q', Pa w2 qb rb Q' M' ∧ Nw w (R ++ (rb :: sb :: tb :: B.toList)) Q' ∧ Kp w w2 (R ++ (rb :: sb :: tb :: B.toList)) from by
    obtain ⟨Q', x1, x2, x3⟩ := pa_fin Q0.out HN.out hm ha hb
    exact ⟨Q', x1, fun y hy => (x2 y hy).imp id (fun h => Nat.le_trans HS.out h), K0.out.nil.trans x3⟩))
  have MID := hid (fun (w1 : World) (M' : Qs) (ha : To W0 w1 qb R M') => Rq.mid S0.out Q0.out HN.out ha)
  have HI := hid hi
  clear hs hr h3 ok kk hbx hi
  obtain ⟨d, a1, a2, a3, hab⟩ := sendVV_ex M t p (x, y)
  obtain ⟨E, hE⟩ : ∃ E, sendE M t p (x, y) = E := ⟨_, rfl⟩
  have HOM := hid (HOK.out.sendMM t p (x, y))
  have HC1 := send_yes S0.out t p (x, y) HI.out
  have HC2 := fun z (hr : Rq z rb sb tb B M) => rsend_any hr HOK.out t p (x, y)
  rw [hab, hE] at HC1
  simp only [hab, hE] at HC2
  obtain ⟨M', hM'⟩ : ∃ M', sendMM M t p (x, y) = M' := ⟨_, rfl⟩
  rw [hM'] at HC1 HOM ⊢
  simp only [hM'] at HC2
  replace HC1 := hid HC1
  replace HC2 := hid HC2
  clear hab hE hM'
  go_enter Try.func11, Try.ntmps11
  go_wp2_with fail
  refine HC1.out.mono ?_
  rintro e z1 ⟨rfl, hT⟩
  have HTo := hid hT
  obtain ⟨d0, d1, d2, d3, d4⟩ := CC.out (z1.alloc (.cells #[.bool d, .int .i64 a1, .int .i64 a2, .int .i64 a3] 45)) ((KA.out _ _ hT.kp).trans (Kp.alloc _ _ _))
  clear hT c0 c1 c2 c3 c4
  go_wp2_with fail
  have T2 := HTo.out.more (Kp.alloc z1 (.cells #[.bool d, .int .i64 a1, .int .i64 a2, .int .i64 a3] 45) [])
  have X2 : Bp (z1.alloc (.cells #[.bool d, .int .i64 a1, .int .i64 a2, .int .i64 a3] 45)) z1.heap.size d a1 a2 a3 := heap_alloc_new z1 _
  have HB1 : z1.heap.size ∉ [rb, sb, tb] := fun hm => by
    have h1 := Q0.out.lt z1.heap.size (by
      simp only [List.mem_cons, List.not_mem_nil, or_false] at hm ⊢
      rcases hm with hm | hm | hm
      · exact .inl hm
      · exact .inr (.inl hm)
      · exact .inr (.inr (.inl hm)))
    have := HTo.out.kp.size
    omega
  generalize z1.heap.size = p1 at X2 HB1 ⊢
  generalize z1.alloc (.cells #[.bool d, .int .i64 a1, .int .i64 a2, .int .i64 a3] 45) = y1 at d0 d1 d2 d3 d4 T2 X2 ⊢
  clear HTo
  have HTo := hid T2
  have HX2 := hid X2
  have HB2 := hid HB1
  clear T2 X2 HB1
  refine (HC2.out y1 (MID.out y1 _ HTo.out)).mono ?_
  rintro e z2 ⟨rfl, hR⟩
  have F := hid (FIN.out y1 z2 _ HOM.out HTo.out hR)
  have X3 := hid (HX2.out.keep (show Kp y1 z2 [rb, sb, tb] from by obtain ⟨B3, -, -, k3⟩ := hR; exact k3) HB2.out)
  clear hR d0 d1 d2 d3 d4 HTo
  have hp1 := lt_of_block X3.out
  have F2 := hid (show ∃ Q', Pa (z2.alloc (.cells #[.bool d, .int .i64 a1, .int .i64 a2, .int .i64 a3] 45)) qb rb Q' M' ∧ Nw w (R ++ (rb :: sb :: tb :: B.toList)) Q' ∧ Kp w (z2.alloc (.cells #[.bool d, .int .i64 a1, .int .i64 a2, .int .i64 a3] 45)) (R ++ (rb :: sb :: tb :: B.toList)) from by
    obtain ⟨Q', f1, f2, f3⟩ := F.out
    exact ⟨Q', f1.same (Kp.alloc _ _ _), f2, f3.trans (Kp.alloc _ _ _)⟩)
  clear F
  have F := F2
  clear F2
  have X4 := X3.out.keep (Kp.alloc z2 (.cells #[.bool d, .int .i64 a1, .int .i64 a2, .int .i64 a3] 45) []) (by simp)
  have X5 : Bp (z2.alloc (.cells #[.bool d, .int .i64 a1, .int .i64 a2, .int .i64 a3] 45)) z2.heap.size d a1 a2 a3 := heap_alloc_new z2 _
  have e0 := X4.c0
  have e1 := X4.c1
  have e2 := X4.c2
  have e3 := X4.c3
  have e5 := X5.c0
  have e6 := X5.c1
  have e7 := X5.c2
  have e8 := X5.c3
  clear X3 X4 X5 hp1
  have q45 := eql45 d d a1 a2 a3 a1 a2 a3
  simp only [beq_self_eq_true, Bool.and_self] at q45
  go_wp2_with fail
  refine (num_any _ _).mono ?_
  rintro e _ ⟨rfl, rfl⟩
  go_wp2
  refine bodyPost_ret (results_tmp3 rfl _ _ _) rfl ?_
  obtain ⟨Q', g1, g2, g3⟩ := F.out
  exact ⟨qb, Q', by simp, g1, g2, g3⟩
end Go.Proofs.Ytllkopekfanfaaa

/- do: one step of kind 2. -/
namespace Go.Proofs.Ytllkopekfanfaaa
open Go.RowKit Go.Shelf Go.Lib Go.Sort Go.Maps
attribute [local go_sem] Oper.semAt_some

set_option maxRecDepth 100000 in
set_option maxHeartbeats 4000000 in
theorem do2 (w : World) (qb rb : Nat) (Q : List Nat) (M : Qs) (t p x y : Int) (hi : i64 t) (h : Pa w qb rb Q M) : Calls Try.prog 11 #[.pointer (some ⟨qb, 0, none⟩), .pointer (some ⟨rb, 0, none⟩), .agg #[.int .i64 2, .int .i64 t, .int .i64 p, .int .i64 x, .int .i64 y]] w fun e w' => Did w w' rb Q (recMM M t p) e := by
  obtain ⟨R, sb, tb, B, rfl, hs, hr, h3, ok⟩ := h
  have HOK := hid ok
  obtain ⟨W0, hW0⟩ : ∃ W0, w.alloc (.cells #[.int .i64 2, .int .i64 t, .int .i64 p, .int .i64 x, .int .i64 y] 36) = W0 := ⟨_, rfl⟩
  obtain ⟨c0, c1, c2, c3, c4⟩ := cellS5 w (.int .i64 2) (.int .i64 t) (.int .i64 p) (.int .i64 x) (.int .i64 y)
  have kk : Kp w W0 [] := by rw [← hW0]; exact Kp.alloc _ _ _
  have S0 := hid (hs.same kk)
  have Q0 := hid (hr.same kk)
  have HN := hid h3
  have K0 := hid kk
  have HS := hid kk.size
  rw [hW0] at c0 c1 c2 c3 c4
  have hbx : w.heap.size ∉ R ++ (rb :: sb :: tb :: B.toList) := fun hm => by
    rcases List.mem_append.1 hm with hm | hm
    · have := hs.lt _ hm; omega
    · have := hr.lt _ hm; omega
  have CC := hid (fun (w1 : World) (hk : Kp W0 w1 (R ++ (rb :: sb :: tb :: B.toList))) => And.intro (hk.cell c0 hbx) (And.intro (hk.cell c1 hbx) (And.intro (hk.cell c2 hbx) (And.intro (hk.cell c3 hbx) (hk.cell c4 hbx)))))
  have KA := hid (show ∀ (A C : World), Kp A C R → Kp A C (R ++ (rb :: sb :: tb :: B.toList)) from fun _ _ h => h.mono (fun x hx _ => List.mem_append_left _ hx))
  have KB := hid (show ∀ (A C : World), Kp A C [rb, sb, tb] → Kp A C (R ++ (rb :: sb :: tb :: B.toList)) from fun _ _ h => h.mono (fun x hx _ => List.mem_append_right _ (by
    simp only [List.mem_cons, List.not_mem_nil, or_false] at hx ⊢
    rcases hx with hx | hx | hx
    · exact .inl hx
    · exact .inr (.inl hx)
    · exact .inr (.inr (.inl hx)))))
  have FIN := hid (fun (w1 w2 : World) (M' : Qs) (hm : Qok M') (ha : To W0 w1 qb R M') (hb : Rto w1 w2 rb sb tb B M') => (show ∃ Q', Pa w2 qb rb Q' M' ∧ Nw w (R ++ (rb :: sb :: tb :: B.toList)) Q' ∧ Kp w w2 (R ++ (rb :: sb :: tb :: B.toList)) from by
    obtain ⟨Q', x1, x2, x3⟩ := pa_fin Q0.out HN.out hm ha hb
    exact ⟨Q', x1, fun y hy => (x2 y hy).imp id (fun h => Nat.le_trans HS.out h), K0.out.nil.trans x3⟩))
  have MID := hid (fun (w1 : World) (M' : Qs) (ha : To W0 w1 qb R M') => Rq.mid S0.out Q0.out HN.out ha)
  have HI := hid hi
  clear hs hr h3 ok kk hbx hi
  obtain ⟨d, a1, a2, a3, hab⟩ := recVV_ex M t p
  obtain ⟨E, hE⟩ : ∃ E, recE M t p = E := ⟨_, rfl⟩
  have HOM := hid (HOK.out.recMM t p)
  have HC1 := rec_yes S0.out t p HI.out
  have HC2 := fun z (hr : Rq z rb sb tb B M) => rrec_any hr HOK.out t p
  rw [hab, hE] at HC1
  simp only [hab, hE] at HC2
  obtain ⟨M', hM'⟩ : ∃ M', recMM M t p = M' := ⟨_, rfl⟩
  rw [hM'] at HC1 HOM ⊢
  simp only [hM'] at HC2
  replace HC1 := hid HC1
  replace HC2 := hid HC2
  clear hab hE hM'
  go_enter Try.func11, Try.ntmps11
  go_wp2_with fail
  refine HC1.out.mono ?_
  rintro e z1 ⟨rfl, hT⟩
  have HTo := hid hT
  obtain ⟨d0, d1, d2, d3, d4⟩ := CC.out (z1.alloc (.cells #[.bool d, .int .i64 a1, .int .i64 a2, .int .i64 a3] 45)) ((KA.out _ _ hT.kp).trans (Kp.alloc _ _ _))
  clear hT c0 c1 c2 c3 c4
  go_wp2_with fail
  have T2 := HTo.out.more (Kp.alloc z1 (.cells #[.bool d, .int .i64 a1, .int .i64 a2, .int .i64 a3] 45) [])
  have X2 : Bp (z1.alloc (.cells #[.bool d, .int .i64 a1, .int .i64 a2, .int .i64 a3] 45)) z1.heap.size d a1 a2 a3 := heap_alloc_new z1 _
  have HB1 : z1.heap.size ∉ [rb, sb, tb] := fun hm => by
    have h1 := Q0.out.lt z1.heap.size (by
      simp only [List.mem_cons, List.not_mem_nil, or_false] at hm ⊢
      rcases hm with hm | hm | hm
      · exact .inl hm
      · exact .inr (.inl hm)
      · exact .inr (.inr (.inl hm)))
    have := HTo.out.kp.size
    omega
  generalize z1.heap.size = p1 at X2 HB1 ⊢
  generalize z1.alloc (.cells #[.bool d, .int .i64 a1, .int .i64 a2, .int .i64 a3] 45) = y1 at d0 d1 d2 d3 d4 T2 X2 ⊢
  clear HTo
  have HTo := hid T2
  have HX2 := hid X2
  have HB2 := hid HB1
  clear T2 X2 HB1
  refine (HC2.out y1 (MID.out y1 _ HTo.out)).mono ?_
  rintro e z2 ⟨rfl, hR⟩
  have F := hid (FIN.out y1 z2 _ HOM.out HTo.out hR)
  have X3 := hid (HX2.out.keep (show Kp y1 z2 [rb, sb, tb] from by obtain ⟨B3, -, -, k3⟩ := hR; exact k3) HB2.out)
  clear hR d0 d1 d2 d3 d4 HTo
  have hp1 := lt_of_block X3.out
  have F2 := hid (show ∃ Q', Pa (z2.alloc (.cells #[.bool d, .int .i64 a1, .int .i64 a2, .int .i64 a3] 45)) qb rb Q' M' ∧ Nw w (R ++ (rb :: sb :: tb :: B.toList)) Q' ∧ Kp w (z2.alloc (.cells #[.bool d, .int .i64 a1, .int .i64 a2, .int .i64 a3] 45)) (R ++ (rb :: sb :: tb :: B.toList)) from by
    obtain ⟨Q', f1, f2, f3⟩ := F.out
    exact ⟨Q', f1.same (Kp.alloc _ _ _), f2, f3.trans (Kp.alloc _ _ _)⟩)
  clear F
  have F := F2
  clear F2
  have X4 := X3.out.keep (Kp.alloc z2 (.cells #[.bool d, .int .i64 a1, .int .i64 a2, .int .i64 a3] 45) []) (by simp)
  have X5 : Bp (z2.alloc (.cells #[.bool d, .int .i64 a1, .int .i64 a2, .int .i64 a3] 45)) z2.heap.size d a1 a2 a3 := heap_alloc_new z2 _
  have e0 := X4.c0
  have e1 := X4.c1
  have e2 := X4.c2
  have e3 := X4.c3
  have e5 := X5.c0
  have e6 := X5.c1
  have e7 := X5.c2
  have e8 := X5.c3
  clear X3 X4 X5 hp1
  have q45 := eql45 d d a1 a2 a3 a1 a2 a3
  simp only [beq_self_eq_true, Bool.and_self] at q45
  go_wp2_with fail
  refine (num_any _ _).mono ?_
  rintro e _ ⟨rfl, rfl⟩
  go_wp2
  refine bodyPost_ret (results_tmp3 rfl _ _ _) rfl ?_
  obtain ⟨Q', g1, g2, g3⟩ := F.out
  exact ⟨qb, Q', by simp, g1, g2, g3⟩
end Go.Proofs.Ytllkopekfanfaaa

/- do: one step of kind 3. -/
namespace Go.Proofs.Ytllkopekfanfaaa
open Go.RowKit Go.Shelf Go.Lib Go.Sort Go.Maps
attribute [local go_sem] Oper.semAt_some

set_option maxRecDepth 100000 in
set_option maxHeartbeats 4000000 in
theorem do3 (w : World) (qb rb : Nat) (Q : List Nat) (M : Qs) (t p x y : Int) (hi : i64 t) (h : Pa w qb rb Q M) : Calls Try.prog 11 #[.pointer (some ⟨qb, 0, none⟩), .pointer (some ⟨rb, 0, none⟩), .agg #[.int .i64 3, .int .i64 t, .int .i64 p, .int .i64 x, .int .i64 y]] w fun e w' => Did w w' rb Q (leM M t) e := by
  obtain ⟨R, sb, tb, B, rfl, hs, hr, h3, ok⟩ := h
  have HOK := hid ok
  obtain ⟨W0, hW0⟩ : ∃ W0, w.alloc (.cells #[.int .i64 3, .int .i64 t, .int .i64 p, .int .i64 x, .int .i64 y] 36) = W0 := ⟨_, rfl⟩
  obtain ⟨c0, c1, c2, c3, c4⟩ := cellS5 w (.int .i64 3) (.int .i64 t) (.int .i64 p) (.int .i64 x) (.int .i64 y)
  have kk : Kp w W0 [] := by rw [← hW0]; exact Kp.alloc _ _ _
  have S0 := hid (hs.same kk)
  have Q0 := hid (hr.same kk)
  have HN := hid h3
  have K0 := hid kk
  have HS := hid kk.size
  rw [hW0] at c0 c1 c2 c3 c4
  have hbx : w.heap.size ∉ R ++ (rb :: sb :: tb :: B.toList) := fun hm => by
    rcases List.mem_append.1 hm with hm | hm
    · have := hs.lt _ hm; omega
    · have := hr.lt _ hm; omega
  have CC := hid (fun (w1 : World) (hk : Kp W0 w1 (R ++ (rb :: sb :: tb :: B.toList))) => And.intro (hk.cell c0 hbx) (And.intro (hk.cell c1 hbx) (And.intro (hk.cell c2 hbx) (And.intro (hk.cell c3 hbx) (hk.cell c4 hbx)))))
  have CX := hid (fun (w1 : World) (hk : Kp W0 w1 (R ++ (rb :: sb :: tb :: B.toList))) => And.intro (hk.cell c0 hbx) (And.intro (hk.cell c1 hbx) (hk.cell c2 hbx)))
  have KA := hid (show ∀ (A C : World), Kp A C R → Kp A C (R ++ (rb :: sb :: tb :: B.toList)) from fun _ _ h => h.mono (fun x hx _ => List.mem_append_left _ hx))
  have KB := hid (show ∀ (A C : World), Kp A C [rb, sb, tb] → Kp A C (R ++ (rb :: sb :: tb :: B.toList)) from fun _ _ h => h.mono (fun x hx _ => List.mem_append_right _ (by
    simp only [List.mem_cons, List.not_mem_nil, or_false] at hx ⊢
    rcases hx with hx | hx | hx
    · exact .inl hx
    · exact .inr (.inl hx)
    · exact .inr (.inr (.inl hx)))))
  have FIN := hid (fun (w1 w2 : World) (M' : Qs) (hm : Qok M') (ha : To W0 w1 qb R M') (hb : Rto w1 w2 rb sb tb B M') => (show ∃ Q', Pa w2 qb rb Q' M' ∧ Nw w (R ++ (rb :: sb :: tb :: B.toList)) Q' ∧ Kp w w2 (R ++ (rb :: sb :: tb :: B.toList)) from by
    obtain ⟨Q', x1, x2, x3⟩ := pa_fin Q0.out HN.out hm ha hb
    exact ⟨Q', x1, fun y hy => (x2 y hy).imp id (fun h => Nat.le_trans HS.out h), K0.out.nil.trans x3⟩))
  have MID := hid (fun (w1 : World) (M' : Qs) (ha : To W0 w1 qb R M') => Rq.mid S0.out Q0.out HN.out ha)
  have HI := hid hi
  clear hs hr h3 ok kk hbx hi
  obtain ⟨E, hE⟩ : ∃ E, leE M t = E := ⟨_, rfl⟩
  have HOM := hid (HOK.out.le t)
  have HC1 := fun z (hq : Qc z qb R M) => leave_yes hq t HI.out
  have HC2 := fun z (hr : Rq z rb sb tb B M) => rleave_q hr t
  simp only [hE] at HC1 HC2
  obtain ⟨M', hM'⟩ : ∃ M', leM M t = M' := ⟨_, rfl⟩
  rw [hM'] at HOM ⊢
  simp only [hM'] at HC1 HC2
  replace HC1 := hid HC1
  replace HC2 := hid HC2
  clear hE hM'
  go_enter Try.func11, Try.ntmps11
  go_wp2_with fail
  go_region_held_law (fun w1 => w1.cell? ⟨w.heap.size, 0, none⟩ = some (.int .i64 3) ∧ w1.cell? ⟨w.heap.size, 1, none⟩ = some (.int .i64 t) ∧ w1.cell? ⟨w.heap.size, 2, none⟩ = some (.int .i64 p))
    (first
      | exact CX.out _ (Kp.drew _ _)
      | exact CX.out _ ((Kp.drew _ _).trans (KA.out _ _ hK1))
      | exact CX.out _ (((Kp.drew _ _).trans (KA.out _ _ hK1)).trans hK2.nil)
      | exact CX.out _ (((Kp.drew _ _).trans (KA.out _ _ hK1)).trans (KB.out _ _ hK3))
      | exact CX.out _ ((((Kp.drew _ _).trans (KA.out _ _ hK1)).trans (KB.out _ _ hK3)).trans hK2.nil)
      | exact CX.out _ ((((Kp.drew _ _).trans (KA.out _ _ hK1)).trans hK2.nil).trans (KB.out _ _ hK3)))
    (first
      | (go_at_call 31; have _hh := hK1; refine (HC2.out _ ((Q0.out.same (Kp.drew _ [])).away (hK1.trans hK2.nil) (fun x hx hm => HN.out x hm hx) (S0.out.same (Kp.drew _ [])).notD)).mono ?_; rintro e z3 ⟨rfl, B3, hr3, hn3, hK3⟩)
      | (go_at_call 9; refine (num_kp _ _).mono ?_; rintro e z2 ⟨rfl, hK2⟩)
      | (go_at_call 18; refine (HC1.out _ (S0.out.same (Kp.drew _ []))).mono ?_; rintro e z1 ⟨rfl, R2, hs2, hn2, hK1⟩))
  have TO := hid (show To W0 z2 qb R M' from ⟨R2, hs2.same hK2, hn2, ((Kp.drew W0 R).trans hK1).trans hK2.nil⟩)
  have F := hid (FIN.out z2 z3 _ HOM.out TO.out ⟨B3, hr3, hn3, hK3⟩)
  clear hs2 hn2 hK1 hK2 hK3 hr3 hn3 TO
  go_wp2
  refine bodyPost_ret (results_tmp3 rfl _ _ _) rfl ?_
  obtain ⟨Q', g1, g2, g3⟩ := F.out
  exact ⟨qb, Q', by simp, g1, g2, g3⟩
end Go.Proofs.Ytllkopekfanfaaa

/- do: one step of kind 4. -/
namespace Go.Proofs.Ytllkopekfanfaaa
open Go.RowKit Go.Shelf Go.Lib Go.Sort Go.Maps
attribute [local go_sem] Oper.semAt_some

set_option maxRecDepth 100000 in
set_option maxHeartbeats 4000000 in
theorem do4 (w : World) (qb rb : Nat) (Q : List Nat) (M : Qs) (t p x y : Int) (hi : i64 t) (h : Pa w qb rb Q M) : Calls Try.prog 11 #[.pointer (some ⟨qb, 0, none⟩), .pointer (some ⟨rb, 0, none⟩), .agg #[.int .i64 4, .int .i64 t, .int .i64 p, .int .i64 x, .int .i64 y]] w fun e w' => Did w w' rb Q (chM M t p) e := by
  obtain ⟨R, sb, tb, B, rfl, hs, hr, h3, ok⟩ := h
  have HOK := hid ok
  obtain ⟨W0, hW0⟩ : ∃ W0, w.alloc (.cells #[.int .i64 4, .int .i64 t, .int .i64 p, .int .i64 x, .int .i64 y] 36) = W0 := ⟨_, rfl⟩
  obtain ⟨c0, c1, c2, c3, c4⟩ := cellS5 w (.int .i64 4) (.int .i64 t) (.int .i64 p) (.int .i64 x) (.int .i64 y)
  have kk : Kp w W0 [] := by rw [← hW0]; exact Kp.alloc _ _ _
  have S0 := hid (hs.same kk)
  have Q0 := hid (hr.same kk)
  have HN := hid h3
  have K0 := hid kk
  have HS := hid kk.size
  rw [hW0] at c0 c1 c2 c3 c4
  have hbx : w.heap.size ∉ R ++ (rb :: sb :: tb :: B.toList) := fun hm => by
    rcases List.mem_append.1 hm with hm | hm
    · have := hs.lt _ hm; omega
    · have := hr.lt _ hm; omega
  have CC := hid (fun (w1 : World) (hk : Kp W0 w1 (R ++ (rb :: sb :: tb :: B.toList))) => And.intro (hk.cell c0 hbx) (And.intro (hk.cell c1 hbx) (And.intro (hk.cell c2 hbx) (And.intro (hk.cell c3 hbx) (hk.cell c4 hbx)))))
  have CX := hid (fun (w1 : World) (hk : Kp W0 w1 (R ++ (rb :: sb :: tb :: B.toList))) => And.intro (hk.cell c0 hbx) (And.intro (hk.cell c1 hbx) (hk.cell c2 hbx)))
  have KA := hid (show ∀ (A C : World), Kp A C R → Kp A C (R ++ (rb :: sb :: tb :: B.toList)) from fun _ _ h => h.mono (fun x hx _ => List.mem_append_left _ hx))
  have KB := hid (show ∀ (A C : World), Kp A C [rb, sb, tb] → Kp A C (R ++ (rb :: sb :: tb :: B.toList)) from fun _ _ h => h.mono (fun x hx _ => List.mem_append_right _ (by
    simp only [List.mem_cons, List.not_mem_nil, or_false] at hx ⊢
    rcases hx with hx | hx | hx
    · exact .inl hx
    · exact .inr (.inl hx)
    · exact .inr (.inr (.inl hx)))))
  have FIN := hid (fun (w1 w2 : World) (M' : Qs) (hm : Qok M') (ha : To W0 w1 qb R M') (hb : Rto w1 w2 rb sb tb B M') => (show ∃ Q', Pa w2 qb rb Q' M' ∧ Nw w (R ++ (rb :: sb :: tb :: B.toList)) Q' ∧ Kp w w2 (R ++ (rb :: sb :: tb :: B.toList)) from by
    obtain ⟨Q', x1, x2, x3⟩ := pa_fin Q0.out HN.out hm ha hb
    exact ⟨Q', x1, fun y hy => (x2 y hy).imp id (fun h => Nat.le_trans HS.out h), K0.out.nil.trans x3⟩))
  have MID := hid (fun (w1 : World) (M' : Qs) (ha : To W0 w1 qb R M') => Rq.mid S0.out Q0.out HN.out ha)
  have HI := hid hi
  clear hs hr h3 ok kk hbx hi
  obtain ⟨E, hE⟩ : ∃ E, chE M t p = E := ⟨_, rfl⟩
  have HOM := hid (HOK.out.ch t p)
  have HC1 := fun z (hq : Qc z qb R M) => change_yes hq t p HI.out
  have HC2 := fun z (hr : Rq z rb sb tb B M) => rchange_q hr t p
  simp only [hE] at HC1 HC2
  obtain ⟨M', hM'⟩ : ∃ M', chM M t p = M' := ⟨_, rfl⟩
  rw [hM'] at HOM ⊢
  simp only [hM'] at HC1 HC2
  replace HC1 := hid HC1
  replace HC2 := hid HC2
  clear hE hM'
  go_enter Try.func11, Try.ntmps11
  go_wp2_with fail
  go_region_held_law (fun w1 => w1.cell? ⟨w.heap.size, 0, none⟩ = some (.int .i64 4) ∧ w1.cell? ⟨w.heap.size, 1, none⟩ = some (.int .i64 t) ∧ w1.cell? ⟨w.heap.size, 2, none⟩ = some (.int .i64 p))
    (first
      | exact CX.out _ (Kp.drew _ _)
      | exact CX.out _ ((Kp.drew _ _).trans (KA.out _ _ hK1))
      | exact CX.out _ (((Kp.drew _ _).trans (KA.out _ _ hK1)).trans hK2.nil)
      | exact CX.out _ (((Kp.drew _ _).trans (KA.out _ _ hK1)).trans (KB.out _ _ hK3))
      | exact CX.out _ ((((Kp.drew _ _).trans (KA.out _ _ hK1)).trans (KB.out _ _ hK3)).trans hK2.nil)
      | exact CX.out _ ((((Kp.drew _ _).trans (KA.out _ _ hK1)).trans hK2.nil).trans (KB.out _ _ hK3)))
    (first
      | (go_at_call 32; have _hh := hK1; refine (HC2.out _ ((Q0.out.same (Kp.drew _ [])).away (hK1.trans hK2.nil) (fun x hx hm => HN.out x hm hx) (S0.out.same (Kp.drew _ [])).notD)).mono ?_; rintro e z3 ⟨rfl, B3, hr3, hn3, hK3⟩)
      | (go_at_call 9; refine (num_kp _ _).mono ?_; rintro e z2 ⟨rfl, hK2⟩)
      | (go_at_call 19; refine (HC1.out _ (S0.out.same (Kp.drew _ []))).mono ?_; rintro e z1 ⟨rfl, R2, hs2, hn2, hK1⟩))
  have TO := hid (show To W0 z2 qb R M' from ⟨R2, hs2.same hK2, hn2, ((Kp.drew W0 R).trans hK1).trans hK2.nil⟩)
  have F := hid (FIN.out z2 z3 _ HOM.out TO.out ⟨B3, hr3, hn3, hK3⟩)
  clear hs2 hn2 hK1 hK2 hK3 hr3 hn3 TO
  go_wp2
  refine bodyPost_ret (results_tmp3 rfl _ _ _) rfl ?_
  obtain ⟨Q', g1, g2, g3⟩ := F.out
  exact ⟨qb, Q', by simp, g1, g2, g3⟩
end Go.Proofs.Ytllkopekfanfaaa

/- do: one step of kind 5. -/
namespace Go.Proofs.Ytllkopekfanfaaa
open Go.RowKit Go.Shelf Go.Lib Go.Sort Go.Maps
attribute [local go_sem] Oper.semAt_some

set_option maxRecDepth 100000 in
theorem m_any (w : World) (v p : Int) : Calls Try.prog 23 #[.int .i64 v, .int .i64 p] w fun e w' => e = .returned (.agg #[.int .i64 v, .int .i64 p]) ∧ Kp w w' [] := by
  go_enter Try.func23, Try.ntmps23
  go_wp2
  exact bodyPost_ret (results_cell_row rfl _ _ w.heap.size 34 #[.int .i64 v, .int .i64 p] (0, 0) _ rfl (heap_alloc_new w _) Try.underlying34 rfl (by kernel_rfl)) rfl ⟨rfl, Kp.alloc _ _ _⟩
set_option maxRecDepth 100000 in
set_option maxHeartbeats 4000000 in
theorem do5 (w : World) (qb rb : Nat) (Q : List Nat) (M : Qs) (t p x y : Int) (hi : i64 t) (h : Pa w qb rb Q M) : Calls Try.prog 11 #[.pointer (some ⟨qb, 0, none⟩), .pointer (some ⟨rb, 0, none⟩), .agg #[.int .i64 5, .int .i64 t, .int .i64 p, .int .i64 x, .int .i64 y]] w fun e w' => Did w w' rb Q (M) e := by
  obtain ⟨R, sb, tb, B, rfl, hs, hr, h3, ok⟩ := h
  have HOK := hid ok
  obtain ⟨W0, hW0⟩ : ∃ W0, w.alloc (.cells #[.int .i64 5, .int .i64 t, .int .i64 p, .int .i64 x, .int .i64 y] 36) = W0 := ⟨_, rfl⟩
  obtain ⟨c0, c1, c2, c3, c4⟩ := cellS5 w (.int .i64 5) (.int .i64 t) (.int .i64 p) (.int .i64 x) (.int .i64 y)
  have kk : Kp w W0 [] := by rw [← hW0]; exact Kp.alloc _ _ _
  have S0 := hid (hs.same kk)
  have Q0 := hid (hr.same kk)
  have HN := hid h3
  have K0 := hid kk
  have HS := hid kk.size
  rw [hW0] at c0 c1 c2 c3 c4
  have hbx : w.heap.size ∉ R ++ (rb :: sb :: tb :: B.toList) := fun hm => by
    rcases List.mem_append.1 hm with hm | hm
    · have := hs.lt _ hm; omega
    · have := hr.lt _ hm; omega
  have CC := hid (fun (w1 : World) (hk : Kp W0 w1 (R ++ (rb :: sb :: tb :: B.toList))) => And.intro (hk.cell c0 hbx) (And.intro (hk.cell c1 hbx) (And.intro (hk.cell c2 hbx) (And.intro (hk.cell c3 hbx) (hk.cell c4 hbx)))))
  have KA := hid (show ∀ (A C : World), Kp A C R → Kp A C (R ++ (rb :: sb :: tb :: B.toList)) from fun _ _ h => h.mono (fun x hx _ => List.mem_append_left _ hx))
  have KB := hid (show ∀ (A C : World), Kp A C [rb, sb, tb] → Kp A C (R ++ (rb :: sb :: tb :: B.toList)) from fun _ _ h => h.mono (fun x hx _ => List.mem_append_right _ (by
    simp only [List.mem_cons, List.not_mem_nil, or_false] at hx ⊢
    rcases hx with hx | hx | hx
    · exact .inl hx
    · exact .inr (.inl hx)
    · exact .inr (.inr (.inl hx)))))
  have FIN := hid (fun (w1 w2 : World) (M' : Qs) (hm : Qok M') (ha : To W0 w1 qb R M') (hb : Rto w1 w2 rb sb tb B M') => (show ∃ Q', Pa w2 qb rb Q' M' ∧ Nw w (R ++ (rb :: sb :: tb :: B.toList)) Q' ∧ Kp w w2 (R ++ (rb :: sb :: tb :: B.toList)) from by
    obtain ⟨Q', x1, x2, x3⟩ := pa_fin Q0.out HN.out hm ha hb
    exact ⟨Q', x1, fun y hy => (x2 y hy).imp id (fun h => Nat.le_trans HS.out h), K0.out.nil.trans x3⟩))
  have MID := hid (fun (w1 : World) (M' : Qs) (ha : To W0 w1 qb R M') => Rq.mid S0.out Q0.out HN.out ha)
  have HI := hid hi
  clear hs hr h3 ok kk hbx hi
  have HC := hid (qcopy_yes S0.out)
  go_enter Try.func11, Try.ntmps11
  go_wp2_with fail
  refine HC.out.mono ?_
  rintro e z1 ⟨ob, RC, rfl, hc, hf, hk1⟩
  have HE := qsame z1 ob qb RC R M M hc (S0.out.same hk1)
  rw [sameQ_refl] at HE
  replace HE := hid HE
  have C1 := hid hc
  have HF := hid hf
  have HK1 := hid hk1
  clear hc hf hk1 c0 c1 c2 c3 c4
  go_wp2_with fail
  refine HE.out.mono ?_
  rintro e z2 ⟨rfl, hk2⟩
  have HK2 := hid (HK1.out.trans hk2)
  have C2 := hid (C1.out.same hk2)
  have S2 := hid (S0.out.same (HK1.out.trans hk2))
  clear hk2 HE C1 HK1
  go_wp2_with fail
  refine (m_any z2 99 31).mono ?_
  rintro e y2 ⟨rfl, hkm⟩
  have K2 := hid (HK2.out.trans hkm)
  have C3 := hid (C2.out.same hkm)
  have S3 := hid (S2.out.same hkm)
  clear hkm HK2 C2 S2
  go_wp2_with fail
  obtain ⟨d, a1, a2, a3, hab⟩ := sendVV_ex M 15 31 (99, 31)
  have N3 := send_yes S3.out 15 31 (99, 31) (by unfold i64; omega)
  rw [hab] at N3
  generalize sendE M 15 31 (99, 31) = E3 at N3
  generalize sendMM M 15 31 (99, 31) = M3 at N3
  refine N3.mono ?_
  clear N3 hab
  rintro e z3 ⟨rfl, hT⟩
  have T3 := hid hT
  clear hT
  go_wp2_with fail
  obtain ⟨d4, b1, b2, b3, hab⟩ := recVV_ex M3 14 31
  obtain ⟨E4, hE4⟩ : ∃ E, recE M3 14 31 = E := ⟨_, rfl⟩
  obtain ⟨M4, hM4⟩ : ∃ E, recMM M3 14 31 = E := ⟨_, rfl⟩
  have N4 : Calls Try.prog 17 #[.pointer (some ⟨qb, 0, none⟩), .int .i64 14, .int .i64 31] z3 fun e w' => e = .returned (.tuple #[.agg #[.bool d4, .int .i64 b1, .int .i64 b2, .int .i64 b3], .int .i64 E4]) ∧ To y2 w' qb R M4 := by
    obtain ⟨R3, hs3, hn3, hk3⟩ := id T3.out
    refine (rec_yes hs3 14 31 (by unfold i64; omega)).mono ?_
    rintro e w' ⟨rfl, hT⟩
    rw [hab, hE4]
    rw [hM4] at hT
    exact ⟨rfl, To.next hn3 hk3 hT⟩
  refine N4.mono ?_
  clear N4 hab hE4 hM4
  rintro e z4 ⟨rfl, hT⟩
  have T4 := hid hT
  clear hT T3
  go_wp2_with fail
  obtain ⟨E5, hE5⟩ : ∃ E, leE M4 1 = E := ⟨_, rfl⟩
  obtain ⟨M5, hM5⟩ : ∃ E, leM M4 1 = E := ⟨_, rfl⟩
  have N5 : Calls Try.prog 18 #[.pointer (some ⟨qb, 0, none⟩), .int .i64 1] z4 fun e w' => e = .returned (.int .i64 E5) ∧ To y2 w' qb R M5 := by
    obtain ⟨R4, hs4, hn4, hk4⟩ := id T4.out
    refine (leave_yes hs4 1 (by unfold i64; omega)).mono ?_
    rintro e w' ⟨rfl, hT⟩
    rw [hE5]
    rw [hM5] at hT
    exact ⟨rfl, To.next hn4 hk4 hT⟩
  refine N5.mono ?_
  clear N5 hE5 hM5
  rintro e z5 ⟨rfl, hT⟩
  have F := hid (show ∃ Q', Pa z5 ob rb Q' M ∧ Nw w (R ++ (rb :: sb :: tb :: B.toList)) Q' ∧ Kp w z5 (R ++ (rb :: sb :: tb :: B.toList)) from by
    obtain ⟨Q', x1, x2, x3⟩ := pa_copy S0.out Q0.out HN.out HOK.out K2.out C3.out HF.out hT
    exact ⟨Q', x1, fun y hy => (x2 y hy).imp id (fun h => Nat.le_trans HS.out h), K0.out.nil.trans x3⟩)
  clear hT
  go_wp2
  refine bodyPost_ret (results_tmp3 rfl _ _ _) rfl ?_
  obtain ⟨Q', g1, g2, g3⟩ := F.out
  exact ⟨ob, Q', by simp, g1, g2, g3⟩
end Go.Proofs.Ytllkopekfanfaaa

/- do: one step. -/
namespace Go.Proofs.Ytllkopekfanfaaa
open Go.RowKit Go.Shelf Go.Lib Go.Sort Go.Maps
attribute [local go_sem] Oper.semAt_some

theorem do_any (w : World) (qb rb : Nat) (Q : List Nat) (M : Qs) (k t p x y : Int) (hi : i64 t) (h : Pa w qb rb Q M) : Calls Try.prog 11 #[.pointer (some ⟨qb, 0, none⟩), .pointer (some ⟨rb, 0, none⟩), .agg #[.int .i64 k, .int .i64 t, .int .i64 p, .int .i64 x, .int .i64 y]] w fun e w' => Did w w' rb Q (stM M k t p (x, y)) e := by
  by_cases k1 : k = 1
  · subst k1; exact do1 w qb rb Q M t p x y hi h
  by_cases k2 : k = 2
  · subst k2; exact do2 w qb rb Q M t p x y hi h
  by_cases k3 : k = 3
  · subst k3; exact do3 w qb rb Q M t p x y hi h
  by_cases k4 : k = 4
  · subst k4; exact do4 w qb rb Q M t p x y hi h
  by_cases k5 : k = 5
  · subst k5; exact do5 w qb rb Q M t p x y hi h
  rw [show stM M k t p (x, y) = M by simp [stM, k1, k2, k3, k4]]
  exact do0 w qb rb Q M k t p x y hi k1 k2 k3 k4 k5 h
end Go.Proofs.Ytllkopekfanfaaa
