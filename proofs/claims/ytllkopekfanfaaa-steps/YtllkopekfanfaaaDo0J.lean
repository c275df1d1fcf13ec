/- do: one step of kind 0. -/
import Derived.BigQuiet
import Derived.Deep.RegionHeldLaw
import Derived.Deep.RegionWith
import Derived.Test.YtllkopekfanfaaaPa
namespace Go.Proofs.Ytllkopekfanfaaa
open Go.RowKit Go.Shelf Go.Lib Go.Sort Go.Maps
attribute [local go_sem] Oper.semAt_some

set_option maxRecDepth 100000 in
set_option maxHeartbeats 4000000 in
theorem do0 (w : World) (qb rb : Nat) (Q : List Nat) (M : Qs) (k t p x y : Int) (hi : i64 t) (k1 : k ≠ 1) (k2 : k ≠ 2) (k3 : k ≠ 3) (k4 : k ≠ 4) (k5 : k ≠ 5) (h : Pa w qb rb Q M) : Calls Try.prog 11 #[.pointer (some ⟨qb, 0, none⟩), .pointer (some ⟨rb, 0, none⟩), .agg #[.int .i64 k, .int .i64 t, .int .i64 p, .int .i64 x, .int .i64 y]] w fun e w' => Did w w' rb Q (M) e := by
  obtain ⟨R, sb, tb, B, rfl, hs, hr, h3, ok⟩ := h
  have HOK := hid ok
  obtain ⟨W0, hW0⟩ : ∃ W0, w.alloc (.cells #[.int .i64 k, .int .i64 t, .int .i64 p, .int .i64 x, .int .i64 y] 36) = W0 := ⟨_, rfl⟩
  obtain ⟨c0, c1, c2, c3, c4⟩ := cellS5 w (.int .i64 k) (.int .i64 t) (.int .i64 p) (.int .i64 x) (.int .i64 y)
  have kk : Kp w W0 [] := by rw [← hW0]; exact Kp.alloc _ _ _
  have S0 := hid (hs.same kk)
  have Q0 := hid (hr.same kk)
  have HN := hid h3
  have K0 := hid kk
  have HS := hid kk.size
  rw [hW0] at c0 c1 c2 c3 c4
  have hbx : w.heap.size ∉ R ++ (rb :: sb :: tb :: B.toList) := fun hm => by
    rcases List.mem_append.1 hm with hm | hm
    · have := hs.lt _ hm; omega
    · have := hr.lt _ hm; omega
  have CC := hid (fun (w1 : World) (hk : Kp W0 w1 (R ++ (rb :: sb :: tb :: B.toList))) => And.intro (hk.cell c0 hbx) (And.intro (hk.cell c1 hbx) (And.intro (hk.cell c2 hbx) (And.intro (hk.cell c3 hbx) (hk.cell c4 hbx)))))
  have KA := hid (show ∀ (A C : World), Kp A C R → Kp A C (R ++ (rb :: sb :: tb :: B.toList)) from fun _ _ h => h.mono (fun x hx _ => List.mem_append_left _ hx))
  have KB := hid (show ∀ (A C : World), Kp A C [rb, sb, tb] → Kp A C (R ++ (rb :: sb :: tb :: B.toList)) from fun _ _ h => h.mono (fun x hx _ => List.mem_append_right _ (by
    simp only [List.mem_cons, List.not_mem_nil, or_false] at hx ⊢
    rcases hx with hx | hx | hx
    · exact .inl hx
    · exact .inr (.inl hx)
    · exact .inr (.inr (.inl hx)))))
  have FIN := hid (fun (w1 w2 : World) (M' : Qs) (hm : Qok M') (ha : To W0 w1 qb R M') (hb : Rto w1 w2 rb sb tb B M') => (show ∃ Q', Pa w2 qb rb Q' M' ∧ Nw w (R ++ (rb :: sb :: tb :: B.toList)) Q' ∧ Kp w w2 (R ++ (rb :: sb :: tb :: B.toList)) from by
    obtain ⟨Q', x1, x2, x3⟩ := pa_fin Q0.out HN.out hm ha hb
    exact ⟨Q', x1, fun y hy => (x2 y hy).imp id (fun h => Nat.le_trans HS.out h), K0.out.nil.trans x3⟩))
  have MID := hid (fun (w1 : World) (M' : Qs) (ha : To W0 w1 qb R M') => Rq.mid S0.out Q0.out HN.out ha)
  have HI := hid hi
  clear hs hr h3 ok kk hbx hi
  have kf1 : (k == 1) = false := by simp [k1]
  have kf2 : (k == 2) = false := by simp [k2]
  have kf3 : (k == 3) = false := by simp [k3]
  have kf4 : (k == 4) = false := by simp [k4]
  have kf5 : (k == 5) = false := by simp [k5]
  have F := hid (FIN.out W0 W0 M HOK.out (To.stay S0.out (Kp.refl _ _)) (Rto.stay Q0.out (Kp.refl _ _)))
  clear k1 k2 k3 k4 k5
  go_enter Try.func11, Try.ntmps11
  go_wp2
  refine bodyPost_ret (results_tmp3 rfl _ _ _) rfl ?_
  obtain ⟨Q', g1, g2, g3⟩ := F.out
  exact ⟨qb, Q', by simp, g1, g2, g3⟩
end Go.Proofs.Ytllkopekfanfaaa

/- do: one step of kind 1. -/
namespace Go.Proofs.Ytllkopekfanfaaa
open Go.RowKit Go.Shelf Go.Lib Go.Sort Go.Maps
attribute [local go_sem] Oper.semAt_some

set_option maxRecDepth 100000 in
set_option maxHeartbeats 4000000 in
theorem do1 (w : World) (qb rb : Nat) (Q : List Nat) (M : Qs) (t p x y : Int) (hi : i64 t) (h : Pa w qb rb Q M) : Calls Try.prog 11 #[.pointer (some ⟨qb, 0, none⟩), .pointer (some ⟨rb, 0, none⟩), .agg #[.int .i64 1, .int .i64 t, .int .i64 p, .int .i64 x, .int .i64 y]] w fun e w' => Did w w' rb Q (sendMM M t p (x, y)) e := by
  obtain ⟨R, sb, tb, B, rfl, hs, hr, h3, ok⟩ := h
  have HOK := hid ok
  obtain ⟨W0, hW0⟩ : ∃ W0, w.alloc (.cells #[.int .i64 1, .int .i64 t, .int .i64 p, .int .i64 x, .int .i64 y] 36) = W0 := ⟨_, rfl⟩
  obtain ⟨c0, c1, c2, c3, c4⟩ := cellS5 w (.int .i64 1) (.int .i64 t) (.int .i64 p) (.int .i64 x) (.int .i64 y)
  have kk : Kp w W0 [] := by rw [← hW0]; exact Kp.alloc _ _ _
  have S0 := hid (hs.same kk)
  have Q0 := hid (hr.same kk)
  have HN := hid h3
  have K0 := hid kk
  have HS := hid kk.size
  rw [hW0] at c0 c1 c2 c3 c4
  have hbx : w.heap.size ∉ R ++ (rb :: sb :: tb :: B.toList) := fun hm => by
    rcases List.mem_append.1 hm with hm | hm
    · have := hs.lt _ hm; omega
    · have := hr.lt _ hm; omega
  have CC := hid (fun (w1 : World) (hk : Kp W0 w1 (R ++ (rb :: sb :: tb :: B.toList))) => And.intro (hk.cell c0 hbx) (And.intro (hk.cell c1 hbx) (And.intro (hk.cell c2 hbx) (And.intro (hk.cell c3 hbx) (hk.cell c4 hbx)))))
  have KA := hid (show ∀ (A C : World), Kp A C R → Kp A C (R ++ (rb :: sb :: tb :: B.toList)) from fun _ _ h => h.mono (fun x hx _ => List.mem_append_left _ hx))
  have KB := hid (show ∀ (A C : World), Kp A C [rb, sb, tb] → Kp A C (R ++ (rb :: sb :: tb :: B.toList)) from fun _ _ h => h.mono (fun x hx _ => List.mem_append_right _ (by
    simp only [List.mem_cons, List.not_mem_nil, or_false] at hx ⊢
    rcases hx with hx | hx | hx
    · exact .inl hx
    · exact .inr (.inl hx)
    · exact .inr (.inr (.inl hx)))))
  have FIN := hid (fun (w1 w2 : World) (M' : Qs) (hm : Qok M') (ha : To W0 w1 qb R M') (hb : Rto w1 w2 rb sb tb B M') => (show ∃ Q', Pa w2 qb rb Q' M' ∧ Nw w (R ++ (rb :: sb :: tb :: B.toList)) Q' ∧ Kp w w2 (R ++ (rb :: sb :: tb :: B.toList)) from by
    obtain ⟨Q', x1, x2, x3⟩ := pa_fin Q0.out HN.out hm ha hb
    exact ⟨Q', x1, fun y hy => (x2 y hy).imp id (fun h => Nat.le_trans HS.out h), K0.out.nil.trans x3⟩))
  have MID := hid (fun (w1 : World) (M' : Qs) (ha : To W0 w1 qb R M') => Rq.mid S0.out Q0.out HN.out ha)
  have HI := hid hi
  clear hs hr h3 ok kk hbx hi
  obtain ⟨d, a1, a2, a3, hab⟩ := sendVV_ex M t p (x, y)
  obtain ⟨E, hE⟩ : ∃ E, sendE M t p (x, y) = E := ⟨_, rfl⟩
  have HOM := hid (HOK.out.sendMM t p (x, y))
  have HC1 := send_yes S0.out t p (x, y) HI.out
  have HC2 := fun z (hr : Rq z rb sb tb B M) => rsend_any hr HOK.out t p (x, y)
  rw [hab, hE] at HC1
  simp only [hab, hE] at HC2
  obtain ⟨M', hM'⟩ : ∃ M', sendMM M t p (x, y) = M' := ⟨_, rfl⟩
  rw [hM'] at HC1 HOM ⊢
  simp only [hM'] at HC2
  replace HC1 := hid HC1
  replace HC2 := hid HC2
  clear hab hE hM'
  go_enter Try.func11, Try.ntmps11
  go_wp2_with fail
  refine HC1.out.mono ?_
  rintro e z1 ⟨rfl, hT⟩
  have HTo := hid hT
  obtain ⟨d0, d1, d2, d3, d4⟩ := CC.out (z1.alloc (.cells #[.bool d, .int .i64 a1, .int .i64 a2, .int .i64 a3] 45)) ((KA.out _ _ hT.kp).trans (Kp.alloc _ _ _))
  clear hT c0 c1 c2 c3 c4
  go_wp2_with fail
  have T2 := HTo.out.more (Kp.alloc z1 (.cells #[.bool d, .int .i64 a1, .int .i64 a2, .int .i64 a3] 45) [])
  have X2 : Bp (z1.alloc (.cells #[.bool d, .int .i64 a1, .int .i64 a2, .int .i64 a3] 45)) z1.heap.size d a1 a2 a3 := heap_alloc_new z1 _
  have HB1 : z1.heap.size ∉ [rb, sb, tb] := fun hm => by
    have h1 := Q0.out.lt z1.heap.size (by
      simp only [List.mem_cons, List.not_mem_nil, or_false] at hm ⊢
      rcases hm with hm | hm | hm
      · exact .inl hm
      · exact .inr (.inl hm)
      · exact .inr (.inr (.inl hm)))
    have := HTo.out.kp.size
    omega
  generalize z1.heap.size = p1 at X2 HB1 ⊢
  generalize z1.alloc (.cells #[.bool d, .int .i64 a1, .int .i64 a2, .int .i64 a3] 45) = y1 at d0 d1 d2 d3 d4 T2 X2 ⊢
  clear HTo
  have HTo := hid T2
  have HX2 := hid X2
  have HB2 := hid HB1
  clear T2 X2 HB1
  refine (HC2.out y1 (MID.out y1 _ HTo.out)).mono ?_
  rintro e z2 ⟨rfl, hR⟩
  have F := hid (FIN.out y1 z2 _ HOM.out HTo.out hR)
  have X3 := hid (HX2.out.keep (show Kp y1 z2 [rb, sb, tb] from by obtain ⟨B3, -, -, k3⟩ := hR; exact k3) HB2.out)
  clear hR d0 d1 d2 d3 d4 HTo
  have hp1 := lt_of_block X3.out
  have F2 := hid (show ∃ Q', Pa (z2.alloc (.cells #[.bool d, .int .i64 a1, .int .i64 a2, .int .i64 a3] 45)) qb rb Q' M' ∧ Nw w (R ++ (rb :: sb :: tb :: B.toList)) Q' ∧ Kp w (z2.alloc (.cells #[.bool d, .int .i64 a1, .int .i64 a2, .int .i64 a3] 45)) (R ++ (rb :: sb :: tb :: B.toList)) from by
    obtain ⟨Q', f1, f2, f3⟩ := F.out
    exact ⟨Q', f1.same (Kp.alloc _ _ _), f2, f3.trans (Kp.alloc _ _ _)⟩)
  clear F
  have F := F2
  clear F2
  have X4 := X3.out.keep (Kp.alloc z2 (.cells #[.bool d, .int .i64 a1, .int .i64 a2, .int .i64 a3] 45) []) (by simp)
  have X5 : Bp (z2.alloc (.cells #[.bool d, .int .i64 a1, .int .i64 a2, .int .i64 a3] 45)) z2.heap.size d a1 a2 a3 := heap_alloc_new z2 _
  have e0 := X4.c0
  have e1 := X4.c1
  have e2 := X4.c2
  have e3 := X4.c3
  have e5 := X5.c0
  have e6 := X5.c1
  have e7 := X5.c2
  have e8 := X5.c3
  clear X3 X4 X5 hp1
  have q45 := eql45 d d a1 a2 a3 a1 a2 a3
  simp only [beq_self_eq_true, Bool.and_self] at q45
  go_wp2_with fail
  refine (num_any _ _).mono ?_
  rintro e _ ⟨rfl, rfl⟩
  go_wp2
  refine bodyPost_ret (results_tmp3 rfl _ _ _) rfl ?_
  obtain ⟨Q', g1, g2, g3⟩ := F.out
  exact ⟨qb, Q', by simp, g1, g2, g3⟩
end Go.Proofs.Ytllkopekfanfaaa

/- do: one step of kind 2. -/
namespace Go.Proofs.Ytllkopekfanfaaa
open Go.RowKit Go.Shelf Go.Lib Go.Sort Go.Maps
attribute [local go_sem] Oper.semAt_some

set_option maxRecDepth 100000 in
set_option maxHeartbeats 4000000 in
theorem do2 (w : World) (qb rb : Nat) (Q : List Nat) (M : Qs) (t p x y : Int) (hi : i64 t) (h : Pa w qb rb Q M) : Calls Try.prog 11 #[.pointer (some ⟨qb, 0, none⟩), .pointer (some ⟨rb, 0, none⟩), .agg #[.int .i64 2, .int .i64 t, .int .i64 p, .int .i64 x, .int .i64 y]] w fun e w' => Did w w' rb Q (recMM M t p) e := by
  obtain ⟨R, sb, tb, B, rfl, hs, hr, h3, ok⟩ := h
  have HOK := hid ok
  obtain ⟨W0, hW0⟩ : ∃ W0, w.alloc (.cells #[.int .i64 2, .int .i64 t, .int .i64 p, .int .i64 x, .int .i64 y] 36) = W0 := ⟨_, rfl⟩
  obtain ⟨c0, c1, c2, c3, c4⟩ := cellS5 w (.int .i64 2) (.int .i64 t) (.int .i64 p) (.int .i64 x) (.int .i64 y)
  have kk : Kp w W0 [] := by rw [← hW0]; exact Kp.alloc _ _ _
  have S0 := hid (hs.same kk)
  have Q0 := hid (hr.same kk)
  have HN := hid h3
  have K0 := hid kk
  have HS := hid kk.size
  rw [hW0] at c0 c1 c2 c3 c4
  have hbx : w.heap.size ∉ R ++ (rb :: sb :: tb :: B.toList) := fun hm => by
    rcases List.mem_append.1 hm with hm | hm
    · have := hs.lt _ hm; omega
    · have := hr.lt _ hm; omega
  have CC := hid (fun (w1 : World) (hk : Kp W0 w1 (R ++ (rb :: sb :: tb :: B.toList))) => And.intro (hk.cell c0 hbx) (And.intro (hk.cell c1 hbx) (And.intro (hk.cell c2 hbx) (And.intro (hk.cell c3 hbx) (hk.cell c4 hbx)))))
  have KA := hid (show ∀ (A C : World), Kp A C R → Kp A C (R ++ (rb :: sb :: tb :: B.toList)) from fun _ _ h => h.mono (fun x hx _ => List.mem_append_left _ hx))
  have KB := hid (show ∀ (A C : World), Kp A C [rb, sb, tb] → Kp A C (R ++ (rb :: sb :: tb :: B.toList)) from fun _ _ h => h.mono (fun x hx _ => List.mem_append_right _ (by
    simp only [List.mem_cons, List.not_mem_nil, or_false] at hx ⊢
    rcases hx with hx | hx | hx
    · exact .inl hx
    · exact .inr (.inl hx)
    · exact .inr (.inr (.inl hx)))))
  have FIN := hid (fun (w1 w2 : World) (M' : Qs) (hm : Qok M') (ha : To W0 w1 qb R M') (hb : Rto w1 w2 rb sb tb B M') => (show ∃ Q', Pa w2 qb rb Q' M' ∧ Nw w (R ++ (rb :: sb :: tb :: B.toList)) Q' ∧ Kp w w2 (R ++ (rb :: sb :: tb :: B.toList)) from by
    obtain ⟨Q', x1, x2, x3⟩ := pa_fin Q0.out HN.out hm ha hb
    exact ⟨Q', x1, fun y hy => (x2 y hy).imp id (fun h => Nat.le_trans HS.out h), K0.out.nil.trans x3⟩))
  have MID := hid (fun (w1 : World) (M' : Qs) (ha : To W0 w1 qb R M') => Rq.mid S0.out Q0.out HN.out ha)
  have HI := hid hi
  clear hs hr h3 ok kk hbx hi
  obtain ⟨d, a1, a2, a3, hab⟩ := recVV_ex M t p
  obtain ⟨E, hE⟩ : ∃ E, recE M t p = E := ⟨_, rfl⟩
  have HOM := hid (HOK.out.recMM t p)
  have HC1 := rec_yes S0.out t p HI.out
  have HC2 := fun z (hr : Rq z rb sb tb B M) => rrec_any hr HOK.out t p
  rw [hab, hE] at HC1
  simp only [hab, hE] at HC2
  obtain ⟨M', hM'⟩ : ∃ M', recMM M t p = M' := ⟨_, rfl⟩
  rw [hM'] at HC1 HOM ⊢
  simp only [hM'] at HC2
  replace HC1 := hid HC1
  replace HC2 := hid HC2
  clear hab hE hM'
  go_enter Try.func11, Try.ntmps11
  go_wp2_with fail
  refine HC1.out.mono ?_
  rintro e z1 ⟨rfl, hT⟩
  have HTo := hid hT
  obtain ⟨d0, d1, d2, d3, d4⟩ := CC.out (z1.alloc (.cells #[.bool d, .int .i64 a1, .int .i64 a2, .int .i64 a3] 45)) ((KA.out _ _ hT.kp).trans (Kp.alloc _ _ _))
  clear hT c0 c1 c2 c3 c4
  go_wp2_with fail
  have T2 := HTo.out.more (Kp.alloc z1 (.cells #[.bool d, .int .i64 a1, .int .i64 a2, .int .i64 a3] 45) [])
  have X2 : Bp (z1.alloc (.cells #[.bool d, .int .i64 a1, .int .i64 a2, .int .i64 a3] 45)) z1.heap.size d a1 a2 a3 := heap_alloc_new z1 _
  have HB1 : z1.heap.size ∉ [rb, sb, tb] := fun hm => by
    have h1 := Q0.out.lt z1.heap.size (by
      simp only [List.mem_cons, List.not_mem_nil, or_false] at hm ⊢
      rcases hm with hm | hm | hm
      · exact .inl hm
      · exact .inr (.inl hm)
      · exact .inr (.inr (.inl hm)))
    have := HTo.out.kp.size
    omega
  generalize z1.heap.size = p1 at X2 HB1 ⊢
  generalize z1.alloc (.cells #[.bool d, .int .i64 a1, .int .i64 a2, .int .i64 a3] 45) = y1 at d0 d1 d2 d3 d4 T2 X2 ⊢
  clear HTo
  have HTo := hid T2
  have HX2 := hid X2
  have HB2 := hid HB1
  clear T2 X2 HB1
  refine (HC2.out y1 (MID.out y1 _ HTo.out)).mono ?_
  rintro e z2 ⟨rfl, hR⟩
  have F := hid (FIN.out y1 z2 _ HOM.out HTo.out hR)
  have X3 := hid (HX2.out.keep (show Kp y1 z2 [rb, sb, tb] from by obtain ⟨B3, -, -, k3⟩ := hR; exact k3) HB2.out)
  clear hR d0 d1 d2 d3 d4 HTo
  have hp1 := lt_of_block X3.out
  have F2 := hid (show ∃ Q', Pa (z2.alloc (.cells #[.bool d, .int .i64 a1, .int .i64 a2, .int .i64 a3] 45)) qb rb Q' M' ∧ Nw w (R ++ (rb :: sb :: tb :: B.toList)) Q' ∧ Kp w (z2.alloc (.cells #[.bool d, .int .i64 a1, .int .i64 a2, .int .i64 a3] 45)) (R ++ (rb :: sb :: tb :: B.toList)) from by
    obtain ⟨Q', f1, f2, f3⟩ := F.out
    exact ⟨Q', f1.same (Kp.alloc _ _ _), f2, f3.trans (Kp.alloc _ _ _)⟩)
  clear F
  have F := F2
  clear F2
  have X4 := X3.out.keep (Kp.alloc z2 (.cells #[.bool d, .int .i64 a1, .int .i64 a2, .int .i64 a3] 45) []) (by simp)
  have X5 : Bp (z2.alloc (.cells #[.bool d, .int .i64 a1, .int .i64 a2, .int .i64 a3] 45)) z2.heap.size d a1 a2 a3 := heap_alloc_new z2 _
  have e0 := X4.c0
  have e1 := X4.c1
  have e2 := X4.c2
  have e3 := X4.c3
  have e5 := X5.c0
  have e6 := X5.c1
  have e7 := X5.c2
  have e8 := X5.c3
  clear X3 X4 X5 hp1
  have q45 := eql45 d d a1 a2 a3 a1 a2 a3
  simp only [beq_self_eq_true, Bool.and_self] at q45
  go_wp2_with fail
  refine (num_any _ _).mono ?_
  rintro e _ ⟨rfl, rfl⟩
  go_wp2
  refine bodyPost_ret (results_tmp3 rfl _ _ _) rfl ?_
  obtain ⟨Q', g1, g2, g3⟩ := F.out
  exact ⟨qb, Q', by simp, g1, g2, g3⟩
end Go.Proofs.Ytllkopekfanfaaa
