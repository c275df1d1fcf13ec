/- do: one step of kind 3. -/
import Derived.BigQuiet
import Derived.Deep.RegionHeldLaw
import Derived.Deep.RegionWith
import Derived.Test.YtllkopekfanfaaaPa
namespace Go.Proofs.Ytllkopekfanfaaa
open Go.RowKit Go.Shelf Go.Lib Go.Sort Go.Maps
attribute [local go_sem] Oper.semAt_some

set_option maxRecDepth 100000 in
set_option maxHeartbeats 4000000 in
theorem do3 (w : World) (qb rb : Nat) (Q : List Nat) (M : Qs) (t p x y : Int) (hi : i64 t) (h : Pa w qb rb Q M) : Calls Try.prog 11 #[.pointer (some ⟨qb, 0, none⟩), .pointer (some ⟨rb, 0, none⟩), .agg #[.int .i64 3, .int .i64 t, .int .i64 p, .int .i64 x, .int .i64 y]] w fun e w' => Did w w' rb Q (leM M t) e := by
  obtain ⟨R, sb, tb, B, rfl, hs, hr, h3, ok⟩ := h
  have HOK := hid ok
  obtain ⟨W0, hW0⟩ : ∃ W0, w.alloc (.cells #[.int .i64 3, .int .i64 t, .int .i64 p, .int .i64 x, .int .i64 y] 36) = W0 := ⟨_, rfl⟩
  obtain ⟨c0, c1, c2, c3, c4⟩ := cellS5 w (.int .i64 3) (.int .i64 t) (.int .i64 p) (.int .i64 x) (.int .i64 y)
  have kk : Kp w W0 [] := by rw [← hW0]; exact Kp.alloc _ _ _
  have S0 := hid (hs.same kk)
  have Q0 := hid (hr.same kk)
  have HN := hid h3
  have K0 := hid kk
  have HS := hid kk.size
  rw [hW0] at c0 c1 c2 c3 c4
  have hbx : w.heap.size ∉ R ++ (rb :: sb :: tb :: B.toList) := fun hm => by
    rcases List.mem_append.1 hm with hm | hm
    · have := hs.lt _ hm; omega
    · have := hr.lt _ hm; omega
  have CC := hid (fun (w1 : World) (hk : Kp W0 w1 (R ++ (rb :: sb :: tb :: B.toList))) => And.intro (hk.cell c0 hbx) (And.intro (hk.cell c1 hbx) (And.intro (hk.cell c2 hbx) (And.intro (hk.cell c3 hbx) (hk.cell c4 hbx)))))
  have CX := hid (fun (w1 : World) (hk : Kp W0 w1 (R ++ (rb :: sb :: tb :: B.toList))) => And.intro (hk.cell c0 hbx) (And.intro (hk.cell c1 hbx) (hk.cell c2 hbx)))
  have KA := hid (show ∀ (A C : World), Kp A C R → Kp A C (R ++ (rb :: sb :: tb :: B.toList)) from fun _ _ h => h.mono (fun x hx _ => List.mem_append_left _ hx))
  have KB := hid (show ∀ (A C : World), Kp A C [rb, sb, tb] → Kp A C (R ++ (rb :: sb :: tb :: B.toList)) from fun _ _ h => h.mono (fun x hx _ => List.mem_append_right _ (by
    simp only [List.mem_cons, List.not_mem_nil, or_false] at hx ⊢
    rcases hx with hx | hx | hx
    · exact .inl hx
    · exact .inr (.inl hx)
    · exact .inr (.inr (.inl hx)))))
  have FIN := hid (fun (w1 w2 : World) (M' : Qs) (hm : Qok M') (ha : To W0 w1 qb R M') (hb : Rto w1 w2 rb sb tb B M') => (show ∃ Q', Pa w2 qb rb Q' M' ∧ Nw w (R ++ (rb :: sb :: tb :: B.toList)) Q' ∧ Kp w w2 (R ++ (rb :: sb :: tb :: B.toList)) from by
    obtain ⟨Q', x1, x2, x3⟩ := pa_fin Q0.out HN.out hm ha hb
    exact ⟨Q', x1, fun y hy => (x2 y hy).imp id (fun h => Nat.le_trans HS.out h), K0.out.nil.trans x3⟩))
  have MID := hid (fun (w1 : World) (M' : Qs) (ha : To W0 w1 qb R M') => Rq.mid S0.out Q0.out HN.out ha)
  have HI := hid hi
  clear hs hr h3 ok kk hbx hi
  obtain ⟨E, hE⟩ : ∃ E, leE M t = E := ⟨_, rfl⟩
  have HOM := hid (HOK.out.le t)
  have HC1 := fun z (hq : Qc z qb R M) => leave_yes hq t HI.out
  have HC2 := fun z (hr : Rq z rb sb tb B M) => rleave_q hr t
  simp only [hE] at HC1 HC2
  obtain ⟨M', hM'⟩ : ∃ M', leM M t = M' := ⟨_, rfl⟩
  rw [hM'] at HOM ⊢
  simp only [hM'] at HC1 HC2
  replace HC1 := hid HC1
  replace HC2 := hid HC2
  clear hE hM'
  go_enter Try.func11, Try.ntmps11
  go_wp2_with fail
  go_region_held_law (fun w1 => w1.cell? ⟨w.heap.size, 0, none⟩ = some (.int .i64 3) ∧ w1.cell? ⟨w.heap.size, 1, none⟩ = some (.int .i64 t) ∧ w1.cell? ⟨w.heap.size, 2, none⟩ = some (.int .i64 p))
    (first
      | exact CX.out _ (Kp.drew _ _)
      | exact CX.out _ ((Kp.drew _ _).trans (KA.out _ _ hK1))
      | exact CX.out _ (((Kp.drew _ _).trans (KA.out _ _ hK1)).trans hK2.nil)
      | exact CX.out _ (((Kp.drew _ _).trans (KA.out _ _ hK1)).trans (KB.out _ _ hK3))
      | exact CX.out _ ((((Kp.drew _ _).trans (KA.out _ _ hK1)).trans (KB.out _ _ hK3)).trans hK2.nil)
      | exact CX.out _ ((((Kp.drew _ _).trans (KA.out _ _ hK1)).trans hK2.nil).trans (KB.out _ _ hK3)))
    (first
      | (go_at_call 31; have _hh := hK1; refine (HC2.out _ ((Q0.out.same (Kp.drew _ [])).away (hK1.trans hK2.nil) (fun x hx hm => HN.out x hm hx) (S0.out.same (Kp.drew _ [])).notD)).mono ?_; rintro e z3 ⟨rfl, B3, hr3, hn3, hK3⟩)
      | (go_at_call 9; refine (num_kp _ _).mono ?_; rintro e z2 ⟨rfl, hK2⟩)
      | (go_at_call 18; refine (HC1.out _ (S0.out.same (Kp.drew _ []))).mono ?_; rintro e z1 ⟨rfl, R2, hs2, hn2, hK1⟩))
  have TO := hid (show To W0 z2 qb R M' from ⟨R2, hs2.same hK2, hn2, ((Kp.drew W0 R).trans hK1).trans hK2.nil⟩)
  have F := hid (FIN.out z2 z3 _ HOM.out TO.out ⟨B3, hr3, hn3, hK3⟩)
  clear hs2 hn2 hK1 hK2 hK3 hr3 hn3 TO
  go_wp2
  refine bodyPost_ret (results_tmp3 rfl _ _ _) rfl ?_
  obtain ⟨Q', g1, g2, g3⟩ := F.out
  exact ⟨qb, Q', by simp, g1, g2, g3⟩
end Go.Proofs.Ytllkopekfanfaaa

/- do: one step of kind 4. -/
namespace Go.Proofs.Ytllkopekfanfaaa
open Go.RowKit Go.Shelf Go.Lib Go.Sort Go.Maps
attribute [local go_sem] Oper.semAt_some

set_option maxRecDepth 100000 in
set_option maxHeartbeats 4000000 in
theorem do4 (w : World) (qb rb : Nat) (Q : List Nat) (M : Qs) (t p x y : Int) (hi : i64 t) (h : Pa w qb rb Q M) : Calls Try.prog 11 #[.pointer (some ⟨qb, 0, none⟩), .pointer (some ⟨rb, 0, none⟩), .agg #[.int .i64 4, .int .i64 t, .int .i64 p, .int .i64 x, .int .i64 y]] w fun e w' => Did w w' rb Q (chM M t p) e := by
  obtain ⟨R, sb, tb, B, rfl, hs, hr, h3, ok⟩ := h
  have HOK := hid ok
  obtain ⟨W0, hW0⟩ : ∃ W0, w.alloc (.cells #[.int .i64 4, .int .i64 t, .int .i64 p, .int .i64 x, .int .i64 y] 36) = W0 := ⟨_, rfl⟩
  obtain ⟨c0, c1, c2, c3, c4⟩ := cellS5 w (.int .i64 4) (.int .i64 t) (.int .i64 p) (.int .i64 x) (.int .i64 y)
  have kk : Kp w W0 [] := by rw [← hW0]; exact Kp.alloc _ _ _
  have S0 := hid (hs.same kk)
  have Q0 := hid (hr.same kk)
  have HN := hid h3
  have K0 := hid kk
  have HS := hid kk.size
  rw [hW0] at c0 c1 c2 c3 c4
  have hbx : w.heap.size ∉ R ++ (rb :: sb :: tb :: B.toList) := fun hm => by
    rcases List.mem_append.1 hm with hm | hm
    · have := hs.lt _ hm; omega
    · have := hr.lt _ hm; omega
  have CC := hid (fun (w1 : World) (hk : Kp W0 w1 (R ++ (rb :: sb :: tb :: B.toList))) => And.intro (hk.cell c0 hbx) (And.intro (hk.cell c1 hbx) (And.intro (hk.cell c2 hbx) (And.intro (hk.cell c3 hbx) (hk.cell c4 hbx)))))
  have CX := hid (fun (w1 : World) (hk : Kp W0 w1 (R ++ (rb :: sb :: tb :: B.toList))) => And.intro (hk.cell c0 hbx) (And.intro (hk.cell c1 hbx) (hk.cell c2 hbx)))
  have KA := hid (show ∀ (A C : World), Kp A C R → Kp A C (R ++ (rb :: sb :: tb :: B.toList)) from fun _ _ h => h.mono (fun x hx _ => List.mem_append_left _ hx))
  have KB := hid (show ∀ (A C : World), Kp A C [rb, sb, tb] → Kp A C (R ++ (rb :: sb :: tb :: B.toList)) from fun _ _ h => h.mono (fun x hx _ => List.mem_append_right _ (by
    simp only [List.mem_cons, List.not_mem_nil, or_false] at hx ⊢
    rcases hx with hx | hx | hx
    · exact .inl hx
    · exact .inr (.inl hx)
    · exact .inr (.inr (.inl hx)))))
  have FIN := hid (fun (w1 w2 : World) (M' : Qs) (hm : Qok M') (ha : To W0 w1 qb R M') (hb : Rto w1 w2 rb sb tb B M') => (show ∃ Q', Pa w2 qb rb Q' M' ∧ Nw w (R ++ (rb :: sb :: tb :: B.toList)) Q' ∧ Kp w w2 (R ++ (rb :: sb :: tb :: B.toList)) from by
    obtain ⟨Q', x1, x2, x3⟩ := pa_fin Q0.out HN.out hm ha hb
    exact ⟨Q', x1, fun y hy => (x2 y hy).imp id (fun h => Nat.le_trans HS.out h), K0.out.nil.trans x3⟩))
  have MID := hid (fun (w1 : World) (M' : Qs) (ha : To W0 w1 qb R M') => Rq.mid S0.out Q0.out HN.out ha)
  have HI := hid hi
  clear hs hr h3 ok kk hbx hi
  obtain ⟨E, hE⟩ : ∃ E, chE M t p = E := ⟨_, rfl⟩
  have HOM := hid (HOK.out.ch t p)
  have HC1 := fun z (hq : Qc z qb R M) => change_yes hq t p HI.out
  have HC2 := fun z (hr : Rq z rb sb tb B M) => rchange_q hr t p
  simp only [hE] at HC1 HC2
  obtain ⟨M', hM'⟩ : ∃ M', chM M t p = M' := ⟨_, rfl⟩
  rw [hM'] at HOM ⊢
  simp only [hM'] at HC1 HC2
  replace HC1 := hid HC1
  replace HC2 := hid HC2
  clear hE hM'
  go_enter Try.func11, Try.ntmps11
  go_wp2_with fail
  go_region_held_law (fun w1 => w1.cell? ⟨w.heap.size, 0, none⟩ = some (.int .i64 4) ∧ w1.cell? ⟨w.heap.size, 1, none⟩ = some (.int .i64 t) ∧ w1.cell? ⟨w.heap.size, 2, none⟩ = some (.int .i64 p))
    (first
      | exact CX.out _ (Kp.drew _ _)
      | exact CX.out _ ((Kp.drew _ _).trans (KA.out _ _ hK1))
      | exact CX.out _ (((Kp.drew _ _).trans (KA.out _ _ hK1)).trans hK2.nil)
      | exact CX.out _ (((Kp.drew _ _).trans (KA.out _ _ hK1)).trans (KB.out _ _ hK3))
      | exact CX.out _ ((((Kp.drew _ _).trans (KA.out _ _ hK1)).trans (KB.out _ _ hK3)).trans hK2.nil)
      | exact CX.out _ ((((Kp.drew _ _).trans (KA.out _ _ hK1)).trans hK2.nil).trans (KB.out _ _ hK3)))
    (first
      | (go_at_call 32; have _hh := hK1; refine (HC2.out _ ((Q0.out.same (Kp.drew _ [])).away (hK1.trans hK2.nil) (fun x hx hm => HN.out x hm hx) (S0.out.same (Kp.drew _ [])).notD)).mono ?_; rintro e z3 ⟨rfl, B3, hr3, hn3, hK3⟩)
      | (go_at_call 9; refine (num_kp _ _).mono ?_; rintro e z2 ⟨rfl, hK2⟩)
      | (go_at_call 19; refine (HC1.out _ (S0.out.same (Kp.drew _ []))).mono ?_; rintro e z1 ⟨rfl, R2, hs2, hn2, hK1⟩))
  have TO := hid (show To W0 z2 qb R M' from ⟨R2, hs2.same hK2, hn2, ((Kp.drew W0 R).trans hK1).trans hK2.nil⟩)
  have F := hid (FIN.out z2 z3 _ HOM.out TO.out ⟨B3, hr3, hn3, hK3⟩)
  clear hs2 hn2 hK1 hK2 hK3 hr3 hn3 TO
  go_wp2
  refine bodyPost_ret (results_tmp3 rfl _ _ _) rfl ?_
  obtain ⟨Q', g1, g2, g3⟩ := F.out
  exact ⟨qb, Q', by simp, g1, g2, g3⟩
end Go.Proofs.Ytllkopekfanfaaa
