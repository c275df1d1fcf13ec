/- do: one step of kind 5. -/
import Derived.BigQuiet
import Derived.Deep.RegionHeldLaw
import Derived.Deep.RegionWith
import Derived.Test.YtjggpchjfglgcaaPa
namespace Go.Proofs.Ytjggpchjfglgcaa
open Go.RowKit Go.Shelf Go.Lib
attribute [local go_sem] Oper.semAt_some

set_option maxRecDepth 100000 in
set_option maxHeartbeats 4000000 in
theorem do5 (w : World) (cb rb : Nat) (M : Cn) (on : Bool) (x y : Int) (h : Pa w cb rb M) : Calls Try.prog 9 #[.pointer (some ⟨cb, 0, none⟩), .pointer (some ⟨rb, 0, none⟩), .agg #[.int .i64 5, .bool on, .int .i64 x, .int .i64 y]] w fun e w' => Did w w' cb rb (popM M) e := by
  have HL := hid h.l
  obtain ⟨W0, hW0⟩ : ∃ W0, w.alloc (.cells #[.int .i64 5, .bool on, .int .i64 x, .int .i64 y] 32) = W0 := ⟨_, rfl⟩
  obtain ⟨c0, c1, c2, c3⟩ := cellS4 w (.int .i64 5) (.bool on) (.int .i64 x) (.int .i64 y)
  have kk : Kp w W0 [] := by rw [← hW0]; exact Kp.alloc _ _ _
  have S0 := hid (h.c.same kk)
  have Q0 := hid (h.r.same kk)
  have K0 := hid kk
  have HNE := hid h.ne
  rw [hW0] at c0 c1 c2 c3
  have hz : cb < w.heap.size ∧ rb < w.heap.size := ⟨Cw.lt h.c, h.r.lt⟩
  have HZ := hid hz
  have CX := hid (fun (z : World) (hk : Kp W0 z [cb, rb]) => And.intro (hk.cell c0 (by simp; omega)) (And.intro (hk.cell c1 (by simp; omega)) (And.intro (hk.cell c2 (by simp; omega)) (hk.cell c3 (by simp; omega)))))
  have FIN := hid (fun (w1 : World) (M' : Cn) (hc : Cc w1 cb M') (hr : Rq w1 rb M') (hl : M'.L.length ≤ 8) (hk : Kp W0 w1 [cb, rb]) => (show Pa w1 cb rb M' ∧ Kp w w1 [cb, rb] from ⟨⟨hc, hr, hl⟩, K0.out.nil.trans hk⟩))
  have KC := hid (show ∀ (A C : World), Kp A C [cb] → Kp A C [cb, rb] from fun _ _ h => h.mono (fun x hx _ => by simp at hx; simp [hx]))
  have KR := hid (show ∀ (A C : World), Kp A C [rb] → Kp A C [cb, rb] from fun _ _ h => h.mono (fun x hx _ => by simp at hx; simp [hx]))
  clear h kk hz
  have HC1 := pop_any S0.out HL.out
  have HC2 := fun z (hr : Rq z rb M) => rpop_any hr HL.out
  have HOM := hid (popM_len HL.out)
  obtain ⟨E, hE⟩ : ∃ E, popE M = E := ⟨_, rfl⟩
  obtain ⟨v1, hv1⟩ : ∃ v, (popV M).1 = v := ⟨_, rfl⟩
  obtain ⟨v2, hv2⟩ : ∃ v, (popV M).2 = v := ⟨_, rfl⟩
  rw [hE, hv1, hv2] at HC1
  simp only [hE, hv1, hv2] at HC2
  obtain ⟨M', hM'⟩ : ∃ M', popM M = M' := ⟨_, rfl⟩
  rw [hM'] at HC1 HOM ⊢
  simp only [hM'] at HC2
  replace HC1 := hid HC1
  replace HC2 := hid HC2
  have q30 := eql30 v1 v2 v1 v2
  simp only [beq_self_eq_true, Bool.and_self] at q30
  clear hE hM' hv1 hv2
  go_enter Try.func9, Try.ntmps9
  go_wp2_with fail
  refine HC1.out.mono ?_
  rintro e z1 ⟨rfl, hc1, hk1⟩
  have C1 := hid hc1
  have K1 := hid hk1
  have R1 := hid (Q0.out.mid S0.out hk1)
  obtain ⟨d0, d1, d2, d3⟩ := CX.out (z1.alloc (.cells #[.int .i64 v1, .int .i64 v2] 30)) ((KC.out _ _ hk1).trans (Kp.alloc _ _ _))
  clear hc1 hk1 c0 c1 c2 c3
  go_wp2_with fail
  have X2 := heap_alloc_new z1 (.cells #[.int .i64 v1, .int .i64 v2] 30)
  have C2 := hid (C1.out.same (Kp.alloc z1 (.cells #[.int .i64 v1, .int .i64 v2] 30) []))
  have R2 := hid (R1.out.same (Kp.alloc z1 (.cells #[.int .i64 v1, .int .i64 v2] 30) []))
  have K2 := hid (K1.out.trans (Kp.alloc z1 (.cells #[.int .i64 v1, .int .i64 v2] 30) [cb]))
  have hp : z1.heap.size ≠ rb := by have := R1.out.lt; omega
  have HP := hid hp
  clear C1 R1 K1 hp
  generalize z1.alloc (.cells #[.int .i64 v1, .int .i64 v2] 30) = y1 at d0 d1 d2 d3 X2 C2 R2 K2 ⊢
  generalize z1.heap.size = p1 at X2 HP ⊢
  have X2 := hid X2
  refine (HC2.out y1 R2.out).mono ?_
  rintro e z2 ⟨rfl, hr2, hk2⟩
  have hl2 := lt_of_block X2.out
  have HS2 := hid hk2.size
  have X3 := (hk2.block p1 hl2 (by simp; exact HP.out)).trans X2.out
  have k3 := Kp.alloc z2 (.cells #[.int .i64 v1, .int .i64 v2] 30) []
  have F := hid (FIN.out (z2.alloc (.cells #[.int .i64 v1, .int .i64 v2] 30)) M' ((Cw.keep C2.out hk2 (by simp; exact HNE.out)).keep k3 (by simp)) (hr2.same k3) HOM.out (((KC.out _ _ K2.out).trans (KR.out _ _ hk2)).trans k3.nil))
  have X4 := (k3.block p1 (lt_of_block X3) (by simp)).trans X3
  have X5 := heap_alloc_new z2 (.cells #[.int .i64 v1, .int .i64 v2] 30)
  have e0 := cell_two0 X4
  have e1 := cell_two1 X4
  have e2 := cell_two0 X5
  have e3 := cell_two1 X5
  clear hr2 hk2 hl2 X3 X4 X5 k3 d0 d1 d2 d3 C2 R2 K2
  go_wp2_with fail
  refine (num_any _ _).mono ?_
  rintro e _ ⟨rfl, rfl⟩
  go_wp2
  refine bodyPost_ret (results_tmp3 rfl _ _ _) rfl ?_
  exact ⟨cb, by simp, F.out.1, .inl rfl, F.out.2⟩
end Go.Proofs.Ytjggpchjfglgcaa
