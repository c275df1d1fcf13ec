/- do: one step of kind 6. -/
import Derived.BigQuiet
import Derived.Deep.RegionHeldLaw
import Derived.Deep.RegionWith
import Derived.Test.YtjggpchjfglgcaaPa
namespace Go.Proofs.Ytjggpchjfglgcaa
open Go.RowKit Go.Shelf Go.Lib
attribute [local go_sem] Oper.semAt_some

set_option maxRecDepth 100000 in
set_option maxHeartbeats 4000000 in
theorem do6 (w : World) (cb rb : Nat) (M : Cn) (on : Bool) (x y : Int) (h : Pa w cb rb M) : Calls Try.prog 9 #[.pointer (some ⟨cb, 0, none⟩), .pointer (some ⟨rb, 0, none⟩), .agg #[.int .i64 6, .bool on, .int .i64 x, .int .i64 y]] w fun e w' => Did w w' cb rb (unwM M) e := by
  have HL := hid h.l
  obtain ⟨W0, hW0⟩ : ∃ W0, w.alloc (.cells #[.int .i64 6, .bool on, .int .i64 x, .int .i64 y] 32) = W0 := ⟨_, rfl⟩
  obtain ⟨c0, c1, c2, c3⟩ := cellS4 w (.int .i64 6) (.bool on) (.int .i64 x) (.int .i64 y)
  have kk : Kp w W0 [] := by rw [← hW0]; exact Kp.alloc _ _ _
  have S0 := hid (h.c.same kk)
  have Q0 := hid (h.r.same kk)
  have K0 := hid kk
  have HNE := hid h.ne
  rw [hW0] at c0 c1 c2 c3
  have hz : cb < w.heap.size ∧ rb < w.heap.size := ⟨Cw.lt h.c, h.r.lt⟩
  have HZ := hid hz
  have CX := hid (fun (z : World) (hk : Kp W0 z [cb, rb]) => And.intro (hk.cell c0 (by simp; omega)) (And.intro (hk.cell c1 (by simp; omega)) (And.intro (hk.cell c2 (by simp; omega)) (hk.cell c3 (by simp; omega)))))
  have FIN := hid (fun (w1 : World) (M' : Cn) (hc : Cc w1 cb M') (hr : Rq w1 rb M') (hl : M'.L.length ≤ 8) (hk : Kp W0 w1 [cb, rb]) => (show Pa w1 cb rb M' ∧ Kp w w1 [cb, rb] from ⟨⟨hc, hr, hl⟩, K0.out.nil.trans hk⟩))
  have KC := hid (show ∀ (A C : World), Kp A C [cb] → Kp A C [cb, rb] from fun _ _ h => h.mono (fun x hx _ => by simp at hx; simp [hx]))
  have KR := hid (show ∀ (A C : World), Kp A C [rb] → Kp A C [cb, rb] from fun _ _ h => h.mono (fun x hx _ => by simp at hx; simp [hx]))
  clear h kk hz
  obtain ⟨E, hE⟩ : ∃ E, unwE M = E := ⟨_, rfl⟩
  have HC1 := unwind_any (n := M.L.length) S0.out
  have HC2 := fun z (hr : Rq z rb M) => runwind_any hr
  rw [hE] at HC1
  simp only [hE] at HC2
  replace HC1 := hid HC1
  replace HC2 := hid HC2
  clear hE
  go_enter Try.func9, Try.ntmps9
  go_wp2_with fail
  refine HC1.out.mono ?_
  rintro e z1 ⟨rfl, hc1, hk1⟩
  have C1 := hid (show Cc z1 cb (unwM M) from hc1)
  have K1 := hid hk1
  have R1 := hid (Q0.out.mid S0.out hk1)
  clear hc1 hk1 c0 c1 c2 c3
  go_wp2_with fail
  refine (num_any _ _).mono ?_
  rintro e zz ⟨rfl, hw⟩; obtain rfl := hw.symm
  clear hw
  go_wp2_with fail
  refine (HC2.out z1 R1.out).mono ?_
  rintro e z2 ⟨rfl, hr2, hk2⟩
  have F := hid (FIN.out z2 _ (Cw.keep C1.out hk2 (by simp; exact HNE.out)) hr2 HL.out ((KC.out _ _ K1.out).trans (KR.out _ _ hk2)))
  clear hr2 hk2
  go_wp2
  refine bodyPost_ret (results_tmp3 rfl _ _ _) rfl ?_
  exact ⟨cb, by simp, F.out.1, .inl rfl, F.out.2⟩
end Go.Proofs.Ytjggpchjfglgcaa
