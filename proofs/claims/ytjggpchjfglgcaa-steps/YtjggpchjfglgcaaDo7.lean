/- do: one step of kind 7. -/
import Derived.BigQuiet
import Derived.Deep.RegionHeldLaw
import Derived.Deep.RegionWith
import Derived.Test.YtjggpchjfglgcaaPa
namespace Go.Proofs.Ytjggpchjfglgcaa
open Go.RowKit Go.Shelf Go.Lib
attribute [local go_sem] Oper.semAt_some

set_option maxRecDepth 100000 in
set_option maxHeartbeats 4000000 in
theorem do7 (w : World) (cb rb : Nat) (M : Cn) (on : Bool) (x y : Int) (h : Pa w cb rb M) : Calls Try.prog 9 #[.pointer (some ⟨cb, 0, none⟩), .pointer (some ⟨rb, 0, none⟩), .agg #[.int .i64 7, .bool on, .int .i64 x, .int .i64 y]] w fun e w' => Did w w' cb rb (M) e := by
  have HL := hid h.l
  obtain ⟨W0, hW0⟩ : ∃ W0, w.alloc (.cells #[.int .i64 7, .bool on, .int .i64 x, .int .i64 y] 32) = W0 := ⟨_, rfl⟩
  obtain ⟨c0, c1, c2, c3⟩ := cellS4 w (.int .i64 7) (.bool on) (.int .i64 x) (.int .i64 y)
  have kk : Kp w W0 [] := by rw [← hW0]; exact Kp.alloc _ _ _
  have S0 := hid (h.c.same kk)
  have Q0 := hid (h.r.same kk)
  have K0 := hid kk
  have HNE := hid h.ne
  rw [hW0] at c0 c1 c2 c3
  have hz : cb < w.heap.size ∧ rb < w.heap.size := ⟨Cw.lt h.c, h.r.lt⟩
  have HZ := hid hz
  have CX := hid (fun (z : World) (hk : Kp W0 z [cb, rb]) => And.intro (hk.cell c0 (by simp; omega)) (And.intro (hk.cell c1 (by simp; omega)) (And.intro (hk.cell c2 (by simp; omega)) (hk.cell c3 (by simp; omega)))))
  have FIN := hid (fun (w1 : World) (M' : Cn) (hc : Cc w1 cb M') (hr : Rq w1 rb M') (hl : M'.L.length ≤ 8) (hk : Kp W0 w1 [cb, rb]) => (show Pa w1 cb rb M' ∧ Kp w w1 [cb, rb] from ⟨⟨hc, hr, hl⟩, K0.out.nil.trans hk⟩))
  have KC := hid (show ∀ (A C : World), Kp A C [cb] → Kp A C [cb, rb] from fun _ _ h => h.mono (fun x hx _ => by simp at hx; simp [hx]))
  have KR := hid (show ∀ (A C : World), Kp A C [rb] → Kp A C [cb, rb] from fun _ _ h => h.mono (fun x hx _ => by simp at hx; simp [hx]))
  clear h kk hz
  have HC := hid (copy_any S0.out)
  have HSZ := hid K0.out.size
  go_enter Try.func9, Try.ntmps9
  go_wp2_with fail
  refine HC.out.mono ?_
  rintro e z1 ⟨rfl, hc, hk1⟩
  have HE := same_any hc.cv (S0.out.same hk1).cv HL.out
  rw [sameV_self] at HE
  replace HE := hid HE
  obtain ⟨ob, hob⟩ : ∃ ob, W0.heap.size = ob := ⟨_, rfl⟩
  rw [hob] at hc HE
  try rw [hob]
  have HO := hid (show ob ≠ cb ∧ w.heap.size ≤ ob from by have := HZ.out; have := HSZ.out; omega)
  have C1 := hid hc
  have K1 := hid hk1
  have S1 := hid (S0.out.same hk1)
  clear hc hk1 c0 c1 c2 c3 hob HC
  go_wp2_with fail
  refine HE.out.mono ?_
  rintro e z2 ⟨rfl, hk2⟩
  have K2 := hid (K1.out.trans hk2)
  have C2 := hid (C1.out.same hk2)
  have S2 := hid (S1.out.same hk2)
  clear hk2 HE C1 K1 S1
  go_wp2_with fail
  refine (ask_any S2.out).mono ?_
  rintro e z3 ⟨rfl, hc3, hk3⟩
  have S3 := hid (show Cc z3 cb (askM M) from hc3)
  have K3 := hid hk3
  clear hc3 hk3
  go_wp2_with fail
  refine (unwind_any S3.out).mono ?_
  rintro e z4 ⟨rfl, hc4, hk4⟩
  have S4 := hid (show Cc z4 cb (unwM (askM M)) from hc4)
  have K4 := hid (K3.out.trans hk4)
  clear hc4 hk4 K3 S3
  go_wp2_with fail
  refine (pop_any S4.out HL.out).mono ?_
  rintro e z5 ⟨rfl, hc5, hk5⟩
  have S5 := hid hc5
  have K5 := hid (K4.out.trans hk5)
  clear hc5 hk5 K4 S4
  go_wp2_with fail
  refine (push_any S5.out (popM_len (M := unwM (askM M)) HL.out) 31 99).mono ?_
  rintro e z6 ⟨rfl, -, hk6⟩
  have K6 := hid (K5.out.trans hk6)
  have F := hid (show Pa z6 ob rb M ∧ Kp w z6 [cb, rb] from ⟨⟨Cw.keep C2.out K6.out (by simp; exact HO.out.1), (Q0.out.same K2.out).mid S2.out K6.out, HL.out⟩, (K0.out.nil.trans K2.out.nil).trans (KC.out _ _ K6.out)⟩)
  clear hk6
  go_wp2
  refine bodyPost_ret (results_tmp3 rfl _ _ _) rfl ?_
  exact ⟨ob, by simp, F.out.1, .inr HO.out.2, F.out.2⟩
end Go.Proofs.Ytjggpchjfglgcaa
