/- do: one step of kind 1. -/
import Derived.BigQuiet
import Derived.Deep.RegionHeldLaw
import Derived.Deep.RegionWith
import Derived.Test.YtjggpchjfglgcaaPa
namespace Go.Proofs.Ytjggpchjfglgcaa
open Go.RowKit Go.Shelf Go.Lib
attribute [local go_sem] Oper.semAt_some

set_option maxRecDepth 100000 in
set_option maxHeartbeats 4000000 in
theorem do1 (w : World) (cb rb : Nat) (M : Cn) (on : Bool) (x y : Int) (h : Pa w cb rb M) : Calls Try.prog 9 #[.pointer (some ⟨cb, 0, none⟩), .pointer (some ⟨rb, 0, none⟩), .agg #[.int .i64 1, .bool on, .int .i64 x, .int .i64 y]] w fun e w' => Did w w' cb rb (askM M) e := by
  have HL := hid h.l
  obtain ⟨W0, hW0⟩ : ∃ W0, w.alloc (.cells #[.int .i64 1, .bool on, .int .i64 x, .int .i64 y] 32) = W0 := ⟨_, rfl⟩
  obtain ⟨c0, c1, c2, c3⟩ := cellS4 w (.int .i64 1) (.bool on) (.int .i64 x) (.int .i64 y)
  have kk : Kp w W0 [] := by rw [← hW0]; exact Kp.alloc _ _ _
  have S0 := hid (h.c.same kk)
  have Q0 := hid (h.r.same kk)
  have K0 := hid kk
  have HNE := hid h.ne
  rw [hW0] at c0 c1 c2 c3
  have hz : cb < w.heap.size ∧ rb < w.heap.size := ⟨Cw.lt h.c, h.r.lt⟩
  have HZ := hid hz
  have CX := hid (fun (z : World) (hk : Kp W0 z [cb, rb]) => And.intro (hk.cell c0 (by simp; omega)) (And.intro (hk.cell c1 (by simp; omega)) (And.intro (hk.cell c2 (by simp; omega)) (hk.cell c3 (by simp; omega)))))
  have FIN := hid (fun (w1 : World) (M' : Cn) (hc : Cc w1 cb M') (hr : Rq w1 rb M') (hl : M'.L.length ≤ 8) (hk : Kp W0 w1 [cb, rb]) => (show Pa w1 cb rb M' ∧ Kp w w1 [cb, rb] from ⟨⟨hc, hr, hl⟩, K0.out.nil.trans hk⟩))
  have KC := hid (show ∀ (A C : World), Kp A C [cb] → Kp A C [cb, rb] from fun _ _ h => h.mono (fun x hx _ => by simp at hx; simp [hx]))
  have KR := hid (show ∀ (A C : World), Kp A C [rb] → Kp A C [cb, rb] from fun _ _ h => h.mono (fun x hx _ => by simp at hx; simp [hx]))
  clear h kk hz
  have r0 := Q0.out.elim fun V h => h.c0
  have rf := Q0.out.elim fun V h => h.fr 0
  have e0 := eq_bool (!M.a)
  have HC := hid (fun (z : World) (hc : Cc z cb M) => ask_any (n := M.L.length) hc)
  have HS1 := hid (Cw.keep S0.out (Kp.setCell W0 ⟨rb, 0, none⟩ (.bool true)) (by simp; exact HNE.out))
  have HQ1 := hid (Q0.out.ask)
  have kz := Kp.setCell W0 ⟨rb, 0, none⟩ (.bool true)
  have KZ := hid kz
  obtain ⟨d0, d1, d2, d3⟩ := CX.out _ (KR.out _ _ kz)
  obtain ⟨A, hA⟩ : ∃ A, M.a = A := ⟨_, rfl⟩
  simp only [hA] at r0 e0 HC
  clear hA kz
  go_enter Try.func9, Try.ntmps9
  go_wp2_with fail
  refine (HC.out _ HS1.out).mono ?_
  rintro e z1 ⟨rfl, hc, hk⟩
  have F := hid (FIN.out z1 _ hc (HQ1.out.mid HS1.out hk) HL.out ((KR.out _ _ KZ.out).trans (KC.out _ _ hk)))
  clear hc hk d0 d1 d2 d3 c0 c1 c2 c3 r0 rf
  go_wp2_with fail
  refine (num_any _ _).mono ?_
  rintro e _ ⟨rfl, rfl⟩
  go_wp2
  refine bodyPost_ret (results_tmp3 rfl _ _ _) rfl ?_
  exact ⟨cb, by simp, F.out.1, .inl rfl, F.out.2⟩
end Go.Proofs.Ytjggpchjfglgcaa
