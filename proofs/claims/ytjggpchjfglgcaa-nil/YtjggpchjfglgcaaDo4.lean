/- do: one step of kind 4. -/
import Derived.BigQuiet
import Derived.Deep.RegionHeldLaw
import Derived.Deep.RegionWith
import Derived.Test.YtjggpchjfglgcaaPa
namespace Go.Proofs.Ytjggpchjfglgcaa
open Go.RowKit Go.Shelf Go.Lib
attribute [local go_sem] Oper.semAt_some

set_option maxRecDepth 100000 in
set_option maxHeartbeats 4000000 in
theorem do4 (w : World) (cb rb : Nat) (M : Cn) (on : Bool) (x y : Int) (h : Pa w cb rb M) : Calls Try.prog 9 #[.pointer (some ⟨cb, 0, none⟩), .pointer (some ⟨rb, 0, none⟩), .agg #[.int .i64 4, .bool on, .int .i64 x, .int .i64 y]] w fun e w' => Did w w' cb rb (pushM M x y) e := by
  have HL := hid h.l
  obtain ⟨W0, hW0⟩ : ∃ W0, w.alloc (.cells #[.int .i64 4, .bool on, .int .i64 x, .int .i64 y] 32) = W0 := ⟨_, rfl⟩
  obtain ⟨c0, c1, c2, c3⟩ := cellS4 w (.int .i64 4) (.bool on) (.int .i64 x) (.int .i64 y)
  have kk : Kp w W0 [] := by rw [← hW0]; exact Kp.alloc _ _ _
  have S0 := hid (h.c.same kk)
  have Q0 := hid (h.r.same kk)
  have K0 := hid kk
  have HNE := hid h.ne
  rw [hW0] at c0 c1 c2 c3
  have hz : cb < w.heap.size ∧ rb < w.heap.size := ⟨Cw.lt h.c, h.r.lt⟩
  have HZ := hid hz
  have CX := hid (fun (z : World) (hk : Kp W0 z [cb, rb]) => And.intro (hk.cell c0 (by simp; omega)) (And.intro (hk.cell c1 (by simp; omega)) (And.intro (hk.cell c2 (by simp; omega)) (hk.cell c3 (by simp; omega)))))
  have FIN := hid (fun (w1 : World) (M' : Cn) (hc : Cc w1 cb M') (hr : Rq w1 rb M') (hl : M'.L.length ≤ 8) (hk : Kp W0 w1 [cb, rb]) => (show Pa w1 cb rb M' ∧ Kp w w1 [cb, rb] from ⟨⟨hc, hr, hl⟩, K0.out.nil.trans hk⟩))
  have KC := hid (show ∀ (A C : World), Kp A C [cb] → Kp A C [cb, rb] from fun _ _ h => h.mono (fun x hx _ => by simp at hx; simp [hx]))
  have KR := hid (show ∀ (A C : World), Kp A C [rb] → Kp A C [cb, rb] from fun _ _ h => h.mono (fun x hx _ => by simp at hx; simp [hx]))
  clear h kk hz
  obtain ⟨E, hE⟩ : ∃ E, pushE M x = E := ⟨_, rfl⟩
  have HC1 := fun z (hc : Cc z cb M) => push_any hc HL.out x y
  have HC2 := fun z (hr : Rq z rb M) => rpush_any hr HL.out x y
  have HOM := hid (pushM_len HL.out x y)
  simp only [hE] at HC1 HC2
  obtain ⟨M', hM'⟩ : ∃ M', pushM M x y = M' := ⟨_, rfl⟩
  rw [hM'] at HOM ⊢
  simp only [hM'] at HC1 HC2
  replace HC1 := hid HC1
  replace HC2 := hid HC2
  clear hE hM'
  go_enter Try.func9, Try.ntmps9
  go_wp2_with fail
  go_region_held_law (fun w1 => w1.cell? ⟨w.heap.size, 0, none⟩ = some (.int .i64 4) ∧ w1.cell? ⟨w.heap.size, 1, none⟩ = some (.bool on) ∧ w1.cell? ⟨w.heap.size, 2, none⟩ = some (.int .i64 x) ∧ w1.cell? ⟨w.heap.size, 3, none⟩ = some (.int .i64 y))
    (first
      | exact CX.out _ (Kp.drew _ _)
      | exact CX.out _ ((Kp.drew _ _).trans (KC.out _ _ hK1))
      | exact CX.out _ (((Kp.drew _ _).trans (KC.out _ _ hK1)).trans hK2.nil)
      | exact CX.out _ (((Kp.drew _ _).trans (KC.out _ _ hK1)).trans (KR.out _ _ hK3))
      | exact CX.out _ ((((Kp.drew _ _).trans (KC.out _ _ hK1)).trans (KR.out _ _ hK3)).trans hK2.nil)
      | exact CX.out _ ((((Kp.drew _ _).trans (KC.out _ _ hK1)).trans hK2.nil).trans (KR.out _ _ hK3)))
    (first
      | (go_at_call 28; have _hh := hK1; refine (HC2.out _ (((Q0.out.same (Kp.drew _ [])).mid (S0.out.same (Kp.drew _ [])) hK1).same hK2)).mono ?_; rintro e z3 ⟨rfl, hr3, hK3⟩)
      | (go_at_call 17; refine (num_kp _ _).mono ?_; rintro e z2 ⟨rfl, hK2⟩)
      | (go_at_call 18; refine (HC1.out _ (S0.out.same (Kp.drew _ []))).mono ?_; rintro e z1 ⟨rfl, hc1, hK1⟩))
  have F := hid (FIN.out z3 M' (Cw.keep (hc1.same hK2) hK3 (by simp; exact HNE.out)) hr3 HOM.out ((((Kp.drew W0 _).trans (KC.out _ _ hK1)).trans hK2.nil).trans (KR.out _ _ hK3)))
  clear hc1 hK1 hK2 hK3 hr3
  go_wp2
  refine bodyPost_ret (results_tmp3 rfl _ _ _) rfl ?_
  exact ⟨cb, by simp, F.out.1, .inl rfl, F.out.2⟩
end Go.Proofs.Ytjggpchjfglgcaa
