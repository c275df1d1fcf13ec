/- do: one step of kind 0. -/
import Derived.Test.YtoenipaccnpihaaPa
namespace Go.Proofs.Ytoenipaccnpihaa
open Go.RowKit Go.Shelf Go.Sort Go.Maps
open Go.Lib hiding intOf
attribute [local go_sem] Oper.semAt_some

set_option maxRecDepth 100000 in
set_option maxHeartbeats 4000000 in
theorem do0 (w : World) (sb rb : Nat) (R Q : List Nat) (T S : Nat) (M : Nat → Nat) (L : El) (k t n v : Int) (x : Nat) (hx : x < 4294967296) (hl : L.length ≤ 600) (k1 : k ≠ 1) (k2 : k ≠ 2) (k3 : k ≠ 3) (k4 : k ≠ 4) (k5 : k ≠ 5) (h : Pa w sb rb R Q T S M L) : Calls Try.prog 11 #[.pointer (some ⟨sb, 0, none⟩), .pointer (some ⟨rb, 0, none⟩), .agg #[.int .i64 k, .int .i64 t, .int .i64 n, .int .i64 v, .int .u32 x]] w fun e w' => Did w w' rb R Q T S (M) (L) e := by
  have HOK := hid h.1.ok
  have HT := hid h.1.bd.1.2
  have HT1 := hid h.1.bd.1.1
  obtain ⟨W0, hW0⟩ : ∃ W0, w.alloc (.cells #[.int .i64 k, .int .i64 t, .int .i64 n, .int .i64 v, .int .u32 x] 36) = W0 := ⟨_, rfl⟩
  obtain ⟨c0, c1, c2, c3, c4⟩ := cell5 w (.int .i64 k) (.int .i64 t) (.int .i64 n) (.int .i64 v) (.int .u32 x)
  have kk : Kp w W0 [] := by rw [← hW0]; exact Kp.alloc _ _ _
  have H0 := hid (h.same kk)
  have K0 := hid kk
  have HS := hid kk.size
  rw [hW0] at c0 c1 c2 c3 c4
  have hbx : w.heap.size ∉ R ++ Q := fun hm => Nat.lt_irrefl _ (h.lt _ hm)
  have CC := hid (fun (w1 : World) (hk : Kp W0 w1 (R ++ Q)) => And.intro (hk.cell c0 hbx) (And.intro (hk.cell c1 hbx) (And.intro (hk.cell c2 hbx) (And.intro (hk.cell c3 hbx) (hk.cell c4 hbx)))))
  have KA := hid (show ∀ (A B : World), Kp A B R → Kp A B (R ++ Q) from fun _ _ h => h.mono (fun x hx _ => List.mem_append_left _ hx))
  have hrb := h.2.1.mem
  have KB := hid (show ∀ (A B : World), Kp A B [rb] → Kp A B (R ++ Q) from fun _ _ h => h.mono (by intro x hx _; simp at hx; subst hx; exact List.mem_append_right _ hrb))
  have FIN := hid (fun (w1 w2 : World) (M' : Nat → Nat) (L' : El) (ha : To W0 w1 sb R T S M' L') (hb : Rst w1 w2 rb Q T S M' L') => (show ∃ R' Q', Pa w2 sb rb R' Q' T S M' L' ∧ Nw w (R ++ Q) (R' ++ Q') ∧ Kp w w2 (R ++ Q) from by
    obtain ⟨R', Q', x1, x2, x3⟩ := H0.out.fin ha hb
    exact ⟨R', Q', x1, fun y hy => (x2 y hy).imp id (fun h => Nat.le_trans HS.out h), K0.out.nil.trans x3⟩))
  have HX := hid hx
  have HL := hid hl
  clear h kk hbx hrb hx hl
  have kf1 : (k == 1) = false := by simp [k1]
  have kf2 : (k == 2) = false := by simp [k2]
  have kf3 : (k == 3) = false := by simp [k3]
  have kf4 : (k == 4) = false := by simp [k4]
  have kf5 : (k == 5) = false := by simp [k5]
  have F := hid (show ∃ R' Q', Pa W0 sb rb R' Q' T S M L ∧ Nw w (R ++ Q) (R' ++ Q') ∧ Kp w W0 (R ++ Q) from ⟨R, Q, H0.out, Nw.refl _ _, K0.out.nil⟩)
  clear k1 k2 k3 k4 k5
  go_enter Try.func11, Try.ntmps11
  go_wp2
  refine bodyPost_ret (results_tmp3 rfl _ _ _) rfl ?_
  obtain ⟨R', Q', g1, g2, g3⟩ := F.out
  exact ⟨sb, R', Q', by simp, g1, g2, g3⟩
end Go.Proofs.Ytoenipaccnpihaa
