/- do: one step of kind 1. -/
import Derived.Test.YtoenipaccnpihaaPa
namespace Go.Proofs.Ytoenipaccnpihaa
open Go.RowKit Go.Shelf Go.Sort Go.Maps
open Go.Lib hiding intOf
attribute [local go_sem] Oper.semAt_some

set_option maxRecDepth 100000 in
set_option maxHeartbeats 4000000 in
theorem do1 (w : World) (sb rb : Nat) (R Q : List Nat) (T S : Nat) (M : Nat → Nat) (L : El) (t n v : Int) (x : Nat) (hx : x < 4294967296) (hl : L.length ≤ 600) (h : Pa w sb rb R Q T S M L) : Calls Try.prog 11 #[.pointer (some ⟨sb, 0, none⟩), .pointer (some ⟨rb, 0, none⟩), .agg #[.int .i64 1, .int .i64 t, .int .i64 n, .int .i64 v, .int .u32 x]] w fun e w' => Did w w' rb R Q T S (M) (sendL T S L t n v) e := by
  have HOK := hid h.1.ok
  have HT := hid h.1.bd.1.2
  have HT1 := hid h.1.bd.1.1
  obtain ⟨W0, hW0⟩ : ∃ W0, w.alloc (.cells #[.int .i64 1, .int .i64 t, .int .i64 n, .int .i64 v, .int .u32 x] 36) = W0 := ⟨_, rfl⟩
  obtain ⟨c0, c1, c2, c3, c4⟩ := cell5 w (.int .i64 1) (.int .i64 t) (.int .i64 n) (.int .i64 v) (.int .u32 x)
  have kk : Kp w W0 [] := by rw [← hW0]; exact Kp.alloc _ _ _
  have H0 := hid (h.same kk)
  have K0 := hid kk
  have HS := hid kk.size
  rw [hW0] at c0 c1 c2 c3 c4
  have hbx : w.heap.size ∉ R ++ Q := fun hm => Nat.lt_irrefl _ (h.lt _ hm)
  have CC := hid (fun (w1 : World) (hk : Kp W0 w1 (R ++ Q)) => And.intro (hk.cell c0 hbx) (And.intro (hk.cell c1 hbx) (And.intro (hk.cell c2 hbx) (And.intro (hk.cell c3 hbx) (hk.cell c4 hbx)))))
  have KA := hid (show ∀ (A B : World), Kp A B R → Kp A B (R ++ Q) from fun _ _ h => h.mono (fun x hx _ => List.mem_append_left _ hx))
  have hrb := h.2.1.mem
  have KB := hid (show ∀ (A B : World), Kp A B [rb] → Kp A B (R ++ Q) from fun _ _ h => h.mono (by intro x hx _; simp at hx; subst hx; exact List.mem_append_right _ hrb))
  have FIN := hid (fun (w1 w2 : World) (M' : Nat → Nat) (L' : El) (ha : To W0 w1 sb R T S M' L') (hb : Rst w1 w2 rb Q T S M' L') => (show ∃ R' Q', Pa w2 sb rb R' Q' T S M' L' ∧ Nw w (R ++ Q) (R' ++ Q') ∧ Kp w w2 (R ++ Q) from by
    obtain ⟨R', Q', x1, x2, x3⟩ := H0.out.fin ha hb
    exact ⟨R', Q', x1, fun y hy => (x2 y hy).imp id (fun h => Nat.le_trans HS.out h), K0.out.nil.trans x3⟩))
  have HX := hid hx
  have HL := hid hl
  clear h kk hbx hrb hx hl
  obtain ⟨E, hE⟩ : ∃ E, sendE T S L t n = E := ⟨_, rfl⟩
  have HC1 := hid (fun z (hk : Kp W0 z []) => hE ▸ send_any z sb R T S M L t n v (H0.out.1.same hk))
  have HC2 := hid (fun z (hr : Rm z rb Q T S M L) => hE ▸ rsend_any z rb Q T S M L t n v hr HOK.out HL.out)
  clear hE
  go_enter Try.func11, Try.ntmps11
  go_wp2_with fail
  go_region_held_law (fun w1 => w1.cell? ⟨w.heap.size, 0, none⟩ = some (.int .i64 1) ∧ w1.cell? ⟨w.heap.size, 1, none⟩ = some (.int .i64 t) ∧ w1.cell? ⟨w.heap.size, 2, none⟩ = some (.int .i64 n) ∧ w1.cell? ⟨w.heap.size, 3, none⟩ = some (.int .i64 v) ∧ w1.cell? ⟨w.heap.size, 4, none⟩ = some (.int .u32 x))
    (first
      | exact CC.out _ (Kp.drew _ _)
      | exact CC.out _ ((Kp.drew _ _).trans (KA.out _ _ hK1))
      | exact CC.out _ (((Kp.drew _ _).trans (KA.out _ _ hK1)).trans hK2.nil)
      | exact CC.out _ (((Kp.drew _ _).trans (KA.out _ _ hK1)).trans (KB.out _ _ hK3))
      | exact CC.out _ ((((Kp.drew _ _).trans (KA.out _ _ hK1)).trans (KB.out _ _ hK3)).trans hK2.nil)
      | exact CC.out _ ((((Kp.drew _ _).trans (KA.out _ _ hK1)).trans hK2.nil).trans (KB.out _ _ hK3)))
    (first
      | (go_at_call 25; have _hh := hK1; refine (HC2.out _ ((H0.out.2.1.same (Kp.drew _ [])).keep (hK1.trans hK2.nil) (fun x hx hm => H0.out.2.2 x hm hx))).mono ?_; rintro e z3 ⟨rfl, Q3, hr3, hn3, hK3⟩)
      | (go_at_call 9; refine (num_kp _ _).mono ?_; rintro e z2 ⟨rfl, hK2⟩)
      | (go_at_call 15; refine (HC1.out _ (Kp.drew _ [])).mono ?_; rintro e z1 ⟨rfl, R2, hs2, hn2, hK1⟩))
  have TO := hid (show To W0 z2 sb R T S M (sendL T S L t n v) from ⟨R2, hs2.same hK2, hn2, ((Kp.drew W0 R).trans hK1).trans hK2.nil⟩)
  have F := hid (FIN.out z2 z3 _ _ TO.out ⟨Q3, hr3, hn3, hK3⟩)
  clear hs2 hn2 hK1 hK2 hK3 hr3 hn3 TO
  go_wp2
  refine bodyPost_ret (results_tmp3 rfl _ _ _) rfl ?_
  obtain ⟨R', Q', g1, g2, g3⟩ := F.out
  exact ⟨sb, R', Q', by simp, g1, g2, g3⟩
end Go.Proofs.Ytoenipaccnpihaa
