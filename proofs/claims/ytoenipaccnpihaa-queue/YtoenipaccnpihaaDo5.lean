/- do: one step of kind 5. -/
import Derived.Test.YtoenipaccnpihaaPa
namespace Go.Proofs.Ytoenipaccnpihaa
open Go.RowKit Go.Shelf Go.Sort Go.Maps
open Go.Lib hiding intOf
attribute [local go_sem] Oper.semAt_some

theorem sameS_refl (T S : Nat) (M : Nat → Nat) (L : El) : sameS T S M L T S M L = true := by
  simp [sameS, eqM, eqQ]
theorem To.next {w w1 w2 : World} {sb : Nat} {R R1 : List Nat} {T S : Nat} {M2 : Nat → Nat} {L2 : El} (hn : Nw w R R1) (hk : Kp w w1 R) (h : To w1 w2 sb R1 T S M2 L2) : To w w2 sb R T S M2 L2 := by
  obtain ⟨R2, s, n, k⟩ := h
  have hz := hk.size
  exact ⟨R2, s, hn.trans n hz, hk.past k fun x hx hl => (hn x hx).elim id fun h => by omega⟩
set_option maxRecDepth 100000 in
set_option maxHeartbeats 4000000 in
theorem do5 (w : World) (sb rb : Nat) (R Q : List Nat) (T S : Nat) (M : Nat → Nat) (L : El) (t n v : Int) (x : Nat) (hx : x < 4294967296) (hl : L.length ≤ 600) (h : Pa w sb rb R Q T S M L) : Calls Try.prog 11 #[.pointer (some ⟨sb, 0, none⟩), .pointer (some ⟨rb, 0, none⟩), .agg #[.int .i64 5, .int .i64 t, .int .i64 n, .int .i64 v, .int .u32 x]] w fun e w' => Did w w' rb R Q T S (M) (L) e := by
  have HOK := hid h.1.ok
  have HT := hid h.1.bd.1.2
  have HT1 := hid h.1.bd.1.1
  obtain ⟨W0, hW0⟩ : ∃ W0, w.alloc (.cells #[.int .i64 5, .int .i64 t, .int .i64 n, .int .i64 v, .int .u32 x] 36) = W0 := ⟨_, rfl⟩
  obtain ⟨c0, c1, c2, c3, c4⟩ := cell5 w (.int .i64 5) (.int .i64 t) (.int .i64 n) (.int .i64 v) (.int .u32 x)
  have kk : Kp w W0 [] := by rw [← hW0]; exact Kp.alloc _ _ _
  have H0 := hid (h.same kk)
  have K0 := hid kk
  have HS := hid kk.size
  rw [hW0] at c0 c1 c2 c3 c4
  have hbx : w.heap.size ∉ R ++ Q := fun hm => Nat.lt_irrefl _ (h.lt _ hm)
  have CC := hid (fun (w1 : World) (hk : Kp W0 w1 (R ++ Q)) => And.intro (hk.cell c0 hbx) (And.intro (hk.cell c1 hbx) (And.intro (hk.cell c2 hbx) (And.intro (hk.cell c3 hbx) (hk.cell c4 hbx)))))
  have KA := hid (show ∀ (A B : World), Kp A B R → Kp A B (R ++ Q) from fun _ _ h => h.mono (fun x hx _ => List.mem_append_left _ hx))
  have hrb := h.2.1.mem
  have KB := hid (show ∀ (A B : World), Kp A B [rb] → Kp A B (R ++ Q) from fun _ _ h => h.mono (by intro x hx _; simp at hx; subst hx; exact List.mem_append_right _ hrb))
  have FIN := hid (fun (w1 w2 : World) (M' : Nat → Nat) (L' : El) (ha : To W0 w1 sb R T S M' L') (hb : Rst w1 w2 rb Q T S M' L') => (show ∃ R' Q', Pa w2 sb rb R' Q' T S M' L' ∧ Nw w (R ++ Q) (R' ++ Q') ∧ Kp w w2 (R ++ Q) from by
    obtain ⟨R', Q', x1, x2, x3⟩ := H0.out.fin ha hb
    exact ⟨R', Q', x1, fun y hy => (x2 y hy).imp id (fun h => Nat.le_trans HS.out h), K0.out.nil.trans x3⟩))
  have HX := hid hx
  have HL := hid hl
  clear h kk hbx hrb hx hl
  have HC := hid (copy_any W0 sb R T S M L H0.out.1)
  go_enter Try.func11, Try.ntmps11
  go_wp2_with fail
  refine HC.out.mono ?_
  rintro e z1 ⟨ob, RC, rfl, hc, hf, hk1⟩
  have HE := same_both z1 ob sb RC R T S T S M M L L hc (H0.out.1.same hk1)
  rw [sameS_refl] at HE
  replace HE := hid HE
  have C1 := hid hc
  have HF := hid hf
  have HK1 := hid hk1
  clear hc hf hk1 c0 c1 c2 c3 c4
  go_wp2_with fail
  refine HE.out.mono ?_
  rintro e z2 ⟨rfl, hk2⟩
  have HK2 := hid (HK1.out.trans hk2)
  have C2 := hid (C1.out.same hk2)
  have S2 := hid (H0.out.1.same (HK1.out.trans hk2))
  clear hk2 HE C1 HK1
  go_wp2_with fail
  have N3 := send_any z2 sb R T S M L 0 31 99 S2.out
  generalize sendE T S L 0 31 = E3 at N3
  generalize sendL T S L 0 31 99 = L3 at N3
  refine N3.mono ?_
  clear N3
  rintro e z3 ⟨rfl, hT⟩
  have T3 := hid hT
  clear hT
  go_wp2_with fail
  obtain ⟨a4, b4, hab4⟩ := nxV_ex T L3 0 4294967295
  obtain ⟨B4, hB4⟩ : ∃ B, nxB T L3 0 4294967295 = B := ⟨_, rfl⟩
  obtain ⟨L4, hL4⟩ : ∃ B, nxL T L3 0 4294967295 = B := ⟨_, rfl⟩
  have N4 : Calls Try.prog 16 #[.pointer (some ⟨sb, 0, none⟩), .int .i64 0, .int .u32 4294967295] z3 fun e w' => e = .returned (.tuple #[.agg #[.int .i64 a4, .int .i64 b4], .bool B4]) ∧ To z2 w' sb R T S M L4 := by
    obtain ⟨R3, hs3, hn3, hk3⟩ := id T3.out
    refine (next_any z3 sb R3 T S M L3 0 4294967295 (by omega) hs3).mono ?_
    rintro e w' ⟨rfl, hT⟩
    rw [hab4, hB4]
    rw [hL4] at hT
    exact ⟨rfl, To.next hn3 hk3 hT⟩
  refine N4.mono ?_
  clear N4 hab4 hB4 hL4
  rintro e z4 ⟨rfl, hT⟩
  have T4 := hid hT
  clear hT T3
  go_wp2_with fail
  have N5 : Calls Try.prog 19 #[.pointer (some ⟨sb, 0, none⟩), .int .i64 0, .int .u32 77] z4 fun e w' => ∃ u E M5, e = .returned (.tuple #[.int .u32 u, .int .i64 E]) ∧ To z2 w' sb R T S M5 L4 := by
    obtain ⟨R4, hs4, hn4, hk4⟩ := id T4.out
    refine (setmask_any z4 sb R4 T S M L4 0 77 hs4 (by omega)).mono ?_
    rintro e w' ⟨rfl, hT⟩
    exact ⟨_, _, _, rfl, To.next hn4 hk4 hT⟩
  refine N5.mono ?_
  clear N5
  rintro e z5 ⟨u, E, M5, rfl, hT⟩
  have F := hid (show ∃ R' Q', Pa z5 ob rb R' Q' T S M L ∧ Nw w (R ++ Q) (R' ++ Q') ∧ Kp w z5 (R ++ Q) from by
    obtain ⟨R', Q', x1, x2, x3⟩ := H0.out.copy HK2.out C2.out HF.out hT
    exact ⟨R', Q', x1, fun y hy => (x2 y hy).imp id (fun h => Nat.le_trans HS.out h), K0.out.nil.trans x3⟩)
  clear hT
  go_wp2
  refine bodyPost_ret (results_tmp3 rfl _ _ _) rfl ?_
  obtain ⟨R', Q', g1, g2, g3⟩ := F.out
  exact ⟨ob, R', Q', by simp, g1, g2, g3⟩
end Go.Proofs.Ytoenipaccnpihaa
