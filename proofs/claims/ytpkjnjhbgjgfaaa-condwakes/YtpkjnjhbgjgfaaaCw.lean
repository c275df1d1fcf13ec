/- refusal, Wait, New. -/
import Derived.Test.YtpkjnjhbgjgfaaaCm
namespace Go.Proofs.Ytpkjnjhbgjgfaaa
open Go.RowKit Go.Shelf Go.Lib Go.Sort Go.Maps
attribute [local go_sem] Oper.semAt_some

variable {w w' : World} {cb : Nat} {R : List Nat} {m : Int} {L : List Dl}
set_option maxRecDepth 100000 in
set_option maxHeartbeats 1000000 in
/-- refusal: why a thread may not wait. -/
theorem refusal_any (w : World) (cb : Nat) (R : List Nat) (m : Int) (L : List Dl) (t p u : Int) (h : Cm w cb R m L) : Calls Try.prog 40 #[.pointer (some ⟨cb, 0, none⟩), .int .i64 t, .int .i64 p, .int .i64 u] w fun e w' => e = .returned (.int .i64 (cwE m L t p u)) ∧ Kp w w' [] := by
  have HM := hid (cmutex w _ R m L h.cv)
  have HZ := hid (fun z (hk : Kp w z []) => (czero z _ R m L (h.same hk).cv))
  have hR : R.isEmpty = false := by
    obtain ⟨wb, R0, rfl, -⟩ := h
    rfl
  rw [hR] at HZ
  have HH := hid (fun z (hk : Kp w z []) (ht : i64 t) => (chas z _ R m L t (h.same hk).cv ht))
  clear h hR
  by_cases g0 : t < 0
  · have e : cwE m L t p u = 2 := by unfold cwE; rw [if_neg]; simp [mayT, mayP]; omega
    rw [e]
    have d0 : decide (t < 0) = true := decide_eq_true g0
    clear e HH
    go_enter Try.func40, Try.ntmps40
    go_wp2_with fail
    refine HM.out.mono ?_
    rintro e w1 ⟨rfl, hk⟩
    have HK := hid hk
    clear hk
    go_wp2_with fail
    refine (HZ.out w1 HK.out).mono ?_
    rintro e w2 ⟨rfl, hk⟩
    have HK2 := hid (HK.out.trans hk)
    clear hk
    go_wp2
    go_ret
    exact ⟨rfl, HK2.out⟩
  by_cases g1 : 16 ≤ t
  · have e : cwE m L t p u = 2 := by unfold cwE; rw [if_neg]; simp [mayT, mayP]; omega
    rw [e]
    have d0 : decide (t < 0) = false := decide_eq_false g0
    have d1 : decide (16 ≤ t) = true := decide_eq_true g1
    clear e HH
    go_enter Try.func40, Try.ntmps40
    go_wp2_with fail
    refine HM.out.mono ?_
    rintro e w1 ⟨rfl, hk⟩
    have HK := hid hk
    clear hk
    go_wp2_with fail
    refine (HZ.out w1 HK.out).mono ?_
    rintro e w2 ⟨rfl, hk⟩
    have HK2 := hid (HK.out.trans hk)
    clear hk
    go_wp2
    go_ret
    exact ⟨rfl, HK2.out⟩
  by_cases g2 : p < 1
  · have e : cwE m L t p u = 2 := by unfold cwE; rw [if_neg]; simp [mayT, mayP]; omega
    rw [e]
    have d0 : decide (t < 0) = false := decide_eq_false g0
    have d1 : decide (16 ≤ t) = false := decide_eq_false g1
    have d2 : decide (p < 1) = true := decide_eq_true g2
    clear e HH
    go_enter Try.func40, Try.ntmps40
    go_wp2_with fail
    refine HM.out.mono ?_
    rintro e w1 ⟨rfl, hk⟩
    have HK := hid hk
    clear hk
    go_wp2_with fail
    refine (HZ.out w1 HK.out).mono ?_
    rintro e w2 ⟨rfl, hk⟩
    have HK2 := hid (HK.out.trans hk)
    clear hk
    go_wp2
    go_ret
    exact ⟨rfl, HK2.out⟩
  by_cases g3 : 31 < p
  · have e : cwE m L t p u = 2 := by unfold cwE; rw [if_neg]; simp [mayT, mayP]; omega
    rw [e]
    have d0 : decide (t < 0) = false := decide_eq_false g0
    have d1 : decide (16 ≤ t) = false := decide_eq_false g1
    have d2 : decide (p < 1) = false := decide_eq_false g2
    have d3 : decide (31 < p) = true := decide_eq_true g3
    clear e HH
    go_enter Try.func40, Try.ntmps40
    go_wp2_with fail
    refine HM.out.mono ?_
    rintro e w1 ⟨rfl, hk⟩
    have HK := hid hk
    clear hk
    go_wp2_with fail
    refine (HZ.out w1 HK.out).mono ?_
    rintro e w2 ⟨rfl, hk⟩
    have HK2 := hid (HK.out.trans hk)
    clear hk
    go_wp2
    go_ret
    exact ⟨rfl, HK2.out⟩
  by_cases g4 : u < 0
  · have e : cwE m L t p u = 2 := by unfold cwE; rw [if_neg]; simp [mayT, mayP]; omega
    rw [e]
    have d0 : decide (t < 0) = false := decide_eq_false g0
    have d1 : decide (16 ≤ t) = false := decide_eq_false g1
    have d2 : decide (p < 1) = false := decide_eq_false g2
    have d3 : decide (31 < p) = false := decide_eq_false g3
    have d4 : decide (u < 0) = true := decide_eq_true g4
    clear e HH
    go_enter Try.func40, Try.ntmps40
    go_wp2_with fail
    refine HM.out.mono ?_
    rintro e w1 ⟨rfl, hk⟩
    have HK := hid hk
    clear hk
    go_wp2_with fail
    refine (HZ.out w1 HK.out).mono ?_
    rintro e w2 ⟨rfl, hk⟩
    have HK2 := hid (HK.out.trans hk)
    clear hk
    go_wp2
    go_ret
    exact ⟨rfl, HK2.out⟩
  have e : cwE m L t p u = if hasP L t || (!L.isEmpty && !(m == u)) then 7 else 0 := by unfold cwE; rw [if_pos]; simp [mayT, mayP]; omega
  rw [e]
  have H := hid (fun z (hk : Kp w z []) => HH.out z hk ⟨by omega, by omega⟩)
  have d0 : decide (t < 0) = false := decide_eq_false g0
  have d1 : decide (16 ≤ t) = false := decide_eq_false g1
  have d2 : decide (p < 1) = false := decide_eq_false g2
  have d3 : decide (31 < p) = false := decide_eq_false g3
  have d4 : decide (u < 0) = false := decide_eq_false g4
  clear HH e
  cases hh : hasP L t
  · rw [hh] at H
    cases hl : L with
    | nil =>
      rw [hl] at HM
      rw [show muT m [] = 0 from rfl, show muB [] = false from rfl] at HM
      clear hh hl
      go_enter Try.func40, Try.ntmps40
      go_wp2_with fail
      refine HM.out.mono ?_
      rintro e w1 ⟨rfl, hk⟩
      have HK := hid hk
      clear hk
      go_wp2_with fail
      refine (HZ.out w1 HK.out).mono ?_
      rintro e w2 ⟨rfl, hk⟩
      have HK2 := hid (HK.out.trans hk)
      clear hk
      go_wp2_with fail
      refine (H.out w2 HK2.out).mono ?_
      rintro e w3 ⟨rfl, hk⟩
      have HK3 := hid (HK2.out.trans hk)
      clear hk
      go_wp2
      go_ret
      exact ⟨rfl, HK3.out⟩
    | cons x Z =>
      rw [hl] at HM
      rw [show muT m (x :: Z) = m from rfl, show muB (x :: Z) = true from rfl] at HM
      rw [show (x :: Z).isEmpty = false from rfl]
      clear hh hl
      cases hm : (m == u)
      all_goals
        go_enter Try.func40, Try.ntmps40
        go_wp2_with fail
        refine HM.out.mono ?_
        rintro e w1 ⟨rfl, hk⟩
        have HK := hid hk
        clear hk
        go_wp2_with fail
        refine (HZ.out w1 HK.out).mono ?_
        rintro e w2 ⟨rfl, hk⟩
        have HK2 := hid (HK.out.trans hk)
        clear hk
        go_wp2_with fail
        refine (H.out w2 HK2.out).mono ?_
        rintro e w3 ⟨rfl, hk⟩
        have HK3 := hid (HK2.out.trans hk)
        clear hk
        go_wp2
        go_ret
        exact ⟨rfl, HK3.out⟩
  · rw [hh] at H
    clear hh
    generalize muT m L = G1 at HM
    generalize muB L = G2 at HM
    go_enter Try.func40, Try.ntmps40
    go_wp2_with fail
    refine HM.out.mono ?_
    rintro e w1 ⟨rfl, hk⟩
    have HK := hid hk
    clear hk
    go_wp2_with fail
    refine (HZ.out w1 HK.out).mono ?_
    rintro e w2 ⟨rfl, hk⟩
    have HK2 := hid (HK.out.trans hk)
    clear hk
    go_wp2_with fail
    refine (H.out w2 HK2.out).mono ?_
    rintro e w3 ⟨rfl, hk⟩
    have HK3 := hid (HK2.out.trans hk)
    clear hk
    go_wp2
    go_ret
    exact ⟨rfl, HK3.out⟩
set_option maxRecDepth 100000 in
theorem refusal_no (w : World) (q : Option Addr) (t p u : Int) (h : Zc w q) : Calls Try.prog 40 #[.pointer q, .int .i64 t, .int .i64 p, .int .i64 u] w fun e w' => e = .returned (.int .i64 1) ∧ Kp w w' [] := by
  have HM := hid (cmutex w _ _ _ _ h.cv)
  have HZ := hid (fun z (hk : Kp w z []) => (czero z _ _ _ _ (h.keep hk).cv))
  rw [show muT 0 [] = 0 from rfl, show muB [] = false from rfl] at HM
  rw [show ([] : List Nat).isEmpty = true from rfl] at HZ
  clear h
  go_enter Try.func40, Try.ntmps40
  go_wp2_with fail
  refine HM.out.mono ?_
  rintro e w1 ⟨rfl, hk⟩
  have HK := hid hk
  clear hk
  go_wp2_with fail
  refine (HZ.out w1 HK.out).mono ?_
  rintro e w2 ⟨rfl, hk⟩
  have HK2 := hid (HK.out.trans hk)
  clear hk
  go_wp2
  go_ret
  exact ⟨rfl, HK2.out⟩
set_option maxRecDepth 100000 in
theorem cwait_no (w : World) (q : Option Addr) (t p u : Int) (h : Zc w q) : Calls Try.prog 16 #[.pointer q, .int .i64 t, .int .i64 p, .int .i64 u] w fun e w' => e = .returned (.int .i64 1) ∧ Kp w w' [] := by
  have HM := hid (refusal_no w q t p u h)
  clear h
  go_enter Try.func16, Try.ntmps16
  go_wp2_with fail
  refine HM.out.mono ?_
  rintro e w1 ⟨rfl, hk⟩
  have HK := hid hk
  clear hk
  go_wp2
  go_ret
  exact ⟨rfl, HK.out⟩
set_option maxRecDepth 100000 in
/-- Wait. -/
theorem cwait (w : World) (cb : Nat) (R : List Nat) (m : Int) (L : List Dl) (t p u : Int) (h : Cm w cb R m L) : Calls Try.prog 16 #[.pointer (some ⟨cb, 0, none⟩), .int .i64 t, .int .i64 p, .int .i64 u] w fun e w' => e = .returned (.int .i64 (cwE m L t p u)) ∧ To w w' cb R (cwM m L t p u) (cwL m L t p u) := by
  have HM := hid (refusal_any w cb R m L t p u h)
  by_cases hE : cwE m L t p u = 0
  · obtain ⟨e1, e2⟩ := cw_yes hE
    have e3 := (cw_put hE).1
    rw [e1, e2]
    rw [hE] at HM ⊢
    clear e1 e2 hE
    obtain ⟨wb, R0, rfl, hb, hw⟩ := h
    have hn53 := hw.not53
    have CC := hid (fun (z : World) (hk : Kp w z []) => And.intro (hk.cell (cell_two0 hb) (by simp)) (And.intro (free_two ((hk.block cb (lt_of_block hb) (by simp)).trans hb) 1) (hk.cell (cell_two1 hb) (by simp))))
    have SS := hid (fun (z : World) (hk : Kp w z []) => (show Wr (z.setCell ⟨cb, 1, none⟩ (.int .i64 u)) wb R0 L ∧ (z.setCell ⟨cb, 1, none⟩ (.int .i64 u)).heap[cb]? = some (.cells #[.pointer (some ⟨wb, 0, none⟩), .int .i64 u] 53 (0, 0)) ∧ Kp z (z.setCell ⟨cb, 1, none⟩ (.int .i64 u)) [cb] from
      ⟨(hw.same hk).keep (Kp.setCell z _ _) (fun k hm e => by simp at e; subst e; exact hn53 k hm _ hb), set_two1 ((hk.block cb (lt_of_block hb) (by simp)).trans hb), Kp.setCell z _ _⟩))
    clear hb hw hn53
    go_enter Try.func16, Try.ntmps16
    go_wp2_with fail
    refine HM.out.mono ?_
    rintro e w1 ⟨rfl, hk⟩
    have HK := hid hk
    obtain ⟨c0, f1, c1⟩ := CC.out w1 hk
    have S := hid (SS.out w1 hk)
    clear hk
    go_wp2_with fail
    refine (S.out.1.put t p).mono ?_
    rintro e w2 ⟨rfl, R1, h1, hn, hk⟩
    rw [e3]
    have HX := hid (show To w w2 cb (cb :: R0) u (putL L t p) from To.first HK.out (by
      obtain ⟨R', x1, x2, x3⟩ := to_of_wr S.out.2.1 S.out.1 h1 hn hk
      exact ⟨R', x1, fun k hm => (x2 k hm).imp id (fun h => by simpa using h), (S.out.2.2.mono (fun k hm _ => by simp at hm; simp [hm])).trans x3⟩))
    clear h1 hn hk c0 f1 c1
    go_wp2
    go_ret
    exact ⟨rfl, HX.out⟩
  · obtain ⟨e1, e2⟩ := cw_no hE
    rw [e1, e2]
    have hne : (cwE m L t p u != 0) = true := by simp [hE]
    have HS := hid (fun (z : World) (hk : Kp w z []) => To.stay h hk)
    generalize cwE m L t p u = E at HM hne ⊢
    clear e1 e2 hE h
    go_enter Try.func16, Try.ntmps16
    go_wp2_with fail
    refine HM.out.mono ?_
    rintro e w1 ⟨rfl, hk⟩
    have HK := hid (HS.out w1 hk)
    clear hk
    go_wp2
    go_ret
    exact ⟨rfl, HK.out⟩
set_option maxRecDepth 100000 in
/-- New. -/
theorem cnew (w : World) : Calls Try.prog 7 #[] w fun e w' => ∃ cb R, e = .returned (.pointer (some ⟨cb, 0, none⟩)) ∧ Cm w' cb R 0 [] ∧ (∀ k ∈ R, w.heap.size ≤ k) ∧ Kp w w' [] := by
  go_enter Try.func7, Try.ntmps7
  go_wp2_with fail
  refine (new_any w).mono ?_
  rintro e w1 ⟨wb, pb, rfl, h1, h2, h3, h4⟩
  have ka := Kp.alloc w1 (.cells #[.pointer (some ⟨wb, 0, none⟩), .int .i64 0] 53) []
  have hs := h4.size
  have HX := hid (show Cm (w1.alloc (.cells #[.pointer (some ⟨wb, 0, none⟩), .int .i64 0] 53)) w1.heap.size (w1.heap.size :: rows wb pb (.slice none 0 0)) 0 [] ∧ (∀ k ∈ w1.heap.size :: rows wb pb (.slice none 0 0), w.heap.size ≤ k) ∧ Kp w (w1.alloc (.cells #[.pointer (some ⟨wb, 0, none⟩), .int .i64 0] 53)) [] from
    ⟨⟨wb, _, rfl, heap_alloc_new w1 _, Wr.same ⟨pb, _, rfl, h1⟩ ka⟩, fun k hk => by
      simp [rows, Value.ownBlock] at hk
      rcases hk with rfl | rfl | rfl
      · omega
      · exact h2
      · exact h3, h4.trans ka⟩)
  clear ka hs h1 h2 h3 h4
  go_wp2
  go_ret
  exact ⟨_, _, rfl, HX.out⟩
end Go.Proofs.Ytpkjnjhbgjgfaaa
