/- Copy, Same. -/
import Derived.Test.YtpkjnjhbgjgfaaaCk
namespace Go.Proofs.Ytpkjnjhbgjgfaaa
open Go.RowKit Go.Shelf Go.Lib Go.Sort Go.Maps
attribute [local go_sem] Oper.semAt_some

variable {w w' : World} {cb : Nat} {R : List Nat} {m : Int} {L : List Dl}
set_option maxRecDepth 100000 in
/-- waits.Same, of none and a list. -/
theorem zsame_left (w : World) (wb pb : Nat) (V : Value) (L : List Dl) (p : Option Addr) (h1 : Wt w wb pb V L) (h2 : Zw w p) :
    Calls Try.prog 36 #[.pointer p, .pointer (some ⟨wb, 0, none⟩)] w fun e w' => e = .returned (.bool false) ∧ w' = w := by
  have H1 := hid h1
  have H2 := hid h2
  clear h1 h2
  go_enter Try.func36, Try.ntmps36
  go_wp2_with fail
  refine (zero_yes _ p H2.out).mono ?_
  rintro e w2 ⟨rfl, rfl⟩
  go_wp2_with fail
  refine (zero_yes _ p H2.out).mono ?_
  rintro e w2 ⟨rfl, rfl⟩
  go_wp2_with fail
  refine (zero_no _ wb pb V L H1.out).mono ?_
  rintro e w3 ⟨rfl, rfl⟩
  go_wp2
  go_ret
  exact ⟨rfl, rfl⟩
/-- waits.Same, of two that may not be there. -/
theorem wsame (w : World) (p q : Option Addr) (L M : List Dl) (hp : (p = none ∧ L = []) ∨ ∃ wb R0, p = some ⟨wb, 0, none⟩ ∧ Wr w wb R0 L) (hq : (q = none ∧ M = []) ∨ ∃ wb R0, q = some ⟨wb, 0, none⟩ ∧ Wr w wb R0 M) : Calls Try.prog 36 #[.pointer p, .pointer q] w fun e w' => e = .returned (.bool (decide (p.isSome = q.isSome) && decide (L = M))) ∧ Kp w w' [] := by
  rcases hp with ⟨rfl, rfl⟩ | ⟨wb, R0, rfl, h⟩ <;> rcases hq with ⟨rfl, rfl⟩ | ⟨wb2, R2, rfl, h2⟩
  · refine (same_zeros w none none (z_none w) (z_none w)).mono ?_
    rintro e w' ⟨rfl, hw⟩
    exact ⟨rfl, by first | exact hw | (rw [hw]; exact Kp.refl _ _)⟩
  · obtain ⟨pb, V, -, h2⟩ := h2
    refine (zsame_left w wb2 pb V M none h2 (z_none w)).mono ?_
    rintro e w' ⟨rfl, hw⟩
    exact ⟨by simp, by first | exact hw | (rw [hw]; exact Kp.refl _ _)⟩
  · obtain ⟨pb, V, -, h⟩ := h
    refine (same_zero w wb pb V L none h (z_none w)).mono ?_
    rintro e w' ⟨rfl, hw⟩
    exact ⟨by simp, by first | exact hw | (rw [hw]; exact Kp.refl _ _)⟩
  · refine (h.eq h2).mono ?_
    rintro e w' ⟨rfl, hk⟩
    exact ⟨by simp, hk⟩
set_option maxRecDepth 100000 in
theorem ccopy_no (w : World) (p : Option Addr) (h : Zc w p) : Calls Try.prog 31 #[.pointer p] w fun e w' => e = .returned (.pointer none) ∧ Kp w w' [] := by
  have HZ := hid (czero w p _ _ _ h.cv)
  rw [show ([] : List Nat).isEmpty = true from rfl] at HZ
  clear h
  go_enter Try.func31, Try.ntmps31
  go_wp2_with fail
  refine HZ.out.mono ?_
  rintro e w1 ⟨rfl, hk⟩
  have HK := hid hk
  clear hk
  go_wp2
  go_ret
  exact ⟨rfl, HK.out⟩
set_option maxRecDepth 100000 in
set_option maxHeartbeats 1000000 in
/-- Copy: another one. -/
theorem ccopy (w : World) (cb : Nat) (R : List Nat) (m : Int) (L : List Dl) (h : Cm w cb R m L) : Calls Try.prog 31 #[.pointer (some ⟨cb, 0, none⟩)] w fun e w' => ∃ nb R', e = .returned (.pointer (some ⟨nb, 0, none⟩)) ∧ Cm w' nb R' m L ∧ (∀ k ∈ R', w.heap.size ≤ k) ∧ Kp w w' [] := by
  have HZ := hid (czero w _ R m L h.cv)
  have hR : R.isEmpty = false := by
    obtain ⟨wb, R0, rfl, -⟩ := h
    rfl
  rw [hR] at HZ
  obtain ⟨wb, R0, rfl, hb, hw⟩ := h
  have HW := hid (fun (z : World) (hk : Kp w z []) => (hw.same hk).copy)
  have CC := hid (fun (z : World) (hk : Kp w z []) => And.intro (hk.cell (cell_two0 hb) (by simp)) (hk.cell (cell_two1 hb) (by simp)))
  clear hb hw hR
  go_enter Try.func31, Try.ntmps31
  go_wp2_with fail
  refine HZ.out.mono ?_
  rintro e w1 ⟨rfl, hk⟩
  have HK := hid hk
  clear hk
  go_wp2_with fail
  go_region_held_law (fun w1 => w1.cell? ⟨cb, 0, none⟩ = some (.pointer (some ⟨wb, 0, none⟩)) ∧ w1.cell? ⟨cb, 1, none⟩ = some (.int .i64 m))
    (first
      | exact CC.out _ (HK.out.trans (Kp.drew _ []))
      | exact CC.out _ ((HK.out.trans (Kp.drew _ [])).trans hK1)
      | exact CC.out _ (((HK.out.trans (Kp.drew _ [])).trans hK1).trans (Kp.alloc _ _ [])))
    (first | (go_at_call 53; refine (HW.out _ (HK.out.trans (Kp.drew _ []))).mono ?_; rintro e z1 ⟨cw, RC, rfl, hC, hN1, hK1⟩) | fail)
  have ka := Kp.alloc z1 (.cells #[.pointer (some ⟨cw, 0, none⟩), .int .i64 m] 53) []
  have hs := hK1.size
  have hs0 : w1.drew.heap.size = w1.heap.size := rfl
  have hs1 := HK.out.size
  have HX := hid (show Cm (z1.alloc (.cells #[.pointer (some ⟨cw, 0, none⟩), .int .i64 m] 53)) z1.heap.size (z1.heap.size :: RC) m L ∧ (∀ k ∈ z1.heap.size :: RC, w.heap.size ≤ k) ∧ Kp w (z1.alloc (.cells #[.pointer (some ⟨cw, 0, none⟩), .int .i64 m] 53)) [] from
    ⟨⟨cw, RC, rfl, heap_alloc_new z1 _, hC.same ka⟩, fun k hk => by
      rcases List.mem_cons.1 hk with rfl | hk
      · omega
      · have := hN1 k hk; omega, ((HK.out.trans (Kp.drew w1 [])).trans hK1).trans ka⟩)
  clear hC hN1 hK1 ka hs hs0 hs1
  go_wp2
  go_ret
  exact ⟨_, _, rfl, HX.out⟩
/-- What Same says. -/
def sameC (R1 R2 : List Nat) (m1 m2 : Int) (L M : List Dl) : Bool := decide (muT m1 L = muT m2 M) && (decide (R1.isEmpty = R2.isEmpty) && decide (L = M))
set_option maxRecDepth 100000 in
set_option maxHeartbeats 1000000 in
/-- Same: both there or neither, the same mutex, the same who wait. -/
theorem csame (w : World) (p q : Option Addr) (R1 R2 : List Nat) (m u : Int) (L M : List Dl) (hp : Cv w p R1 m L) (hq : Cv w q R2 u M) :
    Calls Try.prog 12 #[.pointer p, .pointer q] w fun e w' => e = .returned (.bool (sameC R1 R2 m u L M)) ∧ Kp w w' [] := by
  unfold sameC
  have HP := hid (fun z (hk : Kp w z []) => cmutex z p R1 m L (hp.same hk))
  have HQ := hid (fun z (hk : Kp w z []) => cmutex z q R2 u M (hq.same hk))
  obtain ⟨p1, c1, -, o1⟩ := who w p R1 m L hp
  obtain ⟨q1, c2, -, o2⟩ := who w q R2 u M hq
  have e1 : p1.isSome = !R1.isEmpty := by
    rcases o1 with ⟨rfl, -, rfl, -⟩ | ⟨wb, R0, cb, rfl, -, rfl, -⟩ <;> rfl
  have e2 : q1.isSome = !R2.isEmpty := by
    rcases o2 with ⟨rfl, -, rfl, -⟩ | ⟨wb, R0, cb, rfl, -, rfl, -⟩ <;> rfl
  have HS := hid (fun z (hk : Kp w z []) => wsame z p1 q1 L M (o1.imp (fun h => ⟨h.1, h.2.2.2.2⟩) (fun ⟨wb, R0, cb, e, _, _, h, _⟩ => ⟨wb, R0, e, h.same hk⟩)) (o2.imp (fun h => ⟨h.1, h.2.2.2.2⟩) (fun ⟨wb, R0, cb, e, _, _, h, _⟩ => ⟨wb, R0, e, h.same hk⟩)))
  have e3 : decide (p1.isSome = q1.isSome) = decide (R1.isEmpty = R2.isEmpty) := by
    rw [e1, e2]
    cases R1.isEmpty <;> cases R2.isEmpty <;> rfl
  rw [e3] at HS
  generalize (decide (R1.isEmpty = R2.isEmpty) && decide (L = M)) = S at HS ⊢
  generalize muT m L = mu1 at HP ⊢
  generalize muT u M = mu2 at HQ ⊢
  generalize muB L = b1 at HP
  generalize muB M = b2 at HQ
  have H1 := hid c1
  have H2 := hid c2
  have f1 := fieldAt p1 m
  have f2 := fieldAt q1 u
  clear hp hq c1 c2 o1 o2 e1 e2 e3
  by_cases hvu : mu1 = mu2
  · have hd : decide (mu1 = mu2) = true := by simp [hvu]
    have he : (mu1 == mu2) = true := by simp [hvu]
    rw [hd, Bool.true_and]
    clear hd hvu
    go_enter Try.func12, Try.ntmps12
    go_wp2_with fail
    refine (HP.out _ (Kp.refl _ _)).mono ?_
    rintro e w1 ⟨rfl, hk⟩
    have K1 := hid hk
    clear hk
    go_wp2_with fail
    refine (HQ.out _ K1.out).mono ?_
    rintro e w2 ⟨rfl, hk⟩
    have K2 := hid (K1.out.trans hk)
    clear hk
    go_wp2_with fail
    refine (H1.out _ K2.out).mono ?_
    rintro e w3 ⟨rfl, hk⟩
    have K3 := hid (K2.out.trans hk)
    clear hk
    go_wp2_with fail
    refine (H2.out _ K3.out).mono ?_
    rintro e w4 ⟨rfl, hk⟩
    have K4 := hid (K3.out.trans hk)
    clear hk
    go_wp2_with fail
    refine (HS.out _ K4.out).mono ?_
    rintro e w5 ⟨rfl, hk⟩
    have K5 := hid (K4.out.trans hk)
    clear hk
    go_wp2
    go_ret
    exact ⟨rfl, K5.out⟩
  · have hd : decide (mu1 = mu2) = false := by simp [hvu]
    have he : (mu1 == mu2) = false := by simp [hvu]
    rw [hd, Bool.false_and]
    clear hd hvu
    go_enter Try.func12, Try.ntmps12
    go_wp2_with fail
    refine (HP.out _ (Kp.refl _ _)).mono ?_
    rintro e w1 ⟨rfl, hk⟩
    have K1 := hid hk
    clear hk
    go_wp2_with fail
    refine (HQ.out _ K1.out).mono ?_
    rintro e w2 ⟨rfl, hk⟩
    have K2 := hid (K1.out.trans hk)
    clear hk
    go_wp2
    go_ret
    exact ⟨rfl, K2.out⟩
theorem same_self (R : List Nat) (m : Int) (L : List Dl) : sameC R R m m L L = true := by simp [sameC]
end Go.Proofs.Ytpkjnjhbgjgfaaa
