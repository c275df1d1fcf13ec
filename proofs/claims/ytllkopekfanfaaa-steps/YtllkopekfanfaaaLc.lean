/- Leave, Change. -/
import Derived.BigQuiet
import Derived.Deep.RegionHeldLaw
import Derived.Deep.RegionWith
import Derived.Test.YtllkopekfanfaaaRc
namespace Go.Proofs.Ytllkopekfanfaaa
open Go.RowKit Go.Shelf Go.Lib Go.Sort Go.Maps
attribute [local go_sem] Oper.semAt_some

variable {w w' : World} {qb mb a b : Nat} {V : Value} {Ra Rb R : List Nat} {M : Qs}
theorem zw_none (w : World) : Zw w none := .inl rfl
set_option maxRecDepth 100000 in
theorem leave_no (w : World) (p : Option Addr) (t : Int) (h : Zq w p) : Calls Try.prog 18 #[.pointer p, .int .i64 t] w fun e w' => e = .returned (.int .i64 1) ∧ Kp w w' [] := by
  have HO := hid (lineOf_no w p t h)
  clear h
  go_enter Try.func18, Try.ntmps18
  go_wp2_with fail
  refine HO.out.mono ?_
  rintro e w1 ⟨rfl, hk⟩
  have HK := hid hk
  clear hk
  go_wp2_with fail
  refine (zlv w1 none t (zw_none w1)).mono ?_
  rintro e w2 ⟨rfl, hw⟩; obtain rfl := hw.symm
  go_wp2
  go_ret
  exact ⟨rfl, HK.out⟩
set_option maxRecDepth 100000 in
theorem change_no (w : World) (p : Option Addr) (t pr : Int) (h : Zq w p) : Calls Try.prog 19 #[.pointer p, .int .i64 t, .int .i64 pr] w fun e w' => e = .returned (.int .i64 1) ∧ Kp w w' [] := by
  have HO := hid (lineOf_no w p t h)
  clear h
  go_enter Try.func19, Try.ntmps19
  go_wp2_with fail
  refine HO.out.mono ?_
  rintro e w1 ⟨rfl, hk⟩
  have HK := hid hk
  clear hk
  go_wp2_with fail
  refine (zchg w1 none t pr (zw_none w1)).mono ?_
  rintro e w2 ⟨rfl, hw⟩; obtain rfl := hw.symm
  go_wp2
  go_ret
  exact ⟨rfl, HK.out⟩
theorem lv_in {L : List Dl} {t : Int} (h : lvE L t = 0) : 0 ≤ t ∧ t < 16 := by
  unfold lvE at h
  by_cases hm : mayT t = true
  · exact mayT_iff hm
  · rw [if_neg hm] at h
    cases h
set_option maxRecDepth 100000 in
theorem leave_s (h : Qc w qb R M) (t : Int) (ht : i64 t) (hq : hasP M.s t = true) : Calls Try.prog 18 #[.pointer (some ⟨qb, 0, none⟩), .int .i64 t] w fun e w' => e = .returned (.int .i64 (lvE M.s t)) ∧ To w w' qb R { M with s := lvL M.s t, f := if lvE M.s t = 0 then setF M.f t none else M.f } := by
  obtain ⟨mb, a, b, V, Ra, Rb, rfl, h⟩ := h
  have HO := lineOf_yes h t ht
  rw [hq] at HO
  have HO := hid HO
  have HL := hid (fun (z : World) (hk : Kp w z []) => (h.same hk).wa.lv t)
  have HS := hid (fun (z z2 : World) (L : List Dl) (R1 : List Nat) (hz : Kp w z []) (h1 : Wr z2 a R1 L) (hn : Nw z Ra R1) (hk : Kp z z2 Ra) => to_s (h.same hz) h1 hn hk)
  by_cases hE : lvE M.s t = 0
  · have HTI := hid (lv_in hE)
    rw [if_pos hE]
    rw [hE] at HL ⊢
    clear h hq ht hE
    go_enter Try.func18, Try.ntmps18
    go_wp2_with fail
    refine HO.out.mono ?_
    rintro e w1 ⟨rfl, hk⟩
    have K1 := hid hk
    clear hk
    go_wp2_with fail
    refine (HL.out _ K1.out).mono ?_
    rintro e w2 ⟨rfl, R1, h1, hn, hk⟩
    have hX := HS.out w1 w2 _ R1 K1.out h1 hn hk
    have d2 := hX.1.c2
    obtain ⟨w3, hrun, hm3, hk3, -⟩ := hX.1.mp.drop HTI.out 0
    have hF := to_map (M' := { M with s := lvL M.s t, f := setF M.f t none }) hX.1 hm3 hk3 rfl rfl rfl rfl
    have nk := nk_trans hX.2.1 hX.2.2 (Nw.refl _ _) hF.2
    have HF := hid (To.first K1.out (hF.1.to nk.1 nk.2))
    clear h1 hn hk hX hm3 hk3 hF nk
    go_wp2
    go_ret
    exact ⟨rfl, HF.out⟩
  · rw [if_neg hE]
    have hE0 : (lvE M.s t == 0) = false := by simpa using hE
    generalize lvE M.s t = E at *
    clear h hq ht hE
    go_enter Try.func18, Try.ntmps18
    go_wp2_with fail
    refine HO.out.mono ?_
    rintro e w1 ⟨rfl, hk⟩
    have K1 := hid hk
    clear hk
    go_wp2_with fail
    refine (HL.out _ K1.out).mono ?_
    rintro e w2 ⟨rfl, R1, h1, hn, hk⟩
    have hX := HS.out w1 w2 _ R1 K1.out h1 hn hk
    have HF := hid (To.first K1.out (hX.1.to hX.2.1 hX.2.2))
    clear h1 hn hk hX
    go_wp2
    go_ret
    exact ⟨rfl, HF.out⟩
set_option maxRecDepth 100000 in
theorem change_s (h : Qc w qb R M) (t pr : Int) (ht : i64 t) (hq : hasP M.s t = true) : Calls Try.prog 19 #[.pointer (some ⟨qb, 0, none⟩), .int .i64 t, .int .i64 pr] w fun e w' => e = .returned (.int .i64 (chgE M.s t pr)) ∧ To w w' qb R { M with s := chgL M.s t pr } := by
  obtain ⟨mb, a, b, V, Ra, Rb, rfl, h⟩ := h
  have HO := lineOf_yes h t ht
  rw [hq] at HO
  have HO := hid HO
  have HL := hid (fun (z : World) (hk : Kp w z []) => (h.same hk).wa.chg t pr)
  have HS := hid (fun (z z2 : World) (L : List Dl) (R1 : List Nat) (hz : Kp w z []) (h1 : Wr z2 a R1 L) (hn : Nw z Ra R1) (hk : Kp z z2 Ra) => to_s (h.same hz) h1 hn hk)
  generalize chgE M.s t pr = E at *
  clear h hq ht
  go_enter Try.func19, Try.ntmps19
  go_wp2_with fail
  refine HO.out.mono ?_
  rintro e w1 ⟨rfl, hk⟩
  have K1 := hid hk
  clear hk
  go_wp2_with fail
  refine (HL.out _ K1.out).mono ?_
  rintro e w2 ⟨rfl, R1, h1, hn, hk⟩
  have hX := HS.out w1 w2 _ R1 K1.out h1 hn hk
  have HF := hid (To.first K1.out (hX.1.to hX.2.1 hX.2.2))
  clear h1 hn hk hX
  go_wp2
  go_ret
  exact ⟨rfl, HF.out⟩
set_option maxRecDepth 100000 in
theorem leave_r (h : Qc w qb R M) (t : Int) (ht : i64 t) (hq : hasP M.s t = false) : Calls Try.prog 18 #[.pointer (some ⟨qb, 0, none⟩), .int .i64 t] w fun e w' => e = .returned (.int .i64 (lvE M.r t)) ∧ To w w' qb R { M with r := lvL M.r t, f := if lvE M.r t = 0 then setF M.f t none else M.f } := by
  obtain ⟨mb, a, b, V, Ra, Rb, rfl, h⟩ := h
  have HO := lineOf_yes h t ht
  rw [hq] at HO
  have HO := hid HO
  have HL := hid (fun (z : World) (hk : Kp w z []) => (h.same hk).wb.lv t)
  have HS := hid (fun (z z2 : World) (L : List Dl) (R1 : List Nat) (hz : Kp w z []) (h1 : Wr z2 b R1 L) (hn : Nw z Rb R1) (hk : Kp z z2 Rb) => to_r (h.same hz) h1 hn hk)
  by_cases hE : lvE M.r t = 0
  · have HTI := hid (lv_in hE)
    rw [if_pos hE]
    rw [hE] at HL ⊢
    clear h hq ht hE
    go_enter Try.func18, Try.ntmps18
    go_wp2_with fail
    refine HO.out.mono ?_
    rintro e w1 ⟨rfl, hk⟩
    have K1 := hid hk
    clear hk
    go_wp2_with fail
    refine (HL.out _ K1.out).mono ?_
    rintro e w2 ⟨rfl, R1, h1, hn, hk⟩
    have hX := HS.out w1 w2 _ R1 K1.out h1 hn hk
    have d2 := hX.1.c2
    obtain ⟨w3, hrun, hm3, hk3, -⟩ := hX.1.mp.drop HTI.out 0
    have hF := to_map (M' := { M with r := lvL M.r t, f := setF M.f t none }) hX.1 hm3 hk3 rfl rfl rfl rfl
    have nk := nk_trans hX.2.1 hX.2.2 (Nw.refl _ _) hF.2
    have HF := hid (To.first K1.out (hF.1.to nk.1 nk.2))
    clear h1 hn hk hX hm3 hk3 hF nk
    go_wp2
    go_ret
    exact ⟨rfl, HF.out⟩
  · rw [if_neg hE]
    have hE0 : (lvE M.r t == 0) = false := by simpa using hE
    generalize lvE M.r t = E at *
    clear h hq ht hE
    go_enter Try.func18, Try.ntmps18
    go_wp2_with fail
    refine HO.out.mono ?_
    rintro e w1 ⟨rfl, hk⟩
    have K1 := hid hk
    clear hk
    go_wp2_with fail
    refine (HL.out _ K1.out).mono ?_
    rintro e w2 ⟨rfl, R1, h1, hn, hk⟩
    have hX := HS.out w1 w2 _ R1 K1.out h1 hn hk
    have HF := hid (To.first K1.out (hX.1.to hX.2.1 hX.2.2))
    clear h1 hn hk hX
    go_wp2
    go_ret
    exact ⟨rfl, HF.out⟩
set_option maxRecDepth 100000 in
theorem change_r (h : Qc w qb R M) (t pr : Int) (ht : i64 t) (hq : hasP M.s t = false) : Calls Try.prog 19 #[.pointer (some ⟨qb, 0, none⟩), .int .i64 t, .int .i64 pr] w fun e w' => e = .returned (.int .i64 (chgE M.r t pr)) ∧ To w w' qb R { M with r := chgL M.r t pr } := by
  obtain ⟨mb, a, b, V, Ra, Rb, rfl, h⟩ := h
  have HO := lineOf_yes h t ht
  rw [hq] at HO
  have HO := hid HO
  have HL := hid (fun (z : World) (hk : Kp w z []) => (h.same hk).wb.chg t pr)
  have HS := hid (fun (z z2 : World) (L : List Dl) (R1 : List Nat) (hz : Kp w z []) (h1 : Wr z2 b R1 L) (hn : Nw z Rb R1) (hk : Kp z z2 Rb) => to_r (h.same hz) h1 hn hk)
  generalize chgE M.r t pr = E at *
  clear h hq ht
  go_enter Try.func19, Try.ntmps19
  go_wp2_with fail
  refine HO.out.mono ?_
  rintro e w1 ⟨rfl, hk⟩
  have K1 := hid hk
  clear hk
  go_wp2_with fail
  refine (HL.out _ K1.out).mono ?_
  rintro e w2 ⟨rfl, R1, h1, hn, hk⟩
  have hX := HS.out w1 w2 _ R1 K1.out h1 hn hk
  have HF := hid (To.first K1.out (hX.1.to hX.2.1 hX.2.2))
  clear h1 hn hk hX
  go_wp2
  go_ret
  exact ⟨rfl, HF.out⟩
/-- Leave. -/
theorem leave_yes (h : Qc w qb R M) (t : Int) (ht : i64 t) : Calls Try.prog 18 #[.pointer (some ⟨qb, 0, none⟩), .int .i64 t] w fun e w' => e = .returned (.int .i64 (leE M t)) ∧ To w w' qb R (leM M t) := by
  unfold leE leM
  cases hq : hasP M.s t with
  | true => exact leave_s h t ht hq
  | false => exact leave_r h t ht hq
/-- Change. -/
theorem change_yes (h : Qc w qb R M) (t pr : Int) (ht : i64 t) : Calls Try.prog 19 #[.pointer (some ⟨qb, 0, none⟩), .int .i64 t, .int .i64 pr] w fun e w' => e = .returned (.int .i64 (chE M t pr)) ∧ To w w' qb R (chM M t pr) := by
  unfold chE chM
  cases hq : hasP M.s t with
  | true => exact change_s h t pr ht hq
  | false => exact change_r h t pr ht hq
/-- Send, whole. -/
noncomputable def sendVV (M : Qs) (t p : Int) (m : Int × Int) : Value := if sendE M t p m = 0 then sendV M m else passed false (0, 0) 0
noncomputable def sendMM (M : Qs) (t p : Int) (m : Int × Int) : Qs := if sendE M t p m = 0 then sendM M t p m else M
noncomputable def recVV (M : Qs) (t p : Int) : Value := if recE M t p = 0 then recV M else passed false (0, 0) 0
noncomputable def recMM (M : Qs) (t p : Int) : Qs := if recE M t p = 0 then recM M t p else M
theorem send_yes (h : Qc w qb R M) (t pr : Int) (m : Int × Int) (ht : i64 t) : Calls Try.prog 15 #[.pointer (some ⟨qb, 0, none⟩), .int .i64 t, .int .i64 pr, .agg #[.int .i64 m.1, .int .i64 m.2]] w fun e w' => e = .returned (.tuple #[sendVV M t pr m, .int .i64 (sendE M t pr m)]) ∧ To w w' qb R (sendMM M t pr m) := by
  obtain ⟨m1, m2⟩ := m
  unfold sendVV sendMM
  by_cases hE : sendE M t pr (m1, m2) = 0
  · rw [if_pos hE, if_pos hE, hE]
    unfold sendV sendM
    cases hb : fstB M.r with
    | true => exact send_one h t pr m1 m2 ht hE hb
    | false =>
      cases hf : M.full with
      | true => exact send_three h t pr m1 m2 ht hE hb hf
      | false => exact send_two h t pr m1 m2 ht hE hb hf
  · rw [if_neg hE, if_neg hE]
    exact send_bad h t pr m1 m2 ht hE
theorem rec_yes (h : Qc w qb R M) (t pr : Int) (ht : i64 t) : Calls Try.prog 17 #[.pointer (some ⟨qb, 0, none⟩), .int .i64 t, .int .i64 pr] w fun e w' => e = .returned (.tuple #[recVV M t pr, .int .i64 (recE M t pr)]) ∧ To w w' qb R (recMM M t pr) := by
  unfold recVV recMM
  by_cases hE : recE M t pr = 0
  · rw [if_pos hE, if_pos hE, hE]
    unfold recV recM
    cases hL : M.L with
    | nil =>
      have := rec_one h t pr ht hE hL
      rw [hL] at this
      exact this
    | cons x Z =>
      obtain ⟨x1, x2⟩ := x
      exact rec_two h t pr ht hE x1 x2 Z hL
  · rw [if_neg hE, if_neg hE]
    exact rec_bad h t pr ht hE
end Go.Proofs.Ytllkopekfanfaaa
