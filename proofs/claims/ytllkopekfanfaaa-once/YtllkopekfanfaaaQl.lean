/- Looking at a queue. -/
import Derived.BigQuiet
import Derived.Deep.RegionHeldLaw
import Derived.Test.YtllkopekfanfaaaQm
namespace Go.Proofs.Ytllkopekfanfaaa
open Go.RowKit Go.Shelf Go.Lib Go.Sort Go.Maps
attribute [local go_sem] Oper.semAt_some

variable {w w' : World} {qb mb a b : Nat} {V : Value} {Ra Rb R : List Nat} {M : Qs}
set_option maxRecDepth 100000 in
theorem mayPrio_any (w : World) (p : Int) : Calls Try.prog 45 #[.int .i64 p] w fun e w' => e = .returned (.bool (mayP p)) ∧ w' = w := by
  by_cases h0 : 1 ≤ p <;> by_cases h1 : p ≤ 31
  all_goals (
    go_enter Try.func45, Try.ntmps45
    go_wp2
    go_ret
    exact ⟨by simp [mayP, h0, h1], rfl⟩)
set_option maxRecDepth 100000 in
theorem mayMsg_any (w : World) (p : Int) : Calls Try.prog 46 #[.int .i64 p] w fun e w' => e = .returned (.bool (mayM p)) ∧ w' = w := by
  by_cases h0 : 0 ≤ p <;> by_cases h1 : p ≤ 31
  all_goals (
    go_enter Try.func46, Try.ntmps46
    go_wp2
    go_ret
    exact ⟨by simp [mayM, h0, h1], rfl⟩)
set_option maxRecDepth 100000 in
/-- Room. -/
theorem room_yes (h : Qc w qb R M) : Calls Try.prog 28 #[.pointer (some ⟨qb, 0, none⟩)] w fun e w' => e = .returned (.int .i64 (M.n - M.L.length)) ∧ Kp w w' [] := by
  have HZ := hid (zeroQ_no w qb R M h)
  obtain ⟨mb, a, b, V, Ra, Rb, rfl, h⟩ := h
  have c0 := h.c0
  have c1 := h.c1
  obtain ⟨ao, cap, rfl⟩ := h.ms.slice
  have hlen := h.len
  have hlo := h.lo
  have hhi := h.hi
  have hw : IntKind.i64.wrap (M.n - M.L.length) = M.n - M.L.length := by rw [IntKind.wrap_i64]; omega
  generalize M.L.length = N at *
  generalize M.n = n at *
  clear h
  go_enter Try.func28, Try.ntmps28
  go_wp2_with fail
  refine HZ.out.mono ?_
  rintro e w1 ⟨rfl, hw⟩; obtain rfl := hw.symm
  go_wp2_with fail
  go_region_held_law (fun W => W.cell? ⟨qb, 0, none⟩ = some (.int .i64 n) ∧ W.cell? ⟨qb, 1, none⟩ = some (.slice ao N cap)) (exact ⟨c0, c1⟩) (fail)
  go_wp2
  go_ret
  exact ⟨rfl, Kp.drew _ _⟩
set_option maxRecDepth 100000 in
theorem room_no (w : World) (p : Option Addr) (h : Zq w p) : Calls Try.prog 28 #[.pointer p] w fun e w' => e = .returned (.int .i64 0) ∧ Kp w w' [] := by
  have HZ := hid (zeroQ_yes w p h)
  clear h
  go_enter Try.func28, Try.ntmps28
  go_wp2_with fail
  refine HZ.out.mono ?_
  rintro e w1 ⟨rfl, hw⟩; obtain rfl := hw.symm
  go_wp2
  go_ret
  exact ⟨rfl, Kp.refl _ _⟩
set_option maxRecDepth 100000 in
/-- Len. -/
theorem qlen_yes (h : Qc w qb R M) : Calls Try.prog 20 #[.pointer (some ⟨qb, 0, none⟩)] w fun e w' => e = .returned (.int .i64 M.L.length) ∧ Kp w w' [] := by
  have HZ := hid (zeroQ_no w qb R M h)
  obtain ⟨mb, a, b, V, Ra, Rb, rfl, h⟩ := h
  have c1 := h.c1
  obtain ⟨ao, cap, rfl⟩ := h.ms.slice
  generalize M.L.length = N at *
  clear h
  go_enter Try.func20, Try.ntmps20
  go_wp2_with fail
  refine HZ.out.mono ?_
  rintro e w1 ⟨rfl, hw⟩; obtain rfl := hw.symm
  go_wp2
  go_ret
  exact ⟨rfl, Kp.refl _ _⟩
set_option maxRecDepth 100000 in
theorem qlen_no (w : World) (p : Option Addr) (h : Zq w p) : Calls Try.prog 20 #[.pointer p] w fun e w' => e = .returned (.int .i64 0) ∧ Kp w w' [] := by
  have HZ := hid (zeroQ_yes w p h)
  clear h
  go_enter Try.func20, Try.ntmps20
  go_wp2_with fail
  refine HZ.out.mono ?_
  rintro e w1 ⟨rfl, hw⟩; obtain rfl := hw.symm
  go_wp2
  go_ret
  exact ⟨rfl, Kp.refl _ _⟩
set_option maxRecDepth 100000 in
/-- Full. -/
theorem full_yes (h : Qc w qb R M) : Calls Try.prog 25 #[.pointer (some ⟨qb, 0, none⟩)] w fun e w' => e = .returned (.bool M.full) ∧ Kp w w' [] := by
  have HZ := hid (zeroQ_no w qb R M h)
  have HR := hid (fun (z : World) (hk : Kp w z []) => room_yes (h.same hk))
  have hq : (M.n - M.L.length == 0) = M.full := by
    unfold Qs.full
    rw [Bool.eq_iff_iff, beq_iff_eq, decide_eq_true_iff]
    omega
  clear h
  generalize M.n - M.L.length = D at *
  generalize M.full = F at *
  go_enter Try.func25, Try.ntmps25
  go_wp2_with fail
  refine HZ.out.mono ?_
  rintro e w1 ⟨rfl, hw⟩; obtain rfl := hw.symm
  go_wp2_with fail
  refine (HR.out _ (Kp.refl _ _)).mono ?_
  rintro e w2 ⟨rfl, hk⟩
  have HK := hid hk
  clear hk
  go_wp2
  go_ret
  exact ⟨rfl, HK.out⟩
set_option maxRecDepth 100000 in
theorem full_no (w : World) (p : Option Addr) (h : Zq w p) : Calls Try.prog 25 #[.pointer p] w fun e w' => e = .returned (.bool false) ∧ Kp w w' [] := by
  have HZ := hid (zeroQ_yes w p h)
  clear h
  go_enter Try.func25, Try.ntmps25
  go_wp2_with fail
  refine HZ.out.mono ?_
  rintro e w1 ⟨rfl, hw⟩; obtain rfl := hw.symm
  go_wp2
  go_ret
  exact ⟨rfl, Kp.refl _ _⟩
set_option maxRecDepth 100000 in
/-- Waiting. -/
theorem waiting_yes (h : Qc w qb R M) (t : Int) (ht : i64 t) : Calls Try.prog 36 #[.pointer (some ⟨qb, 0, none⟩), .int .i64 t] w fun e w' => e = .returned (.tuple #[.bool (wSend M t), .bool (wAny M t)]) ∧ Kp w w' [] := by
  have HZ := hid (zeroQ_no w qb R M h)
  obtain ⟨mb, a, b, V, Ra, Rb, rfl, h⟩ := h
  have c3 := h.c3
  have c4 := h.c4
  have HA := hid (has_any w _ _ t h.wa.vw ht)
  have HB := hid (has_any w _ _ t h.wb.vw ht)
  unfold wSend wAny
  generalize hasP M.s t = A at *
  generalize hasP M.r t = B at *
  clear h ht
  cases A
  all_goals (
    go_enter Try.func36, Try.ntmps36
    go_wp2_with fail
    refine HZ.out.mono ?_
    rintro e w1 ⟨rfl, hw⟩; obtain rfl := hw.symm
    go_wp2_with fail
    refine HA.out.mono ?_
    rintro e w2 ⟨rfl, hw⟩; obtain rfl := hw.symm
    go_wp2_with fail)
  · refine HB.out.mono ?_
    rintro e w3 ⟨rfl, hw⟩; obtain rfl := hw.symm
    go_wp2
    go_ret2
    exact ⟨rfl, Kp.refl _ _⟩
  · go_ret2
    exact ⟨rfl, Kp.refl _ _⟩
set_option maxRecDepth 100000 in
theorem waiting_no (w : World) (p : Option Addr) (t : Int) (h : Zq w p) : Calls Try.prog 36 #[.pointer p, .int .i64 t] w fun e w' => e = .returned (.tuple #[.bool false, .bool false]) ∧ Kp w w' [] := by
  have HZ := hid (zeroQ_yes w p h)
  clear h
  go_enter Try.func36, Try.ntmps36
  go_wp2_with fail
  refine HZ.out.mono ?_
  rintro e w1 ⟨rfl, hw⟩; obtain rfl := hw.symm
  go_wp2
  go_ret2
  exact ⟨rfl, Kp.refl _ _⟩
set_option maxRecDepth 100000 in
theorem senders_yes (h : Qc w qb R M) : Calls Try.prog 22 #[.pointer (some ⟨qb, 0, none⟩)] w fun e w' => ∃ x, e = .returned x ∧ Ns w' w.heap.size x ((ordL M.s).map (·.1)) ∧ Kp w w' [] := by
  have HZ := hid (zeroQ_no w qb R M h)
  obtain ⟨mb, a, b, V, Ra, Rb, rfl, h⟩ := h
  have c := h.c3
  have HA := hid (list_any w _ _ h.wa.vw)
  clear h
  go_enter Try.func22, Try.ntmps22
  go_wp2_with fail
  refine HZ.out.mono ?_
  rintro e w1 ⟨rfl, hw⟩; obtain rfl := hw.symm
  go_wp2_with fail
  refine HA.out.mono ?_
  rintro e w2 ⟨x, rfl, hx, hk⟩
  have HX := hid (And.intro hx hk)
  clear hx hk
  go_wp2
  go_ret
  exact ⟨x, rfl, HX.out.1, HX.out.2⟩
set_option maxRecDepth 100000 in
theorem senders_no (w : World) (p : Option Addr) (h : Zq w p) : Calls Try.prog 22 #[.pointer p] w fun e w' => ∃ x, e = .returned x ∧ Ns w' w.heap.size x [] ∧ Kp w w' [] := by
  have HZ := hid (zeroQ_yes w p h)
  clear h
  go_enter Try.func22, Try.ntmps22
  go_wp2_with fail
  refine HZ.out.mono ?_
  rintro e w1 ⟨rfl, hw⟩; obtain rfl := hw.symm
  go_wp2
  go_ret
  exact ⟨_, rfl, Ns.nil _ _, Kp.refl _ _⟩
set_option maxRecDepth 100000 in
theorem receivers_yes (h : Qc w qb R M) : Calls Try.prog 21 #[.pointer (some ⟨qb, 0, none⟩)] w fun e w' => ∃ x, e = .returned x ∧ Ns w' w.heap.size x ((ordL M.r).map (·.1)) ∧ Kp w w' [] := by
  have HZ := hid (zeroQ_no w qb R M h)
  obtain ⟨mb, a, b, V, Ra, Rb, rfl, h⟩ := h
  have c := h.c4
  have HA := hid (list_any w _ _ h.wb.vw)
  clear h
  go_enter Try.func21, Try.ntmps21
  go_wp2_with fail
  refine HZ.out.mono ?_
  rintro e w1 ⟨rfl, hw⟩; obtain rfl := hw.symm
  go_wp2_with fail
  refine HA.out.mono ?_
  rintro e w2 ⟨x, rfl, hx, hk⟩
  have HX := hid (And.intro hx hk)
  clear hx hk
  go_wp2
  go_ret
  exact ⟨x, rfl, HX.out.1, HX.out.2⟩
set_option maxRecDepth 100000 in
theorem receivers_no (w : World) (p : Option Addr) (h : Zq w p) : Calls Try.prog 21 #[.pointer p] w fun e w' => ∃ x, e = .returned x ∧ Ns w' w.heap.size x [] ∧ Kp w w' [] := by
  have HZ := hid (zeroQ_yes w p h)
  clear h
  go_enter Try.func21, Try.ntmps21
  go_wp2_with fail
  refine HZ.out.mono ?_
  rintro e w1 ⟨rfl, hw⟩; obtain rfl := hw.symm
  go_wp2
  go_ret
  exact ⟨_, rfl, Ns.nil _ _, Kp.refl _ _⟩
set_option maxRecDepth 100000 in
/-- refusal. -/
theorem refusal_yes (h : Qc w qb R M) (t : Int) (m : Bool) (ht : i64 t) : Calls Try.prog 44 #[.pointer (some ⟨qb, 0, none⟩), .int .i64 t, .bool m] w fun e w' => e = .returned (.int .i64 (refE M t m)) ∧ Kp w w' [] := by
  have HZ := hid (fun (z : World) (hk : Kp w z []) => zeroQ_no z qb R M (h.same hk))
  have HW := hid (waiting_yes h t ht)
  unfold refE mayT
  generalize wSend M t = A at *
  generalize wAny M t = B at *
  clear h ht
  by_cases h0 : 0 ≤ t <;> by_cases h1 : t < 16 <;> cases m <;> cases B
  all_goals (
    go_enter Try.func44, Try.ntmps44
    go_wp2_with fail
    refine HW.out.mono ?_
    rintro e w1 ⟨rfl, hk⟩
    have HK := hid hk
    clear hk
    go_wp2_with fail
    refine (HZ.out _ HK.out).mono ?_
    rintro e w2 ⟨rfl, hw⟩; obtain rfl := hw.symm
    go_wp2
    all_goals (
      go_ret
      exact ⟨by simp [*], HK.out⟩))
set_option maxRecDepth 100000 in
theorem refusal_no (w : World) (p : Option Addr) (t : Int) (m : Bool) (h : Zq w p) : Calls Try.prog 44 #[.pointer p, .int .i64 t, .bool m] w fun e w' => e = .returned (.int .i64 1) ∧ Kp w w' [] := by
  have HZ := hid (fun (z : World) (hk : Kp w z []) => zeroQ_yes z p (h.keep hk))
  have HW := hid (waiting_no w p t h)
  clear h
  go_enter Try.func44, Try.ntmps44
  go_wp2_with fail
  refine HW.out.mono ?_
  rintro e w1 ⟨rfl, hk⟩
  have HK := hid hk
  clear hk
  go_wp2_with fail
  refine (HZ.out _ HK.out).mono ?_
  rintro e w2 ⟨rfl, hw⟩; obtain rfl := hw.symm
  go_wp2
  go_ret
  exact ⟨rfl, HK.out⟩
set_option maxRecDepth 100000 in
/-- lineOf. -/
theorem lineOf_yes (h : Qi w qb mb a b V Ra Rb M) (t : Int) (ht : i64 t) : Calls Try.prog 52 #[.pointer (some ⟨qb, 0, none⟩), .int .i64 t] w fun e w' => e = .returned (.pointer (some ⟨if hasP M.s t then a else b, 0, none⟩)) ∧ Kp w w' [] := by
  have HZ := hid (zeroQ_no w qb _ M h.qc)
  have HW := hid (waiting_yes h.qc t ht)
  have HC := hid (fun (z : World) (hk : Kp w z []) => (And.intro (h.same hk).c3 (h.same hk).c4))
  unfold wSend at HW
  generalize hasP M.s t = A at *
  generalize wAny M t = B at *
  clear h ht
  cases A
  all_goals (
    go_enter Try.func52, Try.ntmps52
    go_wp2_with fail
    refine HZ.out.mono ?_
    rintro e w1 ⟨rfl, hw⟩; obtain rfl := hw.symm
    go_wp2_with fail
    refine HW.out.mono ?_
    rintro e w2 ⟨rfl, hk⟩
    have HK := hid hk
    obtain ⟨c3, c4⟩ := HC.out _ hk
    clear hk
    go_wp2
    go_ret
    exact ⟨rfl, HK.out⟩)
set_option maxRecDepth 100000 in
theorem lineOf_no (w : World) (p : Option Addr) (t : Int) (h : Zq w p) : Calls Try.prog 52 #[.pointer p, .int .i64 t] w fun e w' => e = .returned (.pointer none) ∧ Kp w w' [] := by
  have HZ := hid (zeroQ_yes w p h)
  clear h
  go_enter Try.func52, Try.ntmps52
  go_wp2_with fail
  refine HZ.out.mono ?_
  rintro e w1 ⟨rfl, hw⟩; obtain rfl := hw.symm
  go_wp2
  go_ret
  exact ⟨rfl, Kp.refl _ _⟩
end Go.Proofs.Ytllkopekfanfaaa
