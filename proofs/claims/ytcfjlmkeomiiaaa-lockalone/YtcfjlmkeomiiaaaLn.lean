/- New, mayRead, hold; asked, and what it asks. -/
import Derived.Test.YtcfjlmkeomiiaaaLf
namespace Go.Proofs.Ytcfjlmkeomiiaaa
open Go.RowKit Go.Shelf Go.Lib Go.Sort Go.Maps
attribute [local go_sem] Oper.semAt_some

set_option maxRecDepth 100000 in
theorem lnew (w : World) : Calls Try.prog 7 #[] w fun e w' => ∃ lb R, e = .returned (.pointer (some ⟨lb, 0, none⟩)) ∧ Lc w' lb R newL ∧ (∀ k ∈ R, w.heap.size ≤ k) ∧ Kp w w' [] := by
  have hmm := @run_makeMap Try.prog
  have k0 := Kp.alloc w (.map #[] 0) []
  have HM := hid (show Mp (w.alloc (.map #[] 0)) w.heap.size [] from Mp.of_owns (P := []) (World.ownsMap_made (H := Unit) w Try.prog 3 (plainElem Try.prog 3)))
  have K0 := hid k0
  clear k0
  go_enter Try.func7, Try.ntmps7
  go_wp2_with fail
  have hS := show (w.alloc (.map #[] 0)).heap.size = w.heap.size + 1 by simp
  obtain ⟨W0, hW0⟩ : ∃ W0, w.alloc (.map #[] 0) = W0 := ⟨_, rfl⟩
  rw [hW0] at HM K0 hS ⊢
  have HSZ := hid hS
  clear hW0 hS
  refine (new_any W0).mono ?_
  rintro e z1 ⟨a, pa, rfl, hA, h2, h3, hk1⟩
  have H1 := hid (And.intro hA (And.intro h2 (And.intro h3 hk1)))
  clear hA h2 h3 hk1
  go_wp2_with fail
  refine (new_any z1).mono ?_
  rintro e z2 ⟨b, pb, rfl, hB, h2, h3, hk2⟩
  have H2 := hid (And.intro hB (And.intro h2 (And.intro h3 hk2)))
  clear hB h2 h3 hk2
  go_wp2
  go_ret
  obtain ⟨hA, a2, a3, k1⟩ := H1.out
  obtain ⟨hB, b2, b3, k2⟩ := H2.out
  have s0 := HSZ.out
  have s1 := k1.size
  have s2 := k2.size
  have ka := Kp.alloc z2 (.cells #[.int .i64 (-1), .map (some w.heap.size), .pointer (some ⟨a, 0, none⟩), .pointer (some ⟨b, 0, none⟩)] 57) []
  have la := hA.lt
  refine ⟨_, _, rfl, ⟨w.heap.size, a, b, rows a pa (.slice none 0 0), rows b pb (.slice none 0 0), rfl, heap_alloc_new z2 _, ⟨[], ((HM.out.keep k1 (by simp)).keep k2 (by simp)).keep ka (by simp), Tie.new⟩, ⟨pa, _, rfl, (hA.same k2).same ka⟩, ⟨pb, _, rfl, hB.same ka⟩, ?_, ?_, ?_, by decide, by decide⟩, fun k hm => ?_, ((K0.out.trans k1).trans k2).trans ka⟩
  · simp [rows, Value.ownBlock]; omega
  · simp [rows, Value.ownBlock]; omega
  · intro k hm hn
    simp [rows, Value.ownBlock] at hm hn
    omega
  · simp [rows, Value.ownBlock] at hm
    omega
theorem fstP_none {L : List Dl} (h : fstB L = false) : fstP L = 0 := by
  unfold fstB at h
  have h0 : ordL L = [] := by simpa using h
  unfold fstP
  rw [h0]
  rfl
theorem mayR_eq {M : Lk} {t p : Int} (hp : 1 ≤ p) : mayR M t p = (decide (M.w < 0) && (decide (0 < M.c t.toNat) || decide (fstP M.q < p))) := by
  unfold mayR
  cases hb : fstB M.q
  · rw [fstP_none hb, show decide ((0 : Int) < p) = true by simp; omega]
    simp
  · simp
theorem field96 (x y : Int) (W : World) : (Instr.field 96 (.agg #[.int .i64 x, .int .i64 y]) 1).run Try.prog W = .ok (.int .i64 y) W := by kernel_rfl
theorem cnt_in {c : Nat → Int} {t : Int} (h : 0 ≤ t ∧ t < 16) : cntC c t = c t.toNat := by unfold cntC; rw [if_pos h]
set_option maxRecDepth 100000 in
/-- mayRead. -/
theorem lmay (w : World) (lb : Nat) (R : List Nat) (M : Lk) (t p : Int) (h : Lc w lb R M) (ht : 0 ≤ t ∧ t < 16) (hp : 1 ≤ p) : Calls Try.prog 56 #[.pointer (some ⟨lb, 0, none⟩), .int .i64 t, .int .i64 p] w fun e w' => e = .returned (.bool (mayR M t p)) ∧ Kp w w' [] := by
  obtain ⟨mb, a, b, Ra, Rb, -, h⟩ := h
  have HF := hid (lfirst1 w lb mb a b Ra Rb M h)
  have c0 := h.c0
  have c1 := h.c1
  obtain ⟨P, hP, hT⟩ := h.mp
  have hl := hP.look53 (k := t) ⟨by omega, by omega⟩
  rw [hT.get, cnt_in ht] at hl
  rw [mayR_eq hp]
  have lo := h.lo
  generalize M.c t.toNat = C at hl ⊢
  generalize M.w = X at c0 lo ⊢
  generalize fstP M.q = F at HF ⊢
  generalize fstT M.q = G at HF
  clear h hP hT ht hp
  by_cases hx : X = -1
  · have e1 : (X == -1) = true := by simp [hx]
    have e3 : decide (X < 0) = true := by simp; omega
    rw [e3, Bool.true_and]
    clear hx e3 lo
    by_cases hc : 0 < C
    · rw [decide_eq_true hc, Bool.true_or]
      go_enter Try.func56, Try.ntmps56
      go_wp2
      go_ret
      exact ⟨rfl, Kp.refl _ _⟩
    · have hcd : decide (0 < C) = false := decide_eq_false hc
      rw [hcd, Bool.false_or]
      have hfd := field96 G F
      go_enter Try.func56, Try.ntmps56
      go_wp2_with fail
      refine HF.out.mono ?_
      rintro e w1 ⟨rfl, hk⟩
      have HK := hid hk
      clear hk
      go_wp2
      go_ret
      exact ⟨by first | rfl | simp, HK.out⟩
  · have e1 : (X == -1) = false := by simp [hx]
    have e3 : decide (X < 0) = false := by simp; omega
    rw [e3, Bool.false_and]
    clear hx e3 lo
    go_enter Try.func56, Try.ntmps56
    go_wp2
    go_ret
    exact ⟨rfl, Kp.refl _ _⟩
set_option maxRecDepth 100000 in
/-- hold. -/
theorem lhold1 (w : World) (lb : Nat) (R : List Nat) (M : Lk) (t : Int) (h : Lc w lb R M) (ht : 0 ≤ t ∧ t < 16) : Calls Try.prog 57 #[.pointer (some ⟨lb, 0, none⟩), .int .i64 1, .int .i64 t] w fun e w' => e = .returned (.tuple #[]) ∧ To w w' lb R { M with w := t } := by
  have HT := hid (to_writer h t (by omega) (by omega))
  obtain ⟨mb, a, b, Ra, Rb, -, h⟩ := h
  have c0 := h.c0
  have f0 := h.free 0
  clear h ht
  go_enter Try.func57, Try.ntmps57
  go_wp2
  refine bodyPost_ret (results_none rfl _ _ _) rfl ?_
  exact ⟨rfl, HT.out⟩
set_option maxRecDepth 100000 in
theorem lhold0 (w : World) (lb : Nat) (R : List Nat) (M : Lk) (t : Int) (h : Lc w lb R M) (ht : 0 ≤ t ∧ t < 16) (h0 : 0 ≤ M.c t.toNat) (h1 : M.c t.toNat ≤ 32767) : Calls Try.prog 57 #[.pointer (some ⟨lb, 0, none⟩), .int .i64 0, .int .i64 t] w fun e w' => e = .returned (.tuple #[]) ∧ To w w' lb R { M with c := updC M.c t (M.c t.toNat + 1) } := by
  obtain ⟨mb, a, b, Ra, Rb, rfl, h⟩ := h
  have c1 := h.c1
  obtain ⟨P, hP, hT⟩ := h.mp
  have hl := hP.look53 (k := t) ⟨by omega, by omega⟩
  rw [hT.get, cnt_in ht] at hl
  have hwr : IntKind.i64.wrap (M.c t.toNat + 1) = M.c t.toNat + 1 := IntWalk.i64_in _ ⟨by omega, by omega⟩
  obtain ⟨w1, hrun, hm, hk⟩ := hP.store (k := t) (v := M.c t.toNat + 1) (by omega) (by omega) (by omega) (by omega) (hT.len hP.rises)
  have FIN := hid (to_count h hm hk (hT.put hP.rises ht (by omega)))
  clear h hP hT hm hk ht
  generalize M.c t.toNat = C at hl hwr hrun FIN h0 h1
  clear h0 h1
  go_enter Try.func57, Try.ntmps57
  go_wp2
  refine bodyPost_end (results_none rfl _ _ _) rfl ?_
  exact ⟨rfl, FIN.out⟩
set_option maxRecDepth 100000 in
/-- asked: refused. -/
theorem asked_nil (w : World) (p : Option Addr) (B : Bool) (f : Value) (h : Zl w p) : Calls Try.prog 51 #[.pointer p, .bool B, f] w fun e w' => e = .returned (.int .i64 1) ∧ w' = w := by
  have HZ := hid (lzero_yes w p h)
  clear h
  go_enter Try.func51, Try.ntmps51
  go_wp2_with fail
  refine HZ.out.mono ?_
  rintro e w1 ⟨rfl, hw⟩; obtain rfl := hw.symm
  go_wp2
  go_ret
  exact ⟨rfl, rfl⟩
set_option maxRecDepth 100000 in
theorem asked_arg (w : World) (lb : Nat) (R : List Nat) (M : Lk) (f : Value) (h : Lc w lb R M) : Calls Try.prog 51 #[.pointer (some ⟨lb, 0, none⟩), .bool false, f] w fun e w' => e = .returned (.int .i64 2) ∧ w' = w := by
  have HZ := hid (lzero_no w lb R M h)
  clear h
  go_enter Try.func51, Try.ntmps51
  go_wp2_with fail
  refine HZ.out.mono ?_
  rintro e w1 ⟨rfl, hw⟩; obtain rfl := hw.symm
  go_wp2
  go_ret
  exact ⟨rfl, rfl⟩
set_option maxRecDepth 100000 in
theorem asked_54 (w : World) (lb g1 g2 : Nat) (R : List Nat) (M : Lk) (E : Int) (Q : World → Prop) (h : Lc w lb R M) (hf : Calls Try.prog 54 #[.pointer (some ⟨g1, 0, none⟩), .pointer (some ⟨g2, 0, none⟩)] w fun e w' => e = .returned (.int .i64 E) ∧ Q w') : Calls Try.prog 51 #[.pointer (some ⟨lb, 0, none⟩), .bool true, .func (.func 54) #[] #[.pointer (some ⟨g1, 0, none⟩), .pointer (some ⟨g2, 0, none⟩)]] w fun e w' => e = .returned (.int .i64 E) ∧ Q w' := by
  have HZ := hid (lzero_no w lb R M h)
  have HF := hid hf
  clear h hf
  go_enter Try.func51, Try.ntmps51
  go_wp2_with fail
  refine HZ.out.mono ?_
  rintro e w1 ⟨rfl, hw⟩; obtain rfl := hw.symm
  go_wp2_with fail
  refine HF.out.mono ?_
  rintro e w1 ⟨rfl, hq⟩
  have HQ := hid hq
  clear hq
  go_wp2
  go_ret
  exact ⟨rfl, HQ.out⟩
set_option maxRecDepth 100000 in
theorem asked_58 (w : World) (lb g1 g2 : Nat) (R : List Nat) (M : Lk) (E : Int) (Q : World → Prop) (h : Lc w lb R M) (hf : Calls Try.prog 58 #[.pointer (some ⟨g1, 0, none⟩), .pointer (some ⟨g2, 0, none⟩)] w fun e w' => e = .returned (.int .i64 E) ∧ Q w') : Calls Try.prog 51 #[.pointer (some ⟨lb, 0, none⟩), .bool true, .func (.func 58) #[] #[.pointer (some ⟨g1, 0, none⟩), .pointer (some ⟨g2, 0, none⟩)]] w fun e w' => e = .returned (.int .i64 E) ∧ Q w' := by
  have HZ := hid (lzero_no w lb R M h)
  have HF := hid hf
  clear h hf
  go_enter Try.func51, Try.ntmps51
  go_wp2_with fail
  refine HZ.out.mono ?_
  rintro e w1 ⟨rfl, hw⟩; obtain rfl := hw.symm
  go_wp2_with fail
  refine HF.out.mono ?_
  rintro e w1 ⟨rfl, hq⟩
  have HQ := hid hq
  clear hq
  go_wp2
  go_ret
  exact ⟨rfl, HQ.out⟩
set_option maxRecDepth 100000 in
theorem asked_59 (w : World) (lb g1 g2 : Nat) (R : List Nat) (M : Lk) (E : Int) (Q : World → Prop) (h : Lc w lb R M) (hf : Calls Try.prog 59 #[.pointer (some ⟨g1, 0, none⟩), .pointer (some ⟨g2, 0, none⟩)] w fun e w' => e = .returned (.int .i64 E) ∧ Q w') : Calls Try.prog 51 #[.pointer (some ⟨lb, 0, none⟩), .bool true, .func (.func 59) #[] #[.pointer (some ⟨g1, 0, none⟩), .pointer (some ⟨g2, 0, none⟩)]] w fun e w' => e = .returned (.int .i64 E) ∧ Q w' := by
  have HZ := hid (lzero_no w lb R M h)
  have HF := hid hf
  clear h hf
  go_enter Try.func51, Try.ntmps51
  go_wp2_with fail
  refine HZ.out.mono ?_
  rintro e w1 ⟨rfl, hw⟩; obtain rfl := hw.symm
  go_wp2_with fail
  refine HF.out.mono ?_
  rintro e w1 ⟨rfl, hq⟩
  have HQ := hid hq
  clear hq
  go_wp2
  go_ret
  exact ⟨rfl, HQ.out⟩
/-- Who may not even ask. -/
def busyB (M : Lk) (t : Int) : Bool := hasP M.r t || hasP M.q t || decide (M.w = t)
def rdE (M : Lk) (t : Int) : Int := if busyB M t then 7 else if M.c t.toNat = 32767 then 5 else 0
def wrE (M : Lk) (t : Int) : Int := if busyB M t || decide (0 < M.c t.toNat) then 7 else 0
set_option maxRecDepth 100000 in
/-- TryRead's function. -/
theorem read_asks (w : World) (lb g1 g2 : Nat) (R : List Nat) (M : Lk) (t : Int) (h : Lc w lb R M) (ht : 0 ≤ t ∧ t < 16) (h1 : w.cell? ⟨g1, 0, none⟩ = some (.pointer (some ⟨lb, 0, none⟩))) (h2 : w.cell? ⟨g2, 0, none⟩ = some (.int .i64 t)) : Calls Try.prog 54 #[.pointer (some ⟨g1, 0, none⟩), .pointer (some ⟨g2, 0, none⟩)] w fun e w' => e = .returned (.int .i64 (rdE M t)) ∧ Kp w w' [] := by
  have HB := hid (lbusy w lb R M t h ⟨by omega, by omega⟩)
  obtain ⟨mb, a, b, Ra, Rb, -, h⟩ := h
  have c1 := h.c1
  obtain ⟨P, hP, hT⟩ := h.mp
  have hl : ∀ n, (Instr.lookup 53 (.map (some mb)) (.int .i64 t) false).run Try.prog (w.drewN n) = .ok (.int .i64 (M.c t.toNat)) (w.drewN n) := fun n => by
    have := (hP.keep (Kp.drewN w n []) (by simp)).look53 (k := t) ⟨by omega, by omega⟩
    rw [hT.get, cnt_in ht] at this
    exact this
  unfold rdE
  generalize M.c t.toNat = C at hl ⊢
  rw [show (hasP M.r t || hasP M.q t || decide (M.w = t)) = busyB M t from rfl] at HB
  generalize busyB M t = B at HB ⊢
  clear h hP hT ht
  cases B with
  | true =>
    rw [if_pos rfl]
    go_enter Try.func54, Try.ntmps54
    go_wp2_with fail
    refine HB.out.mono ?_
    rintro e w1 ⟨rfl, hw⟩; obtain rfl := hw.symm
    go_wp2
    go_ret
    exact ⟨rfl, Kp.refl _ _⟩
  | false =>
    rw [if_neg (by simp)]
    by_cases hc : C = 32767
    · rw [if_pos hc]
      have e1 : (C == 32767) = true := by simp [hc]
      clear hc
      go_enter Try.func54, Try.ntmps54
      go_wp2_with fail
      refine HB.out.mono ?_
      rintro e w1 ⟨rfl, hw⟩; obtain rfl := hw.symm
      go_wp2_with fail
      go_quiet (fail)
      go_wp2
      go_ret
      exact ⟨rfl, Kp.drewN _ _ _⟩
    · rw [if_neg hc]
      have e1 : (C == 32767) = false := by simp [hc]
      clear hc
      go_enter Try.func54, Try.ntmps54
      go_wp2_with fail
      refine HB.out.mono ?_
      rintro e w1 ⟨rfl, hw⟩; obtain rfl := hw.symm
      go_wp2_with fail
      go_quiet (fail)
      go_wp2
      go_ret
      exact ⟨rfl, Kp.drewN _ _ _⟩
set_option maxRecDepth 100000 in
/-- TryWrite's function. -/
theorem write_asks (w : World) (lb g1 g2 : Nat) (R : List Nat) (M : Lk) (t : Int) (h : Lc w lb R M) (ht : 0 ≤ t ∧ t < 16) (h1 : w.cell? ⟨g1, 0, none⟩ = some (.pointer (some ⟨lb, 0, none⟩))) (h2 : w.cell? ⟨g2, 0, none⟩ = some (.int .i64 t)) : Calls Try.prog 58 #[.pointer (some ⟨g1, 0, none⟩), .pointer (some ⟨g2, 0, none⟩)] w fun e w' => e = .returned (.int .i64 (wrE M t)) ∧ Kp w w' [] := by
  have HB := hid (fun n => lbusy (w.drewN n) lb R M t (h.same (Kp.drewN w n [])) ⟨by omega, by omega⟩)
  obtain ⟨mb, a, b, Ra, Rb, -, h⟩ := h
  have c1 := h.c1
  obtain ⟨P, hP, hT⟩ := h.mp
  have hl : ∀ n, (Instr.lookup 53 (.map (some mb)) (.int .i64 t) false).run Try.prog (w.drewN n) = .ok (.int .i64 (M.c t.toNat)) (w.drewN n) := fun n => by
    have := (hP.keep (Kp.drewN w n []) (by simp)).look53 (k := t) ⟨by omega, by omega⟩
    rw [hT.get, cnt_in ht] at this
    exact this
  unfold wrE
  generalize M.c t.toNat = C at hl ⊢
  rw [show (hasP M.r t || hasP M.q t || decide (M.w = t)) = busyB M t from rfl] at HB
  generalize busyB M t = B at HB ⊢
  clear h hP hT ht
  cases B with
  | true =>
    rw [Bool.true_or, if_pos rfl]
    go_enter Try.func58, Try.ntmps58
    go_wp2_with fail
    go_quiet ((go_at_call 55; exact Calls.quiet_of_same (HB.out _)))
    go_wp2
    go_ret
    exact ⟨rfl, Kp.drewN _ _ _⟩
  | false =>
    rw [Bool.false_or]
    by_cases hc : 0 < C
    · rw [decide_eq_true hc, if_pos rfl]
      go_enter Try.func58, Try.ntmps58
      go_wp2_with fail
      go_quiet ((go_at_call 55; exact Calls.quiet_of_same (HB.out _)))
      go_wp2
      go_ret
      exact ⟨rfl, Kp.drewN _ _ _⟩
    · have hcd : decide (0 < C) = false := decide_eq_false hc
      rw [hcd, if_neg (by simp)]
      go_enter Try.func58, Try.ntmps58
      go_wp2_with fail
      go_quiet ((go_at_call 55; exact Calls.quiet_of_same (HB.out _)))
      go_wp2
      go_ret
      exact ⟨rfl, Kp.drewN _ _ _⟩
end Go.Proofs.Ytcfjlmkeomiiaaa
