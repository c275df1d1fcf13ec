/- The reference's Same. -/
import Derived.BigQuiet
import Derived.Test.YtjggpchjfglgcaaRn
namespace Go.Proofs.Ytjggpchjfglgcaa
open Go.RowKit Go.Shelf Go.Lib
attribute [local go_sem] Oper.semAt_some

theorem neq30' (x1 x2 y1 y2 : Int) (W : World) : (binOp .neq 30 (.agg #[.int .i64 x1, .int .i64 x2]) (.agg #[.int .i64 y1, .int .i64 y2])).run Try.prog W = .ok (.bool (!(x1 == y1 && x2 == y2))) W := neq30 x1 x2 y1 y2 W
theorem take_get' {l : Ml} {k : Nat} {x : Int × Int} (h : l[k]? = some x) : l.take (k + 1) = l.take k ++ [x] := by
  rw [List.take_add_one, h]
  rfl
set_option maxRecDepth 100000 in
set_option maxHeartbeats 4000000 in
theorem rsame_f0 (w : World) (rb rb2 : Nat) (M U : Cn) (h1 : Rq w rb M) (h2 : Rq w rb2 U) (hl : M.L.length ≤ 8) (hm : U.L.length ≤ 8) (hq : M.a = !U.a) :
    Calls Try.prog 13 #[.pointer (some ⟨rb, 0, none⟩), .pointer (some ⟨rb2, 0, none⟩)] w fun e w' => e = .returned (.bool (sameV M U)) ∧ Kp w w' [] := by
  obtain ⟨V1, h1⟩ := h1
  obtain ⟨V2, h2⟩ := h2
  obtain ⟨a1, cp1, rfl⟩ := h1.ms.slice
  obtain ⟨a2, cp2, rfl⟩ := h2.ms.slice
  obtain ⟨MA, ME, MO, MU, L⟩ := M
  obtain ⟨UA, UE, UO, UU, R⟩ := U
  simp only at h1 h2 hl hm hq ⊢
  obtain ⟨N1, hN1⟩ : ∃ N, L.length = N := ⟨_, rfl⟩
  obtain ⟨N2, hN2⟩ : ∃ N, R.length = N := ⟨_, rfl⟩
  rw [hN1] at hl h1
  rw [hN2] at hm h2
  have HN := hid (And.intro hN1 hN2)
  have HD1 := hid h1.ms
  have HD2 := hid h2.ms
  have HC := hid (show ∀ W, Kp w W [] → W.cell? ⟨rb, 4, none⟩ = some (.slice a1 N1 cp1) ∧ W.cell? ⟨rb2, 4, none⟩ = some (.slice a2 N2 cp2) from fun W hk => ⟨(h1.same hk).c4, (h2.same hk).c4⟩)
  have HP := hid (And.intro h1.hh h2.hh)
  obtain rfl := hq
  have hSV : sameV ⟨!UA, ME, MO, MU, L⟩ ⟨UA, UE, UO, UU, R⟩ = false := by unfold sameV flB; simp
  rw [hSV]
  have c1 := HC.out w (Kp.refl _ _)
  obtain ⟨c1, c2⟩ := c1
  have f0 := h1.c0
  have f1 := h1.c1
  have f2 := h1.c2
  have f3 := h1.c3
  have g0 := h2.c0
  have g1 := h2.c1
  have g2 := h2.c2
  have g3 := h2.c3
  simp only at f0 f1 f2 f3 g0 g1 g2 g3
  generalize (!ME) = ME0 at f1
  generalize (!UE) = UE0 at g1
  clear hN1 hN2 HN HD1 HD2 HC HP hSV h1 h2
  cases UA <;> (
    try simp only [Bool.not_true, Bool.not_false] at f0 f1 f2 f3 g0 g1 g2 g3
    go_enter Try.func13, Try.ntmps13
    go_wp2_with fail
    go_quiet (fail)
    go_wp2
    go_ret
    exact ⟨rfl, Kp.drewN _ _ _⟩)
set_option maxRecDepth 100000 in
set_option maxHeartbeats 4000000 in
theorem rsame_f1 (w : World) (rb rb2 : Nat) (M U : Cn) (h1 : Rq w rb M) (h2 : Rq w rb2 U) (hl : M.L.length ≤ 8) (hm : U.L.length ≤ 8) (hq : M.a = U.a ∧ M.e = !U.e) :
    Calls Try.prog 13 #[.pointer (some ⟨rb, 0, none⟩), .pointer (some ⟨rb2, 0, none⟩)] w fun e w' => e = .returned (.bool (sameV M U)) ∧ Kp w w' [] := by
  obtain ⟨V1, h1⟩ := h1
  obtain ⟨V2, h2⟩ := h2
  obtain ⟨a1, cp1, rfl⟩ := h1.ms.slice
  obtain ⟨a2, cp2, rfl⟩ := h2.ms.slice
  obtain ⟨MA, ME, MO, MU, L⟩ := M
  obtain ⟨UA, UE, UO, UU, R⟩ := U
  simp only at h1 h2 hl hm hq ⊢
  obtain ⟨N1, hN1⟩ : ∃ N, L.length = N := ⟨_, rfl⟩
  obtain ⟨N2, hN2⟩ : ∃ N, R.length = N := ⟨_, rfl⟩
  rw [hN1] at hl h1
  rw [hN2] at hm h2
  have HN := hid (And.intro hN1 hN2)
  have HD1 := hid h1.ms
  have HD2 := hid h2.ms
  have HC := hid (show ∀ W, Kp w W [] → W.cell? ⟨rb, 4, none⟩ = some (.slice a1 N1 cp1) ∧ W.cell? ⟨rb2, 4, none⟩ = some (.slice a2 N2 cp2) from fun W hk => ⟨(h1.same hk).c4, (h2.same hk).c4⟩)
  have HP := hid (And.intro h1.hh h2.hh)
  obtain ⟨rfl, rfl⟩ := hq
  have hSV : sameV ⟨MA, !UE, MO, MU, L⟩ ⟨MA, UE, UO, UU, R⟩ = false := by unfold sameV flB; simp
  rw [hSV]
  have c1 := HC.out w (Kp.refl _ _)
  obtain ⟨c1, c2⟩ := c1
  have f0 := h1.c0
  have f1 := h1.c1
  have f2 := h1.c2
  have f3 := h1.c3
  have g0 := h2.c0
  have g1 := h2.c1
  have g2 := h2.c2
  have g3 := h2.c3
  simp only at f0 f1 f2 f3 g0 g1 g2 g3
  clear hN1 hN2 HN HD1 HD2 HC HP hSV h1 h2
  cases UE <;> (
    try simp only [Bool.not_true, Bool.not_false] at f0 f1 f2 f3 g0 g1 g2 g3
    go_enter Try.func13, Try.ntmps13
    go_wp2_with fail
    go_quiet (fail)
    go_wp2
    go_ret
    exact ⟨rfl, Kp.drewN _ _ _⟩)
set_option maxRecDepth 100000 in
set_option maxHeartbeats 4000000 in
theorem rsame_f2 (w : World) (rb rb2 : Nat) (M U : Cn) (h1 : Rq w rb M) (h2 : Rq w rb2 U) (hl : M.L.length ≤ 8) (hm : U.L.length ≤ 8) (hq : M.a = U.a ∧ M.e = U.e ∧ M.o = !U.o) :
    Calls Try.prog 13 #[.pointer (some ⟨rb, 0, none⟩), .pointer (some ⟨rb2, 0, none⟩)] w fun e w' => e = .returned (.bool (sameV M U)) ∧ Kp w w' [] := by
  obtain ⟨V1, h1⟩ := h1
  obtain ⟨V2, h2⟩ := h2
  obtain ⟨a1, cp1, rfl⟩ := h1.ms.slice
  obtain ⟨a2, cp2, rfl⟩ := h2.ms.slice
  obtain ⟨MA, ME, MO, MU, L⟩ := M
  obtain ⟨UA, UE, UO, UU, R⟩ := U
  simp only at h1 h2 hl hm hq ⊢
  obtain ⟨N1, hN1⟩ : ∃ N, L.length = N := ⟨_, rfl⟩
  obtain ⟨N2, hN2⟩ : ∃ N, R.length = N := ⟨_, rfl⟩
  rw [hN1] at hl h1
  rw [hN2] at hm h2
  have HN := hid (And.intro hN1 hN2)
  have HD1 := hid h1.ms
  have HD2 := hid h2.ms
  have HC := hid (show ∀ W, Kp w W [] → W.cell? ⟨rb, 4, none⟩ = some (.slice a1 N1 cp1) ∧ W.cell? ⟨rb2, 4, none⟩ = some (.slice a2 N2 cp2) from fun W hk => ⟨(h1.same hk).c4, (h2.same hk).c4⟩)
  have HP := hid (And.intro h1.hh h2.hh)
  obtain ⟨rfl, rfl, rfl⟩ := hq
  have hSV : sameV ⟨MA, ME, !UO, MU, L⟩ ⟨MA, ME, UO, UU, R⟩ = false := by unfold sameV flB; simp
  rw [hSV]
  have c1 := HC.out w (Kp.refl _ _)
  obtain ⟨c1, c2⟩ := c1
  have f0 := h1.c0
  have f1 := h1.c1
  have f2 := h1.c2
  have f3 := h1.c3
  have g0 := h2.c0
  have g1 := h2.c1
  have g2 := h2.c2
  have g3 := h2.c3
  simp only at f0 f1 f2 f3 g0 g1 g2 g3
  generalize (!ME) = ME0 at f1 g1
  clear hN1 hN2 HN HD1 HD2 HC HP hSV h1 h2
  cases UO <;> (
    try simp only [Bool.not_true, Bool.not_false] at f0 f1 f2 f3 g0 g1 g2 g3
    go_enter Try.func13, Try.ntmps13
    go_wp2_with fail
    go_quiet (fail)
    go_wp2
    go_ret
    exact ⟨rfl, Kp.drewN _ _ _⟩)
set_option maxRecDepth 100000 in
set_option maxHeartbeats 4000000 in
theorem rsame_f3 (w : World) (rb rb2 : Nat) (M U : Cn) (h1 : Rq w rb M) (h2 : Rq w rb2 U) (hl : M.L.length ≤ 8) (hm : U.L.length ≤ 8) (hq : M.a = U.a ∧ M.e = U.e ∧ M.o = U.o ∧ M.u = !U.u) :
    Calls Try.prog 13 #[.pointer (some ⟨rb, 0, none⟩), .pointer (some ⟨rb2, 0, none⟩)] w fun e w' => e = .returned (.bool (sameV M U)) ∧ Kp w w' [] := by
  obtain ⟨V1, h1⟩ := h1
  obtain ⟨V2, h2⟩ := h2
  obtain ⟨a1, cp1, rfl⟩ := h1.ms.slice
  obtain ⟨a2, cp2, rfl⟩ := h2.ms.slice
  obtain ⟨MA, ME, MO, MU, L⟩ := M
  obtain ⟨UA, UE, UO, UU, R⟩ := U
  simp only at h1 h2 hl hm hq ⊢
  obtain ⟨N1, hN1⟩ : ∃ N, L.length = N := ⟨_, rfl⟩
  obtain ⟨N2, hN2⟩ : ∃ N, R.length = N := ⟨_, rfl⟩
  rw [hN1] at hl h1
  rw [hN2] at hm h2
  have HN := hid (And.intro hN1 hN2)
  have HD1 := hid h1.ms
  have HD2 := hid h2.ms
  have HC := hid (show ∀ W, Kp w W [] → W.cell? ⟨rb, 4, none⟩ = some (.slice a1 N1 cp1) ∧ W.cell? ⟨rb2, 4, none⟩ = some (.slice a2 N2 cp2) from fun W hk => ⟨(h1.same hk).c4, (h2.same hk).c4⟩)
  have HP := hid (And.intro h1.hh h2.hh)
  obtain ⟨rfl, rfl, rfl, rfl⟩ := hq
  have hSV : sameV ⟨MA, ME, MO, !UU, L⟩ ⟨MA, ME, MO, UU, R⟩ = false := by unfold sameV flB; simp
  rw [hSV]
  have c1 := HC.out w (Kp.refl _ _)
  obtain ⟨c1, c2⟩ := c1
  have f0 := h1.c0
  have f1 := h1.c1
  have f2 := h1.c2
  have f3 := h1.c3
  have g0 := h2.c0
  have g1 := h2.c1
  have g2 := h2.c2
  have g3 := h2.c3
  simp only at f0 f1 f2 f3 g0 g1 g2 g3
  generalize (!ME) = ME0 at f1 g1
  clear hN1 hN2 HN HD1 HD2 HC HP hSV h1 h2
  cases UU <;> (
    try simp only [Bool.not_true, Bool.not_false] at f0 f1 f2 f3 g0 g1 g2 g3
    go_enter Try.func13, Try.ntmps13
    go_wp2_with fail
    go_quiet (fail)
    go_wp2
    go_ret
    exact ⟨rfl, Kp.drewN _ _ _⟩)
set_option maxRecDepth 100000 in
set_option maxHeartbeats 4000000 in
theorem rsame_f4 (w : World) (rb rb2 : Nat) (M U : Cn) (h1 : Rq w rb M) (h2 : Rq w rb2 U) (hl : M.L.length ≤ 8) (hm : U.L.length ≤ 8) (hq : M.a = U.a ∧ M.e = U.e ∧ M.o = U.o ∧ M.u = U.u) (hn : ¬ M.L.length = U.L.length) :
    Calls Try.prog 13 #[.pointer (some ⟨rb, 0, none⟩), .pointer (some ⟨rb2, 0, none⟩)] w fun e w' => e = .returned (.bool (sameV M U)) ∧ Kp w w' [] := by
  obtain ⟨V1, h1⟩ := h1
  obtain ⟨V2, h2⟩ := h2
  obtain ⟨a1, cp1, rfl⟩ := h1.ms.slice
  obtain ⟨a2, cp2, rfl⟩ := h2.ms.slice
  obtain ⟨MA, ME, MO, MU, L⟩ := M
  obtain ⟨UA, UE, UO, UU, R⟩ := U
  simp only at h1 h2 hl hm hq hn ⊢
  obtain ⟨N1, hN1⟩ : ∃ N, L.length = N := ⟨_, rfl⟩
  obtain ⟨N2, hN2⟩ : ∃ N, R.length = N := ⟨_, rfl⟩
  rw [hN1] at hl h1
  rw [hN2] at hm h2
  have HN := hid (And.intro hN1 hN2)
  have HD1 := hid h1.ms
  have HD2 := hid h2.ms
  have HC := hid (show ∀ W, Kp w W [] → W.cell? ⟨rb, 4, none⟩ = some (.slice a1 N1 cp1) ∧ W.cell? ⟨rb2, 4, none⟩ = some (.slice a2 N2 cp2) from fun W hk => ⟨(h1.same hk).c4, (h2.same hk).c4⟩)
  have HP := hid (And.intro h1.hh h2.hh)
  obtain ⟨rfl, rfl, rfl, rfl⟩ := hq
  rw [hN1, hN2] at hn
  have hLR : ¬ L = R := fun e => hn (by rw [← hN1, ← hN2, e])
  have hSV : sameV ⟨MA, ME, MO, MU, L⟩ ⟨MA, ME, MO, MU, R⟩ = false := by unfold sameV; simp [hLR]
  have qn : ((N1 : Int) != N2) = true := by simp; omega
  rw [hSV]
  have c1 := HC.out w (Kp.refl _ _)
  obtain ⟨c1, c2⟩ := c1
  have f0 := h1.c0
  have f1 := h1.c1
  have f2 := h1.c2
  have f3 := h1.c3
  have g0 := h2.c0
  have g1 := h2.c1
  have g2 := h2.c2
  have g3 := h2.c3
  simp only at f0 f1 f2 f3 g0 g1 g2 g3
  generalize (!ME) = ME0 at f1 g1
  clear hN1 hN2 HN HD1 HD2 HC HP hSV h1 h2 hLR hn
  go_enter Try.func13, Try.ntmps13
  go_wp2_with fail
  go_quiet (fail)
  go_wp2
  go_ret
  exact ⟨rfl, Kp.drewN _ _ _⟩
set_option maxRecDepth 100000 in
set_option maxHeartbeats 4000000 in
theorem rsame_rows (w : World) (rb rb2 : Nat) (M U : Cn) (h1 : Rq w rb M) (h2 : Rq w rb2 U) (hl : M.L.length ≤ 8) (hm : U.L.length ≤ 8) (hq : M.a = U.a ∧ M.e = U.e ∧ M.o = U.o ∧ M.u = U.u) (hn : M.L.length = U.L.length) :
    Calls Try.prog 13 #[.pointer (some ⟨rb, 0, none⟩), .pointer (some ⟨rb2, 0, none⟩)] w fun e w' => e = .returned (.bool (sameV M U)) ∧ Kp w w' [] := by
  obtain ⟨V1, h1⟩ := h1
  obtain ⟨V2, h2⟩ := h2
  obtain ⟨a1, cp1, rfl⟩ := h1.ms.slice
  obtain ⟨a2, cp2, rfl⟩ := h2.ms.slice
  obtain ⟨MA, ME, MO, MU, L⟩ := M
  obtain ⟨UA, UE, UO, UU, R⟩ := U
  simp only at h1 h2 hl hm hq hn ⊢
  obtain ⟨N1, hN1⟩ : ∃ N, L.length = N := ⟨_, rfl⟩
  obtain ⟨N2, hN2⟩ : ∃ N, R.length = N := ⟨_, rfl⟩
  rw [hN1] at hl h1
  rw [hN2] at hm h2
  have HN := hid (And.intro hN1 hN2)
  have HD1 := hid h1.ms
  have HD2 := hid h2.ms
  have HC := hid (show ∀ W, Kp w W [] → W.cell? ⟨rb, 4, none⟩ = some (.slice a1 N1 cp1) ∧ W.cell? ⟨rb2, 4, none⟩ = some (.slice a2 N2 cp2) from fun W hk => ⟨(h1.same hk).c4, (h2.same hk).c4⟩)
  have HP := hid (And.intro h1.hh h2.hh)
  obtain ⟨rfl, rfl, rfl, rfl⟩ := hq
  rw [hN1, hN2] at hn
  subst hn
  have hSV : sameV ⟨MA, ME, MO, MU, L⟩ ⟨MA, ME, MO, MU, R⟩ = decide (L = R) := by unfold sameV flB; simp
  rw [hSV]
  obtain ⟨B, hB⟩ : ∃ B, decide (L = R) = B := ⟨_, rfl⟩
  rw [hB]
  have HB := hid hB
  have hgd := fun (w : World) (p q : Operand) (xs ys : Array Value) => run_eqGuard_agg (P := Try.prog) w .neq 30 p q xs ys (by kernel_rfl)
  have qn : ((N1 : Int) != N1) = false := by simp
  obtain ⟨c1, c2⟩ := HC.out w (Kp.refl _ _)
  have f0 := h1.c0
  have f1 := h1.c1
  have f2 := h1.c2
  have f3 := h1.c3
  have g0 := h2.c0
  have g1 := h2.c1
  have g2 := h2.c2
  have g3 := h2.c3
  simp only at f0 f1 f2 f3 g0 g1 g2 g3
  generalize (!ME) = ME0 at f1 g1
  have qa : ∀ b : Bool, (b != b) = false := by simp
  clear hN1 hN2 HP hSV h1 h2 hB
  go_enter Try.func13, Try.ntmps13
  go_wp2_with fail
  go_quiet (fail)
  have HK := hid (Kp.drewN w nq [])
  clear c1 c2 f0 f1 f2 f3 g0 g1 g2 g3 qa
  go_wp2_with fail
  go_loopw [5] (fun vi wr => ∃ k : Nat, k ≤ N1 ∧ vi = .int .i64 k ∧ Hid (L.take k = R.take k ∧ Kp w wr [])) (fun vi _ => N1 - (Go.RowKit.intOf vi).toNat)
  case atStart => exact ⟨0, by omega, rfl, hid ⟨by simp, HK.out⟩⟩
  case round =>
    obtain ⟨k, hk, rfl, hR⟩ := hrel
    obtain ⟨c1, c2⟩ := HC.out _ hR.out.2
    by_cases hlt : k < N1
    · have hltI : (k : Int) < N1 := by omega
      have hk1 : k < L.length := by have := HN.out; omega
      have hk2 : k < R.length := by have := HN.out; omega
      obtain ⟨⟨x1, x2⟩, hx⟩ : ∃ x, L[k]? = some x := ⟨_, List.getElem?_eq_getElem hk1⟩
      obtain ⟨⟨y1, y2⟩, hy⟩ : ∃ x, R[k]? = some x := ⟨_, List.getElem?_eq_getElem hk2⟩
      obtain ⟨g1, rfl, d1, d2⟩ := (HD1.out.keep hR.out.2).at hx
      obtain ⟨g2, rfl, e1, e2⟩ := (HD2.out.keep hR.out.2).at hy
      have HXY := hid (And.intro hx hy)
      have hnq := neq30' x1 x2 y1 y2
      clear hx hy hk1 hk2
      by_cases hq : (x1, x2) = (y1, y2)
      · have hqq : (x1 == y1 && x2 == y2) = true := by simp at hq; simp [hq]
        rw [hqq] at hnq
        have R2 := hid (show ∀ m, L.take (k + 1) = R.take (k + 1) ∧ Kp w (wr.drewN m) [] by
          intro m
          rw [take_get' HXY.out.1, take_get' HXY.out.2, hR.out.1, hq]
          exact ⟨rfl, hR.out.2.trans (Kp.drewN _ _ _)⟩)
        clear hq hqq hR
        go_wp2_with fail
        go_quiet (fail)
        go_wp2
        go_roundw
        case rel => exact ⟨k + 1, by omega, by simp, hid (R2.out _)⟩
        case measure => simp [Go.RowKit.intOf]; omega
      · have hqq : (x1 == y1 && x2 == y2) = false := by
          rw [Bool.eq_false_iff]
          intro h
          simp at h
          exact hq (by rw [h.1, h.2])
        rw [hqq] at hnq
        have hBf : B = false := by
          rw [← HB.out, decide_eq_false_iff_not]
          rintro rfl
          exact hq (Option.some.inj (HXY.out.1.symm.trans HXY.out.2))
        subst hBf
        have R2 := hid hR.out.2
        clear hq hqq hR
        go_wp2_with fail
        go_quiet (fail)
        go_wp2
        go_ret
        exact ⟨rfl, R2.out.trans (Kp.drewN _ _ _)⟩
    · have hltI : ¬ (k : Int) < N1 := by omega
      have hBt : B = true := by
        rw [← HB.out, decide_eq_true_iff]
        have h1 := hR.out.1
        rw [List.take_of_length_le (by have := HN.out; omega), List.take_of_length_le (by have := HN.out; omega)] at h1
        exact h1
      subst hBt
      have R2 := hid hR.out.2
      clear hR
      go_wp2
      go_ret
      exact ⟨rfl, R2.out⟩
theorem rsame_any {w : World} {rb rb2 : Nat} {M U : Cn} (h1 : Rq w rb M) (h2 : Rq w rb2 U) (hl : M.L.length ≤ 8) (hm : U.L.length ≤ 8) :
    Calls Try.prog 13 #[.pointer (some ⟨rb, 0, none⟩), .pointer (some ⟨rb2, 0, none⟩)] w fun e w' => e = .returned (.bool (sameV M U)) ∧ Kp w w' [] := by
  have hd : ∀ a b : Bool, ¬ a = b → a = !b := by decide
  by_cases h0 : M.a = U.a
  case neg => exact rsame_f0 w rb rb2 M U h1 h2 hl hm (hd _ _ h0)
  by_cases h3 : M.e = U.e
  case neg => exact rsame_f1 w rb rb2 M U h1 h2 hl hm ⟨h0, hd _ _ h3⟩
  by_cases h4 : M.o = U.o
  case neg => exact rsame_f2 w rb rb2 M U h1 h2 hl hm ⟨h0, h3, hd _ _ h4⟩
  by_cases h5 : M.u = U.u
  case neg => exact rsame_f3 w rb rb2 M U h1 h2 hl hm ⟨h0, h3, h4, hd _ _ h5⟩
  by_cases h6 : M.L.length = U.L.length
  case neg => exact rsame_f4 w rb rb2 M U h1 h2 hl hm ⟨h0, h3, h4, h5⟩ h6
  exact rsame_rows w rb rb2 M U h1 h2 hl hm ⟨h0, h3, h4, h5⟩ h6
end Go.Proofs.Ytjggpchjfglgcaa
