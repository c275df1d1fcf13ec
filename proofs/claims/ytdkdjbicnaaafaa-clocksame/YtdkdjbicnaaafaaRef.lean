/- The reference: New, Tick, Now, Set, Due, In, Left. -/
import Derived.Test.YtdkdjbicnaaafaaLook
import Derived.WalkMore
namespace Go.Proofs.Ytdkdjbicnaaafaa
open Go.RowKit

set_option maxRecDepth 100000 in
theorem rnew_no (w : World) (n : Int) (h : ¬ (0 ≤ n ∧ n ≤ 1099511627776)) : Calls Try.prog 8 #[.int .i64 n] w fun e w' => e = .returned (.pointer none) ∧ w' = w := by
  by_cases h1 : n < 0
  · clear h
    go_enter Try.func8, Try.ntmps8
    go_wp2
    go_ret
    exact ⟨rfl, rfl⟩
  · have h2 : 1099511627776 < n := by omega
    clear h
    go_enter Try.func8, Try.ntmps8
    go_wp2
    go_ret
    exact ⟨rfl, rfl⟩
set_option maxRecDepth 100000 in
theorem rnew_ok (w : World) (n : Int) (h0 : 0 ≤ n) (h1 : n ≤ 1099511627776) : Calls Try.prog 8 #[.int .i64 n] w fun e w' => e = .returned (.pointer (some ⟨w.heap.size, 0, none⟩)) ∧ w' = w.alloc (.cells #[.int .i64 n, .int .i64 0] 54) := by
  go_enter Try.func8, Try.ntmps8
  go_wp2
  go_ret
  exact ⟨rfl, rfl⟩

theorem rk_step0 {w : World} {b : Nat} {x y : Int} (h : Rk w b x y) (z : Int) : Rk (w.setCell ⟨b, 0, none⟩ (.int .i64 z)).drew b z y ∧ Kp w (w.setCell ⟨b, 0, none⟩ (.int .i64 z)).drew [b] :=
  ⟨(h.set0 z).keep (Kp.drew _ []) (by simp), (Kp.setCell w ⟨b, 0, none⟩ _).trans (Kp.drew _ _)⟩
theorem rk_step1 {w : World} {b : Nat} {x y : Int} (h : Rk w b x y) (z : Int) : Rk (w.setCell ⟨b, 1, none⟩ (.int .i64 z)).drew b x z ∧ Kp w (w.setCell ⟨b, 1, none⟩ (.int .i64 z)).drew [b] :=
  ⟨(h.set1 z).keep (Kp.drew _ []) (by simp), (Kp.setCell w ⟨b, 1, none⟩ _).trans (Kp.drew _ _)⟩

set_option maxRecDepth 100000 in
theorem rtick_any (w : World) (b : Nat) (x y : Int) (h : Rk w b x y) (hx : may x) (hy : may y) : Calls Try.prog 23 #[.pointer (some ⟨b, 0, none⟩)] w fun e w' => e = .returned (.int .i64 0) ∧ Rk w' b (tk x) (tk y) ∧ Kp w w' [b] := by
  have c0 := h.c0
  have c1 := h.c1
  have f0 := h.free 0
  have f1 := h.free 1
  obtain ⟨x0, x1⟩ := hx
  obtain ⟨y0, y1⟩ := hy
  have e1 : tk x = x + 1 ∧ x + 1 ≤ 1099511627776 ∨ tk x = 1099511627776 ∧ x = 1099511627776 := by unfold tk; omega
  have e2 : tk y = y + 1 ∧ y + 1 ≤ 1099511627776 ∨ tk y = 1099511627776 ∧ y = 1099511627776 := by unfold tk; omega
  obtain ⟨X, hX⟩ : ∃ X, tk x = X := ⟨_, rfl⟩
  obtain ⟨Y, hY⟩ : ∃ Y, tk y = Y := ⟨_, rfl⟩
  rw [hX] at e1 ⊢
  rw [hY] at e2 ⊢
  clear hX hY
  have H := hid h
  clear h
  rcases e1 with ⟨rfl, hl⟩ | ⟨rfl, rfl⟩
  · rcases e2 with ⟨rfl, hm⟩ | ⟨rfl, rfl⟩
    · go_enter Try.func23, Try.ntmps23
      go_wp2
      refine wp_loop_rounds 3 ?_
      rw [rounds_succ]
      go_wp2
      go_region
      have R1 := hid (rk_step0 H.out (x + 1))
      have d1 := (rk_step0 H.out (x + 1)).1.c1
      have g1 := (rk_step0 H.out (x + 1)).1.free 1
      obtain ⟨W, hW⟩ : ∃ W, (w.setCell ⟨b, 0, none⟩ (.int .i64 (x + 1))).drew = W := ⟨_, rfl⟩
      rw [hW] at R1 d1 g1 ⊢
      clear hW c0 c1 f0 f1 H
      go_wp2
      rw [rounds_succ]
      go_wp2
      go_region
      have R2 := hid (rk_step1 R1.out.1 (y + 1))
      have K2 := hid (R1.out.2.trans R2.out.2)
      obtain ⟨W2, hW2⟩ : ∃ W2, (W.setCell ⟨b, 1, none⟩ (.int .i64 (y + 1))).drew = W2 := ⟨_, rfl⟩
      rw [hW2] at R2 K2 ⊢
      clear hW2 d1 g1 R1
      go_wp2
      rw [rounds_succ]
      go_wp2
      go_ret
      exact ⟨rfl, R2.out.1, K2.out⟩
    · go_enter Try.func23, Try.ntmps23
      go_wp2
      refine wp_loop_rounds 3 ?_
      rw [rounds_succ]
      go_wp2
      go_region
      have R1 := hid (rk_step0 H.out (x + 1))
      have d1 := (rk_step0 H.out (x + 1)).1.c1
      have g1 := (rk_step0 H.out (x + 1)).1.free 1
      obtain ⟨W, hW⟩ : ∃ W, (w.setCell ⟨b, 0, none⟩ (.int .i64 (x + 1))).drew = W := ⟨_, rfl⟩
      rw [hW] at R1 d1 g1 ⊢
      clear hW c0 c1 f0 f1 H
      go_wp2
      rw [rounds_succ]
      go_wp2
      go_region
      have R2 := hid (rk_step1 R1.out.1 (1099511627776))
      have K2 := hid (R1.out.2.trans R2.out.2)
      obtain ⟨W2, hW2⟩ : ∃ W2, (W.setCell ⟨b, 1, none⟩ (.int .i64 (1099511627776))).drew = W2 := ⟨_, rfl⟩
      rw [hW2] at R2 K2 ⊢
      clear hW2 d1 g1 R1
      go_wp2
      rw [rounds_succ]
      go_wp2
      go_ret
      exact ⟨rfl, R2.out.1, K2.out⟩
  · rcases e2 with ⟨rfl, hm⟩ | ⟨rfl, rfl⟩
    · go_enter Try.func23, Try.ntmps23
      go_wp2
      refine wp_loop_rounds 3 ?_
      rw [rounds_succ]
      go_wp2
      go_region
      have R1 := hid (rk_step0 H.out (1099511627776))
      have d1 := (rk_step0 H.out (1099511627776)).1.c1
      have g1 := (rk_step0 H.out (1099511627776)).1.free 1
      obtain ⟨W, hW⟩ : ∃ W, (w.setCell ⟨b, 0, none⟩ (.int .i64 (1099511627776))).drew = W := ⟨_, rfl⟩
      rw [hW] at R1 d1 g1 ⊢
      clear hW c0 c1 f0 f1 H
      go_wp2
      rw [rounds_succ]
      go_wp2
      go_region
      have R2 := hid (rk_step1 R1.out.1 (y + 1))
      have K2 := hid (R1.out.2.trans R2.out.2)
      obtain ⟨W2, hW2⟩ : ∃ W2, (W.setCell ⟨b, 1, none⟩ (.int .i64 (y + 1))).drew = W2 := ⟨_, rfl⟩
      rw [hW2] at R2 K2 ⊢
      clear hW2 d1 g1 R1
      go_wp2
      rw [rounds_succ]
      go_wp2
      go_ret
      exact ⟨rfl, R2.out.1, K2.out⟩
    · go_enter Try.func23, Try.ntmps23
      go_wp2
      refine wp_loop_rounds 3 ?_
      rw [rounds_succ]
      go_wp2
      go_region
      have R1 := hid (rk_step0 H.out (1099511627776))
      have d1 := (rk_step0 H.out (1099511627776)).1.c1
      have g1 := (rk_step0 H.out (1099511627776)).1.free 1
      obtain ⟨W, hW⟩ : ∃ W, (w.setCell ⟨b, 0, none⟩ (.int .i64 (1099511627776))).drew = W := ⟨_, rfl⟩
      rw [hW] at R1 d1 g1 ⊢
      clear hW c0 c1 f0 f1 H
      go_wp2
      rw [rounds_succ]
      go_wp2
      go_region
      have R2 := hid (rk_step1 R1.out.1 (1099511627776))
      have K2 := hid (R1.out.2.trans R2.out.2)
      obtain ⟨W2, hW2⟩ : ∃ W2, (W.setCell ⟨b, 1, none⟩ (.int .i64 (1099511627776))).drew = W2 := ⟨_, rfl⟩
      rw [hW2] at R2 K2 ⊢
      clear hW2 d1 g1 R1
      go_wp2
      rw [rounds_succ]
      go_wp2
      go_ret
      exact ⟨rfl, R2.out.1, K2.out⟩

set_option maxRecDepth 100000 in
theorem rnow_any (w : World) (b : Nat) (x y k : Int) (h : Rk w b x y) : Calls Try.prog 26 #[.pointer (some ⟨b, 0, none⟩), .int .i64 k] w fun e w' => e = .returned (.tuple #[.int .i64 (nowV x y k), .int .i64 (nowE k)]) ∧ w' = w := by
  have c0 := h.c0
  have c1 := h.c1
  clear h
  by_cases h0 : k = 0
  · subst h0
    rw [show nowV x y 0 = x from rfl, show nowE 0 = 0 from rfl]
    go_enter Try.func26, Try.ntmps26
    go_wp2
    go_ret2
    exact ⟨rfl, rfl⟩
  by_cases h1 : k = 1
  · subst h1
    rw [show nowV x y 1 = y from rfl, show nowE 1 = 0 from rfl]
    go_enter Try.func26, Try.ntmps26
    go_wp2
    go_ret2
    exact ⟨rfl, rfl⟩
  rw [show nowV x y k = 0 by simp [nowV, h0, h1], show nowE k = 2 by simp [nowE, h0, h1]]
  have h2 : (k != 0) = true := by simp [h0]
  have h3 : (k != 1) = true := by simp [h1]
  clear h0 h1
  go_enter Try.func26, Try.ntmps26
  go_wp2
  go_ret2
  exact ⟨rfl, rfl⟩

set_option maxRecDepth 100000 in
theorem rset_any (w : World) (b : Nat) (x y k n : Int) (h : Rk w b x y) : Calls Try.prog 24 #[.pointer (some ⟨b, 0, none⟩), .int .i64 k, .int .i64 n] w fun e w' => e = .returned (.int .i64 (setE k n)) ∧ Rk w' b (setX x k n) y ∧ Kp w w' [b] := by
  have cn := rnow_any w b x y k h
  have H := hid h
  have c0 := h.c0
  have f0 := h.free 0
  clear h
  obtain ⟨v, hv⟩ : ∃ v, nowV x y k = v := ⟨_, rfl⟩
  rw [hv] at cn
  clear hv
  unfold setE setX
  rcases nowE_or k with ⟨e0, hk⟩ | ⟨e0, hk⟩
  · rw [e0] at cn
    by_cases h1 : 0 ≤ n
    · by_cases h2 : n ≤ 1099511627776
      · rw [if_pos ⟨hk, h1, h2⟩]
        rcases hk with rfl | rfl
        · rw [if_pos rfl, if_pos ⟨rfl, h1, h2⟩]
          clear e0
          go_enter Try.func24, Try.ntmps24
          go_wp2_with (go_at_call 26; refine cn.mono ?_; rintro e w' ⟨rfl, rfl⟩)
          go_ret
          exact ⟨rfl, H.out.set0 n, Kp.setCell _ _ _⟩
        · rw [if_neg (by decide), if_neg (by simp)]
          clear e0
          go_enter Try.func24, Try.ntmps24
          go_wp2_with (go_at_call 26; refine cn.mono ?_; rintro e w' ⟨rfl, rfl⟩)
          go_ret
          exact ⟨rfl, H.out, Kp.refl _ _⟩
      · rw [if_neg (fun h => h2 h.2.2), if_neg (fun h => h2 h.2.2)]
        clear e0 hk
        go_enter Try.func24, Try.ntmps24
        go_wp2_with (go_at_call 26; refine cn.mono ?_; rintro e w' ⟨rfl, rfl⟩)
        go_ret
        exact ⟨rfl, H.out, Kp.refl _ _⟩
    · rw [if_neg (fun h => h1 h.2.1), if_neg (fun h => h1 h.2.1)]
      clear e0 hk
      go_enter Try.func24, Try.ntmps24
      go_wp2_with (go_at_call 26; refine cn.mono ?_; rintro e w' ⟨rfl, rfl⟩)
      go_ret
      exact ⟨rfl, H.out, Kp.refl _ _⟩
  · rw [e0] at cn
    rw [if_neg (fun h => hk h.1), if_neg (fun h => hk (.inl h.1))]
    clear e0 hk
    go_enter Try.func24, Try.ntmps24
    go_wp2_with (go_at_call 26; refine cn.mono ?_; rintro e w' ⟨rfl, rfl⟩)
    go_ret
    exact ⟨rfl, H.out, Kp.refl _ _⟩

set_option maxRecDepth 100000 in
theorem rdue_any (w : World) (b : Nat) (x y k d : Int) (h : Rk w b x y) : Calls Try.prog 29 #[.pointer (some ⟨b, 0, none⟩), .int .i64 k, .int .i64 d] w fun e w' => e = .returned (.bool (dueB x y k d)) ∧ w' = w := by
  have cn := rnow_any w b x y k h
  clear h
  unfold dueB
  obtain ⟨v, hv⟩ : ∃ v, nowV x y k = v := ⟨_, rfl⟩
  rw [hv] at cn ⊢
  clear hv
  rcases nowE_or k with ⟨e0, hk⟩ | ⟨e0, hk⟩
  · rw [e0] at cn
    rw [decide_eq_true hk, Bool.true_and]
    clear hk e0
    by_cases h1 : d ≤ v
    · rw [decide_eq_true h1, Bool.true_or]
      go_enter Try.func29, Try.ntmps29
      go_wp2_with (go_at_call 26; refine cn.mono ?_; rintro e w' ⟨rfl, rfl⟩)
      go_ret
      exact ⟨rfl, rfl⟩
    · rw [decide_eq_false h1, Bool.false_or]
      by_cases h2 : v = 1099511627776
      · subst h2
        rw [decide_eq_true rfl]
        go_enter Try.func29, Try.ntmps29
        go_wp2_with (go_at_call 26; refine cn.mono ?_; rintro e w' ⟨rfl, rfl⟩)
        go_ret
        exact ⟨rfl, rfl⟩
      · rw [decide_eq_false h2]
        have h3 : (v == 1099511627776) = false := by simp [h2]
        clear h2
        go_enter Try.func29, Try.ntmps29
        go_wp2_with (go_at_call 26; refine cn.mono ?_; rintro e w' ⟨rfl, rfl⟩)
        go_ret
        refine ⟨?_, rfl⟩
        show Ending.returned (.bool (decide (d ≤ v))) = _
        rw [decide_eq_false (by omega)]
  · rw [e0] at cn
    rw [decide_eq_false hk, Bool.false_and]
    clear hk e0
    go_enter Try.func29, Try.ntmps29
    go_wp2_with (go_at_call 26; refine cn.mono ?_; rintro e w' ⟨rfl, rfl⟩)
    go_ret
    exact ⟨rfl, rfl⟩

set_option maxRecDepth 100000 in
theorem rin_any (w : World) (b : Nat) (x y k n : Int) (h : Rk w b x y) (hx : may x) (hy : may y) : Calls Try.prog 27 #[.pointer (some ⟨b, 0, none⟩), .int .i64 k, .int .i64 n] w fun e w' => e = .returned (.tuple #[.int .i64 (inV x y k n), .int .i64 (inE k n)]) ∧ w' = w := by
  have cn := rnow_any w b x y k h
  have hm := nowV_may (k := k) hx hy
  clear h hx hy
  unfold inV inE
  obtain ⟨v, hv⟩ : ∃ v, nowV x y k = v := ⟨_, rfl⟩
  rw [hv] at cn hm ⊢
  obtain ⟨m0, m1⟩ := hm
  clear hv
  rcases nowE_or k with ⟨e0, hk⟩ | ⟨e0, hk⟩
  · rw [e0] at cn
    by_cases h1 : 0 ≤ n
    · rw [if_pos ⟨hk, h1⟩, if_pos ⟨hk, h1⟩]
      clear hk e0
      by_cases h2 : n ≤ 1099511627776 - v
      · rw [show min (v + n) 1099511627776 = v + n by omega]
        go_enter Try.func27, Try.ntmps27
        go_wp2_with (go_at_call 26; refine cn.mono ?_; rintro e w' ⟨rfl, rfl⟩)
        go_ret2
        exact ⟨rfl, rfl⟩
      · rw [show min (v + n) 1099511627776 = 1099511627776 by omega]
        go_enter Try.func27, Try.ntmps27
        go_wp2_with (go_at_call 26; refine cn.mono ?_; rintro e w' ⟨rfl, rfl⟩)
        go_ret2
        exact ⟨rfl, rfl⟩
    · rw [if_neg (by omega), if_neg (by omega)]
      clear hk e0
      go_enter Try.func27, Try.ntmps27
      go_wp2_with (go_at_call 26; refine cn.mono ?_; rintro e w' ⟨rfl, rfl⟩)
      go_ret2
      exact ⟨rfl, rfl⟩
  · rw [e0] at cn
    rw [if_neg (by omega), if_neg (by omega)]
    clear hk e0
    go_enter Try.func27, Try.ntmps27
    go_wp2_with (go_at_call 26; refine cn.mono ?_; rintro e w' ⟨rfl, rfl⟩)
    go_ret2
    exact ⟨rfl, rfl⟩

theorem ret2 {a b : Int} (h : a = b) : Ending.returned (.tuple #[.int .i64 a, .int .i64 0]) = .returned (.tuple #[.int .i64 b, .int .i64 0]) := by rw [h]
set_option maxRecDepth 100000 in
theorem rleft_any (w : World) (b : Nat) (x y k d : Int) (h : Rk w b x y) (hx : may x) (hy : may y) : Calls Try.prog 28 #[.pointer (some ⟨b, 0, none⟩), .int .i64 k, .int .i64 d] w fun e w' => e = .returned (.tuple #[.int .i64 (leftV x y k d), .int .i64 (nowE k)]) ∧ w' = w := by
  have cn := rnow_any w b x y k h
  have hm := nowV_may (k := k) hx hy
  clear h hx hy
  unfold leftV
  obtain ⟨v, hv⟩ : ∃ v, nowV x y k = v := ⟨_, rfl⟩
  rw [hv] at cn hm ⊢
  obtain ⟨m0, m1⟩ := hm
  clear hv
  rcases nowE_or k with ⟨e0, hk⟩ | ⟨e0, hk⟩
  · rw [e0] at cn ⊢
    rw [if_pos hk]
    clear hk e0
    obtain ⟨r, hr⟩ : ∃ r, max (min d 1099511627776) v - v = r := ⟨_, rfl⟩
    rw [hr]
    have HR := hid hr
    clear hr
    go_enter Try.func28, Try.ntmps28
    go_wp2_with (go_at_call 26; refine cn.mono ?_; rintro e w' ⟨rfl, rfl⟩)
    all_goals go_ret2
    all_goals refine ⟨?_, rfl⟩
    all_goals rw [← HR.out]
    all_goals exact ret2 (by omega)
  · rw [e0] at cn ⊢
    rw [if_neg hk]
    clear hk e0
    go_enter Try.func28, Try.ntmps28
    go_wp2_with (go_at_call 26; refine cn.mono ?_; rintro e w' ⟨rfl, rfl⟩)
    go_ret2
    exact ⟨rfl, rfl⟩
end Go.Proofs.Ytdkdjbicnaaafaa
