/- New, Now, Due, In, Left. -/
import Derived.Test.YtdkdjbicnaaafaaBase
namespace Go.Proofs.Ytdkdjbicnaaafaa
open Go.RowKit

set_option maxRecDepth 100000 in
theorem num_any (w : World) (e : Int) : Calls Try.prog 9 #[.int .i64 e] w fun x w' => x = .returned (.int .i64 e) ∧ w' = w := by
  go_enter Try.func9, Try.ntmps9
  go_wp2
  go_ret
  exact ⟨rfl, rfl⟩

set_option maxRecDepth 100000 in
theorem may_any (w : World) (n : Int) : Calls Try.prog 22 #[.int .i64 n] w fun e w' => e = .returned (.bool (decide (0 ≤ n ∧ n ≤ 1099511627776))) ∧ w' = w := by
  by_cases h0 : 0 ≤ n
  · by_cases h1 : n ≤ 1099511627776
    · rw [show decide (0 ≤ n ∧ n ≤ 1099511627776) = true by simp [h0, h1]]
      go_enter Try.func22, Try.ntmps22
      go_wp2
      go_ret
      exact ⟨rfl, rfl⟩
    · rw [show decide (0 ≤ n ∧ n ≤ 1099511627776) = false by simp [h1]]
      go_enter Try.func22, Try.ntmps22
      go_wp2
      go_ret
      exact ⟨rfl, rfl⟩
  · rw [show decide (0 ≤ n ∧ n ≤ 1099511627776) = false by simp [h0]]
    go_enter Try.func22, Try.ntmps22
    go_wp2
    go_ret
    exact ⟨rfl, rfl⟩

set_option maxRecDepth 100000 in
theorem zero_no (w : World) (b : Nat) (x y : Int) (h : Ck w b x y) : Calls Try.prog 30 #[.pointer (some ⟨b, 0, none⟩)] w fun e w' => e = .returned (.bool false) ∧ w' = w := by
  have c2 := h.c2
  clear h
  go_enter Try.func30, Try.ntmps30
  go_wp2
  go_ret
  exact ⟨rfl, rfl⟩
set_option maxRecDepth 100000 in
theorem zero_yes (w : World) (p : Option Addr) (h : Zc w p) : Calls Try.prog 30 #[.pointer p] w fun e w' => e = .returned (.bool true) ∧ w' = w := by
  rcases h with rfl | ⟨b, rfl, c2⟩
  · go_enter Try.func30, Try.ntmps30
    go_wp2
    go_ret
    exact ⟨rfl, rfl⟩
  · go_enter Try.func30, Try.ntmps30
    go_wp2
    go_ret
    exact ⟨rfl, rfl⟩

set_option maxRecDepth 100000 in
theorem new_no (w : World) (n : Int) (h : ¬ (0 ≤ n ∧ n ≤ 1099511627776)) : Calls Try.prog 7 #[.int .i64 n] w fun e w' => e = .returned (.tuple #[.pointer none, .int .i64 2]) ∧ w' = w := by
  have cm := may_any w n
  rw [show decide (0 ≤ n ∧ n ≤ 1099511627776) = false by simp only [h, decide_false]] at cm
  clear h
  go_enter Try.func7, Try.ntmps7
  go_wp2_with (go_at_call 22; refine cm.mono ?_; rintro e w' ⟨rfl, rfl⟩)
  go_ret2
  exact ⟨rfl, rfl⟩
set_option maxRecDepth 100000 in
theorem new_ok (w : World) (n : Int) (h : 0 ≤ n ∧ n ≤ 1099511627776) : Calls Try.prog 7 #[.int .i64 n] w fun e w' => e = .returned (.tuple #[.pointer (some ⟨w.heap.size, 0, none⟩), .int .i64 0]) ∧ w' = w.alloc (.cells #[.int .i64 n, .int .i64 0, .bool true] 51) := by
  have cm := may_any w n
  rw [show decide (0 ≤ n ∧ n ≤ 1099511627776) = true by simp only [h, decide_true, and_self]] at cm
  clear h
  go_enter Try.func7, Try.ntmps7
  go_wp2_with (go_at_call 22; refine cm.mono ?_; rintro e w' ⟨rfl, rfl⟩)
  go_ret2
  exact ⟨rfl, rfl⟩

set_option maxRecDepth 100000 in
theorem now_any (w : World) (b : Nat) (x y k : Int) (h : Ck w b x y) : Calls Try.prog 15 #[.pointer (some ⟨b, 0, none⟩), .int .i64 k] w fun e w' => e = .returned (.tuple #[.int .i64 (nowV x y k), .int .i64 (nowE k)]) ∧ w' = w := by
  have cz := zero_no w b x y h
  have c0 := h.c0
  have c1 := h.c1
  clear h
  by_cases h0 : k = 0
  · subst h0
    rw [show nowV x y 0 = x from rfl, show nowE 0 = 0 from rfl]
    go_enter Try.func15, Try.ntmps15
    go_wp2_with (go_at_call 30; refine cz.mono ?_; rintro e w' ⟨rfl, rfl⟩)
    go_ret2
    exact ⟨rfl, rfl⟩
  by_cases h1 : k = 1
  · subst h1
    rw [show nowV x y 1 = y from rfl, show nowE 1 = 0 from rfl]
    go_enter Try.func15, Try.ntmps15
    go_wp2_with (go_at_call 30; refine cz.mono ?_; rintro e w' ⟨rfl, rfl⟩)
    go_ret2
    exact ⟨rfl, rfl⟩
  rw [show nowV x y k = 0 by simp [nowV, h0, h1], show nowE k = 2 by simp [nowE, h0, h1]]
  by_cases h2 : k < 0
  · clear h0 h1
    go_enter Try.func15, Try.ntmps15
    go_wp2_with (go_at_call 30; refine cz.mono ?_; rintro e w' ⟨rfl, rfl⟩)
    go_ret2
    exact ⟨rfl, rfl⟩
  · have h3 : 2 ≤ k := by omega
    clear h0 h1
    go_enter Try.func15, Try.ntmps15
    go_wp2_with (go_at_call 30; refine cz.mono ?_; rintro e w' ⟨rfl, rfl⟩)
    go_ret2
    exact ⟨rfl, rfl⟩
set_option maxRecDepth 100000 in
theorem znow (w : World) (p : Option Addr) (k : Int) (h : Zc w p) : Calls Try.prog 15 #[.pointer p, .int .i64 k] w fun e w' => e = .returned (.tuple #[.int .i64 0, .int .i64 1]) ∧ w' = w := by
  have cz := zero_yes w p h
  clear h
  go_enter Try.func15, Try.ntmps15
  go_wp2_with (go_at_call 30; refine cz.mono ?_; rintro e w' ⟨rfl, rfl⟩)
  go_ret2
  exact ⟨rfl, rfl⟩

theorem nowE_or (k : Int) : nowE k = 0 ∧ (k = 0 ∨ k = 1) ∨ nowE k = 2 ∧ ¬ (k = 0 ∨ k = 1) := by
  unfold nowE
  split
  · rename_i h; exact .inl ⟨rfl, h⟩
  · rename_i h; exact .inr ⟨rfl, h⟩

set_option maxRecDepth 100000 in
theorem due_any (w : World) (b : Nat) (x y k d : Int) (h : Ck w b x y) : Calls Try.prog 18 #[.pointer (some ⟨b, 0, none⟩), .int .i64 k, .int .i64 d] w fun e w' => e = .returned (.bool (dueB x y k d)) ∧ w' = w := by
  have cn := now_any w b x y k h
  clear h
  unfold dueB
  obtain ⟨v, hv⟩ : ∃ v, nowV x y k = v := ⟨_, rfl⟩
  rw [hv] at cn ⊢
  clear hv
  rcases nowE_or k with ⟨e0, hk⟩ | ⟨e0, hk⟩
  · rw [e0] at cn
    rw [decide_eq_true hk, Bool.true_and]
    clear hk e0
    by_cases h1 : d ≤ v
    · rw [decide_eq_true h1, Bool.true_or]
      go_enter Try.func18, Try.ntmps18
      go_wp2_with (go_at_call 15; refine cn.mono ?_; rintro e w' ⟨rfl, rfl⟩)
      go_ret
      exact ⟨rfl, rfl⟩
    · rw [decide_eq_false h1, Bool.false_or]
      by_cases h2 : v = 1099511627776
      · subst h2
        rw [decide_eq_true rfl]
        go_enter Try.func18, Try.ntmps18
        go_wp2_with (go_at_call 15; refine cn.mono ?_; rintro e w' ⟨rfl, rfl⟩)
        go_ret
        exact ⟨rfl, rfl⟩
      · rw [decide_eq_false h2]
        have h3 : (v == 1099511627776) = false := by simp [h2]
        clear h2
        go_enter Try.func18, Try.ntmps18
        go_wp2_with (go_at_call 15; refine cn.mono ?_; rintro e w' ⟨rfl, rfl⟩)
        go_ret
        refine ⟨?_, rfl⟩
        show Ending.returned (.bool (decide (d ≤ v))) = _
        rw [decide_eq_false (by omega)]
  · rw [e0] at cn
    rw [decide_eq_false hk, Bool.false_and]
    clear hk e0
    go_enter Try.func18, Try.ntmps18
    go_wp2_with (go_at_call 15; refine cn.mono ?_; rintro e w' ⟨rfl, rfl⟩)
    go_ret
    exact ⟨rfl, rfl⟩
set_option maxRecDepth 100000 in
theorem zdue (w : World) (p : Option Addr) (k d : Int) (h : Zc w p) : Calls Try.prog 18 #[.pointer p, .int .i64 k, .int .i64 d] w fun e w' => e = .returned (.bool false) ∧ w' = w := by
  have cn := znow w p k h
  clear h
  go_enter Try.func18, Try.ntmps18
  go_wp2_with (go_at_call 15; refine cn.mono ?_; rintro e w' ⟨rfl, rfl⟩)
  go_ret
  exact ⟨rfl, rfl⟩

set_option maxRecDepth 100000 in
theorem in_any (w : World) (b : Nat) (x y k n : Int) (h : Ck w b x y) (hx : may x) (hy : may y) (hn : -9223372036854775808 ≤ n ∧ n ≤ 9223372036854775807) : Calls Try.prog 16 #[.pointer (some ⟨b, 0, none⟩), .int .i64 k, .int .i64 n] w fun e w' => e = .returned (.tuple #[.int .i64 (inV x y k n), .int .i64 (inE k n)]) ∧ w' = w := by
  have cn := now_any w b x y k h
  have hm := nowV_may (k := k) hx hy
  clear h hx hy
  unfold inV inE
  obtain ⟨v, hv⟩ : ∃ v, nowV x y k = v := ⟨_, rfl⟩
  rw [hv] at cn hm ⊢
  obtain ⟨m0, m1⟩ := hm
  clear hv
  rcases nowE_or k with ⟨e0, hk⟩ | ⟨e0, hk⟩
  · rw [e0] at cn
    by_cases h1 : 0 ≤ n
    · rw [if_pos ⟨hk, h1⟩, if_pos ⟨hk, h1⟩]
      clear hk e0
      by_cases h2 : n ≤ 1099511627776 - v
      · rw [show min (v + n) 1099511627776 = v + n by omega]
        have h3 : min n (1099511627776 - v) = n := by omega
        go_enter Try.func16, Try.ntmps16
        go_wp2_with (go_at_call 15; refine cn.mono ?_; rintro e w' ⟨rfl, rfl⟩)
        go_ret2
        exact ⟨rfl, rfl⟩
      · rw [show min (v + n) 1099511627776 = v + (1099511627776 - v) by omega]
        have h3 : min n (1099511627776 - v) = 1099511627776 - v := by omega
        go_enter Try.func16, Try.ntmps16
        go_wp2_with (go_at_call 15; refine cn.mono ?_; rintro e w' ⟨rfl, rfl⟩)
        go_ret2
        exact ⟨rfl, rfl⟩
    · rw [if_neg (by omega), if_neg (by omega)]
      clear hk e0
      go_enter Try.func16, Try.ntmps16
      go_wp2_with (go_at_call 15; refine cn.mono ?_; rintro e w' ⟨rfl, rfl⟩)
      go_ret2
      exact ⟨rfl, rfl⟩
  · rw [e0] at cn
    rw [if_neg (by omega), if_neg (by omega)]
    clear hk e0
    go_enter Try.func16, Try.ntmps16
    go_wp2_with (go_at_call 15; refine cn.mono ?_; rintro e w' ⟨rfl, rfl⟩)
    go_ret2
    exact ⟨rfl, rfl⟩
set_option maxRecDepth 100000 in
theorem zin (w : World) (p : Option Addr) (k d : Int) (h : Zc w p) : Calls Try.prog 16 #[.pointer p, .int .i64 k, .int .i64 d] w fun e w' => e = .returned (.tuple #[.int .i64 0, .int .i64 1]) ∧ w' = w := by
  have cn := znow w p k h
  clear h
  go_enter Try.func16, Try.ntmps16
  go_wp2_with (go_at_call 15; refine cn.mono ?_; rintro e w' ⟨rfl, rfl⟩)
  go_ret2
  exact ⟨rfl, rfl⟩

set_option maxRecDepth 100000 in
theorem left_any (w : World) (b : Nat) (x y k d : Int) (h : Ck w b x y) (hx : may x) (hy : may y) (hd : -9223372036854775808 ≤ d ∧ d ≤ 9223372036854775807) : Calls Try.prog 17 #[.pointer (some ⟨b, 0, none⟩), .int .i64 k, .int .i64 d] w fun e w' => e = .returned (.tuple #[.int .i64 (leftV x y k d), .int .i64 (nowE k)]) ∧ w' = w := by
  have cn := now_any w b x y k h
  have cd := due_any w b x y k d h
  have hm := nowV_may (k := k) hx hy
  clear h hx hy
  unfold leftV
  unfold dueB at cd
  obtain ⟨v, hv⟩ : ∃ v, nowV x y k = v := ⟨_, rfl⟩
  rw [hv] at cn hm cd ⊢
  obtain ⟨m0, m1⟩ := hm
  clear hv
  rcases nowE_or k with ⟨e0, hk⟩ | ⟨e0, hk⟩
  · rw [e0] at cn ⊢
    rw [if_pos hk]
    rw [decide_eq_true hk, Bool.true_and] at cd
    clear hk e0
    by_cases h1 : d ≤ v ∨ v = 1099511627776
    · rw [show (decide (d ≤ v) || decide (v = 1099511627776)) = true by simp [h1]] at cd
      rw [show max (min d 1099511627776) v - v = 0 by omega]
      clear h1
      go_enter Try.func17, Try.ntmps17
      go_wp2_with (first | (go_at_call 15; refine cn.mono ?_; rintro e w' ⟨rfl, rfl⟩) | (go_at_call 18; refine cd.mono ?_; rintro e w' ⟨rfl, rfl⟩))
      go_ret2
      exact ⟨rfl, rfl⟩
    · rw [show (decide (d ≤ v) || decide (v = 1099511627776)) = false by simp; omega] at cd
      by_cases h2 : d ≤ 1099511627776
      · rw [show max (min d 1099511627776) v - v = d - v by omega]
        have h3 : min d 1099511627776 = d := by omega
        have h4 : v < d := by omega
        clear h1
        go_enter Try.func17, Try.ntmps17
        go_wp2_with (first | (go_at_call 15; refine cn.mono ?_; rintro e w' ⟨rfl, rfl⟩) | (go_at_call 18; refine cd.mono ?_; rintro e w' ⟨rfl, rfl⟩))
        go_ret2
        exact ⟨rfl, rfl⟩
      · rw [show max (min d 1099511627776) v - v = 1099511627776 - v by omega]
        have h3 : min d 1099511627776 = 1099511627776 := by omega
        clear h1
        go_enter Try.func17, Try.ntmps17
        go_wp2_with (first | (go_at_call 15; refine cn.mono ?_; rintro e w' ⟨rfl, rfl⟩) | (go_at_call 18; refine cd.mono ?_; rintro e w' ⟨rfl, rfl⟩))
        go_ret2
        exact ⟨rfl, rfl⟩
  · rw [e0] at cn ⊢
    rw [if_neg hk]
    clear hk e0 cd
    go_enter Try.func17, Try.ntmps17
    go_wp2_with (go_at_call 15; refine cn.mono ?_; rintro e w' ⟨rfl, rfl⟩)
    go_ret2
    exact ⟨rfl, rfl⟩
set_option maxRecDepth 100000 in
theorem zleft (w : World) (p : Option Addr) (k d : Int) (h : Zc w p) : Calls Try.prog 17 #[.pointer p, .int .i64 k, .int .i64 d] w fun e w' => e = .returned (.tuple #[.int .i64 0, .int .i64 1]) ∧ w' = w := by
  have cn := znow w p k h
  clear h
  go_enter Try.func17, Try.ntmps17
  go_wp2_with (go_at_call 15; refine cn.mono ?_; rintro e w' ⟨rfl, rfl⟩)
  go_ret2
  exact ⟨rfl, rfl⟩
end Go.Proofs.Ytdkdjbicnaaafaa
