/- Set, Tick, Copy, Same. -/
import Derived.Test.YtdkdjbicnaaafaaLook
namespace Go.Proofs.Ytdkdjbicnaaafaa
open Go.RowKit

set_option maxRecDepth 100000 in
theorem set_any (w : World) (b : Nat) (x y k n : Int) (h : Ck w b x y) : Calls Try.prog 20 #[.pointer (some ⟨b, 0, none⟩), .int .i64 k, .int .i64 n] w fun e w' => e = .returned (.int .i64 (setE k n)) ∧ Ck w' b (setX x k n) y ∧ Kp w w' [b] := by
  have cn := now_any w b x y k h
  have cm := may_any w n
  have H := hid h
  have c0 := h.c0
  have f0 := h.free 0
  clear h
  obtain ⟨v, hv⟩ : ∃ v, nowV x y k = v := ⟨_, rfl⟩
  rw [hv] at cn
  clear hv
  unfold setE setX
  rcases nowE_or k with ⟨e0, hk⟩ | ⟨e0, hk⟩
  · rw [e0] at cn
    by_cases h1 : 0 ≤ n ∧ n ≤ 1099511627776
    · rw [decide_eq_true h1] at cm
      rw [if_pos ⟨hk, h1⟩]
      rcases hk with rfl | rfl
      · rw [if_pos rfl, if_pos ⟨rfl, h1⟩]
        clear e0 h1
        go_enter Try.func20, Try.ntmps20
        go_wp2_with (first | (go_at_call 15; refine cn.mono ?_; rintro e w' ⟨rfl, rfl⟩) | (go_at_call 22; refine cm.mono ?_; rintro e w' ⟨rfl, rfl⟩))
        go_ret
        exact ⟨rfl, H.out.set0 n, Kp.setCell _ _ _⟩
      · rw [if_neg (by decide), if_neg (by simp)]
        clear e0 h1
        go_enter Try.func20, Try.ntmps20
        go_wp2_with (first | (go_at_call 15; refine cn.mono ?_; rintro e w' ⟨rfl, rfl⟩) | (go_at_call 22; refine cm.mono ?_; rintro e w' ⟨rfl, rfl⟩))
        go_ret
        exact ⟨rfl, H.out, Kp.refl _ _⟩
    · rw [decide_eq_false h1] at cm
      rw [if_neg (fun h => h1 h.2), if_neg (fun h => h1 h.2)]
      clear e0 h1 hk
      go_enter Try.func20, Try.ntmps20
      go_wp2_with (first | (go_at_call 15; refine cn.mono ?_; rintro e w' ⟨rfl, rfl⟩) | (go_at_call 22; refine cm.mono ?_; rintro e w' ⟨rfl, rfl⟩))
      go_ret
      exact ⟨rfl, H.out, Kp.refl _ _⟩
  · rw [e0] at cn
    rw [if_neg (fun h => hk h.1), if_neg (fun h => hk (.inl h.1))]
    clear e0 hk
    go_enter Try.func20, Try.ntmps20
    go_wp2_with (go_at_call 15; refine cn.mono ?_; rintro e w' ⟨rfl, rfl⟩)
    go_ret
    exact ⟨rfl, H.out, Kp.refl _ _⟩
set_option maxRecDepth 100000 in
theorem zset (w : World) (p : Option Addr) (k n : Int) (h : Zc w p) : Calls Try.prog 20 #[.pointer p, .int .i64 k, .int .i64 n] w fun e w' => e = .returned (.int .i64 1) ∧ w' = w := by
  have cn := znow w p k h
  clear h
  go_enter Try.func20, Try.ntmps20
  go_wp2_with (go_at_call 15; refine cn.mono ?_; rintro e w' ⟨rfl, rfl⟩)
  go_ret
  exact ⟨rfl, rfl⟩

set_option maxRecDepth 100000 in
theorem ztick (w : World) (p : Option Addr) (h : Zc w p) : Calls Try.prog 19 #[.pointer p] w fun e w' => e = .returned (.int .i64 1) ∧ w' = w := by
  have cz := zero_yes w p h
  clear h
  go_enter Try.func19, Try.ntmps19
  go_wp2_with (go_at_call 30; refine cz.mono ?_; rintro e w' ⟨rfl, rfl⟩)
  go_ret
  exact ⟨rfl, rfl⟩

set_option maxRecDepth 100000 in
theorem copy_ok (w : World) (b : Nat) (x y : Int) (h : Ck w b x y) : Calls Try.prog 25 #[.pointer (some ⟨b, 0, none⟩)] w fun e w' => e = .returned (.pointer (some ⟨w.heap.size, 0, none⟩)) ∧ w' = w.alloc (.cells #[.int .i64 x, .int .i64 y, .bool true] 51) := by
  have cz := zero_no w b x y h
  have c0 := h.c0
  have c1 := h.c1
  have c2 := h.c2
  clear h
  go_enter Try.func25, Try.ntmps25
  go_wp2_with (go_at_call 30; refine cz.mono ?_; rintro e w' ⟨rfl, rfl⟩)
  go_ret
  exact ⟨rfl, rfl⟩
set_option maxRecDepth 100000 in
theorem zcopy (w : World) (p : Option Addr) (h : Zc w p) : Calls Try.prog 25 #[.pointer p] w fun e w' => e = .returned (.pointer none) ∧ w' = w := by
  have cz := zero_yes w p h
  clear h
  go_enter Try.func25, Try.ntmps25
  go_wp2_with (go_at_call 30; refine cz.mono ?_; rintro e w' ⟨rfl, rfl⟩)
  go_ret
  exact ⟨rfl, rfl⟩
end Go.Proofs.Ytdkdjbicnaaafaa
