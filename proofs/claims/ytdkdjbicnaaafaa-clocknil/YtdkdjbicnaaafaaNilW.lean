/- nothing, and ClockNil's walk. -/
import Derived.Test.YtdkdjbicnaaafaaKnown
namespace Go.Proofs.Ytdkdjbicnaaafaa
open Go.RowKit

set_option maxRecDepth 100000 in
set_option maxHeartbeats 1000000 in
theorem nothing_any (w : World) (p : Option Addr) (h : Zc w p) : Calls Try.prog 21 #[.pointer p] w fun e w' => e = .returned (.bool true) ∧ w' = w := by
  have c1 := znow w p 0 h
  have c2 := zin w p 0 1 h
  have c3 := zleft w p 0 1 h
  have c4 := ztick w p h
  have c5 := zset w p 0 1 h
  have c6 := zdue w p 0 0 h
  have c7 := zcopy w p h
  have c8 := zsame w p none h (.inl rfl)
  clear h
  go_enter Try.func21, Try.ntmps21
  go_wp2_with fail
  refine c1.mono ?_
  rintro e w' ⟨rfl, rfl⟩
  go_wp2_with fail
  refine c2.mono ?_
  rintro e w' ⟨rfl, rfl⟩
  go_wp2_with fail
  refine c3.mono ?_
  rintro e w' ⟨rfl, rfl⟩
  go_wp2_with (go_at_call 9; go_in)
  refine c4.mono ?_
  rintro e w' ⟨rfl, rfl⟩
  go_wp2_with (go_at_call 9; go_in)
  refine c5.mono ?_
  rintro e w' ⟨rfl, rfl⟩
  go_wp2_with (go_at_call 9; go_in)
  refine c6.mono ?_
  rintro e w' ⟨rfl, rfl⟩
  go_wp2_with (go_at_call 9; go_in)
  refine c7.mono ?_
  rintro e w' ⟨rfl, rfl⟩
  go_wp2_with (go_at_call 9; go_in)
  refine c8.mono ?_
  rintro e w' ⟨rfl, rfl⟩
  go_wp2_with (go_at_call 9; go_in)
  go_ret
  exact ⟨rfl, rfl⟩

set_option maxRecDepth 100000 in
set_option maxHeartbeats 2000000 in
theorem nil_walk (w : World) : Calls Try.prog 6 #[] w fun e w' => e = .returned (.bool true) ∧ Kp w w' [] := by
  go_enter Try.func6, Try.ntmps6
  go_wp2_with fail
  refine (new_ok _ 1099511627776 (by decide)).mono ?_
  rintro e w1 ⟨rfl, rfl⟩
  have t1 := hid (show Ck _ w.heap.size 1099511627776 0 from heap_alloc_new w (.cells #[.int .i64 1099511627776, .int .i64 0, .bool true] 51))
  have k1 := hid (Kp.alloc w (.cells #[.int .i64 1099511627776, .int .i64 0, .bool true] 51) [])
  obtain ⟨w1, hw1⟩ : ∃ w1, w.alloc (.cells #[.int .i64 1099511627776, .int .i64 0, .bool true] 51) = w1 := ⟨_, rfl⟩
  obtain ⟨b, hb⟩ : ∃ b, w.heap.size = b := ⟨_, rfl⟩
  rw [hw1] at k1 t1 ⊢
  have NB := hid (show w.heap.size ≤ b by omega)
  rw [hb] at t1 ⊢
  clear hw1 hb
  go_wp2_with fail
  refine (tick_any _ b 1099511627776 0 t1.out (by unfold may; decide) (by unfold may; decide)).mono ?_
  rintro e w2 ⟨rfl, t, k⟩
  have t2 := hid (show Ck w2 b 1099511627776 1 from t)
  have k2 := hid (k1.out.past k (by intro k hk hl; have := NB.out; simp at hk; omega))
  clear t k t1 k1
  go_wp2_with fail
  refine (now_any _ b 1099511627776 1 0 t2.out).mono ?_
  rintro e w2 ⟨rfl, rfl⟩
  rw [show nowV 1099511627776 1 0 = 1099511627776 from rfl, show nowE 0 = 0 from rfl]
  go_wp2_with fail
  refine (in_any _ b 1099511627776 1 0 5 t2.out (by unfold may; decide) (by unfold may; decide) (by decide)).mono ?_
  rintro e w2 ⟨rfl, rfl⟩
  rw [show inV 1099511627776 1 0 5 = 1099511627776 by decide, show inE 0 5 = 0 by decide]
  go_wp2_with fail
  refine (left_any _ b 1099511627776 1 0 4611686018427387904 t2.out (by unfold may; decide) (by unfold may; decide) (by decide)).mono ?_
  rintro e w2 ⟨rfl, rfl⟩
  rw [show leftV 1099511627776 1 0 4611686018427387904 = 0 by decide, show nowE 0 = 0 from rfl]
  go_wp2_with fail
  refine (left_any _ b 1099511627776 1 1 4611686018427387904 t2.out (by unfold may; decide) (by unfold may; decide) (by decide)).mono ?_
  rintro e w2 ⟨rfl, rfl⟩
  rw [show leftV 1099511627776 1 1 4611686018427387904 = 1099511627775 by decide, show nowE 1 = 0 from rfl]
  go_wp2_with fail
  refine (in_any _ b 1099511627776 1 1 (-1) t2.out (by unfold may; decide) (by unfold may; decide) (by decide)).mono ?_
  rintro e w2 ⟨rfl, rfl⟩
  rw [show inV 1099511627776 1 1 (-1) = 0 by decide, show inE 1 (-1) = 2 by decide]
  go_wp2_with fail
  refine (set_any _ b 1099511627776 1 0 (-1) t2.out).mono ?_
  rintro e w2 ⟨rfl, t, k⟩
  rw [show setE 0 (-1) = 2 from rfl]
  have t3 := hid (show Ck w2 b 1099511627776 1 from t)
  have k3 := hid (k2.out.past k (by intro k hk hl; have := NB.out; simp at hk; omega))
  clear t k t2 k2
  go_wp2_with fail
  refine (set_any _ b 1099511627776 1 0 1099511627777 t3.out).mono ?_
  rintro e w2 ⟨rfl, t, k⟩
  rw [show setE 0 1099511627777 = 2 from rfl]
  have t4 := hid (show Ck w2 b 1099511627776 1 from t)
  have k4 := hid (k3.out.past k (by intro k hk hl; have := NB.out; simp at hk; omega))
  clear t k t3 k3
  go_wp2_with fail
  refine (set_any _ b 1099511627776 1 2 1 t4.out).mono ?_
  rintro e w2 ⟨rfl, t, k⟩
  rw [show setE 2 1 = 2 from rfl]
  have t5 := hid (show Ck w2 b 1099511627776 1 from t)
  have k5 := hid (k4.out.past k (by intro k hk hl; have := NB.out; simp at hk; omega))
  clear t k t4 k4
  go_wp2_with fail
  refine (set_any _ b 1099511627776 1 1 (-1) t5.out).mono ?_
  rintro e w2 ⟨rfl, t, k⟩
  rw [show setE 1 (-1) = 2 from rfl]
  have t6 := hid (show Ck w2 b 1099511627776 1 from t)
  have k6 := hid (k5.out.past k (by intro k hk hl; have := NB.out; simp at hk; omega))
  clear t k t5 k5
  go_wp2_with fail
  refine (left_any _ b 1099511627776 1 1 (-9223372036854775808) t6.out (by unfold may; decide) (by unfold may; decide) (by decide)).mono ?_
  rintro e w2 ⟨rfl, rfl⟩
  rw [show leftV 1099511627776 1 1 (-9223372036854775808) = 0 by decide, show nowE 1 = 0 from rfl]
  go_wp2_with (go_at_call 9; go_in)
  refine (due_any _ b 1099511627776 1 0 4611686018427387904 t6.out).mono ?_
  rintro e w2 ⟨rfl, rfl⟩
  rw [show dueB 1099511627776 1 0 4611686018427387904 = true by decide]
  go_wp2_with (go_at_call 9; go_in)
  refine (due_any _ b 1099511627776 1 1 4611686018427387904 t6.out).mono ?_
  rintro e w2 ⟨rfl, rfl⟩
  rw [show dueB 1099511627776 1 1 4611686018427387904 = false by decide]
  go_wp2_with (go_at_call 9; go_in)
  refine (due_any _ b 1099511627776 1 1 (-5) t6.out).mono ?_
  rintro e w2 ⟨rfl, rfl⟩
  rw [show dueB 1099511627776 1 1 (-5) = true by decide]
  go_wp2_with (go_at_call 9; go_in)
  refine (due_any _ b 1099511627776 1 2 0 t6.out).mono ?_
  rintro e w2 ⟨rfl, rfl⟩
  rw [show dueB 1099511627776 1 2 0 = false by decide]
  go_wp2_with (go_at_call 9; go_in)
  refine (nothing_any _ none (.inl rfl)).mono ?_
  rintro e w3 ⟨rfl, rfl⟩
  go_wp2_with (go_at_call 9; go_in)
  refine (nothing_any _ _ (.inr ⟨_, rfl, ?_⟩)).mono ?_
  · exact cell_of_row _ _ 2 _ _ _ (heap_alloc_new _ (.cells #[.int .i64 0, .int .i64 0, .bool false] 51))
  rintro e w4 ⟨rfl, rfl⟩
  rename World => w3
  have t9 := hid (t6.out.keep (Kp.alloc w3 (.cells #[.int .i64 0, .int .i64 0, .bool false] 51) []) (by simp))
  have k9 := hid (k6.out.trans (Kp.alloc w3 (.cells #[.int .i64 0, .int .i64 0, .bool false] 51) []))
  clear t6 k6
  go_wp2_with (go_at_call 9; go_in)
  refine (zsame_right _ none b 1099511627776 1 (.inl rfl) t9.out).mono ?_
  rintro e w5 ⟨rfl, rfl⟩
  go_wp2_with (go_at_call 9; go_in)
  refine (known_any _).mono ?_
  rintro e w6 ⟨rfl, k6⟩
  have k10 := hid (k9.out.trans k6)
  clear k6 k9 t9
  go_wp2
  go_ret
  exact ⟨rfl, k10.out⟩
end Go.Proofs.Ytdkdjbicnaaafaa
