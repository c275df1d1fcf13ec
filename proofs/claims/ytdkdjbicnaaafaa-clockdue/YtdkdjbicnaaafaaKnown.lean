/- known: the chapter's rows. -/
import Derived.Test.YtdkdjbicnaaafaaChange
import Derived.Test.YtdkdjbicnaaafaaTick
import Derived.Test.YtdkdjbicnaaafaaSame
namespace Go.Proofs.Ytdkdjbicnaaafaa
open Go.RowKit

set_option maxRecDepth 100000 in
set_option maxHeartbeats 1000000 in
theorem known_any (w : World) : Calls Try.prog 10 #[] w fun e w' => e = .returned (.bool true) ∧ Kp w w' [] := by
  go_enter Try.func10, Try.ntmps10
  go_wp2_with fail
  refine (new_no w (-1) (by decide)).mono ?_
  rintro e w' ⟨rfl, rfl⟩
  go_wp2_with fail
  refine (new_no _ 1099511627777 (by decide)).mono ?_
  rintro e w' ⟨rfl, rfl⟩
  go_wp2_with fail
  refine (new_ok _ 5 (by decide)).mono ?_
  rintro e w1 ⟨rfl, rfl⟩
  rename World => w
  have t1x := hid (show Ck _ w.heap.size 5 0 from heap_alloc_new w (.cells #[.int .i64 5, .int .i64 0, .bool true] 51))
  have k1x := hid (Kp.alloc w (.cells #[.int .i64 5, .int .i64 0, .bool true] 51) [])
  obtain ⟨w1, hw1⟩ : ∃ w1, w.alloc (.cells #[.int .i64 5, .int .i64 0, .bool true] 51) = w1 := ⟨_, rfl⟩
  obtain ⟨b, hb⟩ : ∃ b, w.heap.size = b := ⟨_, rfl⟩
  rw [hw1] at k1x t1x ⊢
  have NB := hid (show w.heap.size ≤ b by omega)
  rw [hb] at t1x ⊢
  clear hw1 hb
  go_wp2_with fail
  refine (now_any _ b 5 0 0 t1x.out).mono ?_
  rintro e w2 ⟨rfl, rfl⟩
  rw [show nowV 5 0 0 = 5 from rfl, show nowE 0 = 0 from rfl]
  go_wp2_with fail
  refine (now_any _ b 5 0 1 t1x.out).mono ?_
  rintro e w2 ⟨rfl, rfl⟩
  rw [show nowV 5 0 1 = 0 from rfl, show nowE 1 = 0 from rfl]
  go_wp2_with fail
  refine (now_any _ b 5 0 2 t1x.out).mono ?_
  rintro e w2 ⟨rfl, rfl⟩
  rw [show nowV 5 0 2 = 0 from rfl, show nowE 2 = 2 from rfl]
  go_wp2_with fail
  refine (tick_any _ b 5 0 t1x.out (by unfold may; decide) (by unfold may; decide)).mono ?_
  rintro e w2 ⟨rfl, t2, k2⟩
  have t2x := hid (show Ck w2 b 6 1 from t2)
  have k2x := hid (k1x.out.past k2 (by intro k hk hl; have := NB.out; simp at hk; omega))
  clear t2 k2 t1x k1x
  go_wp2_with fail
  refine (now_any _ b 6 1 0 t2x.out).mono ?_
  rintro e w2 ⟨rfl, rfl⟩
  rw [show nowV 6 1 0 = 6 from rfl, show nowE 0 = 0 from rfl]
  go_wp2_with fail
  refine (now_any _ b 6 1 1 t2x.out).mono ?_
  rintro e w2 ⟨rfl, rfl⟩
  rw [show nowV 6 1 1 = 1 from rfl, show nowE 1 = 0 from rfl]
  go_wp2_with fail
  refine (set_any _ b 6 1 1 9 t2x.out).mono ?_
  rintro e w2 ⟨rfl, t2, k2⟩
  rw [show setE 1 9 = 7 from rfl]
  have t3x := hid (show Ck w2 b 6 1 from t2)
  have k3x := hid (k2x.out.past k2 (by intro k hk hl; have := NB.out; simp at hk; omega))
  clear t2 k2 t2x k2x
  go_wp2_with fail
  refine (set_any _ b 6 1 0 2 t3x.out).mono ?_
  rintro e w2 ⟨rfl, t2, k2⟩
  rw [show setE 0 2 = 0 from rfl]
  have t4x := hid (show Ck w2 b 2 1 from t2)
  have k4x := hid (k3x.out.past k2 (by intro k hk hl; have := NB.out; simp at hk; omega))
  clear t2 k2 t3x k3x
  go_wp2_with fail
  refine (now_any _ b 2 1 0 t4x.out).mono ?_
  rintro e w2 ⟨rfl, rfl⟩
  rw [show nowV 2 1 0 = 2 from rfl, show nowE 0 = 0 from rfl]
  go_wp2_with fail
  refine (in_any _ b 2 1 1 3 t4x.out (by unfold may; decide) (by unfold may; decide) (by decide)).mono ?_
  rintro e w2 ⟨rfl, rfl⟩
  rw [show inV 2 1 1 3 = 4 by decide, show inE 1 3 = 0 by decide]
  go_wp2_with fail
  refine (due_any _ b 2 1 1 4 t4x.out).mono ?_
  rintro e w2 ⟨rfl, rfl⟩
  rw [show dueB 2 1 1 4 = false by decide]
  go_wp2_with fail
  refine (left_any _ b 2 1 1 4 t4x.out (by unfold may; decide) (by unfold may; decide) (by decide)).mono ?_
  rintro e w2 ⟨rfl, rfl⟩
  rw [show leftV 2 1 1 4 = 3 by decide, show nowE 1 = 0 from rfl]
  go_wp2_with fail
  refine (in_any _ b 2 1 0 4611686018427387904 t4x.out (by unfold may; decide) (by unfold may; decide) (by decide)).mono ?_
  rintro e w2 ⟨rfl, rfl⟩
  rw [show inV 2 1 0 4611686018427387904 = 1099511627776 by decide, show inE 0 4611686018427387904 = 0 by decide]
  go_wp2_with (go_at_call 9; go_in)
  go_ret
  exact ⟨rfl, k4x.out⟩
end Go.Proofs.Ytdkdjbicnaaafaa
