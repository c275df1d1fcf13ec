/- known: the chapter's rows. -/
import Derived.Test.YtaofpijcjohnhaaNoth
namespace Go.Proofs.Ytaofpijcjohnhaa
open Go.RowKit

theorem Gd.upd {T : Pl} (h : Gd T) (k : Nat) (v : Bool × Int) (hv : 0 ≤ v.2 ∧ v.2 ≤ 1000000) : Gd (upd T k v) := fun i hi => by
  unfold Ytaofpijcjohnhaa.upd
  split
  · exact hv
  · exact h i hi
def K1 : Pl := upd T0 0 (true, 1)
def K2 : Pl := upd K1 1 (true, 1)
def K3 : Pl := upd K2 0 (false, 1)
def K4 : Pl := upd K3 0 (true, 2)
theorem gk1 : Gd K1 := gd0.upd 0 _ (by decide)
theorem gk2 : Gd K2 := gk1.upd 1 _ (by decide)
theorem gk3 : Gd K3 := gk2.upd 0 _ (by decide)
theorem gk4 : Gd K4 := gk3.upd 0 _ (by decide)

set_option maxRecDepth 100000 in
set_option maxHeartbeats 1000000 in
theorem known_any (w : World) : Calls Try.prog 10 #[] w fun e w' => e = .returned (.bool true) ∧ Kp w w' [] := by
  go_enter Try.func10, Try.ntmps10
  go_wp2_with fail
  refine (new_no w 0 (by decide)).mono ?_
  rintro e w' ⟨rfl, rfl⟩
  go_wp2_with fail
  refine (new_no w' 17 (by decide)).mono ?_
  rintro e w ⟨rfl, rfl⟩
  go_wp2_with fail
  refine (new_ok w 2 (by decide) (by decide)).mono ?_
  rintro e w1 ⟨rfl, rfl⟩
  have k1 := hid (Kp.alloc w (.cells (tcs 2 T0) 55) [])
  have t1 := hid (show Tt _ w.heap.size 2 T0 from heap_alloc_new w (.cells (tcs 2 T0) 55))
  obtain ⟨w1, hw1⟩ : ∃ w1, w.alloc (.cells (tcs 2 T0) 55) = w1 := ⟨_, rfl⟩
  obtain ⟨tb, htb⟩ : ∃ tb, w.heap.size = tb := ⟨_, rfl⟩
  rw [hw1] at k1 t1 ⊢
  have NB := hid (show w.heap.size ≤ tb by omega)
  rw [htb] at t1 ⊢
  clear hw1 htb
  go_wp2_with fail
  refine (add_ok w1 tb 2 0 T0 t1.out gd0 (by decide) (by decide) (by decide) (by decide) (by decide)).mono ?_
  rintro e w2 ⟨rfl, t2', k2'⟩
  rw [show ((0 : Nat) : Int) + 16 * ((T0 0).2 + 1) = 16 from rfl]
  have t2 := hid (show Tt w2 tb 2 K1 from t2')
  have k2 := hid (k1.out.past k2' (by intro k hk hl; have := NB.out; simp at hk; omega))
  clear t2' k2' t1 k1
  go_wp2_with fail
  refine (add_ok w2 tb 2 1 K1 t2.out gk1 (by decide) (by decide) (by decide) (by decide) (by decide)).mono ?_
  rintro e w3 ⟨rfl, t3', k3'⟩
  rw [show ((1 : Nat) : Int) + 16 * ((K1 1).2 + 1) = 17 from rfl]
  have t3 := hid (show Tt w3 tb 2 K2 from t3')
  have k3 := hid (k2.out.past k3' (by intro k hk hl; have := NB.out; simp at hk; omega))
  clear t3' k3' t2 k2
  go_wp2_with fail
  refine (add_full w3 tb 2 K2 t3.out (by decide) (by decide) (by decide)).mono ?_
  rintro e w4 ⟨rfl, k4'⟩
  have t4 := hid (t3.out.keep k4' (by simp))
  have k4 := hid (k3.out.trans k4')
  clear k4' t3 k3
  go_wp2_with fail
  refine (drop_ok w4 tb 2 0 K2 16 t4.out gk2 (by decide) (by decide) (by decide) (by decide) (by decide)).mono ?_
  rintro e w5 ⟨rfl, t5', k5'⟩
  have t5 := hid (show Tt w5 tb 2 K3 from t5')
  have k5 := hid (k4.out.past k5' (by intro k hk hl; have := NB.out; simp at hk; omega))
  clear t5' k5' t4 k4
  go_wp2_with fail
  refine (at_any w5 tb 2 K3 16 t5.out gk3 (by decide) (by decide)).mono ?_
  rintro e w6 ⟨rfl, k6'⟩
  rw [show atV K3 2 16 = 0 by decide, show atB K3 2 16 = false by decide]
  have t6 := hid (t5.out.keep k6' (by simp))
  have k6 := hid (k5.out.trans k6')
  clear k6' t5 k5
  go_wp2_with fail
  refine (at_any w6 tb 2 K3 17 t6.out gk3 (by decide) (by decide)).mono ?_
  rintro e w7 ⟨rfl, k7'⟩
  rw [show atV K3 2 17 = 1 by decide, show atB K3 2 17 = true by decide]
  have t7 := hid (t6.out.keep k7' (by simp))
  have k7 := hid (k6.out.trans k7')
  clear k7' t6 k6
  go_wp2_with fail
  refine (add_ok w7 tb 2 0 K3 t7.out gk3 (by decide) (by decide) (by decide) (by decide) (by decide)).mono ?_
  rintro e w8 ⟨rfl, t8', k8'⟩
  rw [show ((0 : Nat) : Int) + 16 * ((K3 0).2 + 1) = 32 from rfl]
  have t8 := hid (show Tt w8 tb 2 K4 from t8')
  have k8 := hid (k7.out.past k8' (by intro k hk hl; have := NB.out; simp at hk; omega))
  clear t8' k8' t7 k7
  go_wp2_with fail
  refine (of_any w8 tb 2 K4 0 t8.out gk4 (by decide) (by decide)).mono ?_
  rintro e w9 ⟨rfl, k9'⟩
  rw [show ofV K4 2 0 = 32 by decide, show ofB K4 2 0 = true by decide]
  have t9 := hid (t8.out.keep k9' (by simp))
  have k9 := hid (k8.out.trans k9')
  clear k9' t8 k8
  go_wp2_with fail
  refine (drop_no w9 tb 2 K4 16 t9.out gk4 (by decide) (by decide) (by decide)).mono ?_
  rintro e w10 ⟨rfl, k10'⟩
  have t10 := hid (t9.out.keep k10' (by simp))
  have k10 := hid (k9.out.trans k10')
  clear k10' t9 k9
  go_wp2_with fail
  refine (drop_no w10 tb 2 K4 0 t10.out gk4 (by decide) (by decide) (by decide)).mono ?_
  rintro e w11 ⟨rfl, k11'⟩
  have t11 := hid (t10.out.keep k11' (by simp))
  have k11 := hid (k10.out.trans k11')
  clear k11' t10 k10
  go_wp2_with (go_at_call 9; go_in)
  refine (len_ok w11 tb 2 K4 t11.out gk4 (by decide)).mono ?_
  rintro e w12 ⟨rfl, k12'⟩
  rw [show (tkp K4 16).length = 2 from rfl]
  have k12 := hid (k11.out.trans k12')
  clear k12' k11
  go_wp2
  go_ret
  exact ⟨rfl, k12.out⟩
end Go.Proofs.Ytaofpijcjohnhaa
