/- The document's own arena: Set, Read. -/
import Derived.Test.YtihlejphjdelfaaRef
namespace Go.Proofs.Ytihlejphjdelfaa
open Go.RowKit

set_option maxRecDepth 100000 in
set_option maxHeartbeats 1000000 in
theorem rset_ok (w : World) (rb mb n o : Nat) (f : Nat → Int) (c x : Int) (h : Rf w rb mb n f c) (hn : n ≤ 65536) (hc0 : 0 ≤ c) (hc1 : c < 9223372036854775807) (hx0 : 0 ≤ x) (hx1 : x < 4294967296) (ho : o % 4 = 0) (hfit : o + 4 ≤ n) :
    Calls Try.prog 25 #[.pointer (some ⟨rb, 0, none⟩), .int .i64 o, .int .u32 x] w fun e w' => e = .returned (.int .i64 0) ∧ Rf w' rb mb n (over f o (bytes4 x)) (c + 1) ∧ Kp w w' [rb, mb] := by
  have H := hid h
  obtain ⟨cap, hncap, hmax, hr⟩ := h.head
  have hm0 := cell_two0 hr
  have hm1 := cell_two1 hr
  have hf1 := free_two (i := 1) hr
  have h4 : ((o : Int) % 4 != 0) = false := by simp; omega
  have hlt : (o : Int) < (n : Int) := by omega
  clear hr h ho
  go_enter Try.func25, Try.ntmps25
  go_wp2
  obtain ⟨w1, hw1⟩ : ∃ w1, w1 = w.setCell ⟨rb, 1, none⟩ (.int .i64 (c + 1)) := ⟨_, rfl⟩
  rw [← hw1]
  have hR1 : Rf w1 rb mb n f (c + 1) := by rw [hw1]; exact H.out.cost (c + 1)
  have hK1 : Kp w w1 [rb] := by rw [hw1]; exact Kp.setCell w ⟨rb, 1, none⟩ _
  obtain ⟨cap1, hcap1, -, hr1⟩ := hR1.head
  have hne := hR1.ne
  have q0 := cell_two0 hr1
  have z0 := hR1.cell (i := o) (by omega)
  have HR1 := hid hR1
  have HK1 := hid hK1
  clear hw1 hR1 hK1 hr1 hm0 hm1 hf1
  refine wp_loop_rounds 5 ?_
  rw [rounds_succ]
  go_wp2
  obtain ⟨w2, hw2⟩ : ∃ w', w' = w1.setCell ⟨mb, o, none⟩ (.int .u8 (x % 256)) := ⟨_, rfl⟩
  rw [← hw2]
  have hR2 := HR1.out.put (o) (x % 256) (by omega) (by omega)
  rw [← hw2] at hR2
  have hK2 : Kp w1 w2 [mb] := by rw [hw2]; exact Kp.setCell w1 ⟨mb, o, none⟩ _
  have q2 := hK2.cell q0 (by simp; omega)
  have z2 := hR2.cell (i := o + 1) (by omega)
  have HR2 := hid hR2
  have HK2 := hid hK2
  clear hw2 hR2 hK2 q0 z0
  rw [rounds_succ]
  go_wp2
  obtain ⟨w3, hw3⟩ : ∃ w', w' = w2.setCell ⟨mb, o + 1, none⟩ (.int .u8 (x / 256 % 256)) := ⟨_, rfl⟩
  rw [← hw3]
  have hR3 := HR2.out.put (o + 1) (x / 256 % 256) (by omega) (by omega)
  rw [← hw3] at hR3
  have hK3 : Kp w2 w3 [mb] := by rw [hw3]; exact Kp.setCell w2 ⟨mb, o + 1, none⟩ _
  have q3 := hK3.cell q2 (by simp; omega)
  have z3 := hR3.cell (i := o + 2) (by omega)
  have HR3 := hid hR3
  have HK3 := hid hK3
  clear hw3 hR3 hK3 q2 z2
  rw [rounds_succ]
  go_wp2
  obtain ⟨w4, hw4⟩ : ∃ w', w' = w3.setCell ⟨mb, o + 2, none⟩ (.int .u8 (x / 256 / 256 % 256)) := ⟨_, rfl⟩
  rw [← hw4]
  have hR4 := HR3.out.put (o + 2) (x / 256 / 256 % 256) (by omega) (by omega)
  rw [← hw4] at hR4
  have hK4 : Kp w3 w4 [mb] := by rw [hw4]; exact Kp.setCell w3 ⟨mb, o + 2, none⟩ _
  have q4 := hK4.cell q3 (by simp; omega)
  have z4 := hR4.cell (i := o + 3) (by omega)
  have HR4 := hid hR4
  have HK4 := hid hK4
  clear hw4 hR4 hK4 q3 z3
  rw [rounds_succ]
  go_wp2
  obtain ⟨w5, hw5⟩ : ∃ w', w' = w4.setCell ⟨mb, o + 3, none⟩ (.int .u8 (x / 256 / 256 / 256 % 256)) := ⟨_, rfl⟩
  rw [← hw5]
  have hR5 := HR4.out.put (o + 3) (x / 256 / 256 / 256 % 256) (by omega) (by omega)
  rw [← hw5] at hR5
  have hK5 : Kp w4 w5 [mb] := by rw [hw5]; exact Kp.setCell w4 ⟨mb, o + 3, none⟩ _
  have q5 := hK5.cell q4 (by simp; omega)
  have HR5 := hid hR5
  have HK5 := hid hK5
  clear hw5 hR5 hK5 q4 z4
  rw [rounds_succ]
  go_wp2
  go_ret
  refine ⟨rfl, HR5.out.congr fun i hi => ?_, ((((HK1.out.mono (by simp)).trans (HK2.out.mono (by simp))).trans (HK3.out.mono (by simp))).trans (HK4.out.mono (by simp))).trans (HK5.out.mono (by simp))⟩
  unfold over bytes4
  simp only [List.length_cons, List.length_nil]
  by_cases e3 : i = o + 3
  · subst e3; simp; omega
  · by_cases e2 : i = o + 2
    · subst e2; simp; omega
    · by_cases e1 : i = o + 1
      · subst e1; simp
      · by_cases e0 : i = o
        · subst e0; simp
        · rw [if_neg (by omega)]
          simp only [if_neg e3, if_neg e2, if_neg e1, if_neg e0]
end Go.Proofs.Ytihlejphjdelfaa
