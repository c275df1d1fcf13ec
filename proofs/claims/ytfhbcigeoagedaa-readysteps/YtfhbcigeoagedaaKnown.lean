/- known: the chapter's rows. -/
import Derived.Test.YtfhbcigeoagedaaInts
namespace Go.Proofs.Ytfhbcigeoagedaa
open Go.RowKit Go.Shelf

def L0 : Ls := fun _ => []
def kL1 : Ls := putL false L0 5 1
def kL2 : Ls := putL false kL1 5 2
def kL3 : Ls := putL true kL2 5 3
def kL4 : Ls := putL false kL3 9 4
def kL5 : Ls := remL kL4 4
theorem putL_err {f : Bool} {L : Ls} {p t : Int} (h : putE L p t ≠ 0) : putL f L p t = L := by unfold putL; rw [if_neg h]
theorem remL_err {L : Ls} {t : Int} (h : remE L t ≠ 0) : remL L t = L := by unfold remL; rw [if_neg h]
theorem kf1 : putE L0 0 1 = 2 ∧ putE L0 32 1 = 2 ∧ putE L0 5 16 = 2 ∧ putE L0 5 1 = 0 ∧ putE kL1 7 1 = 7 ∧ putE kL1 5 2 = 0 ∧ putE kL2 5 3 = 0 ∧ putE kL3 9 4 = 0 := by decide +kernel
theorem kf2 : seqI kL3 5 = [3, 1, 2] ∧ fstV kL3 = 3 ∧ fstV kL4 = 4 ∧ remE kL4 4 = 0 ∧ remE kL5 4 = 6 ∧ fstV kL5 = 3 ∧ fstB kL5 = true ∧ prI kL5 2 = 5 := by decide +kernel
theorem Rd.past {w w1 w2 : World} {rb : Nat} (h : Kp w w1 []) (h' : Kp w1 w2 [rb]) (hb : w.heap.size ≤ rb) : Kp w w2 [] := h.past h' (by intro k hk hl; simp at hk; omega)

set_option maxRecDepth 100000 in
set_option maxHeartbeats 4000000 in
theorem known_any (w : World) : Calls Try.prog 10 #[] w fun e w' => e = .returned (.bool true) ∧ Kp w w' [] := by
  obtain ⟨f1, f2, f3, f4, f5, f6, f7, f8⟩ := kf1
  obtain ⟨g1, g2, g3, g4, g5, g6, g7, g8⟩ := kf2
  go_enter Try.func10, Try.ntmps10
  go_wp2_with fail
  refine (new_rd w).mono ?_
  rintro e w0 ⟨rfl, hR, hK⟩
  have R0 := hid (show Rd w0 w.heap.size L0 0 from hR)
  have K0 := hid hK
  obtain ⟨rb, hrb⟩ : ∃ rb, w.heap.size = rb := ⟨_, rfl⟩
  rw [hrb] at R0 ⊢
  have HB := hid (show w.heap.size ≤ rb by omega)
  clear hR hK hrb
  have cc := R0.out.tail (by omega) 0 1
  rw [putL_err (by rw [f1]; decide), f1] at cc
  go_wp2_with fail
  refine cc.mono ?_
  rintro e w1 ⟨rfl, ⟨s1, l1, m1, hR⟩, hK⟩
  have R1 := hid (show Rd w1 rb L0 s1 from hR)
  have K1 := hid (Rd.past K0.out hK HB.out)
  clear hR hK cc R0 K0
  have cc := R1.out.tail (by omega) 32 1
  rw [putL_err (by rw [f2]; decide), f2] at cc
  go_wp2_with fail
  refine cc.mono ?_
  rintro e w2 ⟨rfl, ⟨s2, l2, m2, hR⟩, hK⟩
  have R2 := hid (show Rd w2 rb L0 s2 from hR)
  have K2 := hid (Rd.past K1.out hK HB.out)
  clear hR hK cc R1 K1
  have cc := R2.out.tail (by omega) 5 16
  rw [putL_err (by rw [f3]; decide), f3] at cc
  go_wp2_with fail
  refine cc.mono ?_
  rintro e w3 ⟨rfl, ⟨s3, l3, m3, hR⟩, hK⟩
  have R3 := hid (show Rd w3 rb L0 s3 from hR)
  have K3 := hid (Rd.past K2.out hK HB.out)
  clear hR hK cc R2 K2
  have cc := R3.out.tail (by omega) 5 1
  rw [f4] at cc
  go_wp2_with fail
  refine cc.mono ?_
  rintro e w4 ⟨rfl, ⟨s4, l4, m4, hR⟩, hK⟩
  have R4 := hid (show Rd w4 rb kL1 s4 from hR)
  have K4 := hid (Rd.past K3.out hK HB.out)
  clear hR hK cc R3 K3
  have cc := R4.out.tail (by omega) 7 1
  rw [putL_err (by rw [f5]; decide), f5] at cc
  go_wp2_with fail
  refine cc.mono ?_
  rintro e w5 ⟨rfl, ⟨s5, l5, m5, hR⟩, hK⟩
  have R5 := hid (show Rd w5 rb kL1 s5 from hR)
  have K5 := hid (Rd.past K4.out hK HB.out)
  clear hR hK cc R4 K4
  have cc := R5.out.tail (by omega) 5 2
  rw [f6] at cc
  go_wp2_with fail
  refine cc.mono ?_
  rintro e w6 ⟨rfl, ⟨s6, l6, m6, hR⟩, hK⟩
  have R6 := hid (show Rd w6 rb kL2 s6 from hR)
  have K6 := hid (Rd.past K5.out hK HB.out)
  clear hR hK cc R5 K5
  have cc := R6.out.head (by omega) 5 3
  rw [f7] at cc
  go_wp2_with fail
  refine cc.mono ?_
  rintro e w7 ⟨rfl, ⟨s7, l7, m7, hR⟩, hK⟩
  have R7 := hid (show Rd w7 rb kL3 s7 from hR)
  have K7 := hid (Rd.past K6.out hK HB.out)
  clear hR hK cc R6 K6
  have cc := R7.out.list 5
  rw [g1] at cc
  go_wp2_with fail
  refine cc.mono ?_
  rintro e w8 ⟨⟨V, rfl, hN⟩, hK⟩
  obtain ⟨ao, cap, rfl⟩ := hN.slice
  have R8 := hid (show Rd w8 rb kL3 s7 from R7.out.keep hK (by simp))
  have K8 := hid (K7.out.trans hK)
  have N8 := hid (show Ns w8 (rb + 1) _ _ from hN.low (by have := R7.out.lt; omega))
  clear hK hN cc R7 K7
  have cc := R8.out.first (by omega)
  rw [g2] at cc
  go_wp2_with fail
  refine cc.mono ?_
  rintro e w9 ⟨rfl, ⟨s9, l9, m9, hR⟩, hK⟩
  have R9 := hid (show Rd w9 rb kL3 s9 from hR)
  have K9 := hid (Rd.past K8.out hK HB.out)
  have N9 := hid (N8.out.kp hK (fun g hg => by have := (owns_block N8.out.1 hg).1; simp; omega))
  clear hR hK cc R8 K8 N8
  have cc := R9.out.tail (by omega) 9 4
  rw [f8] at cc
  go_wp2_with fail
  refine cc.mono ?_
  rintro e w10 ⟨rfl, ⟨s10, l10, m10, hR⟩, hK⟩
  have R10 := hid (show Rd w10 rb kL4 s10 from hR)
  have K10 := hid (Rd.past K9.out hK HB.out)
  have N10 := hid (N9.out.kp hK (fun g hg => by have := (owns_block N9.out.1 hg).1; simp; omega))
  clear hR hK cc R9 K9 N9
  have cc := R10.out.first (by omega)
  rw [g3] at cc
  go_wp2_with fail
  refine cc.mono ?_
  rintro e w11 ⟨rfl, ⟨s11, l11, m11, hR⟩, hK⟩
  have R11 := hid (show Rd w11 rb kL4 s11 from hR)
  have K11 := hid (Rd.past K10.out hK HB.out)
  have N11 := hid (N10.out.kp hK (fun g hg => by have := (owns_block N10.out.1 hg).1; simp; omega))
  clear hR hK cc R10 K10 N10
  have cc := R11.out.remove (by omega) 4
  rw [g4] at cc
  go_wp2_with fail
  refine cc.mono ?_
  rintro e w12 ⟨rfl, ⟨s12, l12, m12, hR⟩, hK⟩
  have R12 := hid (show Rd w12 rb kL5 s12 from hR)
  have K12 := hid (Rd.past K11.out hK HB.out)
  have N12 := hid (N11.out.kp hK (fun g hg => by have := (owns_block N11.out.1 hg).1; simp; omega))
  clear hR hK cc R11 K11 N11
  have cc := R12.out.remove (by omega) 4
  rw [remL_err (by rw [g5]; decide), g5] at cc
  go_wp2_with fail
  refine cc.mono ?_
  rintro e w13 ⟨rfl, ⟨s13, l13, m13, hR⟩, hK⟩
  have R13 := hid (show Rd w13 rb kL5 s13 from hR)
  have K13 := hid (Rd.past K12.out hK HB.out)
  have N13 := hid (N12.out.kp hK (fun g hg => by have := (owns_block N12.out.1 hg).1; simp; omega))
  clear hR hK cc R12 K12 N12
  have cc := R13.out.first (by omega)
  rw [g6, g7] at cc
  go_wp2_with fail
  refine cc.mono ?_
  rintro e w14 ⟨rfl, ⟨s14, l14, m14, hR⟩, hK⟩
  have R14 := hid (show Rd w14 rb kL5 s14 from hR)
  have K14 := hid (Rd.past K13.out hK HB.out)
  have N14 := hid (N13.out.kp hK (fun g hg => by have := (owns_block N13.out.1 hg).1; simp; omega))
  clear hR hK cc R13 K13 N13
  have cc := R14.out.prio 2
  rw [g8] at cc
  go_wp2_with fail
  refine cc.mono ?_
  rintro e wz ⟨rfl, rfl⟩
  clear cc
  go_wp2_with (go_at_call 16; refine (num_any _ _).mono ?_; rintro e w' ⟨rfl, rfl⟩)
  have hN2 : Ns (w'.alloc (.cells #[.int .i64 3, .int .i64 1, .int .i64 2] 3)) 0 (.slice (some ⟨w'.heap.size, 0, none⟩) 3 3) [3, 1, 2] :=
    ⟨⟨rfl, .inr ⟨w'.heap.size, 3, _, rfl, Nat.zero_le _, heap_alloc_new w' _, Nat.le_refl _, by unfold maxLen; omega, rfl, rfl⟩⟩, by simp⟩
  refine (ints_any _ (rb + 1) 0 (.slice ao 3 cap) _ [3, 1, 2] [3, 1, 2] (N14.out.keep (Kp.alloc w' _ [])) hN2 (by simp) (by simp)).mono ?_
  rintro e wf ⟨rfl, hK⟩
  have KF := hid ((K14.out.trans (Kp.alloc w' _ [])).trans hK)
  clear hK hN2
  go_wp2_with (go_at_call 16; refine (num_any _ _).mono ?_; rintro e w' ⟨rfl, rfl⟩)
  go_ret
  exact ⟨by simp, KF.out⟩
end Go.Proofs.Ytfhbcigeoagedaa
