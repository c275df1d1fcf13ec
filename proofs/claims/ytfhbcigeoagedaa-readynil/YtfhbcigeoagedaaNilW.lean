/- ReadyNil: the walk. -/
import Derived.Test.YtfhbcigeoagedaaKnown
namespace Go.Proofs.Ytfhbcigeoagedaa
open Go.RowKit Go.Shelf

def kF : Nat → Ls
  | 0 => L0
  | k + 1 => putL false (kF k) 31 (k : Nat)
def kG1 : Ls := remL (kF 16) 7
def kG2 : Ls := putL true kG1 1 7
theorem nf1 : ∀ k, k < 16 → putE (kF k) 31 (k : Nat) = 0 := by decide +kernel
theorem nf2 : remE (kF 16) 7 = 0 ∧ putE kG1 1 7 = 0 ∧ putE kG2 31 3 = 7 ∧ (seqs kG2 31).length = 16 ∧ (seqI kG2 31).length = 15 := by decide +kernel
theorem Rep.no_cz {c : Nat → Nat} {u : Nat} {L : Ls} (h : Rep c u L) : sameC c cz = false := by
  cases e : sameC c cz with
  | false => rfl
  | true => exact absurd ((sameC_iff c cz).1 e 32 (by decide)) h.not_zero
theorem zero_new (w : World) : Zr (w.alloc (.cells (rcs cz 0 0) 58)) (some ⟨w.heap.size, 0, none⟩) :=
  .inr ⟨_, rfl, (show Rr (w.alloc (.cells (rcs cz 0 0) 58)) w.heap.size cz 0 0 from heap_alloc_new w _).link 32 (by decide)⟩

set_option maxRecDepth 100000 in
set_option maxHeartbeats 4000000 in
theorem nil_any (w : World) : Calls Try.prog 6 #[] w fun e w' => e = .returned (.bool true) ∧ Kp w w' [] := by
  obtain ⟨f1, f2, f3, f4, f5⟩ := nf2
  go_enter Try.func6, Try.ntmps6
  go_wp2_with fail
  refine (new_rd w).mono ?_
  rintro e w0 ⟨rfl, hR, hK⟩
  have R0 := hid (show Rd w0 w.heap.size (kF 0) 0 from hR)
  have K0 := hid hK
  obtain ⟨rb, hrb⟩ : ∃ rb, w.heap.size = rb := ⟨_, rfl⟩
  rw [hrb] at R0 ⊢
  have HB := hid (show w.heap.size ≤ rb by omega)
  clear hR hK hrb
  go_wp2
  go_loopw [2] (fun v wr => ∃ k s : Nat, k ≤ 16 ∧ v = .int .i64 k ∧ s ≤ 6 * k ∧ Hid (Rd wr rb (kF k) s) ∧ Hid (Kp w wr []))
    (fun v _ => 16 - (intOf v).toNat)
  case atStart => exact ⟨0, 0, Nat.zero_le _, rfl, Nat.le_refl _, R0, K0⟩
  case round =>
    obtain ⟨k, s, hk, rfl, hs, hR, hK⟩ := hrel
    by_cases hlt : k < 16
    · have hltI : (k : Int) < 16 := by omega
      have cc := hR.out.tail (by omega) 31 (k : Int)
      rw [nf1 k hlt] at cc
      go_wp2_with fail
      refine cc.mono ?_
      rintro e w1 ⟨rfl, ⟨s1, l1, m1, hR1⟩, hK1⟩
      have R1 := hid (show Rd w1 rb (kF (k + 1)) s1 from hR1)
      have K1 := hid (Rd.past hK.out hK1 HB.out)
      clear hR1 hK1 cc hR hK
      go_wp2_with (go_at_call 16; refine (num_any _ _).mono ?_; rintro e w' ⟨rfl, rfl⟩)
      go_roundw
      case rel => exact ⟨k + 1, s1, by omega, by simp, by omega, R1, K1⟩
      case measure => simp [intOf]; omega
    · have hk16 : k = 16 := by omega
      subst hk16
      go_wp2_with fail
      refine hR.out.steps.mono ?_
      rintro e w1 ⟨rfl, rfl⟩
      have cc := hR.out.remove (by omega) 7
      rw [f1] at cc
      go_wp2_with fail
      refine cc.mono ?_
      rintro e w2 ⟨rfl, ⟨s2, l2, m2, hR2⟩, hK2⟩
      have R2 := hid (show Rd w2 rb kG1 s2 from hR2)
      have K2 := hid (Rd.past hK.out hK2 HB.out)
      clear hR2 hK2 cc hR hK
      have cc := R2.out.head (by omega) 1 7
      rw [f2] at cc
      go_wp2_with fail
      refine cc.mono ?_
      rintro e w3 ⟨rfl, ⟨s3, l3, m3, hR3⟩, hK3⟩
      have R3 := hid (show Rd w3 rb kG2 s3 from hR3)
      have K3 := hid (Rd.past K2.out hK3 HB.out)
      clear hR3 hK3 cc R2 K2
      have cc := R3.out.tail (by omega) 31 3
      rw [putL_err (by rw [f3]; decide), f3] at cc
      go_wp2_with fail
      refine cc.mono ?_
      rintro e w4 ⟨rfl, ⟨s4, l4, m4, hR4⟩, hK4⟩
      have R4 := hid hR4
      have K4 := hid (Rd.past K3.out hK4 HB.out)
      clear hR4 hK4 cc R3 K3
      go_wp2_with (go_at_call 16; refine (num_any _ _).mono ?_; rintro e w' ⟨rfl, rfl⟩)
      refine R4.out.steps.mono ?_
      rintro e w5 ⟨rfl, rfl⟩
      have hle : ((s4 : Int) - (s : Int)) ≤ 24 := by omega
      have cc := R4.out.len
      rw [f4] at cc
      go_wp2_with fail
      refine cc.mono ?_
      rintro e w6 ⟨rfl, hK6⟩
      have R6 := hid (R4.out.keep hK6 (by simp))
      have K6 := hid (K4.out.trans hK6)
      clear hK6 cc R4 K4
      go_wp2_with fail
      refine (R6.out.list 31).mono ?_
      rintro e w7 ⟨⟨V, rfl, hN⟩, hK7⟩
      obtain ⟨ao, cap, rfl⟩ := hN.slice
      rw [f5]
      have R7 := hid (R6.out.keep hK7 (by simp))
      have K7 := hid (K6.out.trans hK7)
      clear hK7 hN R6 K6
      go_wp2_with fail
      refine (nothing_any _ none (.inl rfl)).mono ?_
      rintro e w8 ⟨rfl, hK8⟩
      have R8 := hid (R7.out.keep hK8 (by simp))
      have K8 := hid (K7.out.trans hK8)
      clear hK8 R7 K7
      have z58 := (zero_of_info info58).1
      have b58 := built58
      go_wp2_with fail
      refine (nothing_any _ _ (zero_new w8)).mono ?_
      rintro e w9 ⟨rfl, hK9⟩
      have hK9' := (Kp.alloc w8 (.cells (rcs cz 0 0) 58) []).trans hK9
      have R9 := hid (R8.out.keep hK9' (by simp))
      have K9 := hid (K8.out.trans hK9')
      clear hK9 hK9' R8 K8 z58 b58
      obtain ⟨c, u, hr, hp⟩ := R9.out
      have cs := same_any w9 (some ⟨rb, 0, none⟩) none c cz kG2 _ (.inl ⟨rb, u, s4, rfl, hr, hp⟩) (zvw (.inl rfl))
      rw [hp.no_cz] at cs
      clear hr hp
      go_wp2_with fail
      refine cs.mono ?_
      rintro e w10 ⟨rfl, hK10⟩
      have K10 := hid (K9.out.trans hK10)
      clear hK10 cs K9 R9
      go_wp2_with fail
      refine (known_any w10).mono ?_
      rintro e w11 ⟨rfl, hK11⟩
      have K11 := hid (K10.out.trans hK11)
      clear hK11 K10
      go_wp2
      go_ret
      exact ⟨rfl, K11.out⟩
end Go.Proofs.Ytfhbcigeoagedaa
