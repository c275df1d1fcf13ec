/- New over no arena. -/
import Derived.Test.YtgefmnnkpffpcaaGreatDoorHzero
import Derived.Test.YtgefmnnkpffpcaaGreatDoorHknown
import Derived.Test.YtgefmnnkpffpcaaGreatDoorHcheck4
namespace Go.Proofs.YtgefmnnkpffpcaaGreatDoor
open Go.RowKit Go.Maps

set_option maxRecDepth 100000 in
theorem hnew_nil (w : World) : Calls Tryz.prog 25 #[.pointer none] w fun e w' => e = .returned (.tuple #[.pointer none, .int .i64 1]) ∧ w' = w := by
  go_enter Tryz.func25, Tryz.ntmps25
  go_wp2_with (first | (go_at_call 65; go_in) | (go_at_call 104; go_in) | (go_at_call 52; go_in))
  go_ret2
  exact ⟨rfl, rfl⟩
end Go.Proofs.YtgefmnnkpffpcaaGreatDoor

/- TlsfNil, but for Check's answer. -/
namespace Go.Proofs.YtgefmnnkpffpcaaGreatDoor
open Go.RowKit Go.Maps Go.Shelf

def ts0 : Wl := [(0, 8388608), (96, 112), (112, 65425)]
def ts1 : Wl := [(0, 8421376), (64, 112), (96, 4104), (112, 3977), (4088, 16), (4092, 112), (4104, 61433), (4108, 4088)]
def ts2 : Wl := [(0, 294912), (64, 112), (76, 53256), (112, 3977), (4088, 16), (4092, 112), (4104, 49152), (4108, 4088), (53256, 12281), (53260, 4104)]
theorem tn0 : agree 65536 (fresh0 65536) (sw ts0) = true := by decide +kernel
theorem tn0n : (alloc 65536 (sw ts0) [] 65536).isNone = true := by decide +kernel
theorem tn1 : okA 65536 (aligned 65536 (sw ts0) [] 4096 1) 4096 ts1 [(4096, 16)] = true := by decide +kernel
theorem tn2 : okA 65536 (alloc 65536 (sw ts1) [(4096, 16)] 49144) 4112 ts2 [(4096, 16), (4112, 49152)] = true := by decide +kernel
theorem okt2 : Okp 65536 [(4096, 16), (4112, 49152)] := by unfold Okp; decide
theorem tw1 : hasWd 65536 [(4096, 16), (4112, 49152)] 4098 = false := by decide +kernel
theorem tw2 : hasWd 65536 [(4096, 16), (4112, 49152)] 4092 = false := by decide +kernel
theorem tw3 : hasWd 65536 [(4096, 16), (4112, 49152)] 53252 = true := by decide +kernel
theorem tw4 : hasWd 65536 [(4096, 16), (4112, 49152)] 4611686018427387904 = false := by unfold hasWd; rw [decide_eq_false (by omega)]; rfl

set_option maxRecDepth 100000 in
set_option maxHeartbeats 16000000 in
theorem nil_if (hchk : ∀ (W : World) (hb rb mb pb : Nat) (c : Int), Hp W hb rb mb pb 256 (sw ks9) c [(120, 32), (152, 24), (176, 64)] → c < 1000000 →
      Calls Tryz.prog 31 #[.pointer (some ⟨hb, 0, none⟩)] W fun e w' => e = .returned (.bool true) ∧ Went W w' hb rb mb pb 256 (sw ks9) [(120, 32), (152, 24), (176, 64)] c 600000 [rb])
    (w : World) (ht : Tb w) : Calls Tryz.prog 6 #[] w fun e w' => e = .returned (.bool true) ∧ Kp w w' [] := by
  go_enter Tryz.func6, Tryz.ntmps6
  go_wp2_with fail
  refine (hnew_nil w).mono ?_
  rintro e w0 ⟨rfl, hE⟩
  rw [hE]
  clear hE
  go_wp2_with fail
  refine (made_ok w 65536 (by unfold Good; decide) ht).mono ?_
  rintro e w1 ⟨hb, rb, mb, pb, rfl, ⟨c1, hc1, hd1, hH, hK⟩, hn1, hn2, hn3, hn4⟩
  have H1 := hid (hH.agree tn0)
  have K1 := hid hK
  clear hH hK ht
  go_wp2_with (fail)
  refine (alloc_no w1 hb rb mb pb 65536 (sw ts0) c1 [] 65537 H1.out (by decide)).mono ?_
  rintro e w2 ⟨rfl, hK⟩
  obtain ⟨c2, hcc⟩ : ∃ x, x = c1 := ⟨_, rfl⟩
  have H2 := hid (H1.out.same hK)
  have K2 := hid (K1.out.trans hK)
  rw [← hcc] at H2
  have hc2 : c1 ≤ c2 := by omega
  have hd2 : c2 ≤ c1 + 0 := by omega
  clear hK hcc H1 K1
  go_wp2_with fail
  refine (kalloc_no w2 hb rb mb pb 65536 ts0 c2 [] 65536 H2.out (by omega) (by decide) (by decide) (by simp [maxLen]) tn0n).mono ?_
  rintro e w3 ⟨rfl, c3, hc3, hd3, hH, hK⟩
  have H3 := hid hH
  have K3 := hid (K2.out.past hK (by intro k hk hlt; simp at hk; omega))
  clear hH hK H2 K2
  go_wp2_with (fail)
  refine (aligned_no w3 hb rb mb pb 65536 (sw ts0) c3 [] 4 1 H3.out (by decide) (by decide)).mono ?_
  rintro e w4 ⟨rfl, hK⟩
  obtain ⟨c4, hcc⟩ : ∃ x, x = c3 := ⟨_, rfl⟩
  have H4 := hid (H3.out.same hK)
  have K4 := hid (K3.out.trans hK)
  rw [← hcc] at H4
  have hc4 : c3 ≤ c4 := by omega
  have hd4 : c4 ≤ c3 + 0 := by omega
  clear hK hcc H3 K3
  go_wp2_with (fail)
  refine (aligned_no w4 hb rb mb pb 65536 (sw ts0) c4 [] 8192 1 H4.out (by decide) (by decide)).mono ?_
  rintro e w5 ⟨rfl, hK⟩
  obtain ⟨c5, hcc⟩ : ∃ x, x = c4 := ⟨_, rfl⟩
  have H5 := hid (H4.out.same hK)
  have K5 := hid (K4.out.trans hK)
  rw [← hcc] at H5
  have hc5 : c4 ≤ c5 := by omega
  have hd5 : c5 ≤ c4 + 0 := by omega
  clear hK hcc H4 K4
  go_wp2_with (fail)
  refine (aligned_no w5 hb rb mb pb 65536 (sw ts0) c5 [] 24 1 H5.out (by decide) (by decide)).mono ?_
  rintro e w6 ⟨rfl, hK⟩
  obtain ⟨c6, hcc⟩ : ∃ x, x = c5 := ⟨_, rfl⟩
  have H6 := hid (H5.out.same hK)
  have K6 := hid (K5.out.trans hK)
  rw [← hcc] at H6
  have hc6 : c5 ≤ c6 := by omega
  have hd6 : c6 ≤ c5 + 0 := by omega
  clear hK hcc H5 K5
  go_wp2_with fail
  refine (kaligned w6 hb rb mb pb 65536 ts0 ts1 c6 [] [(4096, 16)] 4096 1 4096 H6.out (by omega) (by decide) (by decide) (by decide) (by simp [maxLen]) tn1).mono ?_
  rintro e w7 ⟨rfl, c7, hc7, hd7, hH, hK⟩
  have H7 := hid hH
  have K7 := hid (K6.out.past hK (by intro k hk hlt; simp at hk; omega))
  clear hH hK H6 K6
  go_wp2_with fail
  refine (kalloc w7 hb rb mb pb 65536 ts1 ts2 c7 [(4096, 16)] [(4096, 16), (4112, 49152)] 49144 4112 H7.out (by omega) (by decide) (by decide) (by simp [maxLen]) tn2).mono ?_
  rintro e w8 ⟨rfl, c8, hc8, hd8, hH, hK⟩
  have H8 := hid hH
  have K8 := hid (K7.out.past hK (by intro k hk hlt; simp at hk; omega))
  clear hH hK H7 K7
  go_wp2_with (fail)
  refine (realloc_no w8 hb rb mb pb 65536 (sw ts2) c8 [(4096, 16), (4112, 49152)] 4096 0 H8.out (by decide)).mono ?_
  rintro e w9 ⟨rfl, hK⟩
  obtain ⟨c9, hcc⟩ : ∃ x, x = c8 := ⟨_, rfl⟩
  have H9 := hid (H8.out.same hK)
  have K9 := hid (K8.out.trans hK)
  rw [← hcc] at H9
  have hc9 : c8 ≤ c9 := by omega
  have hd9 : c9 ≤ c8 + 0 := by omega
  clear hK hcc H8 K8
  go_wp2_with (fail)
  refine (realloc_none w9 hb rb mb pb 65536 (sw ts2) c9 [(4096, 16), (4112, 49152)] 7 8 H9.out (by decide) (by decide) (by decide) (by decide)).mono ?_
  rintro e w10 ⟨rfl, hK⟩
  obtain ⟨c10, hcc⟩ : ∃ x, x = c9 := ⟨_, rfl⟩
  have H10 := hid (H9.out.same hK)
  have K10 := hid (K9.out.trans hK)
  rw [← hcc] at H10
  have hc10 : c9 ≤ c10 := by omega
  have hd10 : c10 ≤ c9 + 0 := by omega
  clear hK hcc H9 K9
  go_wp2_with (fail)
  refine (hset_no w10 hb rb mb pb 65536 (sw ts2) c10 [(4096, 16), (4112, 49152)] 4098 1 H10.out okt2 (by decide) (by decide) tw1).mono ?_
  rintro e w11 ⟨rfl, hK⟩
  obtain ⟨c11, hcc⟩ : ∃ x, x = c10 := ⟨_, rfl⟩
  have H11 := hid (H10.out.same hK)
  have K11 := hid (K10.out.trans hK)
  rw [← hcc] at H11
  have hc11 : c10 ≤ c11 := by omega
  have hd11 : c11 ≤ c10 + 0 := by omega
  clear hK hcc H10 K10
  go_wp2_with (fail)
  refine (hset_no w11 hb rb mb pb 65536 (sw ts2) c11 [(4096, 16), (4112, 49152)] 4092 1 H11.out okt2 (by decide) (by decide) tw2).mono ?_
  rintro e w12 ⟨rfl, hK⟩
  obtain ⟨c12, hcc⟩ : ∃ x, x = c11 := ⟨_, rfl⟩
  have H12 := hid (H11.out.same hK)
  have K12 := hid (K11.out.trans hK)
  rw [← hcc] at H12
  have hc12 : c11 ≤ c12 := by omega
  have hd12 : c12 ≤ c11 + 0 := by omega
  clear hK hcc H11 K11
  go_wp2_with fail
  refine (hset_ok w12 hb rb mb pb 65536 (sw ts2) c12 [(4096, 16), (4112, 49152)] 53252 1 H12.out (by omega) okt2 tw3 (by decide) (by decide)).mono ?_
  rintro e w13 ⟨rfl, c13, hc13, hd13, hH, hK⟩
  generalize wr 65536 (sw ts2) 53252 1 = gg at hH
  have H13 := hid hH
  have K13 := hid (K12.out.past hK (by intro k hk hlt; simp at hk; omega))
  clear hH hK H12 K12
  go_wp2_with fail
  refine (hset_no w13 hb rb mb pb 65536 gg c13 [(4096, 16), (4112, 49152)] 4611686018427387904 1 H13.out okt2 (by decide) (by decide) tw4).mono ?_
  rintro e w14 ⟨rfl, hK⟩
  have K14 := hid (K13.out.trans hK)
  have TB := hid (H13.out.same hK).tb
  clear hK H13 K13
  go_wp2_with (go_at_call 13; go_in)
  refine (nothing_any w14 none (.inl rfl)).mono ?_
  rintro e w15 ⟨rfl, hK⟩
  have K15 := hid (K14.out.trans hK)
  have TB2 := hid (TB.out.keep hK (by simp))
  clear hK K14 TB
  go_wp2_with fail
  have KA := hid (Kp.alloc w15 (.cells #[.pointer none, .map none] 67) [])
  refine (nothing_any _ (some ⟨w15.heap.size, 0, none⟩) (.inr ⟨_, rfl, cell2_new.1⟩)).mono ?_
  rintro e w16 ⟨rfl, hK⟩
  have K16 := hid ((K15.out.trans KA.out).trans hK)
  have TB3 := hid ((TB2.out.keep KA.out (by simp)).keep hK (by simp))
  clear hK K15 TB2 KA
  go_wp2_with fail
  refine (known_if hchk w16 TB3.out).mono ?_
  rintro e w17 ⟨rfl, hK⟩
  have K17 := hid (K16.out.trans hK)
  clear hK K16 TB3
  go_wp2_with fail
  go_ret
  exact ⟨rfl, K17.out⟩
end Go.Proofs.YtgefmnnkpffpcaaGreatDoor

/- Check's answer at known's last state; TlsfNil. -/
namespace Go.Proofs.YtgefmnnkpffpcaaGreatDoor
open Go.RowKit Go.Maps Go.Shelf

theorem ahead_of {q : Bk → Prop} {n : Nat} {g : Mem} (BL : List (Bq q)) (h : ∀ k (hk : k < BL.length), rd n g (BL[k].1.1 + 4) = lastAt (valq (BL.take k))) :
    ∀ pre x, pre ++ [x] <+: BL → rd n g (x.1.1 + 4) = lastAt (valq pre) := by
  rintro pre x ⟨r, rfl⟩
  have := h pre.length (by simp)
  simpa using this

theorem q9 : ∀ b ∈ [((112, 32, false) : Bk), (144, 24, false), (168, 64, false), (232, 24, true)], (0 ≤ b.1 ∧ b.1 ≤ 1000000 ∧ 0 ≤ b.2.1 ∧ b.2.1 ≤ 1000000) ∧ qB 256 (sw ks9) b := by
  unfold qB
  decide +kernel
def kb9 : List (Bq (qB 256 (sw ks9))) := [⟨(112, 32, false), q9 _ (by simp)⟩, ⟨(144, 24, false), q9 _ (by simp)⟩, ⟨(168, 64, false), q9 _ (by simp)⟩, ⟨(232, 24, true), q9 _ (by simp)⟩]
theorem ok9 : Okp 256 [(120, 32), (152, 24), (176, 64)] := by unfold Okp; decide
theorem ah9 : ∀ k (hk : k < kb9.length), rd 256 (sw ks9) (kb9[k].1.1 + 4) = lastAt (valq (kb9.take k)) := by
  intro k hk
  have hk4 : k < 4 := hk
  match k, hk4 with
  | 0, _ => exact (by decide +kernel : rd 256 (sw ks9) ((kb9[0]'(by decide)).1.1 + 4) = lastAt (valq (kb9.take 0)))
  | 1, _ => exact (by decide +kernel : rd 256 (sw ks9) ((kb9[1]'(by decide)).1.1 + 4) = lastAt (valq (kb9.take 1)))
  | 2, _ => exact (by decide +kernel : rd 256 (sw ks9) ((kb9[2]'(by decide)).1.1 + 4) = lastAt (valq (kb9.take 2)))
  | 3, _ => exact (by decide +kernel : rd 256 (sw ks9) ((kb9[3]'(by decide)).1.1 + 4) = lastAt (valq (kb9.take 3)))
theorem chk9 (W : World) (hb rb mb pb : Nat) (c : Int) (h : Hp W hb rb mb pb 256 (sw ks9) c [(120, 32), (152, 24), (176, 64)]) (hc : c < 1000000) :
    Calls Tryz.prog 31 #[.pointer (some ⟨hb, 0, none⟩)] W fun e w' => e = .returned (.bool true) ∧ Went W w' hb rb mb pb 256 (sw ks9) [(120, 32), (152, 24), (176, 64)] c 600000 [rb] :=
  check_ok W hb rb mb pb 256 10 2 (sw ks9) c _ kb9 (by rw [kn10b]; rfl) h ok9 (by decide) (by decide) (by omega) (ahead_of kb9 ah9) (by decide) kn10c (by decide +kernel) (by decide +kernel) (by decide +kernel) (by decide +kernel)
theorem nil_ok (w : World) (ht : Tb w) : Calls Tryz.prog 6 #[] w fun e w' => e = .returned (.bool true) ∧ Kp w w' [] := nil_if chk9 w ht
end Go.Proofs.YtgefmnnkpffpcaaGreatDoor
