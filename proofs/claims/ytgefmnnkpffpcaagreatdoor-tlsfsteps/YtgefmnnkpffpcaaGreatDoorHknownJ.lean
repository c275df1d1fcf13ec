/- known, but for Check's answer at its end. -/
import Derived.Test.YtgefmnnkpffpcaaGreatDoorHconcJ
import Derived.Test.YtgefmnnkpffpcaaGreatDoorHcheck4
namespace Go.Proofs.YtgefmnnkpffpcaaGreatDoor
open Go.RowKit Go.Maps Go.Shelf

def kb5 : List Bb := [⟨(112, 16, false), by decide⟩, ⟨(128, 16, false), by decide⟩, ⟨(144, 24, false), by decide⟩, ⟨(168, 88, true), by decide⟩]
theorem kb5_eq : kb5.map (·.1) = blocksOf 256 [(120, 16), (136, 16), (152, 24)] := by rw [kn5b]; rfl
theorem ok5 : Okp 256 [(120, 16), (136, 16), (152, 24)] := by unfold Okp; decide
def kb6 : List Bb := [⟨(112, 16, false), by decide⟩, ⟨(128, 16, false), by decide⟩, ⟨(144, 24, false), by decide⟩, ⟨(168, 64, false), by decide⟩, ⟨(232, 24, true), by decide⟩]
theorem kb6_eq : kb6.map (·.1) = blocksOf 256 [(120, 16), (136, 16), (152, 24), (176, 64)] := by rw [kn6b]; rfl
theorem ok6 : Okp 256 [(120, 16), (136, 16), (152, 24), (176, 64)] := by unfold Okp; decide
theorem rb5 (w : World) : Rb (w.alloc (.cells #[.int .i64 112, .int .i64 16, .bool false, .int .i64 128, .int .i64 16, .bool false, .int .i64 144, .int .i64 24, .bool false, .int .i64 168, .int .i64 88, .bool true] 44)) (.slice (some ⟨w.heap.size, 0, none⟩) 4 4) (vals kb5) := by
  refine ⟨_, _, rfl, fun _ => ⟨_, _, rfl, ?_⟩⟩
  intro k hk
  have hk4 : k < 4 := hk
  have e := heap_alloc_new w (.cells #[.int .i64 112, .int .i64 16, .bool false, .int .i64 128, .int .i64 16, .bool false, .int .i64 144, .int .i64 24, .bool false, .int .i64 168, .int .i64 88, .bool true] 44)
  generalize w.alloc _ = W at e ⊢
  have f : ∀ i, W.cell? ⟨w.heap.size, i, none⟩ = (#[.int .i64 112, .int .i64 16, .bool false, .int .i64 128, .int .i64 16, .bool false, .int .i64 144, .int .i64 24, .bool false, .int .i64 168, .int .i64 88, .bool true] : Array Value)[i]? := fun i => by simp only [World.cell?, e]; rfl
  rw [f, f, f]
  match k, hk4 with
  | 0, _ => exact ⟨rfl, rfl, rfl⟩
  | 1, _ => exact ⟨rfl, rfl, rfl⟩
  | 2, _ => exact ⟨rfl, rfl, rfl⟩
  | 3, _ => exact ⟨rfl, rfl, rfl⟩
theorem left6 (w : World) (hb rb mb pb : Nat) (c : Int) (h : Hp w hb rb mb pb 256 (sw ks6) c [(120, 16), (136, 16), (152, 24), (176, 64)]) :
    Calls Tryz.prog 15 #[.pointer (some ⟨hb, 0, none⟩)] w fun e w' => e = .returned (.int .i64 16) ∧ Kp w w' [] := by
  have := left_any w hb rb mb pb 256 (sw ks6) c [(120, 16), (136, 16), (152, 24), (176, 64)] kb6 kb6_eq h ok6 (by decide) (by decide)
  rw [kn6b] at this
  exact this

set_option maxRecDepth 100000 in
set_option maxHeartbeats 16000000 in
theorem known_if (hchk : ∀ (W : World) (hb rb mb pb : Nat) (c : Int), Hp W hb rb mb pb 256 (sw ks9) c [(120, 32), (152, 24), (176, 64)] → c < 1000000 →
      Calls Tryz.prog 31 #[.pointer (some ⟨hb, 0, none⟩)] W fun e w' => e = .returned (.bool true) ∧ Went W w' hb rb mb pb 256 (sw ks9) [(120, 32), (152, 24), (176, 64)] c 600000 [rb])
    (w : World) (ht : Tb w) : Calls Tryz.prog 8 #[] w fun e w' => e = .returned (.bool true) ∧ Kp w w' [] := by
  go_enter Tryz.func8, Tryz.ntmps8
  go_wp2_with fail
  refine (made_ok w 256 (by unfold Good; decide) ht).mono ?_
  rintro e w1 ⟨hb, rb, mb, pb, rfl, ⟨c1, hc1, hd1, hH, hK⟩, hn1, hn2, hn3, hn4⟩
  have H1 := hid (hH.agree kn0)
  have K1 := hid hK
  clear hH hK ht
  go_wp2_with fail
  refine (kalloc w1 hb rb mb pb 256 ks0 ks1 c1 [] [(120, 16)] 1 120 H1.out (by omega) (by decide) (by decide) (by simp [maxLen]) kn1).mono ?_
  rintro e w2 ⟨rfl, c2, hc2, hd2, hH, hK⟩
  have H2 := hid hH
  have K2 := hid (K1.out.past hK (by intro k hk hlt; simp at hk; omega))
  clear hH hK H1 K1
  go_wp2_with fail
  refine (kalloc w2 hb rb mb pb 256 ks1 ks2 c2 [(120, 16)] [(120, 16), (136, 16)] 8 136 H2.out (by omega) (by decide) (by decide) (by simp [maxLen]) kn2).mono ?_
  rintro e w3 ⟨rfl, c3, hc3, hd3, hH, hK⟩
  have H3 := hid hH
  have K3 := hid (K2.out.past hK (by intro k hk hlt; simp at hk; omega))
  clear hH hK H2 K2
  go_wp2_with fail
  refine (kalloc w3 hb rb mb pb 256 ks2 ks3 c3 [(120, 16), (136, 16)] [(120, 16), (136, 16), (152, 24)] 9 152 H3.out (by omega) (by decide) (by decide) (by simp [maxLen]) kn3).mono ?_
  rintro e w4 ⟨rfl, c4, hc4, hd4, hH, hK⟩
  have H4 := hid hH
  have K4 := hid (K3.out.past hK (by intro k hk hlt; simp at hk; omega))
  clear hH hK H3 K3
  go_wp2_with fail
  refine (alloc_no w4 hb rb mb pb 256 (sw ks3) c4 [(120, 16), (136, 16), (152, 24)] 0 H4.out (by decide)).mono ?_
  rintro e w5 ⟨rfl, hK⟩
  obtain ⟨c5, hcc⟩ : ∃ x, x = c4 := ⟨_, rfl⟩
  have H5 := hid (H4.out.same hK)
  have K5 := hid (K4.out.trans hK)
  rw [← hcc] at H5
  have hc5 : c4 ≤ c5 := by omega
  have hd5 : c5 ≤ c4 + 0 := by omega
  clear hK hcc H4 K4
  go_wp2_with fail
  refine (kfree w5 hb rb mb pb 256 ks3 ks4 c5 [(120, 16), (136, 16), (152, 24)] [(120, 16), (152, 24)] 136 16 H5.out (by omega) kn4).mono ?_
  rintro e w6 ⟨rfl, c6, hc6, hd6, hH, hK⟩
  have H6 := hid hH
  have K6 := hid (K5.out.past hK (by intro k hk hlt; simp at hk; omega))
  clear hH hK H5 K5
  go_wp2_with fail
  refine (hfree_no w6 hb rb mb pb 256 (sw ks4) c6 [(120, 16), (152, 24)] 136 H6.out (by decide) (by decide) (by decide)).mono ?_
  rintro e w7 ⟨rfl, hK⟩
  obtain ⟨c7, hcc⟩ : ∃ x, x = c6 := ⟨_, rfl⟩
  have H7 := hid (H6.out.same hK)
  have K7 := hid (K6.out.trans hK)
  rw [← hcc] at H7
  have hc7 : c6 ≤ c7 := by omega
  have hd7 : c7 ≤ c6 + 0 := by omega
  clear hK hcc H6 K6
  go_wp2_with fail
  refine (kalloc w7 hb rb mb pb 256 ks4 ks3 c7 [(120, 16), (152, 24)] [(120, 16), (136, 16), (152, 24)] 8 136 H7.out (by omega) (by decide) (by decide) (by simp [maxLen]) kn5).mono ?_
  rintro e w8 ⟨rfl, c8, hc8, hd8, hH, hK⟩
  have H8 := hid hH
  have K8 := hid (K7.out.past hK (by intro k hk hlt; simp at hk; omega))
  clear hH hK H7 K7
  go_wp2_with fail
  have KA := hid (Kp.alloc w8 (.cells #[.int .i64 112, .int .i64 16, .bool false, .int .i64 128, .int .i64 16, .bool false, .int .i64 144, .int .i64 24, .bool false, .int .i64 168, .int .i64 88, .bool true] 44) [])
  refine (lawb_any _ _ kb5 _ 0 (its_heap (H8.out.same KA.out) ok5 (by decide) kb5_eq) (rb5 w8) (by decide)).mono ?_
  rintro e w9 ⟨rfl, hK⟩
  obtain ⟨c9, hcc⟩ : ∃ x, x = c8 := ⟨_, rfl⟩
  have H9 := hid ((H8.out.same KA.out).same hK)
  have K9 := hid ((K8.out.trans KA.out).trans hK)
  rw [← hcc] at H9
  have hc9 : c8 ≤ c9 := by omega
  have hd9 : c9 ≤ c8 + 0 := by omega
  clear hK hcc KA H8 K8
  go_wp2_with fail
  refine (kalloc_no w9 hb rb mb pb 256 ks3 c9 [(120, 16), (136, 16), (152, 24)] 80 H9.out (by omega) (by decide) (by decide) (by simp [maxLen]) kn5n).mono ?_
  rintro e w10 ⟨rfl, c10, hc10, hd10, hH, hK⟩
  have H10 := hid hH
  have K10 := hid (K9.out.past hK (by intro k hk hlt; simp at hk; omega))
  clear hH hK H9 K9
  go_wp2_with fail
  refine (kalloc w10 hb rb mb pb 256 ks3 ks6 c10 [(120, 16), (136, 16), (152, 24)] [(120, 16), (136, 16), (152, 24), (176, 64)] 56 176 H10.out (by omega) (by decide) (by decide) (by simp [maxLen]) kn6).mono ?_
  rintro e w11 ⟨rfl, c11, hc11, hd11, hH, hK⟩
  have H11 := hid hH
  have K11 := hid (K10.out.past hK (by intro k hk hlt; simp at hk; omega))
  clear hH hK H10 K10
  go_wp2_with fail
  refine (left6 w11 hb rb mb pb c11 H11.out).mono ?_
  rintro e w12 ⟨rfl, hK⟩
  obtain ⟨c12, hcc⟩ : ∃ x, x = c11 := ⟨_, rfl⟩
  have H12 := hid (H11.out.same hK)
  have K12 := hid (K11.out.trans hK)
  rw [← hcc] at H12
  have hc12 : c11 ≤ c12 := by omega
  have hd12 : c12 ≤ c11 + 0 := by omega
  clear hK hcc H11 K11
  go_wp2_with fail
  refine (kfree w12 hb rb mb pb 256 ks6 ks7 c12 [(120, 16), (136, 16), (152, 24), (176, 64)] [(136, 16), (152, 24), (176, 64)] 120 16 H12.out (by omega) kn7).mono ?_
  rintro e w13 ⟨rfl, c13, hc13, hd13, hH, hK⟩
  have H13 := hid hH
  have K13 := hid (K12.out.past hK (by intro k hk hlt; simp at hk; omega))
  clear hH hK H12 K12
  go_wp2_with fail
  refine (kfree w13 hb rb mb pb 256 ks7 ks8 c13 [(136, 16), (152, 24), (176, 64)] [(152, 24), (176, 64)] 136 16 H13.out (by omega) kn8).mono ?_
  rintro e w14 ⟨rfl, c14, hc14, hd14, hH, hK⟩
  have H14 := hid hH
  have K14 := hid (K13.out.past hK (by intro k hk hlt; simp at hk; omega))
  clear hH hK H13 K13
  go_wp2_with fail
  refine (kalloc w14 hb rb mb pb 256 ks8 ks9 c14 [(152, 24), (176, 64)] [(120, 32), (152, 24), (176, 64)] 24 120 H14.out (by omega) (by decide) (by decide) (by simp [maxLen]) kn9).mono ?_
  rintro e w15 ⟨rfl, c15, hc15, hd15, hH, hK⟩
  have H15 := hid hH
  have K15 := hid (K14.out.past hK (by intro k hk hlt; simp at hk; omega))
  clear hH hK H14 K14
  go_wp2_with fail
  refine (krealloc w15 hb rb mb pb 256 ks9 ks9 c15 [(120, 32), (152, 24), (176, 64)] [(120, 32), (152, 24), (176, 64)] 152 8 24 H15.out (by omega) (by decide) (by decide) (by simp [maxLen]) kn10).mono ?_
  rintro e w16 ⟨rfl, c16, hc16, hd16, hH, hK⟩
  have H16 := hid hH
  have K16 := hid (K15.out.past hK (by intro k hk hlt; simp at hk; omega))
  clear hH hK H15 K15
  go_wp2_with fail
  refine (hsize_ok w16 hb rb mb pb 256 (sw ks9) c16 [(120, 32), (152, 24), (176, 64)] 152 24 H16.out (by decide) (by decide) (by decide) (by decide) (by decide) (by decide)).mono ?_
  rintro e w17 ⟨rfl, hK⟩
  obtain ⟨c17, hcc⟩ : ∃ x, x = c16 := ⟨_, rfl⟩
  have H17 := hid (H16.out.same hK)
  have K17 := hid (K16.out.trans hK)
  rw [← hcc] at H17
  have hc17 : c16 ≤ c17 := by omega
  have hd17 : c17 ≤ c16 + 0 := by omega
  clear hK hcc H16 K16
  go_wp2_with (go_at_call 13; go_in)
  refine (hchk w17 hb rb mb pb c17 H17.out (by omega)).mono ?_
  rintro e w18 ⟨rfl, c18, hc18, hd18, hH, hK⟩
  have K18 := hid (K17.out.past hK (by intro k hk hlt; simp at hk; omega))
  clear hH hK H17 K17
  go_wp2_with fail
  go_ret
  exact ⟨rfl, K18.out⟩
end Go.Proofs.YtgefmnnkpffpcaaGreatDoor

/- Check's answer at known's last state; known, whole. -/
namespace Go.Proofs.YtgefmnnkpffpcaaGreatDoor
open Go.RowKit Go.Maps Go.Shelf

theorem ahead_lst {q : Bk → Prop} {n : Nat} {g : Mem} (BL : List (Bq q)) (h : ∀ k (hk : k < BL.length), rd n g (BL[k].1.1 + 4) = lastAt (valq (BL.take k))) :
    ∀ pre x, pre ++ [x] <+: BL → rd n g (x.1.1 + 4) = lastAt (valq pre) := by
  rintro pre x ⟨r, rfl⟩
  have := h pre.length (by simp)
  simpa using this

theorem q9 : ∀ b ∈ [((112, 32, false) : Bk), (144, 24, false), (168, 64, false), (232, 24, true)], (0 ≤ b.1 ∧ b.1 ≤ 1000000 ∧ 0 ≤ b.2.1 ∧ b.2.1 ≤ 1000000) ∧ qB 256 (sw ks9) b := by
  unfold qB
  decide +kernel
def kb9 : List (Bq (qB 256 (sw ks9))) := [⟨(112, 32, false), q9 _ (by simp)⟩, ⟨(144, 24, false), q9 _ (by simp)⟩, ⟨(168, 64, false), q9 _ (by simp)⟩, ⟨(232, 24, true), q9 _ (by simp)⟩]
theorem ok9 : Okp 256 [(120, 32), (152, 24), (176, 64)] := by unfold Okp; decide
theorem ah9 : ∀ k (hk : k < kb9.length), rd 256 (sw ks9) (kb9[k].1.1 + 4) = lastAt (valq (kb9.take k)) := by
  intro k hk
  have hk4 : k < 4 := hk
  match k, hk4 with
  | 0, _ => exact (by decide +kernel : rd 256 (sw ks9) ((kb9[0]'(by decide)).1.1 + 4) = lastAt (valq (kb9.take 0)))
  | 1, _ => exact (by decide +kernel : rd 256 (sw ks9) ((kb9[1]'(by decide)).1.1 + 4) = lastAt (valq (kb9.take 1)))
  | 2, _ => exact (by decide +kernel : rd 256 (sw ks9) ((kb9[2]'(by decide)).1.1 + 4) = lastAt (valq (kb9.take 2)))
  | 3, _ => exact (by decide +kernel : rd 256 (sw ks9) ((kb9[3]'(by decide)).1.1 + 4) = lastAt (valq (kb9.take 3)))
theorem chk9 (W : World) (hb rb mb pb : Nat) (c : Int) (h : Hp W hb rb mb pb 256 (sw ks9) c [(120, 32), (152, 24), (176, 64)]) (hc : c < 1000000) :
    Calls Tryz.prog 31 #[.pointer (some ⟨hb, 0, none⟩)] W fun e w' => e = .returned (.bool true) ∧ Went W w' hb rb mb pb 256 (sw ks9) [(120, 32), (152, 24), (176, 64)] c 600000 [rb] :=
  check_ok W hb rb mb pb 256 10 2 (sw ks9) c _ kb9 (by rw [kn10b]; rfl) h ok9 (by decide) (by decide) (by omega) (ahead_lst kb9 ah9) (by decide) kn10c (by decide +kernel) (by decide +kernel) (by decide +kernel) (by decide +kernel)
theorem known_yes (w : World) (ht : Tb w) : Calls Tryz.prog 8 #[] w fun e w' => e = .returned (.bool true) ∧ Kp w w' [] := known_if chk9 w ht
end Go.Proofs.YtgefmnnkpffpcaaGreatDoor
