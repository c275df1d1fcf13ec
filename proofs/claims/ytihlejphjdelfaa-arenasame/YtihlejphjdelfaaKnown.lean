/- The chapter's rows hold. -/
import Derived.Test.YtihlejphjdelfaaLook
import Derived.Test.YtihlejphjdelfaaGet
import Derived.Test.YtihlejphjdelfaaMake
namespace Go.Proofs.Ytihlejphjdelfaa
open Go.RowKit

/-- Behind a call that wrote only what is newer than w0. -/
theorem Kp.newer {w0 w w' : World} {rows : List Nat} (h : Kp w0 w []) (h' : Kp w w' rows) (hr : ∀ k ∈ rows, w0.heap.size ≤ k) : Kp w0 w' [] :=
  h.past h' fun k hk hlt => absurd (hr k hk) (by omega)

theorem bs_two (w : World) : Bs (w.alloc (.cells #[.int .u8 1, .int .u8 2] 5)) (.slice (some ⟨w.heap.size, 0, none⟩) 2 2) [1, 2] := by
  have := World.ownsRow_lit (base := 0) (e := 5) (size := 1) w #[.int .u8 1, .int .u8 2] 2 (Nat.zero_le _) (by unfold maxLen; omega) rfl
  exact Bs.of_owns (base := 0) this

def F1 : Nat → Int := over (fun _ => 0) 8 (bytes4 16777221)
def F2 : Nat → Int := over F1 7 [1, 2]
theorem F1_8 : wordAt F1 8 = 16777221 := by decide
theorem F1_s : (strOfNums (part F1 8 4)).toList = [5, 0, 0, 1] := by rw [sn_toList]; decide
theorem F2_8 : wordAt F2 8 = 16777218 := by decide
theorem F2_4 : wordAt F2 4 = 16777216 := by decide

set_option maxRecDepth 100000 in
set_option maxHeartbeats 2000000 in
theorem known_any (w : World) : Calls Try.prog 10 #[] w fun e w' => e = .returned (.bool true) ∧ Kp w w' [] := by
  go_enter Try.func10, Try.ntmps10
  go_wp2_with fail
  refine (new_ok w 256 ⟨by decide, by decide, by decide⟩).mono ?_
  rintro e w1 ⟨rb, mb, rfl, hA1, hrb, hmb, hK1⟩
  have HA1 := hid hA1
  have HK1 := hid hK1
  clear hA1 hK1
  go_wp2_with fail
  refine (new_no w1 255 (by unfold Good; omega)).mono ?_
  rintro e w' ⟨rfl, rfl⟩
  go_wp2_with fail
  refine (new_no w' 260 (by unfold Good; omega)).mono ?_
  rintro e w1 ⟨rfl, rfl⟩
  go_wp2_with fail
  refine (new_no w1 65544 (by unfold Good; omega)).mono ?_
  rintro e w' ⟨rfl, rfl⟩
  go_wp2_with fail
  refine (get_no w' rb mb 256 _ 0 2 HA1.out (by decide) (by decide) (by decide)).mono ?_
  rintro e w2 ⟨rfl, hK2⟩
  have HA2 := hid (HA1.out.keep hK2 (by simp) (by simp))
  have HK2 := hid (HK1.out.newer hK2 (by simp))
  clear hK2 HA1 HK1
  go_wp2_with fail
  refine (get_no w2 rb mb 256 _ 0 256 HA2.out (by decide) (by decide) (by decide)).mono ?_
  rintro e w3 ⟨rfl, hK3⟩
  have HA3 := hid (HA2.out.keep hK3 (by simp) (by simp))
  have HK3 := hid (HK2.out.newer hK3 (by simp))
  clear hK3 HA2 HK2
  go_wp2_with fail
  refine (set_no w3 rb mb 256 _ 0 (-4) 1 HA3.out (by decide) (by decide) (by decide)).mono ?_
  rintro e w4 ⟨rfl, hK4⟩
  have HA4 := hid (HA3.out.keep hK4 (by simp) (by simp))
  have HK4 := hid (HK3.out.newer hK4 (by simp))
  clear hK4 HA3 HK3
  go_wp2_with fail
  refine (set_ok w4 rb mb 256 8 _ 0 16777221 HA4.out (by decide) (by decide) (by decide) (by decide) (by decide) (by decide) (by decide)).mono ?_
  rintro e w5 ⟨rfl, hA5, hK5⟩
  have HA5 := hid (show Ar w5 rb mb 256 F1 1 from hA5)
  have HK5 := hid (HK4.out.newer hK5 (by simp; omega))
  clear hA5 hK5 HA4 HK4
  go_wp2_with fail
  refine (get_ok w5 rb mb 256 8 F1 1 HA5.out (by decide) (by decide) (by decide) (by decide) (by decide)).mono ?_
  rintro e w6 ⟨rfl, hA6, hK6⟩
  rw [F1_8]
  have HA6 := hid (show Ar w6 rb mb 256 F1 2 from hA6)
  have HK6 := hid (HK5.out.newer hK6 (by simp; omega))
  clear hA6 hK6 HA5 HK5
  go_wp2_with fail
  refine (read_ok w6 rb mb 256 8 4 F1 2 HA6.out (by decide) (by decide)).mono ?_
  rintro e w7 ⟨v, rfl, hown, hK7⟩
  obtain ⟨ao, cp, rfl⟩ := owns_shape hown
  have HO := hid hown
  have HL := hid (HA6.out.lt)
  have HA7 := hid (HA6.out.keep hK7 (by simp) (by simp))
  have HK7 := hid (HK6.out.newer hK7 (by simp))
  clear hown hK7 HA6 HK6
  go_wp2_with fail
  refine (cost_ok w7 rb mb 256 F1 2 HA7.out).mono ?_
  rintro e w' ⟨rfl, rfl⟩
  go_wp2_with fail
  refine (write_ok _ rb mb 256 7 F1 2 _ [1, 2] (HA7.out.keep (Kp.alloc _ _ []) (by simp) (by simp)) (by decide) (bs_two w') (by intro x hx; simp at hx; omega) (by decide)).mono ?_
  rintro e w8 ⟨rfl, hA8, hK8⟩
  have HA8 := hid (show Ar w8 rb mb 256 F2 2 from hA8)
  have HB8 := hid ((Kp.alloc w' (.cells #[.int .u8 1, .int .u8 2] 5) [rb, mb]).trans (hK8.mono (r2 := [rb, mb]) (by simp)))
  have HK8 := hid (HK7.out.newer HB8.out (by simp; omega))
  clear hA8 hK8 HA7 HK7
  go_wp2_with fail
  refine (get_ok w8 rb mb 256 8 F2 2 HA8.out (by decide) (by decide) (by decide) (by decide) (by decide)).mono ?_
  rintro e w9 ⟨rfl, hA9, hK9⟩
  rw [F2_8]
  have HA9 := hid (show Ar w9 rb mb 256 F2 3 from hA9)
  have HB9 := hid (HB8.out.trans (hK9.mono (by simp)))
  have HK9 := hid (HK8.out.newer hK9 (by simp; omega))
  clear hA9 hK9 HA8 HK8 HB8
  go_wp2_with fail
  refine (get_ok w9 rb mb 256 4 F2 3 HA9.out (by decide) (by decide) (by decide) (by decide) (by decide)).mono ?_
  rintro e wA ⟨rfl, hAA, hKA⟩
  rw [F2_4]
  have HAA := hid (show Ar wA rb mb 256 F2 4 from hAA)
  have HBA := hid (HB9.out.trans (hKA.mono (by simp)))
  have HKA := hid (HK9.out.newer hKA (by simp; omega))
  clear hAA hKA HA9 HK9 HB9
  go_wp2_with fail
  refine (reset_ok wA rb mb 256 F2 4 HAA.out).mono ?_
  rintro e wB ⟨rfl, hAB, hKB⟩
  have HAB := hid hAB
  have HBB := hid (HBA.out.trans (hKB.mono (by simp)))
  have HKB := hid (HKA.out.newer hKB (by simp; omega))
  have hcv := conv_bs ((Bs.of_owns (l := part F1 8 4) HO.out).kept HBB.out (fun k hk => by have := (HO.out.lt k hk).1; have := HL.out; simp; omega))
  have hsl := F1_s
  clear hAB hKB HAA HKA HBA
  go_wp2_with (go_at_call 9; go_in)
  refine (cost_ok wB rb mb 256 F2 0 HAB.out).mono ?_
  rintro e w' ⟨rfl, rfl⟩
  go_wp2
  go_ret
  exact ⟨rfl, HKB.out⟩
end Go.Proofs.Ytihlejphjdelfaa
