/- Same. -/
import Derived.Test.YtoaceeddcnijoaaEq
namespace Go.Proofs.Ytoaceeddcnijoaa
open Go.RowKit Go.Shelf Go.Lib Go.Sort

set_option maxRecDepth 100000 in
set_option maxHeartbeats 2000000 in
theorem same_any (w : World) (wa wb : Nat) (F G : Nat → Value) (D E : Nat → List Dl) (h1 : Wh w wa F D) (h2 : Wh w wb G E) (hl1 : (cat D 64).length ≤ 100000) (hl2 : (cat E 64).length ≤ 100000) :
    Calls Try.prog 15 #[.pointer (some ⟨wa, 0, none⟩), .pointer (some ⟨wb, 0, none⟩)] w fun e w' => (∃ b, e = .returned (.bool b) ∧ ∃ Z1 Z2, St (cat D 64) Z1 ∧ St (cat E 64) Z2 ∧ b = decide (Z1 = Z2)) ∧ Kp w w' [] := by
  have H1 := hid h1
  have H2 := hid h2
  have HL := hid (And.intro hl1 hl2)
  clear h1 h2 hl1 hl2
  go_enter Try.func15, Try.ntmps15
  go_wp2_with fail
  refine (zero_no w wa F D H1.out).mono ?_
  rintro e x1 ⟨rfl, hx1⟩
  rw [hx1]
  clear hx1
  go_wp2_with fail
  refine (zero_no w wb G E H2.out).mono ?_
  rintro e x1 ⟨rfl, hx1⟩
  rw [hx1]
  clear hx1
  go_wp2_with fail
  refine (list_any w wa F D H1.out HL.out.1).mono ?_
  rintro e w1 ⟨v1, Z1, rfl, hZ1, hd1, hk1⟩
  obtain ⟨a1, c1, hv1⟩ := hd1.slice
  obtain ⟨n1, hn1⟩ : ∃ n, Z1.length = n := ⟨_, rfl⟩
  rw [hn1] at hv1
  subst hv1
  have R1 := hid (show St (cat D 64) Z1 ∧ Dr w1 w.heap.size (.slice a1 n1 c1) Z1 ∧ Kp w w1 [] from ⟨hZ1, hd1, hk1⟩)
  clear hZ1 hd1 hk1 hn1
  go_wp2_with fail
  refine (list_any w1 wb G E (H2.out.same R1.out.2.2) HL.out.2).mono ?_
  rintro e w2 ⟨v2, Z2, rfl, hZ2, hd2, hk2⟩
  obtain ⟨a2, c2, hv2⟩ := hd2.slice
  obtain ⟨n2, hn2⟩ : ∃ n, Z2.length = n := ⟨_, rfl⟩
  rw [hn2] at hv2
  subst hv2
  have R2 := hid (show St (cat E 64) Z2 ∧ Dr w2 w1.heap.size (.slice a2 n2 c2) Z2 ∧ Dr w2 w.heap.size (.slice a1 n1 c1) Z1 ∧ Kp w w2 [] from ⟨hZ2, hd2, R1.out.2.1.keep hk2, R1.out.2.2.trans hk2⟩)
  clear hZ2 hd2 hk2 hn2
  go_wp2_with fail
  refine (eq_any w2 _ _ _ _ Z1 Z2 R2.out.2.2.1 R2.out.2.1 (by rw [R1.out.1.length]; exact HL.out.1)).mono ?_
  rintro e w3 ⟨rfl, hk3⟩
  obtain ⟨B, hB⟩ : ∃ B, decide (Z1 = Z2) = B := ⟨_, rfl⟩
  rw [hB]
  have HB := hid hB
  have R3 := hid (R2.out.2.2.2.trans hk3)
  clear hk3 hB
  go_wp2
  go_ret
  exact ⟨⟨B, rfl, Z1, Z2, R1.out.1, R2.out.1, HB.out.symm⟩, R3.out⟩
end Go.Proofs.Ytoaceeddcnijoaa
