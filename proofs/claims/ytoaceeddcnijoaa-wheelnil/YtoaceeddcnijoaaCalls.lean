/- New, isOf, list, Len, Cancel. -/
import Derived.Test.YtoaceeddcnijoaaTake
namespace Go.Proofs.Ytoaceeddcnijoaa
open Go.RowKit Go.Shelf Go.Lib Go.Sort

set_option maxRecDepth 100000 in
theorem list_any (w : World) (wb : Nat) (F : Nat → Value) (D : Nat → List Dl) (h : Wh w wb F D) (hl : (cat D 64).length ≤ 100000) :
    Calls Try.prog 33 #[.pointer (some ⟨wb, 0, none⟩)] w fun e w' => ∃ v Z, e = .returned v ∧ St (cat D 64) Z ∧ Dr w' w.heap.size v Z ∧ Kp w w' [] := by
  have H := hid h
  have HL := hid hl
  clear h hl
  go_enter Try.func33, Try.ntmps33
  go_wp2_with fail
  refine (zero_no w wb F D H.out).mono ?_
  rintro e w1 ⟨rfl, rfl⟩
  go_wp2_with fail
  refine (concat_any w1 wb F D (fun s hs => H.out.cell hs) H.out.row HL.out).mono ?_
  rintro e w2 ⟨⟨v, rfl, hd⟩, hk⟩
  obtain ⟨ao, cap, hv⟩ := hd.slice
  obtain ⟨N, hN⟩ : ∃ N, (cat D 64).length = N := ⟨_, rfl⟩
  rw [hN] at hv
  subst hv
  have H2 := hid (And.intro hd (And.intro hk hN))
  clear hd hk hN
  go_wp2_with fail
  refine (order_any _ _ _ _ H2.out.1 (by have := HL.out; omega)).mono ?_
  rintro e w3 ⟨rfl, ⟨Z, hZ, hDZ⟩, hKZ⟩
  have H3 := hid (show St (cat D 64) Z ∧ Dr w3 w1.heap.size (.slice ao N cap) Z ∧ Kp w1 w3 [] from ⟨hZ, hDZ, H2.out.2.1.past hKZ (by
    intro g hg hl
    have := (owns_block H2.out.1 (by simpa using hg)).1
    omega)⟩)
  clear hZ hDZ hKZ H2
  go_wp2
  go_ret
  exact ⟨_, Z, rfl, H3.out.1, H3.out.2.1, H3.out.2.2⟩
set_option maxRecDepth 100000 in
theorem len_any (w : World) (wb : Nat) (F : Nat → Value) (D : Nat → List Dl) (h : Wh w wb F D) (hl : (cat D 64).length ≤ 100000) :
    Calls Try.prog 18 #[.pointer (some ⟨wb, 0, none⟩)] w fun e w' => e = .returned (.int .i64 (cat D 64).length) ∧ Kp w w' [] := by
  have H := hid (list_any w wb F D h hl)
  obtain ⟨N, hN⟩ : ∃ N, (cat D 64).length = N := ⟨_, rfl⟩
  rw [hN]
  have HN := hid hN
  clear h hl hN
  go_enter Try.func18, Try.ntmps18
  go_wp2_with fail
  refine H.out.mono ?_
  rintro e w1 ⟨v, Z, rfl, hZ, hd, hk⟩
  obtain ⟨ao, cap, hv⟩ := hd.slice
  have hZl := hZ.length
  rw [HN.out] at hZl
  rw [hZl] at hv
  subst hv
  have HK := hid hk
  clear hd hk hZ hZl
  go_wp2
  go_ret
  exact ⟨rfl, HK.out⟩
set_option maxRecDepth 100000 in
theorem isOf_any (w : World) (id : Int) : Calls Try.prog 29 #[.int .i64 id] w fun e w' => e = .returned (pv 38 w.heap.size) ∧ w' = w.alloc (.cells #[.int .i64 id] 3) := by
  go_enter Try.func29, Try.ntmps29
  go_wp2
  go_ret
  exact ⟨rfl, rfl⟩
/-- A number that may be one; a time. -/
def mayI (id : Int) : Bool := decide (0 ≤ id) && decide (id < 64)
set_option maxRecDepth 100000 in
theorem id_any (w : World) (id : Int) : Calls Try.prog 26 #[.int .i64 id] w fun e w' => e = .returned (.bool (mayI id)) ∧ w' = w := by
  by_cases h0 : 0 ≤ id <;> by_cases h1 : id < 64
  all_goals (
    go_enter Try.func26, Try.ntmps26
    go_wp2
    go_ret
    exact ⟨by simp [mayI, h0, h1], rfl⟩)
/-- take, of a number. -/
theorem take_of (w : World) (wb : Nat) (F : Nat → Value) (D : Nat → List Dl) (id : Int) (h : Wh w wb F D) (hl : (cat D 64).length ≤ 100000) (W : World) (hW : W = w.alloc (.cells #[.int .i64 id] 3)) :
    Calls Try.prog 28 #[.pointer (some ⟨wb, 0, none⟩), pv 38 w.heap.size] W fun e w' => ∃ v F' Z, e = .returned v ∧ St ((cat D 64).filter fun x => x.1 == id) Z ∧ Dr w' w.heap.size v Z ∧ Wh w' wb F' (fun s => rest (fun x => x.1 == id) (D s)) ∧ (∀ s, s < 64 → (F' s).ownBlock = (F s).ownBlock) ∧ Kp w w' (rows F wb) := by
  subst hW
  have k1 := Kp.alloc w (.cells #[.int .i64 id] 3) []
  refine (take_any _ wb F D 38 w.heap.size id _ (h.same k1) (prd_of _ _) (by simp) (fun hm => ?_) hl).mono ?_
  · have := h.rowslt hm; omega
  · rintro e w' ⟨v, F', Z, he, h1, h2, h3, h4, h5⟩
    exact ⟨v, F', Z, he, h1, h2.low (by simp), h3, h4, k1.nil.trans h5⟩
set_option maxRecDepth 100000 in
theorem cancel_any (w : World) (wb : Nat) (F : Nat → Value) (D : Nat → List Dl) (id : Int) (h : Wh w wb F D) (hl : (cat D 64).length ≤ 100000) (hi : mayI id = true) :
    Calls Try.prog 12 #[.pointer (some ⟨wb, 0, none⟩), .int .i64 id] w fun e w' => e = .returned (.int .i64 (if (cat D 64).any (fun x => x.1 == id) then 0 else 6)) ∧ ∃ F', Wh w' wb F' (fun s => rest (fun x => x.1 == id) (D s)) ∧ (∀ s, s < 64 → (F' s).ownBlock = (F s).ownBlock) ∧ Kp w w' (rows F wb) := by
  have H := hid h
  have HL := hid hl
  have HI := hid hi
  obtain ⟨B, hB⟩ : ∃ B, (cat D 64).any (fun x => x.1 == id) = B := ⟨_, rfl⟩
  rw [hB]
  have HB := hid hB
  obtain ⟨E, hE⟩ : ∃ E : Int, (if B then 0 else 6) = E := ⟨_, rfl⟩
  rw [hE]
  have HR := hid hE
  clear h hl hi hB hE
  go_enter Try.func12, Try.ntmps12
  go_wp2_with fail
  refine (zero_no w wb F D H.out).mono ?_
  rintro e w1 ⟨rfl, rfl⟩
  go_wp2_with fail
  refine (id_any _ id).mono ?_
  rintro e w2 ⟨rfl, rfl⟩
  rw [HI.out]
  go_wp2_with fail
  refine (isOf_any _ id).mono ?_
  rintro e w3 ⟨rfl, hw3⟩
  have HW3 := hid hw3
  clear hw3
  go_wp2_with fail
  refine (take_of w2 wb F D id H.out HL.out _ HW3.out).mono ?_
  rintro e w4 ⟨v, F', Z, rfl, hZ, hd, hW, hF, hk⟩
  obtain ⟨ao, cap, hv⟩ := hd.slice
  obtain ⟨N, hN⟩ : ∃ N, Z.length = N := ⟨_, rfl⟩
  have hNl : N ≤ 100000 := by
    rw [← hN, hZ.length]
    have := List.length_filter_le (fun x : Dl => x.1 == id) (cat D 64)
    have := HL.out
    omega
  have HA := hid (show B = decide (0 < N) by
    rw [← HB.out, ← hN, hZ.length, Bool.eq_iff_iff, List.any_eq_true, decide_eq_true_eq, List.length_pos_iff_exists_mem]
    simp [List.mem_filter])
  rw [hN] at hv
  subst hv
  have HE := hid (And.intro hW (And.intro hF hk))
  clear hZ hd hW hF hk hN
  have HNl := hid hNl
  clear hNl HL HI HB
  by_cases h0 : N = 0
  · subst h0
    have hE := HR.out
    rw [HA.out] at hE
    simp at hE
    subst hE
    go_wp2
    go_ret
    exact ⟨rfl, F', HE.out⟩
  · have h1 : ((N : Int) == 0) = false := by rw [beq_eq_false_iff_ne]; omega
    have hE := HR.out
    rw [HA.out, if_pos (by simp; omega)] at hE
    subst hE
    go_wp2
    go_ret
    exact ⟨rfl, F', HE.out⟩
end Go.Proofs.Ytoaceeddcnijoaa
