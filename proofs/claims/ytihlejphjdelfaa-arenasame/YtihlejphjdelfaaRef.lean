/- The document's own arena: New, Get, Set, Reset. -/
import Derived.Test.YtihlejphjdelfaaWordsWalk
namespace Go.Proofs.Ytihlejphjdelfaa
set_option linter.unusedSectionVars false
set_option linter.unusedVariables false
set_option linter.unusedSimpArgs false
open Go.RowKit

/-- The reference's arena at block rb, its bytes in block mb. -/
def Rf (w : World) (rb mb n : Nat) (f : Nat → Int) (c : Int) : Prop :=
  ∃ cap cur, w.heap[rb]? = some (.cells #[.slice (some ⟨mb, 0, none⟩) n cap, .int .i64 c] 58 (0, 0)) ∧ w.heap[mb]? = some (.cells cur 5 (0, 0)) ∧
    n ≤ cap ∧ cur.size = cap ∧ cap ≤ maxLen ∧ ∀ i, i < n → cur[i]? = some (.int .u8 (f i)) ∧ 0 ≤ f i ∧ f i < 256

theorem Rf.keep {w w' : World} {rb mb n : Nat} {f : Nat → Int} {c : Int} (h : Rf w rb mb n f c) {rows : List Nat} (hk : Kp w w' rows) (h1 : rb ∉ rows) (h2 : mb ∉ rows) : Rf w' rb mb n f c := by
  obtain ⟨cap, cur, hr, hm, a⟩ := h
  exact ⟨cap, cur, (hk.block rb (lt_of_block hr) h1).trans hr, (hk.block mb (lt_of_block hm) h2).trans hm, a⟩
theorem Rf.lt {w : World} {rb mb n : Nat} {f : Nat → Int} {c : Int} (h : Rf w rb mb n f c) : rb < w.heap.size ∧ mb < w.heap.size := by
  obtain ⟨cap, cur, hr, hm, a⟩ := h
  exact ⟨lt_of_block hr, lt_of_block hm⟩
theorem Rf.ne {w : World} {rb mb n : Nat} {f : Nat → Int} {c : Int} (h : Rf w rb mb n f c) : rb ≠ mb := by
  obtain ⟨cap, cur, hr, hm, a⟩ := h
  rintro rfl
  rw [hm] at hr
  simp at hr
theorem Rf.congr {w : World} {rb mb n : Nat} {f g : Nat → Int} {c : Int} (h : Rf w rb mb n f c) (hfg : ∀ i, i < n → g i = f i) : Rf w rb mb n g c := by
  obtain ⟨cap, cur, hr, hm, a1, a2, a3, a4⟩ := h
  exact ⟨cap, cur, hr, hm, a1, a2, a3, fun i hi => by rw [hfg i hi]; exact a4 i hi⟩
/-- A byte is stored. -/
theorem Rf.put {w : World} {rb mb n : Nat} {f : Nat → Int} {c : Int} (h : Rf w rb mb n f c) (o : Nat) (b : Int) (ho : o < n) (hb : 0 ≤ b ∧ b < 256) : Rf (w.setCell ⟨mb, o, none⟩ (.int .u8 b)) rb mb n (fun i => if i = o then b else f i) c := by
  have hne := h.ne
  obtain ⟨cap, cur, hr, hm, a1, a2, a3, a4⟩ := h
  refine ⟨cap, cur.setIfInBounds o (.int .u8 b), ((Kp.setCell w ⟨mb, o, none⟩ _).block rb (lt_of_block hr) (by simp; omega)).trans hr, heap_setCell_same w mb o _ 5 _ hm, a1, by simpa using a2, a3, fun i hi => ?_⟩
  by_cases e : i = o
  · subst e
    simp only [if_true]
    exact ⟨by simp [Array.getElem?_setIfInBounds]; omega, hb⟩
  · simp only [if_neg e]
    refine ⟨?_, (a4 i hi).2⟩
    rw [← (a4 i hi).1]
    simp [Ne.symm e]
theorem Rf.cell {w : World} {rb mb n : Nat} {f : Nat → Int} {c : Int} (h : Rf w rb mb n f c) {i : Nat} (hi : i < n) : w.cell? ⟨mb, i, none⟩ = some (.int .u8 (f i)) ∧ w.frozen? ⟨mb, i, none⟩ = false := by
  obtain ⟨cap, cur, hr, hm, a1, a2, a3, a4⟩ := h
  exact ⟨by simp [World.cell?, hm, (a4 i hi).1], by simp [World.frozen?, hm]⟩
theorem Rf.byt {w : World} {rb mb n : Nat} {f : Nat → Int} {c : Int} (h : Rf w rb mb n f c) {i : Nat} (hi : i < n) : 0 ≤ f i ∧ f i < 256 := by
  obtain ⟨cap, cur, hr, hm, a1, a2, a3, a4⟩ := h
  exact (a4 i hi).2
theorem Rf.head {w : World} {rb mb n : Nat} {f : Nat → Int} {c : Int} (h : Rf w rb mb n f c) : ∃ cap, n ≤ cap ∧ cap ≤ maxLen ∧ w.heap[rb]? = some (.cells #[.slice (some ⟨mb, 0, none⟩) n cap, .int .i64 c] 58 (0, 0)) := by
  obtain ⟨cap, cur, hr, hm, a1, a2, a3, a4⟩ := h
  exact ⟨cap, a1, a3, hr⟩
/-- The cost is stored. -/
theorem Rf.cost {w : World} {rb mb n : Nat} {f : Nat → Int} {c : Int} (h : Rf w rb mb n f c) (c' : Int) : Rf (w.setCell ⟨rb, 1, none⟩ (.int .i64 c')) rb mb n f c' := by
  have hne := h.ne
  obtain ⟨cap, cur, hr, hm, a⟩ := h
  exact ⟨cap, cur, two_setCell1 hr, ((Kp.setCell w ⟨rb, 1, none⟩ _).block mb (lt_of_block hm) (by simp; omega)).trans hm, a⟩

theorem rf_made {w w1 : World} {n : Nat} (hown : w1.ownsRow w.heap.size 5 1 (.slice (some ⟨w.heap.size, 0, none⟩) n n) n (madeCells (Value.int .u8 0).cells (n * 1)).toList) :
    Rf (w1.alloc (.cells #[.slice (some ⟨w.heap.size, 0, none⟩) n n, .int .i64 0] 58)) w1.heap.size w.heap.size n (fun _ => 0) 0 := by
  have e : (madeCells (Value.int .u8 0).cells (n * 1)).toList = List.replicate n (.int .u8 0) := by
    rw [Nat.mul_one]; exact toList_madeCells_one _ _
  rw [e] at hown
  rcases hown.2 with ⟨hc, -⟩ | ⟨g, cap, cur, hv, hb, hg, hnc, hcm, hcs, htake⟩
  · simp at hc
  · simp only [Value.slice.injEq, Option.some.injEq, Addr.mk.injEq, and_true, true_and] at hv
    obtain ⟨rfl, rfl⟩ := hv
    have hlt := lt_of_block hg
    refine ⟨n, cur, heap_alloc_new w1 _, (Below.heap_alloc w1 _ _ hlt).trans hg, Nat.le_refl _, by omega, hcm, fun i hi => ⟨?_, Int.le_refl 0, (by show (0 : Int) < 256; decide)⟩⟩
    have : (cur.toList.take (n * 1))[i]? = some (.int .u8 0) := by rw [htake]; simp [hi]
    rw [List.getElem?_take_of_lt (by omega)] at this
    simpa using this

set_option maxRecDepth 100000 in
theorem refnew_ok (w : World) (n : Nat) (h : Good n) : Calls Try.prog 8 #[.int .i64 n] w fun e w' => ∃ rb mb, e = .returned (.pointer (some ⟨rb, 0, none⟩)) ∧ Rf w' rb mb n (fun _ => 0) 0 ∧ w.heap.size ≤ rb ∧ w.heap.size ≤ mb ∧ Kp w w' [] := by
  obtain ⟨i0, hi, hz0, hz1, hz2⟩ := info_parts Try.info5
  unfold Good at h
  have h4 : ((n : Int) % 8 != 0) = false := by rw [h.2.2]; rfl
  have h1 : (256 : Int) ≤ n := h.1
  have h2 : (n : Int) ≤ 65536 := h.2.1
  clear h
  go_enter Try.func8, Try.ntmps8
  go_wp2_with (refine wpList_make_full _ rfl _ _ 36 rfl w.heap.size 5 i0 (.int .u8 0) 1 Try.underlying36 hi hz0 hz1 .i64 .i64 n n n rfl rfl rfl rfl (by rw [hz2]; omega) (by unfold maxLen; omega) (Nat.le_refl _) ?_; intro w1 hown hg)
  go_ret
  exact ⟨_, _, rfl, rf_made hown, hg.size, Nat.le_refl _, (Kp.grown hg).trans (Kp.alloc _ _ _)⟩

set_option maxRecDepth 100000 in
theorem rreset_ok (w : World) (rb mb n : Nat) (f : Nat → Int) (c : Int) (h : Rf w rb mb n f c) : Calls Try.prog 28 #[.pointer (some ⟨rb, 0, none⟩)] w fun e w' => e = .returned (.int .i64 c) ∧ Rf w' rb mb n f 0 ∧ Kp w w' [rb] := by
  have H := hid h
  obtain ⟨cap, -, -, hr⟩ := h.head
  have hc1 := cell_two1 hr
  have hf1 := free_two (i := 1) hr
  clear hr h
  go_enter Try.func28, Try.ntmps28
  go_wp2
  go_ret
  exact ⟨rfl, H.out.cost 0, Kp.setCell w ⟨rb, 1, none⟩ _⟩

section
variable (w : World) (rb mb n : Nat) (f : Nat → Int) (c o : Int) (h : Rf w rb mb n f c) (hn : n ≤ 65536) (hn4 : n % 4 = 0) (hb : hasW n o = false)
include h hn hn4 hb
set_option maxRecDepth 100000 in
theorem rget_no : Calls Try.prog 24 #[.pointer (some ⟨rb, 0, none⟩), .int .i64 o] w fun e w' => e = .returned (.tuple #[.int .u32 0, .int .i64 2]) ∧ w' = w := by
  have hno : ¬ (0 ≤ o ∧ o % 4 = 0 ∧ 4 ≤ (n : Int) - o) := of_decide_eq_false hb
  obtain ⟨cap, -, -, hr⟩ := h.head
  have hc0 := cell_two0 hr
  clear hr h hb
  by_cases h1 : o < 0
  · clear hno
    go_enter Try.func24, Try.ntmps24
    go_wp2
    go_ret2
    exact ⟨rfl, rfl⟩
  · by_cases h2 : o % 4 = 0
    · have h3 : (n : Int) ≤ o := by omega
      have h2' : (o % 4 != 0) = false := by simp [h2]
      clear hno h2
      go_enter Try.func24, Try.ntmps24
      go_wp2
      go_ret2
      exact ⟨rfl, rfl⟩
    · have h2' : (o % 4 != 0) = true := by simpa using h2
      clear hno h2
      go_enter Try.func24, Try.ntmps24
      go_wp2
      go_ret2
      exact ⟨rfl, rfl⟩
set_option maxRecDepth 100000 in
theorem rset_no (x : Int) : Calls Try.prog 25 #[.pointer (some ⟨rb, 0, none⟩), .int .i64 o, .int .u32 x] w fun e w' => e = .returned (.int .i64 2) ∧ w' = w := by
  have hno : ¬ (0 ≤ o ∧ o % 4 = 0 ∧ 4 ≤ (n : Int) - o) := of_decide_eq_false hb
  obtain ⟨cap, -, -, hr⟩ := h.head
  have hc0 := cell_two0 hr
  clear hr h hb
  by_cases h1 : o < 0
  · clear hno
    go_enter Try.func25, Try.ntmps25
    go_wp2
    go_ret
    exact ⟨rfl, rfl⟩
  · by_cases h2 : o % 4 = 0
    · have h3 : (n : Int) ≤ o := by omega
      have h2' : (o % 4 != 0) = false := by simp [h2]
      clear hno h2
      go_enter Try.func25, Try.ntmps25
      go_wp2
      go_ret
      exact ⟨rfl, rfl⟩
    · have h2' : (o % 4 != 0) = true := by simpa using h2
      clear hno h2
      go_enter Try.func25, Try.ntmps25
      go_wp2
      go_ret
      exact ⟨rfl, rfl⟩
end

set_option maxRecDepth 100000 in
set_option maxHeartbeats 1000000 in
theorem rget_ok (w : World) (rb mb n o : Nat) (f : Nat → Int) (c : Int) (h : Rf w rb mb n f c) (hn : n ≤ 65536) (hc0 : 0 ≤ c) (hc1 : c < 9223372036854775807) (ho : o % 4 = 0) (hfit : o + 4 ≤ n) :
    Calls Try.prog 24 #[.pointer (some ⟨rb, 0, none⟩), .int .i64 o] w fun e w' => e = .returned (.tuple #[.int .u32 (wordAt f o), .int .i64 0]) ∧ Rf w' rb mb n f (c + 1) ∧ Kp w w' [rb] := by
  have H := hid h
  obtain ⟨cap, hncap, hmax, hr⟩ := h.head
  have hm0 := cell_two0 hr
  have hm1 := cell_two1 hr
  have hf1 := free_two (i := 1) hr
  have h4 : ((o : Int) % 4 != 0) = false := by simp; omega
  have hlt : (o : Int) < (n : Int) := by omega
  clear hr h ho
  go_enter Try.func24, Try.ntmps24
  go_wp2_with fail
  obtain ⟨w1, hw1⟩ : ∃ w1, w1 = w.setCell ⟨rb, 1, none⟩ (.int .i64 (c + 1)) := ⟨_, rfl⟩
  rw [← hw1]
  have hR1 : Rf w1 rb mb n f (c + 1) := by rw [hw1]; exact H.out.cost (c + 1)
  have hK1 : Kp w w1 [rb] := by rw [hw1]; exact Kp.setCell w ⟨rb, 1, none⟩ _
  obtain ⟨cap1, -, -, hr1⟩ := hR1.head
  have q0 := cell_two0 hr1
  obtain ⟨b0, hb0⟩ : ∃ b, b = f o := ⟨_, rfl⟩
  obtain ⟨b1, hb1⟩ : ∃ b, b = f (o + 1) := ⟨_, rfl⟩
  obtain ⟨b2, hb2⟩ : ∃ b, b = f (o + 2) := ⟨_, rfl⟩
  obtain ⟨b3, hb3⟩ : ∃ b, b = f (o + 3) := ⟨_, rfl⟩
  have z0 : w1.cell? ⟨mb, o, none⟩ = some (.int .u8 b0) := by rw [hb0]; exact (hR1.cell (by omega)).1
  have z1 : w1.cell? ⟨mb, o + 1, none⟩ = some (.int .u8 b1) := by rw [hb1]; exact (hR1.cell (by omega)).1
  have z2 : w1.cell? ⟨mb, o + 2, none⟩ = some (.int .u8 b2) := by rw [hb2]; exact (hR1.cell (by omega)).1
  have z3 : w1.cell? ⟨mb, o + 3, none⟩ = some (.int .u8 b3) := by rw [hb3]; exact (hR1.cell (by omega)).1
  have r0 : 0 ≤ b0 ∧ b0 < 256 := by rw [hb0]; exact hR1.byt (by omega)
  have r1 : 0 ≤ b1 ∧ b1 < 256 := by rw [hb1]; exact hR1.byt (by omega)
  have r2 : 0 ≤ b2 ∧ b2 < 256 := by rw [hb2]; exact hR1.byt (by omega)
  have r3 : 0 ≤ b3 ∧ b3 < 256 := by rw [hb3]; exact hR1.byt (by omega)
  have g1 : (o : Int) + 1 < (n : Int) := by omega
  have g2 : (o : Int) + 2 < (n : Int) := by omega
  have g3 : (o : Int) + 3 < (n : Int) := by omega
  have s1 : IntKind.i64.wrap ((o : Int) + 1) = (o : Int) + 1 := IntWalk.i64_in _ ⟨by omega, by omega⟩
  have s2 : IntKind.i64.wrap ((o : Int) + 2) = (o : Int) + 2 := IntWalk.i64_in _ ⟨by omega, by omega⟩
  have s3 : IntKind.i64.wrap ((o : Int) + 3) = (o : Int) + 3 := IntWalk.i64_in _ ⟨by omega, by omega⟩
  have t1 : ((o : Int) + 1).toNat = o + 1 := by omega
  have t2 : ((o : Int) + 2).toNat = o + 2 := by omega
  have t3 : ((o : Int) + 3).toNat = o + 3 := by omega
  have m1 : IntKind.u32.wrap (b1 * 256) = b1 * 256 := IntWalk.u32_in _ ⟨by omega, by omega⟩
  have m2 : IntKind.u32.wrap (b2 * 65536) = b2 * 65536 := IntWalk.u32_in _ ⟨by omega, by omega⟩
  have m3 : IntKind.u32.wrap (b3 * 16777216) = b3 * 16777216 := IntWalk.u32_in _ ⟨by omega, by omega⟩
  have a1 : IntKind.u32.wrap (b0 + b1 * 256) = b0 + b1 * 256 := IntWalk.u32_in _ ⟨by omega, by omega⟩
  have a2 : IntKind.u32.wrap (b0 + b1 * 256 + b2 * 65536) = b0 + b1 * 256 + b2 * 65536 := IntWalk.u32_in _ ⟨by omega, by omega⟩
  have a3 : IntKind.u32.wrap (b0 + b1 * 256 + b2 * 65536 + b3 * 16777216) = b0 + b1 * 256 + b2 * 65536 + b3 * 16777216 := IntWalk.u32_in _ ⟨by omega, by omega⟩
  have HW := hid (show b0 + b1 * 256 + b2 * 65536 + b3 * 16777216 = wordAt f o by rw [hb0, hb1, hb2, hb3]; rfl)
  have HR1 := hid hR1
  have HK1 := hid hK1
  clear hw1 hb0 hb1 hb2 hb3 hR1 hK1 hr1
  go_quiet (fail)
  go_wp2
  go_ret2
  refine ⟨?_, HR1.out.keep (Kp.drewN _ _ []) (by simp) (by simp), HK1.out.trans (Kp.drewN _ _ _)⟩
  rw [← HW.out]
  rfl
end Go.Proofs.Ytihlejphjdelfaa
