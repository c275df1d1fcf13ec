/- ArenaWords: the walk. -/
import Derived.Test.YtihlejphjdelfaaKnown
import Derived.Deep.QuietTactic
import Derived.BigQuiet
namespace Go.Proofs.Ytihlejphjdelfaa
open Go.RowKit

theorem wordAt_same (f : Nat → Int) (o : Nat) (x : Int) (_h0 : 0 ≤ x) (_h1 : x < 4294967296) : wordAt (over f o (bytes4 x)) o = x := by
  unfold wordAt over bytes4 word
  simp
  omega
theorem wordAt_other (f : Nat → Int) (o p : Nat) (x : Int) (h : o + 4 ≤ p ∨ p + 4 ≤ o) : wordAt (over f o (bytes4 x)) p = wordAt f p := by
  unfold wordAt over bytes4
  simp only [List.length_cons, List.length_nil]
  rw [if_neg (by omega), if_neg (by omega), if_neg (by omega), if_neg (by omega)]
theorem part_same (f : Nat → Int) (o : Nat) (x : Int) : part (over f o (bytes4 x)) o 4 = bytes4 x := by
  unfold part over bytes4
  simp [List.range_succ]

/-- The law's two arrays, boxed. -/
def Bx (w : World) (N : Nat) (a0 a1 x0 x1 : Int) : Prop := w.heap[N]? = some (.cells #[.int .i64 a0, .int .i64 a1] 40 (0, 0)) ∧ w.heap[N + 1]? = some (.cells #[.int .u32 x0, .int .u32 x1] 44 (0, 0))
theorem Bx.keep {w w' : World} {N : Nat} {a0 a1 x0 x1 : Int} {rows : List Nat} (h : Bx w N a0 a1 x0 x1) (hk : Kp w w' rows) (hr : ∀ k ∈ rows, N + 1 < k) : Bx w' N a0 a1 x0 x1 :=
  ⟨(hk.block N (lt_of_block h.1) (fun hm => by have := hr N hm; omega)).trans h.1, (hk.block (N + 1) (lt_of_block h.2) (fun hm => by have := hr (N + 1) hm; omega)).trans h.2⟩
theorem Bx.made (w : World) (a0 a1 x0 x1 : Int) : Bx ((w.alloc (.cells #[.int .i64 a0, .int .i64 a1] 40)).alloc (.cells #[.int .u32 x0, .int .u32 x1] 44)) w.heap.size a0 a1 x0 x1 := by
  refine ⟨?_, ?_⟩
  · rw [Below.heap_alloc _ _ _ (by simp), heap_alloc_new]
  · have := heap_alloc_new (w.alloc (.cells #[.int .i64 a0, .int .i64 a1] 40)) (.cells #[.int .u32 x0, .int .u32 x1] 44)
    rw [show (w.alloc (.cells #[.int .i64 a0, .int .i64 a1] 40)).heap.size = w.heap.size + 1 by simp] at this
    exact this
theorem Bx.cells {w : World} {N : Nat} {a0 a1 x0 x1 : Int} (h : Bx w N a0 a1 x0 x1) : w.cell? ⟨N, 0, none⟩ = some (.int .i64 a0) ∧ w.cell? ⟨N, 1, none⟩ = some (.int .i64 a1) ∧ w.cell? ⟨N + 1, 0, none⟩ = some (.int .u32 x0) ∧ w.cell? ⟨N + 1, 1, none⟩ = some (.int .u32 x1) :=
  ⟨cell_two0 h.1, cell_two1 h.1, cell_two0 h.2, cell_two1 h.2⟩

set_option maxRecDepth 100000 in
theorem refnew_no (w : World) (n : Int) (h : ¬ Good n) : Calls Try.prog 8 #[.int .i64 n] w fun e w' => e = .returned (.pointer none) ∧ w' = w := by
  unfold Good at h
  by_cases h1 : n < 256
  · clear h
    go_enter Try.func8, Try.ntmps8
    go_wp2
    go_ret
    exact ⟨rfl, rfl⟩
  · by_cases h2 : 65536 < n
    · clear h
      go_enter Try.func8, Try.ntmps8
      go_wp2
      go_ret
      exact ⟨rfl, rfl⟩
    · have h4 : (n % 8 != 0) = true := by simp [bne]; omega
      clear h
      go_enter Try.func8, Try.ntmps8
      go_wp2
      go_ret
      exact ⟨rfl, rfl⟩
set_option maxRecDepth 100000 in
theorem num_any (x : Int) (w : World) : Calls Try.prog 9 #[.int .i64 x] w fun e w' => e = .returned (.int .i64 x) ∧ w' = w := by
  go_enter Try.func9, Try.ntmps9
  go_wp2
  go_ret
  exact ⟨rfl, rfl⟩
theorem two_setCell0 {w : World} {b : Nat} {v u x : Value} {t : TypeId} (h : w.heap[b]? = some (.cells #[v, u] t (0, 0))) : (w.setCell ⟨b, 0, none⟩ x).heap[b]? = some (.cells #[x, u] t (0, 0)) := by
  rw [heap_setCell_same w b 0 _ t x h]
  rfl
theorem Kp.drewN (w : World) (n : Nat) (rows : List Nat) : Kp w (w.drewN n) rows := ⟨rfl, rfl, rfl, Nat.le_refl _, fun _ _ _ => rfl⟩
theorem owned4 {w : World} {base : Nat} {v : Value} {l : List Int} (h : w.ownsRow base 5 1 v 4 (ub l)) (hl : l.length = 4) : ∃ g cap, v = .slice (some ⟨g, 0, none⟩) 4 cap ∧ base ≤ g ∧ w.cell? ⟨g, 0, none⟩ = some (.int .u8 (l.getD 0 0)) ∧ w.cell? ⟨g, 1, none⟩ = some (.int .u8 (l.getD 1 0)) ∧ w.cell? ⟨g, 2, none⟩ = some (.int .u8 (l.getD 2 0)) ∧ w.cell? ⟨g, 3, none⟩ = some (.int .u8 (l.getD 3 0)) := by
  rcases h.2 with ⟨-, h0⟩ | ⟨g, cap, cur, rfl, hb, hg, hnc, hcm, hcs, htake⟩
  · omega
  · have hc := fun i (hi : i < 4) => h.cellAt i (by omega)
    refine ⟨g, cap, rfl, hb, ?_, ?_, ?_, ?_⟩
    · rw [hc 0 (by decide)]; simp [ub, List.getElem?_eq_getElem (show 0 < l.length by omega)]
    · rw [hc 1 (by decide)]; simp [ub, List.getElem?_eq_getElem (show 1 < l.length by omega)]
    · rw [hc 2 (by decide)]; simp [ub, List.getElem?_eq_getElem (show 2 < l.length by omega)]
    · rw [hc 3 (by decide)]; simp [ub, List.getElem?_eq_getElem (show 3 < l.length by omega)]
set_option maxRecDepth 100000 in
set_option maxHeartbeats 2000000 in
theorem words_bad (w : World) (n a0 a1 x0 x1 : Int) (h : ¬ Good n) : Calls Try.prog 5 #[.int .i64 n, .agg #[.int .i64 a0, .int .i64 a1], .agg #[.int .u32 x0, .int .u32 x1]] w fun e w' => e = .returned (.bool true) ∧ Kp w w' [] := by
  go_enter Try.func5, Try.ntmps5
  go_wp2_with fail
  refine (known_any _).mono ?_
  rintro e w1 ⟨rfl, hK1⟩
  have HX1 := hid ((Bx.made w a0 a1 x0 x1).keep hK1 (by simp))
  have HK1 := hid (((Kp.alloc w _ []).trans (Kp.alloc _ _ [])).trans hK1)
  have HS1 := hid (show w.heap.size + 1 < w1.heap.size by have := hK1.size; simp at this; omega)
  clear hK1
  go_wp2_with fail
  refine (new_no w1 n h).mono ?_
  rintro e w' ⟨rfl, rfl⟩
  go_wp2_with (go_at_call 9; go_in)
  refine (refnew_no w' n h).mono ?_
  rintro e w1 ⟨rfl, rfl⟩
  go_wp2
  go_ret
  exact ⟨rfl, HK1.out⟩
set_option maxRecDepth 100000 in
set_option maxHeartbeats 2000000 in
theorem words_no0 (w : World) (n : Nat) (a0 a1 x0 x1 : Int) (h : Good n) (hb : a0 ≤ 9223372036854775807) (h0 : hasW n a0 = false) : Calls Try.prog 5 #[.int .i64 (n : Nat), .agg #[.int .i64 a0, .int .i64 a1], .agg #[.int .u32 x0, .int .u32 x1]] w fun e w' => e = .returned (.bool true) ∧ Kp w w' [] := by
  have H0 := hid h0
  clear h0
  go_enter Try.func5, Try.ntmps5
  go_wp2_with fail
  refine (known_any _).mono ?_
  rintro e w1 ⟨rfl, hK1⟩
  have HX1 := hid ((Bx.made w a0 a1 x0 x1).keep hK1 (by simp))
  have HK1 := hid (((Kp.alloc w _ []).trans (Kp.alloc _ _ [])).trans hK1)
  have HS1 := hid (show w.heap.size + 1 < w1.heap.size by have := hK1.size; simp at this; omega)
  clear hK1
  go_wp2_with fail
  refine (new_ok w1 n h).mono ?_
  rintro e w2 ⟨rb, mb, rfl, hA2, hrb, hmb, hK2⟩
  have HX2 := hid (HX1.out.keep hK2 (by simp))
  have HA2 := hid hA2
  have HR2 := hid (show w.heap.size + 1 < rb ∧ w.heap.size + 1 < mb by have := HS1.out; omega)
  have HK2 := hid (HK1.out.trans hK2)
  have HN := hid (show n ≤ 65536 by have := h.2.1; omega)
  clear hrb hmb hA2 hK2 HX1 HK1 HS1
  have qx := HX2.out.cells
  go_wp2_with (go_at_call 9; go_in)
  refine (set_no w2 rb mb n _ 0 a0 x0 HA2.out HN.out hb H0.out).mono ?_
  rintro e w3 ⟨rfl, hK3⟩
  have HK3 := hid (HK2.out.trans hK3)
  clear hK3
  go_wp2
  go_ret
  exact ⟨rfl, HK3.out⟩
set_option maxRecDepth 100000 in
set_option maxHeartbeats 2000000 in
theorem words_no1 (w : World) (n o0 : Nat) (a1 x0 x1 : Int) (h : Good n) (h0 : o0 % 4 = 0 ∧ o0 + 4 ≤ n) (hw0 : 0 ≤ x0 ∧ x0 < 4294967296) (hb : a1 ≤ 9223372036854775807) (h1 : hasW n a1 = false) : Calls Try.prog 5 #[.int .i64 (n : Nat), .agg #[.int .i64 (o0 : Nat), .int .i64 a1], .agg #[.int .u32 x0, .int .u32 x1]] w fun e w' => e = .returned (.bool true) ∧ Kp w w' [] := by
  have H0 := hid h0
  have H1 := hid h1
  clear h0 h1
  go_enter Try.func5, Try.ntmps5
  go_wp2_with fail
  refine (known_any _).mono ?_
  rintro e w1 ⟨rfl, hK1⟩
  have HX1 := hid ((Bx.made w o0 a1 x0 x1).keep hK1 (by simp))
  have HK1 := hid (((Kp.alloc w _ []).trans (Kp.alloc _ _ [])).trans hK1)
  have HS1 := hid (show w.heap.size + 1 < w1.heap.size by have := hK1.size; simp at this; omega)
  clear hK1
  go_wp2_with fail
  refine (new_ok w1 n h).mono ?_
  rintro e w2 ⟨rb, mb, rfl, hA2, hrb, hmb, hK2⟩
  have HX2 := hid (HX1.out.keep hK2 (by simp))
  have HA2 := hid hA2
  have HR2 := hid (show w.heap.size + 1 < rb ∧ w.heap.size + 1 < mb by have := HS1.out; omega)
  have HK2 := hid (HK1.out.trans hK2)
  have HN := hid (show n ≤ 65536 by have := h.2.1; omega)
  clear hrb hmb hA2 hK2 HX1 HK1 HS1
  have qx := HX2.out.cells
  go_wp2_with (go_at_call 9; go_in)
  refine (set_ok w2 rb mb n o0 _ 0 x0 HA2.out HN.out (by decide) (by decide) hw0.1 hw0.2 H0.out.1 H0.out.2).mono ?_
  rintro e w3 ⟨rfl, hA3, hK3⟩
  have HX3 := hid (HX2.out.keep hK3 (by have := HR2.out; simp; omega))
  have HA3 := hid (show Ar w3 rb mb n (over (fun _ => 0) o0 (bytes4 x0)) 1 from hA3)
  have HK3 := hid (HK2.out.newer hK3 (by have := HR2.out; simp; omega))
  clear hA3 hK3 HX2 HA2 HK2 qx
  have qx := HX3.out.cells
  go_wp2_with (go_at_call 9; go_in)
  refine (set_no w3 rb mb n _ 1 a1 x1 HA3.out HN.out hb H1.out).mono ?_
  rintro e w4 ⟨rfl, hK4⟩
  have HK4 := hid (HK3.out.trans hK4)
  clear hK4
  go_wp2
  go_ret
  exact ⟨rfl, HK4.out⟩
set_option maxRecDepth 100000 in
set_option maxHeartbeats 2000000 in
theorem words_ok (w : World) (n o0 o1 : Nat) (x0 x1 : Int) (h : Good n) (h0 : o0 % 4 = 0 ∧ o0 + 4 ≤ n) (h1 : o1 % 4 = 0 ∧ o1 + 4 ≤ n) (hw0 : 0 ≤ x0 ∧ x0 < 4294967296) (hw1 : 0 ≤ x1 ∧ x1 < 4294967296) : Calls Try.prog 5 #[.int .i64 (n : Nat), .agg #[.int .i64 (o0 : Nat), .int .i64 (o1 : Nat)], .agg #[.int .u32 x0, .int .u32 x1]] w fun e w' => e = .returned (.bool true) ∧ Kp w w' [] := by
  have H0 := hid h0
  have H1 := hid h1
  clear h0 h1
  go_enter Try.func5, Try.ntmps5
  go_wp2_with fail
  refine (known_any _).mono ?_
  rintro e w1 ⟨rfl, hK1⟩
  have HX1 := hid ((Bx.made w o0 o1 x0 x1).keep hK1 (by simp))
  have HK1 := hid (((Kp.alloc w _ []).trans (Kp.alloc _ _ [])).trans hK1)
  have HS1 := hid (show w.heap.size + 1 < w1.heap.size by have := hK1.size; simp at this; omega)
  clear hK1
  go_wp2_with fail
  refine (new_ok w1 n h).mono ?_
  rintro e w2 ⟨rb, mb, rfl, hA2, hrb, hmb, hK2⟩
  have HX2 := hid (HX1.out.keep hK2 (by simp))
  have HA2 := hid hA2
  have HR2 := hid (show w.heap.size + 1 < rb ∧ w.heap.size + 1 < mb by have := HS1.out; omega)
  have HK2 := hid (HK1.out.trans hK2)
  have HN := hid (show n ≤ 65536 by have := h.2.1; omega)
  clear hrb hmb hA2 hK2 HX1 HK1 HS1
  have qx := HX2.out.cells
  go_wp2_with (go_at_call 9; go_in)
  refine (set_ok w2 rb mb n o0 _ 0 x0 HA2.out HN.out (by decide) (by decide) hw0.1 hw0.2 H0.out.1 H0.out.2).mono ?_
  rintro e w3 ⟨rfl, hA3, hK3⟩
  have HX3 := hid (HX2.out.keep hK3 (by have := HR2.out; simp; omega))
  have HA3 := hid (show Ar w3 rb mb n (over (fun _ => 0) o0 (bytes4 x0)) 1 from hA3)
  have HK3 := hid (HK2.out.newer hK3 (by have := HR2.out; simp; omega))
  clear hA3 hK3 HX2 HA2 HK2 qx
  have qx := HX3.out.cells
  go_wp2_with (go_at_call 9; go_in)
  refine (set_ok w3 rb mb n o1 _ 1 x1 HA3.out HN.out (by decide) (by decide) hw1.1 hw1.2 H1.out.1 H1.out.2).mono ?_
  rintro e w4 ⟨rfl, hA4, hK4⟩
  obtain ⟨F, hF⟩ : ∃ F, F = over (over (fun _ => 0) o0 (bytes4 x0)) o1 (bytes4 x1) := ⟨_, rfl⟩
  rw [← hF] at hA4
  have HX4 := hid (HX3.out.keep hK4 (by have := HR2.out; simp; omega))
  have HA4 := hid (show Ar w4 rb mb n F 2 from hA4)
  have HK4 := hid (HK3.out.newer hK4 (by have := HR2.out; simp; omega))
  have ey : wordAt F o1 = x1 := by rw [hF]; exact wordAt_same _ _ _ hw1.1 hw1.2
  have ep : part F o1 4 = bytes4 x1 := by rw [hF]; exact part_same _ _ _
  have ex : o0 ≠ o1 → wordAt F o0 = x0 := by
    intro hne
    have := H0.out
    have := H1.out
    rw [hF, wordAt_other _ _ _ _ (by omega), wordAt_same _ _ _ hw0.1 hw0.2]
  have HE := hid (And.intro ey (And.intro ep ex))
  clear hA4 hK4 HX3 HA3 HK3 qx hF ey ep ex
  have qx := HX4.out.cells
  go_wp2_with (go_at_call 9; go_in)
  refine (get_ok w4 rb mb n o0 F 2 HA4.out HN.out (by decide) (by decide) H0.out.1 H0.out.2).mono ?_
  rintro e w5 ⟨rfl, hA5, hK5⟩
  have HX5 := hid (HX4.out.keep hK5 (by have := HR2.out; simp; omega))
  have HA5 := hid (show Ar w5 rb mb n F 3 from hA5)
  have HK5 := hid (HK4.out.newer hK5 (by have := HR2.out; simp; omega))
  clear hA5 hK5 HX4 HA4 HK4 qx
  have qx := HX5.out.cells
  go_wp2_with fail
  refine (get_ok w5 rb mb n o1 F 3 HA5.out HN.out (by decide) (by decide) H1.out.1 H1.out.2).mono ?_
  rintro e w6 ⟨rfl, hA6, hK6⟩
  rw [HE.out.1]
  have HX6 := hid (HX5.out.keep hK6 (by have := HR2.out; simp; omega))
  have HA6 := hid (show Ar w6 rb mb n F 4 from hA6)
  have HK6 := hid (HK5.out.newer hK6 (by have := HR2.out; simp; omega))
  clear hA6 hK6 HX5 HA5 HK5 qx
  have qx := HX6.out.cells
  go_wp2_with fail
  refine (read_ok w6 rb mb n o1 4 F 4 HA6.out HN.out H1.out.2).mono ?_
  rintro e w7 ⟨v, rfl, hown, hK7⟩
  obtain ⟨g, cp, rfl, hg, z⟩ := owned4 (l := bytes4 x1) (by rw [HE.out.2.1] at hown; exact hown) rfl
  have HX7 := hid (HX6.out.keep hK7 (by simp))
  have HA7 := hid (HA6.out.keep hK7 (by simp) (by simp))
  have HK7 := hid (HK6.out.newer hK7 (by simp))
  have Hg := hid (show w.heap.size + 1 < g by have := HX6.out.2; have := lt_of_block this; omega)
  clear hown hK7 HX6 HA6 HK6 qx hg
  have qx := HX7.out.cells
  have qf : w7.frozen? ⟨w.heap.size + 1, 0, none⟩ = false := free_two HX7.out.2
  have b0 := bytes4_byt hw1.1 hw1.2
  obtain ⟨b0, hb0⟩ : ∃ b, b = x1 % 256 := ⟨_, rfl⟩
  obtain ⟨b1, hb1⟩ : ∃ b, b = x1 / 256 % 256 := ⟨_, rfl⟩
  obtain ⟨b2, hb2⟩ : ∃ b, b = x1 / 65536 % 256 := ⟨_, rfl⟩
  obtain ⟨b3, hb3⟩ : ∃ b, b = x1 / 16777216 := ⟨_, rfl⟩
  have z0 : w7.cell? ⟨g, 0, none⟩ = some (.int .u8 b0) := by rw [hb0]; exact z.1
  have z1 : w7.cell? ⟨g, 1, none⟩ = some (.int .u8 b1) := by rw [hb1]; exact z.2.1
  have z2 : w7.cell? ⟨g, 2, none⟩ = some (.int .u8 b2) := by rw [hb2]; exact z.2.2.1
  have z3 : w7.cell? ⟨g, 3, none⟩ = some (.int .u8 b3) := by rw [hb3]; exact z.2.2.2
  have r0 : 0 ≤ b0 ∧ b0 < 256 := by omega
  have r1 : 0 ≤ b1 ∧ b1 < 256 := by omega
  have r2 : 0 ≤ b2 ∧ b2 < 256 := by omega
  have r3 : 0 ≤ b3 ∧ b3 < 256 := by omega
  have hw : word b0 b1 b2 b3 = x1 := by unfold word; omega
  have hor : bits .or .u32 (bits .or .u32 (bits .or .u32 b0 (b1 * 256)) (b2 * 65536)) (b3 * 16777216) = x1 := by
    rw [or8 _ _ r0.1 r0.2 r1.1 r1.2, or16 _ _ (by omega) (by omega) r2.1 r2.2, or24 _ _ (by omega) (by omega) r3.1 r3.2]
    exact hw
  have hs1 : IntKind.u32.wrap (b1 * 256) = b1 * 256 := IntWalk.u32_in _ ⟨by omega, by omega⟩
  have hs2 : IntKind.u32.wrap (b2 * 65536) = b2 * 65536 := IntWalk.u32_in _ ⟨by omega, by omega⟩
  have hs3 : IntKind.u32.wrap (b3 * 16777216) = b3 * 16777216 := IntWalk.u32_in _ ⟨by omega, by omega⟩
  clear hw hb0 hb1 hb2 hb3 z
  by_cases he : o0 = o1
  · subst he
    rw [HE.out.1]
    have hee : ((o0 : Int) == (o0 : Int)) = true := by simp
    go_wp2_with fail
    obtain ⟨w8, hw8⟩ : ∃ w8, w8 = w7.setCell ⟨w.heap.size + 1, 0, none⟩ (.int .u32 x1) := ⟨_, rfl⟩
    rw [← hw8]
    have hk8 : Kp w7 w8 [w.heap.size + 1] := by rw [hw8]; exact Kp.setCell _ ⟨w.heap.size + 1, 0, none⟩ _
    have hx8 : w8.heap[w.heap.size + 1]? = some (.cells #[.int .u32 x1, .int .u32 x1] 44 (0, 0)) := by rw [hw8]; exact two_setCell0 HX7.out.2
    have u0 := cell_two0 hx8
    have u1 := cell_two1 hx8
    have hgn : g ∉ [w.heap.size + 1] := by have := Hg.out; simp; omega
    have y0 := hk8.cell z0 hgn
    have y1 := hk8.cell z1 hgn
    have y2 := hk8.cell z2 hgn
    have y3 := hk8.cell z3 hgn
    have HA8 := hid (HA7.out.keep hk8 (by have := HR2.out; simp; omega) (by have := HR2.out; simp; omega))
    have HK8 := hid (HK7.out.newer hk8 (by simp))
    clear hk8 hx8 hw8 z0 z1 z2 z3 qx qf hgn
    go_quiet ((go_at_call 9; exact Calls.quiet_of_same (num_any _ _)))
    go_wp2_with fail
    refine (cost_ok _ rb mb n F 4 (HA8.out.keep (Kp.drewN _ nq []) (by simp) (by simp))).mono ?_
    rintro e w9 ⟨rfl, rfl⟩
    go_wp2
    go_ret
    exact ⟨rfl, HK8.out.trans (Kp.drewN _ nq [])⟩
  · rw [HE.out.2.2 he]
    have hee : ((o0 : Int) == (o1 : Int)) = false := by simp; omega
    clear he
    go_wp2_with fail
    go_quiet ((go_at_call 9; exact Calls.quiet_of_same (num_any _ _)))
    go_wp2_with fail
    refine (cost_ok _ rb mb n F 4 (HA7.out.keep (Kp.drewN _ nq []) (by simp) (by simp))).mono ?_
    rintro e w9 ⟨rfl, rfl⟩
    go_wp2
    go_ret
    exact ⟨rfl, HK7.out.trans (Kp.drewN _ nq [])⟩
end Go.Proofs.Ytihlejphjdelfaa
