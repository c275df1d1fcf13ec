/- find: the first block that is sure to be great enough. -/
import Derived.Test.YtgefmnnkpffpcaaGreatDoorHputJ
namespace Go.Proofs.YtgefmnnkpffpcaaGreatDoor
open Go.RowKit Go.Maps

theorem shift_bit (v k i : Nat) : (v / 2 ^ k * 2 ^ k).testBit i = (decide (k ≤ i) && v.testBit i) := by
  rw [Nat.testBit_mul_two_pow]
  by_cases h : k ≤ i
  · simp only [h, decide_true, Bool.true_and]; rw [Nat.testBit_div_two_pow, show i - k + k = i by omega]
  · simp [h]
theorem low_none (v k : Nat) (h : v / 2 ^ k * 2 ^ k = 0) : lowBit v k = 32 := by
  unfold lowBit
  have : (List.range 32).find? (fun c => decide (k ≤ c) && v.testBit c) = none := by
    rw [List.find?_eq_none]
    intro i _
    rw [← shift_bit, h]; simp
  rw [this]; rfl
theorem low_some (v k j m : Nat) (h : v / 2 ^ k * 2 ^ k = 2 ^ j * (2 * m + 1)) (hj : j < 32) : lowBit v k = j := by
  unfold lowBit
  have hb : ∀ i, (decide (k ≤ i) && v.testBit i) = (decide (j ≤ i) && (2 * m + 1).testBit (i - j)) := fun i => by
    rw [← shift_bit, h, Nat.mul_comm, Nat.testBit_mul_two_pow]
  have : (List.range 32).find? (fun c => decide (k ≤ c) && v.testBit c) = some j := by
    rw [List.find?_range_eq_some]
    refine ⟨?_, by simpa using hj, fun i hi => ?_⟩
    · rw [hb]; simp
    · rw [hb, decide_eq_false (by omega)]; rfl
  rw [this]; rfl

theorem clsFor_range {z : Int} (h0 : 16 ≤ z) (h1 : z < 500000) : ∃ k : Nat, clsFor z = k ∧ k < 32 := by
  unfold clsFor
  have := pow_half (z := z) (by omega)
  exact cls_range (by omega) (by omega)

theorem tz_low (w : World) (v k : Nat) (hv : v < 4294967296) (ht : Tb w) : Calls Tryz.prog 94 #[.int .u32 ((v / 2 ^ k * 2 ^ k : Nat) : Int)] w fun e w' => e = .returned (.int .i64 (lowBit v k)) ∧ w' = w := by
  have hle : v / 2 ^ k * 2 ^ k ≤ v := Nat.div_mul_le_self _ _
  by_cases h : v / 2 ^ k * 2 ^ k = 0
  · rw [low_none v k h, h]; exact tz_none w
  · obtain ⟨j, m, e⟩ := odd_part _ h
    have hj : j < 32 := by
      have : 2 ^ j < 2 ^ 32 := Nat.lt_of_le_of_lt (Nat.le_mul_of_pos_right (2 ^ j) (show 0 < 2 * m + 1 by omega)) (show 2 ^ j * (2 * m + 1) < 2 ^ 32 by omega)
      exact (Nat.pow_lt_pow_iff_right (by decide)).1 this
    rw [low_some v k j m e hj]
    exact tz_some w _ j m (by rw [e]) (by omega) ht
theorem shift_cast (v k : Nat) (hv : v < 4294967296) : (v : Int) / 2 ^ k * 2 ^ k % 4294967296 = ((v / 2 ^ k * 2 ^ k : Nat) : Int) := by
  have hle : v / 2 ^ k * 2 ^ k ≤ v := Nat.div_mul_le_self _ _
  have e : (v : Int) / 2 ^ k * 2 ^ k = ((v / 2 ^ k * 2 ^ k : Nat) : Int) := by push_cast; rfl
  rw [e]; omega
theorem freeAt_some {n : Nat} {g : Mem} {P : Pcs} {a s : Int} (h : freeAt n g P a = some s) : 112 ≤ a ∧ a % 8 = 0 ∧ 16 ≤ s ∧ s ≤ n - a ∧ s % 8 = 0 ∧ rd n g a = s + 1 ∧ hasP P (a + 8) = false := by
  unfold freeAt at h
  split at h
  · simp at h
  · rename_i hn
    simp only [Bool.or_eq_true, Bool.not_eq_true', not_or, Bool.not_eq_true, Bool.not_eq_false] at hn
    obtain ⟨⟨h1, h2⟩, h3⟩ := hn
    simp only [Option.some.injEq] at h
    have h4 := of_decide_eq_true h3
    have h5 : rd n g a % 8 = 1 := by simpa using h2
    rw [h] at h4
    exact ⟨h4.1, h4.2.1, h4.2.2.1, h4.2.2.2, by omega, by omega, h1⟩

theorem Went.after {w w' w'' : World} {hb rb mb pb n : Nat} {g : Mem} {P : Pcs} {c k : Int} {rows : List Nat} (h : Went w w' hb rb mb pb n g P c k rows) (hk : Kp w' w'' []) : Went w w'' hb rb mb pb n g P c k rows := by
  obtain ⟨c', h1, h2, h3, h4⟩ := h
  exact ⟨c', h1, h2, h3.same hk, h4.trans hk.nil⟩

/-- What find answers. -/
def findAns : Option (Int × Int × Mem) → Value
  | some (a, s, _) => .tuple #[.agg #[.int .i64 a, .int .i64 s], .bool true]
  | none => .tuple #[.agg #[.int .i64 0, .int .i64 0], .bool false]
def findMem (g : Mem) : Option (Int × Int × Mem) → Mem
  | some (_, _, g') => g'
  | none => g

set_option maxRecDepth 100000 in
set_option maxHeartbeats 2000000 in
theorem find_any (w : World) (hb rb mb pb n : Nat) (g : Mem) (c : Int) (P : Pcs) (z : Int) (h : Hp w hb rb mb pb n g c P) (hc : c < 1152921504606846000) (hz0 : 16 ≤ z) (hz1 : z < 500000) :
    Calls Tryz.prog 55 #[.pointer (some ⟨hb, 0, none⟩), .int .i64 z] w fun e w' => e = .returned (findAns (find n g P z)) ∧ Went w w' hb rb mb pb n (findMem g (find n g P z)) P c 11 [rb, mb] := by
  obtain ⟨k, hk, hk32⟩ := clsFor_range hz0 hz1
  obtain ⟨r, hr⟩ : ∃ r, r = find n g P z := ⟨_, rfl⟩
  rw [← hr]
  unfold find at hr
  rw [hk, Int.toNat_natCast] at hr
  obtain ⟨v, hv⟩ : ∃ v : Nat, rd n g 0 = v := ⟨(rd n g 0).toNat, by have := h.range 0; omega⟩
  have hv1 : v < 4294967296 := by have := h.range 0; omega
  rw [hv, Int.toNat_natCast] at hr
  have R := hid hr
  have HK := hid hk
  have HV := hid hv
  have HL := hid h.lt
  have W1 := hid (Kp.alloc w (.cells #[.int .i64 0, .int .i64 0] 87) [])
  have B1 := hid (heap_alloc_new w (.cells #[.int .i64 0, .int .i64 0] 87))
  have H1 := hid (h.same W1.out)
  clear h hr hk hv
  go_enter Tryz.func55, Tryz.ntmps55
  go_wp2_with fail
  refine (classFor_any _ z (by omega) (by omega)).mono ?_
  rintro e w' ⟨rfl, hE⟩
  rw [hE]
  clear hE
  rw [HK.out]
  go_wp2_with fail
  refine (word_any _ hb rb mb pb n g c P 0 H1.out (by omega) (by omega)).mono ?_
  rintro e w2 ⟨rfl, c2, hc2, hc2', hH2, hK2⟩
  rw [HV.out]
  have B2 := hid ((hK2.block w.heap.size (by simp) (by simp; have := HL.out; omega)).trans B1.out)
  have K2 := hid (show Kp w w2 [rb] from W1.out.nil.trans hK2)
  have H2 := hid hH2
  clear hH2 hK2
  go_wp2_with fail
  rw [shift_cast v k hv1]
  refine (tz_low w2 v k hv1 H2.out.tb).mono ?_
  rintro e w' ⟨rfl, hE⟩
  rw [hE]
  clear hE
  obtain ⟨j, hj⟩ : ∃ j, lowBit v k = j := ⟨_, rfl⟩
  have R1 := R.out
  rw [hj] at R1 ⊢
  have R := hid R1
  clear R1 hj
  have u1 := cell_two0 B2.out
  have u2 := cell_two1 B2.out
  have u3 := free_two (i := 0) B2.out
  have u4 := free_two (i := 1) B2.out
  by_cases h24 : 24 ≤ j
  · have E := hid (show r = none by rw [R.out, if_pos h24])
    have W2 := hid (show Went w w2 hb rb mb pb n g P c 11 [rb, mb] from ⟨c2, hc2, by omega, H2.out, K2.out.mono (by simp)⟩)
    have h24' : (24 : Int) ≤ j := by omega
    go_wp2_with fail
    have v1 := cell_two0 (stored2 (a := .int .i64 0) (b := .int .i64 0) B2.out)
    have v2 := cell_two1 (stored2 (a := .int .i64 0) (b := .int .i64 0) B2.out)
    refine bodyPost_ret (v := .tuple #[.agg #[.int .i64 0, .int .i64 0], .bool false]) (by simp [results, Tryz.results55, go_sem, v1, v2]) rfl ⟨by rw [E.out]; rfl, ?_⟩
    rw [E.out]
    exact W2.out.store _ _ HL.out (Nat.le_refl _)
  · have h24' : (j : Int) < 24 := by omega
    obtain ⟨a, ha⟩ : ∃ a, rd n g (4 + (j : Int) * 4) = a := ⟨_, rfl⟩
    have R1 := R.out
    rw [if_neg h24, ha] at R1
    have R := hid R1
    have ha0 := H2.out.range (4 + (j : Int) * 4)
    rw [ha] at ha0
    have HA := hid ha
    clear R1 ha h24
    go_wp2_with fail
    refine (firstAt_any w2 j (by omega) (by omega)).mono ?_
    rintro e w' ⟨rfl, hE⟩
    rw [hE]
    clear hE
    go_wp2_with fail
    refine (word_any w2 hb rb mb pb n g c2 P (4 + (j : Int) * 4) H2.out (by omega) (by omega)).mono ?_
    rintro e w3 ⟨rfl, c3, hc3, hc3', hH3, hK3⟩
    rw [HA.out]
    have B3 := hid ((hK3.block w.heap.size (lt_of_block B2.out) (by simp; have := HL.out; omega)).trans B2.out)
    have K3 := hid (show Kp w w3 [rb] from K2.out.trans hK3)
    have H3 := hid hH3
    clear hH3 hK3 u1 u2 u3 u4
    go_wp2_with fail
    refine (freeAt_any w3 hb rb mb pb n g c3 P a H3.out (by omega) (by omega) (by omega)).mono ?_
    rintro e w4 ⟨rfl, c4, hc4, hc4', hH4, hK4⟩
    have B4 := hid ((hK4.block w.heap.size (lt_of_block B3.out) (by simp; have := HL.out; omega)).trans B3.out)
    have K4 := hid (show Kp w w4 [rb] from K3.out.trans hK4)
    have H4 := hid hH4
    clear hH4 hK4
    have u1 := cell_two0 B4.out
    have u2 := cell_two1 B4.out
    have u3 := free_two (i := 0) B4.out
    have u4 := free_two (i := 1) B4.out
    have hs4 : w.heap.size < w4.heap.size := lt_of_block B4.out
    cases hf : freeAt n g P a with
    | none =>
      have E := hid (show r = none by rw [R.out, hf])
      have W4 := hid (show Went w w4 hb rb mb pb n g P c 11 [rb, mb] from ⟨c4, by omega, by omega, H4.out, K4.out.mono (by simp)⟩)
      clear hf
      simp only [freeAns]
      go_wp2_with fail
      have v1 := cell_past (o := .cells #[.int .i64 0, .int .i64 0] 87) (cell_two0 (stored2 (a := .int .i64 0) (b := .int .i64 0) B4.out))
      have v2 := cell_past (o := .cells #[.int .i64 0, .int .i64 0] 87) (cell_two1 (stored2 (a := .int .i64 0) (b := .int .i64 0) B4.out))
      refine bodyPost_ret (v := .tuple #[.agg #[.int .i64 0, .int .i64 0], .bool false]) (by simp [results, Tryz.results55, go_sem, v1, v2]) rfl ⟨by rw [E.out]; rfl, ?_⟩
      rw [E.out]
      exact (W4.out.store _ _ HL.out (Nat.le_refl _)).after (Kp.alloc _ _ _)
    | some s =>
      have F := freeAt_some hf
      have R1 := R.out
      rw [hf] at R1
      have R := hid R1
      clear R1 hf
      simp only [freeAns]
      have hn4 := H4.out.nb
      have C4 := hid (show 16 ≤ s ∧ s < 1048576 ∧ 112 ≤ a ∧ a < 1048576 by omega)
      have hs0 : 16 ≤ s ∧ s < 1048576 := by omega
      clear F
      go_wp2_with fail
      refine (classOf_any _ s (by omega) (by omega)).mono ?_
      rintro e w' ⟨rfl, hE⟩
      rw [hE]
      clear hE
      obtain ⟨q, hq⟩ : ∃ q, cls s = q := ⟨_, rfl⟩
      have R1 := R.out
      rw [hq] at R1 ⊢
      have R := hid R1
      clear R1 hq
      by_cases hqj : q = j
      · have tq : (q != (j : Int)) = false := by simp [hqj]
        have E := hid (show r = some (a, s, takeOut n g a s) by rw [R.out, if_pos hqj])
        have A4 := hid (Kp.alloc w4 (.cells #[.int .i64 a, .int .i64 s] 87) [])
        have H5 := hid (H4.out.same A4.out)
        have D5 := hid ((A4.out.block w.heap.size hs4 (by simp)).trans B4.out)
        have X5 := hid (Bx.new (w := w4) (a := a) (z := s) (t := 87) H4.out.lt.2.1 H4.out.lt.2.2.1)
        have q1 := X5.out.c1
        have q2 := X5.out.c2
        clear hqj
        go_wp2_with fail
        refine (takeOut_any _ hb rb mb pb n g c4 P a s H5.out (by omega) (by have := C4.out; omega) (by have := C4.out; omega) (by omega) (by omega)).mono ?_
        rintro e w6 ⟨rfl, c6, hc6, hc6', hH6, hK6⟩
        have B6 := hid ((hK6.block w.heap.size (lt_of_block D5.out) (by simp; have := HL.out; omega)).trans D5.out)
        have X6 := hid (X5.out.keep hK6)
        have W6 := hid (show Went w w6 hb rb mb pb n (takeOut n g a s) P c 11 [rb, mb] from ⟨c6, by omega, by omega, hH6, ((K4.out.mono (by simp)).trans A4.out.nil).trans hK6⟩)
        clear hH6 hK6 u1 u2 u3 u4 q1 q2
        have u1 := cell_two0 B6.out
        have u2 := cell_two1 B6.out
        have u3 := free_two (i := 0) B6.out
        have u4 := free_two (i := 1) B6.out
        have q1 := X6.out.c1
        have q2 := X6.out.c2
        go_wp2_with fail
        have v1 := cell_two0 (stored2 (a := .int .i64 a) (b := .int .i64 s) B6.out)
        have v2 := cell_two1 (stored2 (a := .int .i64 a) (b := .int .i64 s) B6.out)
        refine bodyPost_ret (v := .tuple #[.agg #[.int .i64 a, .int .i64 s], .bool true]) (by simp [results, Tryz.results55, go_sem, v1, v2]) rfl ⟨by rw [E.out]; rfl, ?_⟩
        rw [E.out]
        exact W6.out.store _ _ HL.out (Nat.le_refl _)
      · have tq : (q != (j : Int)) = true := by simp [hqj]
        have E := hid (show r = none by rw [R.out, if_neg hqj])
        have W4 := hid (show Went w w4 hb rb mb pb n g P c 11 [rb, mb] from ⟨c4, by omega, by omega, H4.out, K4.out.mono (by simp)⟩)
        clear hqj
        go_wp2_with fail
        have v1 := cell_past (o := .cells #[.int .i64 a, .int .i64 s] 87) (cell_two0 (stored2 (a := .int .i64 0) (b := .int .i64 0) B4.out))
        have v2 := cell_past (o := .cells #[.int .i64 a, .int .i64 s] 87) (cell_two1 (stored2 (a := .int .i64 0) (b := .int .i64 0) B4.out))
        refine bodyPost_ret (v := .tuple #[.agg #[.int .i64 0, .int .i64 0], .bool false]) (by simp [results, Tryz.results55, go_sem, v1, v2]) rfl ⟨by rw [E.out]; rfl, ?_⟩
        rw [E.out]
        exact (W4.out.store _ _ HL.out (Nat.le_refl _)).after (Kp.alloc _ _ _)
end Go.Proofs.YtgefmnnkpffpcaaGreatDoor

/- free: a block and its free neighbours are one free block. -/
namespace Go.Proofs.YtgefmnnkpffpcaaGreatDoor
open Go.RowKit Go.Maps

/-- The second half of freed: the block ahead. -/
def freed2 (n : Nat) (g1 : Mem) (P : Pcs) (a z1 : Int) : Mem :=
  match freeAt n g1 P (rd n g1 (a + 4)) with
  | some s => if rd n g1 (a + 4) + s = a then putIn n (takeOut n g1 (rd n g1 (a + 4)) s) (rd n g1 (a + 4)) (s + z1) else putIn n g1 a z1
  | none => putIn n g1 a z1
theorem freed_none {n : Nat} {g : Mem} {P : Pcs} {a z : Int} (h : freeAt n g P (a + z) = none) : freed n g P a z = freed2 n g P a z := by
  unfold freed freed2; simp only [h]; rfl
theorem freed_some {n : Nat} {g : Mem} {P : Pcs} {a z s : Int} (h : freeAt n g P (a + z) = some s) : freed n g P a z = freed2 n (takeOut n g (a + z) s) P a (z + s) := by
  unfold freed freed2; simp only [h]; rfl

theorem stored1 {w : World} {r : Nat} {u v b : Value} {t : TypeId} (h : w.heap[r]? = some (.cells #[u, v] t (0, 0))) : (w.setCell ⟨r, 1, none⟩ b).heap[r]? = some (.cells #[u, b] t (0, 0)) := two_setCell1 h

set_option maxRecDepth 100000 in
set_option maxHeartbeats 4000000 in
theorem free_any (w : World) (hb rb mb pb n : Nat) (g : Mem) (c : Int) (P : Pcs) (a z : Int) (h : Hp w hb rb mb pb n g c P) (hc : c < 1152921504606840000)
    (ha0 : 0 ≤ a) (hz0 : 16 ≤ z) (hz8 : z % 8 = 0) (hazn : a + z ≤ n) :
    Calls Tryz.prog 64 #[.pointer (some ⟨hb, 0, none⟩), .agg #[.int .i64 a, .int .i64 z]] w fun e w' => e = .returned (.tuple #[]) ∧ Went w w' hb rb mb pb n (freed n g P a z) P c 29 [rb, mb] := by
  have hnb := h.nb
  have HL := hid h.lt
  have W1 := hid (Kp.alloc w (.cells #[.int .i64 a, .int .i64 z] 87) [])
  have B1 := hid (heap_alloc_new w (.cells #[.int .i64 a, .int .i64 z] 87))
  have H1 := hid (h.same W1.out)
  have Z8 := hid hz8
  obtain ⟨r, hr⟩ : ∃ r, freed n g P a z = r := ⟨_, rfl⟩
  rw [hr]
  have RR := hid hr
  clear h hz8 hr
  go_enter Tryz.func64, Tryz.ntmps64
  go_wp2_with fail
  refine (end_any _ a z (by omega) (by omega) (by omega) (by omega)).mono ?_
  rintro e w2 ⟨rfl, hK2⟩
  have B2 := hid ((hK2.block w.heap.size (lt_of_block B1.out) (by simp)).trans B1.out)
  have H2 := hid (H1.out.same hK2)
  have K2 := hid (W1.out.trans hK2)
  clear hK2
  go_wp2_with fail
  refine (freeAt_any w2 hb rb mb pb n g c P (a + z) H2.out (by omega) (by omega) (by omega)).mono ?_
  rintro e w3 ⟨rfl, c3, hc3, hc3', hH3, hK3⟩
  have B3 := hid ((hK3.block w.heap.size (lt_of_block B2.out) (by simp; have := HL.out; omega)).trans B2.out)
  have H3 := hid hH3
  have K3 := hid (show Kp w w3 [rb, mb] from K2.out.nil.trans (hK3.mono (by simp)))
  clear hH3 hK3
  have hs3 : w.heap.size < w3.heap.size := lt_of_block B3.out
  have hr := RR.out
  cases hf : freeAt n g P (a + z)
  case' none =>
    rw [freed_none hf] at hr
    obtain ⟨g1, hg1⟩ : ∃ g1, g = g1 := ⟨_, rfl⟩
    obtain ⟨z1, hz1⟩ : ∃ z1, z = z1 := ⟨_, rfl⟩
    rw [hg1, hz1] at hr
    have B3' := B3.out
    have H3' := H3.out
    have Z8' := Z8.out
    rw [hg1] at H3'
    rw [hz1] at B3' Z8'
    have hz1' : 16 ≤ z1 ∧ a + z1 ≤ n := by omega
    have A5 := hid (Kp.alloc w3 (.cells #[.int .i64 0, .int .i64 0] 87) [])
    have B5 := hid ((A5.out.block w.heap.size hs3 (by simp)).trans B3')
    have H5 := hid (H3'.same A5.out)
    have K5 := hid (K3.out.trans A5.out.nil)
    have Z5 := hid Z8'
    have R := hid hr
    have hc5 : c3 ≤ c + 9 := by omega
    obtain ⟨c5, hcc5⟩ : ∃ c5, c3 = c5 := ⟨_, rfl⟩
    rw [hcc5] at H5 hc5
    have hc5' : c ≤ c5 := by omega
    clear hf hr B3' H3' Z8' hg1 hcc5
    simp only [freeAns]
    have u1 := cell_two0 B5.out
    have u2 := cell_two1 B5.out
    clear hz1
    go_wp2_with fail
    obtain ⟨w5, hw5⟩ : ∃ w5, w3.alloc (.cells #[.int .i64 0, .int .i64 0] 87) = w5 := ⟨_, rfl⟩
    rw [hw5] at B5 H5 K5 u1 u2 ⊢
    clear hw5 A5
  case' some s =>
    have F := freeAt_some hf
    rw [freed_some hf] at hr
    clear hf
    have F8 := hid F.2.2.2.2.1
    have hs0 : 16 ≤ s ∧ a + z + s ≤ n := by omega
    have F0 := hid F
    clear F
    have A4 := hid (Kp.alloc w3 (.cells #[.int .i64 (a + z), .int .i64 s] 87) [])
    have B4 := hid ((A4.out.block w.heap.size hs3 (by simp)).trans B3.out)
    have X4 := hid (Bx.new (w := w3) (a := a + z) (z := s) (t := 87) H3.out.lt.2.1 H3.out.lt.2.2.1)
    have H4 := hid (H3.out.same A4.out)
    have q1 := X4.out.c1
    have q2 := X4.out.c2
    simp only [freeAns]
    go_wp2_with fail
    refine (takeOut_any _ hb rb mb pb n g c3 P (a + z) s H4.out (by omega) (by omega) (by omega) (by omega) (by omega)).mono ?_
    rintro e w4 ⟨rfl, c5, hc4, hc4', hH4, hK4⟩
    have B6 := hid ((hK4.block w.heap.size (lt_of_block B4.out) (by simp; have := HL.out; omega)).trans B4.out)
    have X6 := hid (X4.out.keep hK4)
    have K6 := hid ((K3.out.trans A4.out.nil).trans hK4)
    have H6 := hid hH4
    clear hH4 hK4 q1 q2
    have q1 := X6.out.c1
    have q2 := X6.out.c2
    have u1 := cell_two0 B6.out
    have u2 := cell_two1 B6.out
    have u4 := free_two (i := 1) B6.out
    have hne : w.heap.size ≠ w3.heap.size := by omega
    go_wp2_with fail
    obtain ⟨w5, hw5⟩ : ∃ w5, w4.setCell ⟨w.heap.size, 1, none⟩ (.int .i64 (z + s)) = w5 := ⟨_, rfl⟩
    have kk : Kp w4 w5 [w.heap.size] := by rw [← hw5]; exact Kp.setCell _ ⟨w.heap.size, 1, none⟩ _
    have B5 := hid (show w5.heap[w.heap.size]? = some (.cells #[.int .i64 a, .int .i64 (z + s)] 87 (0, 0)) by rw [← hw5]; exact stored1 B6.out)
    have H5 := hid (H6.out.keep kk (by simp; have := HL.out; omega) (by simp; have := HL.out; omega) (by simp; have := HL.out; omega) (by simp; have := HL.out; omega) (by simp; have := HL.out; omega))
    have K5 := hid (K6.out.past kk (by intro k hk hlt; simp at hk; omega))
    rw [hw5]
    have Z5 := hid (show (z + s) % 8 = 0 by have := F8.out; have := Z8.out; omega)
    have hz1' : 16 ≤ z + s ∧ a + (z + s) ≤ n := by omega
    obtain ⟨z1, hz1⟩ : ∃ z1, z + s = z1 := ⟨_, rfl⟩
    obtain ⟨g1, hg1⟩ : ∃ g1, takeOut n g (a + z) s = g1 := ⟨_, rfl⟩
    rw [hg1, hz1] at hr
    rw [hg1] at H5
    rw [hz1] at B5 Z5 hz1'
    have hc5 : c5 ≤ c + 9 := by omega
    have hc5' : c ≤ c5 := by omega
    have R := hid hr
    clear u1 u2 u4 q1 q2 kk hw5 hg1 hr
    have u1 := cell_two0 B5.out
    have u2 := cell_two1 B5.out
  all_goals
    obtain ⟨x, hx⟩ : ∃ x, rd n g1 (a + 4) = x := ⟨_, rfl⟩
    have hx0 := H5.out.range (a + 4)
    have R1 := R.out
    unfold freed2 at R1
    rw [hx] at hx0 R1
    have HX := hid hx
    have R2 := hid R1
    clear hx R1
    refine (word_any w5 hb rb mb pb n g1 c5 P (a + 4) H5.out (by omega) (by omega)).mono ?_
    rintro e w6 ⟨rfl, c6, hc6, hc6', hH6, hK6⟩
    rw [HX.out]
    have B6' := hid ((hK6.block w.heap.size (lt_of_block B5.out) (by simp; have := HL.out; omega)).trans B5.out)
    have K6' := hid (show Kp w w6 [rb, mb] from K5.out.trans (hK6.mono (by simp)))
    have H6' := hid hH6
    clear hH6 hK6 u1 u2
    go_wp2_with fail
    refine (freeAt_any w6 hb rb mb pb n g1 c6 P x H6'.out (by omega) (by omega) (by omega)).mono ?_
    rintro e w7 ⟨rfl, c7, hc7, hc7', hH7, hK7⟩
    have B7 := hid ((hK7.block w.heap.size (lt_of_block B6'.out) (by simp; have := HL.out; omega)).trans B6'.out)
    have K7 := hid (show Kp w w7 [rb, mb] from K6'.out.trans (hK7.mono (by simp)))
    have H7 := hid hH7
    clear hH7 hK7
    have hs7 : w.heap.size < w7.heap.size := lt_of_block B7.out
    cases hf : freeAt n g1 P x with
    | none =>
      have E := hid (show r = putIn n g1 a z1 by rw [← R2.out, hf])
      have A8 := hid (Kp.alloc w7 (.cells #[.int .i64 0, .int .i64 0] 87) [])
      have B8 := hid ((A8.out.block w.heap.size hs7 (by simp)).trans B7.out)
      have H8 := hid (H7.out.same A8.out)
      have u1 := cell_two0 B8.out
      have u2 := cell_two1 B8.out
      clear hf
      simp only [freeAns]
      go_wp2_with fail
      refine wp_region_quiet_lit (by kernel_rfl) (by kernel_rfl) ?_
      repeat (first | go_big_quiet_step (fail) | quiet_step (fail))
      refine wpQuiet_nil ?_
      rintro _ ⟨nq, rfl⟩
      go_wp2_with fail
      refine (putIn_any _ hb rb mb pb n _ c7 P a z1 (H8.out.same (Kp.drewN _ _ _)) (by omega) (by omega) (by omega) (by omega) (by omega) (by exact Z5.out)).mono ?_
      rintro e w9 ⟨rfl, c9, hc9, hc9', hH9, hK9⟩
      have W9 := hid (show Went w w9 hb rb mb pb n r P c 29 [rb, mb] from ⟨c9, by omega, by omega, by rw [E.out]; exact hH9, ((K7.out.trans A8.out.nil).trans (Kp.drewN _ _ _)).trans hK9⟩)
      clear hH9 hK9
      go_wp2_with fail
      refine bodyPost_end (results_none rfl _ _ _) rfl ?_
      exact ⟨rfl, W9.out⟩
    | some t =>
      have F := freeAt_some hf
      have F8 := hid F.2.2.2.2.1
      have ht0 : 16 ≤ t ∧ 112 ≤ x ∧ x + t ≤ n := by omega
      have R3 := R2.out
      rw [hf] at R3
      have R3' := hid (show r = if x + t = a then putIn n (takeOut n g1 x t) x (t + z1) else putIn n g1 a z1 from R3.symm)
      clear F hf R3
      have A8 := hid (Kp.alloc w7 (.cells #[.int .i64 x, .int .i64 t] 87) [])
      have B8 := hid ((A8.out.block w.heap.size hs7 (by simp)).trans B7.out)
      have X8 := hid (heap_alloc_new w7 (.cells #[.int .i64 x, .int .i64 t] 87))
      have H8 := hid (H7.out.same A8.out)
      simp only [freeAns]
      go_wp2_with fail
      obtain ⟨W8, hW8⟩ : ∃ W8, w7.alloc (.cells #[.int .i64 x, .int .i64 t] 87) = W8 := ⟨_, rfl⟩
      rw [hW8] at A8 B8 X8 H8 ⊢
      have S8 := hid (show ∀ W, Kp W8 W [] → W.cell? ⟨w.heap.size, 0, none⟩ = some (.int .i64 a) ∧ W.cell? ⟨w7.heap.size, 0, none⟩ = some (.int .i64 x) ∧ W.cell? ⟨w7.heap.size, 1, none⟩ = some (.int .i64 t) from
        fun W hW => ⟨hW.cell (cell_two0 B8.out) (by simp), hW.cell (cell_two0 X8.out) (by simp), hW.cell (cell_two1 X8.out) (by simp)⟩)
      clear hW8
      go_region_held (fun w' => w'.cell? ⟨w.heap.size, 0, none⟩ = some (.int .i64 a) ∧ w'.cell? ⟨w7.heap.size, 0, none⟩ = some (.int .i64 x) ∧ w'.cell? ⟨w7.heap.size, 1, none⟩ = some (.int .i64 t))
        (first
          | exact S8.out _ (Kp.drew _ _)
          | exact S8.out _ ((Kp.drew _ _).trans hK9))
        ((go_at_call 62; refine (end_any _ x t (by omega) (by omega) (by omega) (by omega)).mono ?_; rintro e w9 ⟨rfl, hK9⟩))
      have K9 := hid (show Kp W8 w9 [] from (Kp.drew _ _).trans hK9)
      have B9 := hid ((K9.out.block w.heap.size (lt_of_block B8.out) (by simp)).trans B8.out)
      have X9 := hid ((K9.out.block w7.heap.size (lt_of_block X8.out) (by simp)).trans X8.out)
      have H9 := hid (H8.out.same K9.out)
      have KA := hid ((K7.out.trans A8.out.nil).trans K9.out.nil)
      clear hK9
      by_cases hxa : x + t = a
      · have txa : (x + t == a) = true := by simp [hxa]
        have E := hid (show r = putIn n (takeOut n g1 x t) x (t + z1) by rw [R3'.out, if_pos hxa])
        have hxa' : x + t ≤ a := by omega
        clear hxa
        have q1 := cell_two0 X9.out
        have q2 := cell_two1 X9.out
        go_wp2_with fail
        refine (takeOut_any w9 hb rb mb pb n g1 c7 P x t H9.out (by omega) (by omega) (by omega) (by omega) (by omega)).mono ?_
        rintro e wB ⟨rfl, cD, hcB, hcB', hHB, hKB⟩
        have BB := hid ((hKB.block w.heap.size (lt_of_block B9.out) (by simp; have := HL.out; omega)).trans B9.out)
        have XB := hid ((hKB.block w7.heap.size (lt_of_block X9.out) (by simp; have := HL.out; omega)).trans X9.out)
        have HB := hid hHB
        have KB := hid (KA.out.trans hKB)
        clear hHB hKB q1 q2
        have q1 := cell_two0 XB.out
        have q2 := cell_two1 XB.out
        have u1 := cell_two0 BB.out
        have u2 := cell_two1 BB.out
        have u3 := free_two (i := 0) BB.out
        have u4 := free_two (i := 1) BB.out
        have kk := Kp.two wB w.heap.size (.int .i64 x) (.int .i64 (t + z1))
        have HD := hid (HB.out.keep kk (by simp; have := HL.out; omega) (by simp; have := HL.out; omega) (by simp; have := HL.out; omega) (by simp; have := HL.out; omega) (by simp; have := HL.out; omega))
        have KD := hid (KB.out.past kk (by intro k hk hlt; simp at hk; omega))
        have v1 := cell_two0 (stored2 (a := .int .i64 x) (b := .int .i64 (t + z1)) BB.out)
        have v2 := cell_two1 (stored2 (a := .int .i64 x) (b := .int .i64 (t + z1)) BB.out)
        clear kk
        go_wp2_with fail
        refine (putIn_any _ hb rb mb pb n _ cD P x (t + z1) HD.out (by omega) (by omega) (by omega) (by omega) (by omega) (by have := F8.out; have := Z5.out; omega)).mono ?_
        rintro e wE ⟨rfl, cE, hcE, hcE', hHE, hKE⟩
        have WE := hid (show Went w wE hb rb mb pb n r P c 29 [rb, mb] from ⟨cE, by omega, by omega, by rw [E.out]; exact hHE, KD.out.trans hKE⟩)
        clear hHE hKE
        go_wp2_with fail
        refine bodyPost_end (results_none rfl _ _ _) rfl ?_
        exact ⟨rfl, WE.out⟩
      · have txa : (x + t == a) = false := by simp [hxa]
        have E := hid (show r = putIn n g1 a z1 by rw [R3'.out, if_neg hxa])
        clear hxa
        have u1 := cell_two0 B9.out
        have u2 := cell_two1 B9.out
        go_wp2_with fail
        refine (putIn_any _ hb rb mb pb n _ c7 P a z1 H9.out (by omega) (by omega) (by omega) (by omega) (by omega) (by exact Z5.out)).mono ?_
        rintro e wE ⟨rfl, cE, hcE, hcE', hHE, hKE⟩
        have WE := hid (show Went w wE hb rb mb pb n r P c 29 [rb, mb] from ⟨cE, by omega, by omega, by rw [E.out]; exact hHE, KA.out.trans hKE⟩)
        clear hHE hKE
        go_wp2_with fail
        refine bodyPost_end (results_none rfl _ _ _) rfl ?_
        exact ⟨rfl, WE.out⟩
end Go.Proofs.YtgefmnnkpffpcaaGreatDoor
