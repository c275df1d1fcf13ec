/- find: the first block that is sure to be great enough. -/
import Derived.Test.YtgefmnnkpffpcaaGreatDoorHfreeAt
namespace Go.Proofs.YtgefmnnkpffpcaaGreatDoor
open Go.RowKit Go.Maps

theorem shift_bit (v k i : Nat) : (v / 2 ^ k * 2 ^ k).testBit i = (decide (k ≤ i) && v.testBit i) := by
  rw [Nat.testBit_mul_two_pow]
  by_cases h : k ≤ i
  · simp only [h, decide_true, Bool.true_and]; rw [Nat.testBit_div_two_pow, show i - k + k = i by omega]
  · simp [h]
theorem low_none (v k : Nat) (h : v / 2 ^ k * 2 ^ k = 0) : lowBit v k = 32 := by
  unfold lowBit
  have : (List.range 32).find? (fun c => decide (k ≤ c) && v.testBit c) = none := by
    rw [List.find?_eq_none]
    intro i _
    rw [← shift_bit, h]; simp
  rw [this]; rfl
theorem low_some (v k j m : Nat) (h : v / 2 ^ k * 2 ^ k = 2 ^ j * (2 * m + 1)) (hj : j < 32) : lowBit v k = j := by
  unfold lowBit
  have hb : ∀ i, (decide (k ≤ i) && v.testBit i) = (decide (j ≤ i) && (2 * m + 1).testBit (i - j)) := fun i => by
    rw [← shift_bit, h, Nat.mul_comm, Nat.testBit_mul_two_pow]
  have : (List.range 32).find? (fun c => decide (k ≤ c) && v.testBit c) = some j := by
    rw [List.find?_range_eq_some]
    refine ⟨?_, by simpa using hj, fun i hi => ?_⟩
    · rw [hb]; simp
    · rw [hb, decide_eq_false (by omega)]; rfl
  rw [this]; rfl

theorem clsFor_range {z : Int} (h0 : 16 ≤ z) (h1 : z < 500000) : ∃ k : Nat, clsFor z = k ∧ k < 32 := by
  unfold clsFor
  have := pow_half (z := z) (by omega)
  exact cls_range (by omega) (by omega)

theorem tz_low (w : World) (v k : Nat) (hv : v < 4294967296) (ht : Tb w) : Calls Tryz.prog 94 #[.int .u32 ((v / 2 ^ k * 2 ^ k : Nat) : Int)] w fun e w' => e = .returned (.int .i64 (lowBit v k)) ∧ w' = w := by
  have hle : v / 2 ^ k * 2 ^ k ≤ v := Nat.div_mul_le_self _ _
  by_cases h : v / 2 ^ k * 2 ^ k = 0
  · rw [low_none v k h, h]; exact tz_none w
  · obtain ⟨j, m, e⟩ := odd_part _ h
    have hj : j < 32 := by
      have : 2 ^ j < 2 ^ 32 := Nat.lt_of_le_of_lt (Nat.le_mul_of_pos_right (2 ^ j) (show 0 < 2 * m + 1 by omega)) (show 2 ^ j * (2 * m + 1) < 2 ^ 32 by omega)
      exact (Nat.pow_lt_pow_iff_right (by decide)).1 this
    rw [low_some v k j m e hj]
    exact tz_some w _ j m (by rw [e]) (by omega) ht
theorem shift_cast (v k : Nat) (hv : v < 4294967296) : (v : Int) / 2 ^ k * 2 ^ k % 4294967296 = ((v / 2 ^ k * 2 ^ k : Nat) : Int) := by
  have hle : v / 2 ^ k * 2 ^ k ≤ v := Nat.div_mul_le_self _ _
  have e : (v : Int) / 2 ^ k * 2 ^ k = ((v / 2 ^ k * 2 ^ k : Nat) : Int) := by push_cast; rfl
  rw [e]; omega
theorem freeAt_some {n : Nat} {g : Mem} {P : Pcs} {a s : Int} (h : freeAt n g P a = some s) : 112 ≤ a ∧ a % 8 = 0 ∧ 16 ≤ s ∧ s ≤ n - a ∧ s % 8 = 0 ∧ rd n g a = s + 1 ∧ hasP P (a + 8) = false := by
  unfold freeAt at h
  split at h
  · simp at h
  · rename_i hn
    simp only [Bool.or_eq_true, Bool.not_eq_true', not_or, Bool.not_eq_true, Bool.not_eq_false] at hn
    obtain ⟨⟨h1, h2⟩, h3⟩ := hn
    simp only [Option.some.injEq] at h
    have h4 := of_decide_eq_true h3
    have h5 : rd n g a % 8 = 1 := by simpa using h2
    rw [h] at h4
    exact ⟨h4.1, h4.2.1, h4.2.2.1, h4.2.2.2, by omega, by omega, h1⟩

theorem Went.after {w w' w'' : World} {hb rb mb pb n : Nat} {g : Mem} {P : Pcs} {c k : Int} {rows : List Nat} (h : Went w w' hb rb mb pb n g P c k rows) (hk : Kp w' w'' []) : Went w w'' hb rb mb pb n g P c k rows := by
  obtain ⟨c', h1, h2, h3, h4⟩ := h
  exact ⟨c', h1, h2, h3.same hk, h4.trans hk.nil⟩

/-- What find answers. -/
def findAns : Option (Int × Int × Mem) → Value
  | some (a, s, _) => .tuple #[.agg #[.int .i64 a, .int .i64 s], .bool true]
  | none => .tuple #[.agg #[.int .i64 0, .int .i64 0], .bool false]
def findMem (g : Mem) : Option (Int × Int × Mem) → Mem
  | some (_, _, g') => g'
  | none => g

set_option maxRecDepth 100000 in
set_option maxHeartbeats 2000000 in
theorem find_any (w : World) (hb rb mb pb n : Nat) (g : Mem) (c : Int) (P : Pcs) (z : Int) (h : Hp w hb rb mb pb n g c P) (hc : c < 1152921504606846000) (hz0 : 16 ≤ z) (hz1 : z < 500000) :
    Calls Tryz.prog 55 #[.pointer (some ⟨hb, 0, none⟩), .int .i64 z] w fun e w' => e = .returned (findAns (find n g P z)) ∧ Went w w' hb rb mb pb n (findMem g (find n g P z)) P c 11 [rb, mb] := by
  obtain ⟨k, hk, hk32⟩ := clsFor_range hz0 hz1
  obtain ⟨r, hr⟩ : ∃ r, r = find n g P z := ⟨_, rfl⟩
  rw [← hr]
  unfold find at hr
  rw [hk, Int.toNat_natCast] at hr
  obtain ⟨v, hv⟩ : ∃ v : Nat, rd n g 0 = v := ⟨(rd n g 0).toNat, by have := h.range 0; omega⟩
  have hv1 : v < 4294967296 := by have := h.range 0; omega
  rw [hv, Int.toNat_natCast] at hr
  have R := hid hr
  have HK := hid hk
  have HV := hid hv
  have HL := hid h.lt
  have W1 := hid (Kp.alloc w (.cells #[.int .i64 0, .int .i64 0] 87) [])
  have B1 := hid (heap_alloc_new w (.cells #[.int .i64 0, .int .i64 0] 87))
  have H1 := hid (h.same W1.out)
  clear h hr hk hv
  go_enter Tryz.func55, Tryz.ntmps55
  go_wp2_with fail
  refine (classFor_any _ z (by omega) (by omega)).mono ?_
  rintro e w' ⟨rfl, hE⟩
  rw [hE]
  clear hE
  rw [HK.out]
  go_wp2_with fail
  refine (word_any _ hb rb mb pb n g c P 0 H1.out (by omega) (by omega)).mono ?_
  rintro e w2 ⟨rfl, c2, hc2, hc2', hH2, hK2⟩
  rw [HV.out]
  have B2 := hid ((hK2.block w.heap.size (by simp) (by simp; have := HL.out; omega)).trans B1.out)
  have K2 := hid (show Kp w w2 [rb] from W1.out.nil.trans hK2)
  have H2 := hid hH2
  clear hH2 hK2
  go_wp2_with fail
  rw [shift_cast v k hv1]
  refine (tz_low w2 v k hv1 H2.out.tb).mono ?_
  rintro e w' ⟨rfl, hE⟩
  rw [hE]
  clear hE
  obtain ⟨j, hj⟩ : ∃ j, lowBit v k = j := ⟨_, rfl⟩
  have R1 := R.out
  rw [hj] at R1 ⊢
  have R := hid R1
  clear R1 hj
  have u1 := cell_two0 B2.out
  have u2 := cell_two1 B2.out
  have u3 := free_two (i := 0) B2.out
  have u4 := free_two (i := 1) B2.out
  by_cases h24 : 24 ≤ j
  · have E := hid (show r = none by rw [R.out, if_pos h24])
    have W2 := hid (show Went w w2 hb rb mb pb n g P c 11 [rb, mb] from ⟨c2, hc2, by omega, H2.out, K2.out.mono (by simp)⟩)
    have h24' : (24 : Int) ≤ j := by omega
    go_wp2_with fail
    have v1 := cell_two0 (stored2 (a := .int .i64 0) (b := .int .i64 0) B2.out)
    have v2 := cell_two1 (stored2 (a := .int .i64 0) (b := .int .i64 0) B2.out)
    refine bodyPost_ret (v := .tuple #[.agg #[.int .i64 0, .int .i64 0], .bool false]) (by simp [results, Tryz.results55, go_sem, v1, v2]) rfl ⟨by rw [E.out]; rfl, ?_⟩
    rw [E.out]
    exact W2.out.store _ _ HL.out (Nat.le_refl _)
  · have h24' : (j : Int) < 24 := by omega
    obtain ⟨a, ha⟩ : ∃ a, rd n g (4 + (j : Int) * 4) = a := ⟨_, rfl⟩
    have R1 := R.out
    rw [if_neg h24, ha] at R1
    have R := hid R1
    have ha0 := H2.out.range (4 + (j : Int) * 4)
    rw [ha] at ha0
    have HA := hid ha
    clear R1 ha h24
    go_wp2_with fail
    refine (firstAt_any w2 j (by omega) (by omega)).mono ?_
    rintro e w' ⟨rfl, hE⟩
    rw [hE]
    clear hE
    go_wp2_with fail
    refine (word_any w2 hb rb mb pb n g c2 P (4 + (j : Int) * 4) H2.out (by omega) (by omega)).mono ?_
    rintro e w3 ⟨rfl, c3, hc3, hc3', hH3, hK3⟩
    rw [HA.out]
    have B3 := hid ((hK3.block w.heap.size (lt_of_block B2.out) (by simp; have := HL.out; omega)).trans B2.out)
    have K3 := hid (show Kp w w3 [rb] from K2.out.trans hK3)
    have H3 := hid hH3
    clear hH3 hK3 u1 u2 u3 u4
    go_wp2_with fail
    refine (freeAt_any w3 hb rb mb pb n g c3 P a H3.out (by omega) (by omega) (by omega)).mono ?_
    rintro e w4 ⟨rfl, c4, hc4, hc4', hH4, hK4⟩
    have B4 := hid ((hK4.block w.heap.size (lt_of_block B3.out) (by simp; have := HL.out; omega)).trans B3.out)
    have K4 := hid (show Kp w w4 [rb] from K3.out.trans hK4)
    have H4 := hid hH4
    clear hH4 hK4
    have u1 := cell_two0 B4.out
    have u2 := cell_two1 B4.out
    have u3 := free_two (i := 0) B4.out
    have u4 := free_two (i := 1) B4.out
    have hs4 : w.heap.size < w4.heap.size := lt_of_block B4.out
    cases hf : freeAt n g P a with
    | none =>
      have E := hid (show r = none by rw [R.out, hf])
      have W4 := hid (show Went w w4 hb rb mb pb n g P c 11 [rb, mb] from ⟨c4, by omega, by omega, H4.out, K4.out.mono (by simp)⟩)
      clear hf
      simp only [freeAns]
      go_wp2_with fail
      have v1 := cell_past (o := .cells #[.int .i64 0, .int .i64 0] 87) (cell_two0 (stored2 (a := .int .i64 0) (b := .int .i64 0) B4.out))
      have v2 := cell_past (o := .cells #[.int .i64 0, .int .i64 0] 87) (cell_two1 (stored2 (a := .int .i64 0) (b := .int .i64 0) B4.out))
      refine bodyPost_ret (v := .tuple #[.agg #[.int .i64 0, .int .i64 0], .bool false]) (by simp [results, Tryz.results55, go_sem, v1, v2]) rfl ⟨by rw [E.out]; rfl, ?_⟩
      rw [E.out]
      exact (W4.out.store _ _ HL.out (Nat.le_refl _)).after (Kp.alloc _ _ _)
    | some s =>
      have F := freeAt_some hf
      have R1 := R.out
      rw [hf] at R1
      have R := hid R1
      clear R1 hf
      simp only [freeAns]
      have hn4 := H4.out.nb
      have C4 := hid (show 16 ≤ s ∧ s < 1048576 ∧ 112 ≤ a ∧ a < 1048576 by omega)
      have hs0 : 16 ≤ s ∧ s < 1048576 := by omega
      clear F
      go_wp2_with fail
      refine (classOf_any _ s (by omega) (by omega)).mono ?_
      rintro e w' ⟨rfl, hE⟩
      rw [hE]
      clear hE
      obtain ⟨q, hq⟩ : ∃ q, cls s = q := ⟨_, rfl⟩
      have R1 := R.out
      rw [hq] at R1 ⊢
      have R := hid R1
      clear R1 hq
      by_cases hqj : q = j
      · have tq : (q != (j : Int)) = false := by simp [hqj]
        have E := hid (show r = some (a, s, takeOut n g a s) by rw [R.out, if_pos hqj])
        have A4 := hid (Kp.alloc w4 (.cells #[.int .i64 a, .int .i64 s] 87) [])
        have H5 := hid (H4.out.same A4.out)
        have D5 := hid ((A4.out.block w.heap.size hs4 (by simp)).trans B4.out)
        have X5 := hid (Bx.new (w := w4) (a := a) (z := s) (t := 87) H4.out.lt.2.1 H4.out.lt.2.2.1)
        have q1 := X5.out.c1
        have q2 := X5.out.c2
        clear hqj
        go_wp2_with fail
        refine (takeOut_any _ hb rb mb pb n g c4 P a s H5.out (by omega) (by have := C4.out; omega) (by have := C4.out; omega) (by omega) (by omega)).mono ?_
        rintro e w6 ⟨rfl, c6, hc6, hc6', hH6, hK6⟩
        have B6 := hid ((hK6.block w.heap.size (lt_of_block D5.out) (by simp; have := HL.out; omega)).trans D5.out)
        have X6 := hid (X5.out.keep hK6)
        have W6 := hid (show Went w w6 hb rb mb pb n (takeOut n g a s) P c 11 [rb, mb] from ⟨c6, by omega, by omega, hH6, ((K4.out.mono (by simp)).trans A4.out.nil).trans hK6⟩)
        clear hH6 hK6 u1 u2 u3 u4 q1 q2
        have u1 := cell_two0 B6.out
        have u2 := cell_two1 B6.out
        have u3 := free_two (i := 0) B6.out
        have u4 := free_two (i := 1) B6.out
        have q1 := X6.out.c1
        have q2 := X6.out.c2
        go_wp2_with fail
        have v1 := cell_two0 (stored2 (a := .int .i64 a) (b := .int .i64 s) B6.out)
        have v2 := cell_two1 (stored2 (a := .int .i64 a) (b := .int .i64 s) B6.out)
        refine bodyPost_ret (v := .tuple #[.agg #[.int .i64 a, .int .i64 s], .bool true]) (by simp [results, Tryz.results55, go_sem, v1, v2]) rfl ⟨by rw [E.out]; rfl, ?_⟩
        rw [E.out]
        exact W6.out.store _ _ HL.out (Nat.le_refl _)
      · have tq : (q != (j : Int)) = true := by simp [hqj]
        have E := hid (show r = none by rw [R.out, if_neg hqj])
        have W4 := hid (show Went w w4 hb rb mb pb n g P c 11 [rb, mb] from ⟨c4, by omega, by omega, H4.out, K4.out.mono (by simp)⟩)
        clear hqj
        go_wp2_with fail
        have v1 := cell_past (o := .cells #[.int .i64 a, .int .i64 s] 87) (cell_two0 (stored2 (a := .int .i64 0) (b := .int .i64 0) B4.out))
        have v2 := cell_past (o := .cells #[.int .i64 a, .int .i64 s] 87) (cell_two1 (stored2 (a := .int .i64 0) (b := .int .i64 0) B4.out))
        refine bodyPost_ret (v := .tuple #[.agg #[.int .i64 0, .int .i64 0], .bool false]) (by simp [results, Tryz.results55, go_sem, v1, v2]) rfl ⟨by rw [E.out]; rfl, ?_⟩
        rw [E.out]
        exact (W4.out.store _ _ HL.out (Nat.le_refl _)).after (Kp.alloc _ _ _)
end Go.Proofs.YtgefmnnkpffpcaaGreatDoor
