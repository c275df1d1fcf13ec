/- blockOf, Free, Size. -/
import Derived.Test.YtgefmnnkpffpcaaGreatDoorHgiveJ
namespace Go.Proofs.YtgefmnnkpffpcaaGreatDoor
open Go.RowKit Go.Maps

set_option maxRecDepth 100000 in
theorem blockOf_no (w : World) (hb rb mb pb n : Nat) (g : Mem) (c : Int) (P : Pcs) (o : Int) (h : Hp w hb rb mb pb n g c P) (h0 : -9223372036854775808 ≤ o) (h1 : o ≤ 9223372036854775807) (hp : hasP P o = false) :
    Calls Tryz.prog 63 #[.pointer (some ⟨hb, 0, none⟩), .int .i64 o] w fun e w' => e = .returned (.tuple #[.agg #[.int .i64 0, .int .i64 0], .int .i64 6]) ∧ Kp w w' [] := by
  have A1 := Kp.alloc w (.cells #[.int .i64 0, .int .i64 0] 87) []
  have H1 := h.same A1
  have q0 := H1.c0cell
  have q1 := H1.c1cell
  have lk := H1.mp.look h0 h1
  rw [hp] at lk
  have K := hid A1
  clear h A1 H1 hp
  go_enter Tryz.func63, Tryz.ntmps63
  go_wp2_with (go_at_call 51; go_in)
  refine bodyPost_ret (v := .tuple #[.agg #[.int .i64 0, .int .i64 0], .int .i64 6]) (by simp [results, Tryz.results63, go_sem]) rfl ⟨rfl, K.out⟩

set_option maxRecDepth 100000 in
theorem blockOf_ok (w : World) (hb rb mb pb n : Nat) (g : Mem) (c : Int) (P : Pcs) (o : Int) (h : Hp w hb rb mb pb n g c P) (h0 : 0 ≤ o) (h1 : o < 4611686018427387904) (hp : hasP P o = true) :
    Calls Tryz.prog 63 #[.pointer (some ⟨hb, 0, none⟩), .int .i64 o] w fun e w' => e = .returned (.tuple #[.agg #[.int .i64 (o - 8), .int .i64 (getP P o)], .int .i64 0]) ∧ Kp w w' [] := by
  have A1 := Kp.alloc w (.cells #[.int .i64 0, .int .i64 0] 87) []
  have H1 := h.same A1
  have q0 := H1.c0cell
  have q1 := H1.c1cell
  have lk := H1.mp.look (k := o) (by omega) (by omega)
  rw [hp] at lk
  obtain ⟨z, hz⟩ : ∃ z, getP P o = z := ⟨_, rfl⟩
  rw [hz] at lk ⊢
  have K := hid (Kp.alloc w (.cells #[.int .i64 (o - 8), .int .i64 z] 87) [])
  clear h A1 H1 hp hz
  go_enter Tryz.func63, Tryz.ntmps63
  go_wp2_with (go_at_call 51; go_in)
  refine bodyPost_ret (v := .tuple #[.agg #[.int .i64 (o - 8), .int .i64 z], .int .i64 0]) (by simp [results, Tryz.results63, go_sem]) rfl ⟨rfl, K.out⟩

set_option maxRecDepth 100000 in
theorem size_no (w : World) (hb rb mb pb n : Nat) (g : Mem) (c : Int) (P : Pcs) (o : Int) (h : Hp w hb rb mb pb n g c P) (h0 : -9223372036854775808 ≤ o) (h1 : o ≤ 9223372036854775807) (hp : hasP P o = false) :
    Calls Tryz.prog 30 #[.pointer (some ⟨hb, 0, none⟩), .int .i64 o] w fun e w' => e = .returned (.tuple #[.int .i64 0, .int .i64 6]) ∧ Kp w w' [] := by
  go_enter Tryz.func30, Tryz.ntmps30
  go_wp2_with fail
  refine (blockOf_no w hb rb mb pb n g c P o h h0 h1 hp).mono ?_
  rintro e w1 ⟨rfl, hK1⟩
  go_wp2
  go_ret2
  exact ⟨rfl, hK1.trans (Kp.alloc _ _ _)⟩
set_option maxRecDepth 100000 in
theorem hsize_ok (w : World) (hb rb mb pb n : Nat) (g : Mem) (c : Int) (P : Pcs) (o z : Int) (h : Hp w hb rb mb pb n g c P) (h0 : 0 ≤ o) (h1 : o < 4611686018427387904) (hp : hasP P o = true) (hz : getP P o = z) (hz0 : 0 ≤ z) (hz1 : z < 4611686018427387904) :
    Calls Tryz.prog 30 #[.pointer (some ⟨hb, 0, none⟩), .int .i64 o] w fun e w' => e = .returned (.tuple #[.int .i64 (z - 8), .int .i64 0]) ∧ Kp w w' [] := by
  have HZ := hid hz
  clear hz
  go_enter Tryz.func30, Tryz.ntmps30
  go_wp2_with fail
  refine (blockOf_ok w hb rb mb pb n g c P o h h0 h1 hp).mono ?_
  rintro e w1 ⟨rfl, hK1⟩
  rw [HZ.out]
  go_wp2
  go_ret2
  exact ⟨rfl, hK1.trans (Kp.alloc _ _ _)⟩

set_option maxRecDepth 100000 in
theorem hfree_no (w : World) (hb rb mb pb n : Nat) (g : Mem) (c : Int) (P : Pcs) (o : Int) (h : Hp w hb rb mb pb n g c P) (h0 : -9223372036854775808 ≤ o) (h1 : o ≤ 9223372036854775807) (hp : hasP P o = false) :
    Calls Tryz.prog 21 #[.pointer (some ⟨hb, 0, none⟩), .int .i64 o] w fun e w' => e = .returned (.int .i64 6) ∧ Kp w w' [] := by
  go_enter Tryz.func21, Tryz.ntmps21
  go_wp2_with fail
  refine (blockOf_no w hb rb mb pb n g c P o h h0 h1 hp).mono ?_
  rintro e w1 ⟨rfl, hK1⟩
  go_wp2
  go_ret
  exact ⟨rfl, hK1.trans (Kp.alloc _ _ _)⟩

set_option maxRecDepth 100000 in
set_option maxHeartbeats 1000000 in
theorem hfree_ok (w : World) (hb rb mb pb n : Nat) (g : Mem) (c : Int) (P : Pcs) (o z : Int) (h : Hp w hb rb mb pb n g c P) (hc : c < 1152921504606830000) (h0 : 8 ≤ o) (hp : hasP P o = true) (hz : getP P o = z) (hz0 : 16 ≤ z) (hz8 : z % 8 = 0) (hon : o - 8 + z ≤ n) :
    Calls Tryz.prog 21 #[.pointer (some ⟨hb, 0, none⟩), .int .i64 o] w fun e w' => e = .returned (.int .i64 0) ∧ Went w w' hb rb mb pb n (freed n g (delP P o) (o - 8) z) (delP P o) c 29 [rb, mb, pb] := by
  have HZ := hid hz
  have hnb := h.nb
  have H := hid h
  have HP := hid hp
  have Z8 := hid hz8
  have HL := hid h.lt
  clear hz h hp hz8
  go_enter Tryz.func21, Tryz.ntmps21
  go_wp2_with fail
  refine (blockOf_ok w hb rb mb pb n g c P o H.out (by omega) (by omega) HP.out).mono ?_
  rintro e w1 ⟨rfl, hK1⟩
  rw [HZ.out]
  have A2 := hid (hK1.trans (Kp.alloc w1 (.cells #[.int .i64 (o - 8), .int .i64 z] 87) []))
  have H2 := hid (H.out.same A2.out)
  have hs1 := hK1.size
  have X2 := hid (heap_alloc_new w1 (.cells #[.int .i64 (o - 8), .int .i64 z] 87))
  have q1 := H2.out.c1cell
  clear hK1
  have NE := hid (show w1.heap.size ∉ [pb] by simp; have := HL.out; omega)
  have DD := hid (dat_del P o)
  go_wp2_with (at_delete; refine wpList_delete_own _ rfl _ _ 65 3 rfl 3 keyed3 Tryz.underlying65 _ pb _ _ rfl H2.out.mp _ _ rfl (keyOf_int_mk Tryz.underlying3 (wf64 (by omega) (by omega))) ?_; intro w3 hown3 hturn3; rw [DD.out] at hown3; have M3 := hid (Mp.of_owns hown3); have KK3 := hid (Kp.turned hturn3); have e1 := KK3.out.cell (cell_two0 X2.out) NE.out; have e2 := KK3.out.cell (cell_two1 X2.out) NE.out; clear hown3 hturn3)
  refine (free_any w3 hb rb mb pb n g c (delP P o) (o - 8) z (H2.out.remap KK3.out M3.out) (by omega) (by omega) (by omega) Z8.out (by omega)).mono ?_
  rintro e w4 ⟨rfl, c4, hc4, hc4', hH4, hK4⟩
  have W4 := hid (show Went w w4 hb rb mb pb n (freed n g (delP P o) (o - 8) z) (delP P o) c 29 [rb, mb, pb] from ⟨c4, by omega, by omega, hH4, (A2.out.nil.trans (KK3.out.mono (by simp))).trans (hK4.mono (by simp))⟩)
  clear hH4 hK4
  go_wp2
  go_ret
  exact ⟨rfl, W4.out⟩
end Go.Proofs.YtgefmnnkpffpcaaGreatDoor

/- New: a heap over an arena. -/
namespace Go.Proofs.YtgefmnnkpffpcaaGreatDoor
open Go.RowKit Go.Maps

/-- The words of a heap that is new. -/
def fresh0 (n : Nat) : Mem := putIn n (fun _ => 0) 112 (n - 112)
theorem over_zero (f : Nat → Int) (n i : Nat) (h : i < n) : over f 0 (List.replicate n 0) i = 0 := by
  unfold over
  rw [if_pos ⟨Nat.zero_le _, by simpa using h⟩]
  simp [h]
theorem byt_zero (n : Nat) : Byt (List.replicate n 0) := by
  intro x hx
  have := List.eq_of_mem_replicate hx
  omega

set_option maxRecDepth 100000 in
set_option maxHeartbeats 1000000 in
theorem hnew_ok (w : World) (rb mb n : Nat) (f : Nat → Int) (c : Int) (h : Ar w rb mb n f c) (hn : Good n) (hc0 : 0 ≤ c) (hc : c < 1000000) (ht : Tb w) (hz : rb ≠ 0 ∧ mb ≠ 0) :
    Calls Tryz.prog 25 #[.pointer (some ⟨rb, 0, none⟩)] w fun e w' => ∃ hb pb, e = .returned (.tuple #[.pointer (some ⟨hb, 0, none⟩), .int .i64 0]) ∧ Went w w' hb rb mb pb n (fresh0 n) [] c 10 [rb, mb] ∧ w.heap.size ≤ hb ∧ w.heap.size ≤ pb := by
  obtain ⟨i0, hi, hz0, hz1, hz2⟩ := info_parts Tryz.info5
  have hmm := @run_makeMap Tryz.prog
  have H := hid h
  have HT := hid ht
  unfold Good at hn
  have N8 := hid hn.2.2
  have hn0 : 256 ≤ n ∧ n ≤ 65536 := by omega
  have hnz : ((n : Int) == 0) = false := by rw [beq_eq_false_iff_ne]; omega
  have hlt := H.out.lt
  clear h ht hn
  go_enter Tryz.func25, Tryz.ntmps25
  go_wp2_with fail
  refine (size_ok w rb mb n f c H.out).mono ?_
  rintro e w' ⟨rfl, hE⟩
  rw [hE]
  clear hE
  go_wp2_with (refine wpList_make_full _ rfl _ _ 40 rfl w.heap.size 5 i0 (.int .u8 0) 1 Tryz.underlying40 hi hz0 hz1 .i64 .i64 n n n rfl rfl rfl rfl (by rw [hz2]; omega) (by unfold maxLen; omega) (Nat.le_refl _) ?_; intro w1 hown hg)
  have BS := hid (show Bs w1 (.slice (some ⟨w.heap.size, 0, none⟩) n n) (List.replicate n 0) by
    have e : (madeCells (Value.int .u8 0).cells (n * 1)).toList = ub (List.replicate n 0) := by
      rw [Nat.mul_one]; exact (toList_madeCells_one _ _).trans (by simp [ub])
    rw [e] at hown
    refine Bs.of_owns (base := w.heap.size) ?_
    rw [List.length_replicate]
    exact hown)
  have K1 := hid (Kp.grown hg (rows := []))
  clear hown hg
  refine (write_ok w1 rb mb n 0 f c _ (List.replicate n 0) (H.out.keep K1.out (by simp) (by simp)) (by omega) BS.out (byt_zero n) (by simp)).mono ?_
  rintro e w2 ⟨rfl, hA2, hK2⟩
  have hs2 : w.heap.size ≤ w2.heap.size := Nat.le_trans K1.out.size hK2.size
  have K2 := hid (K1.out.nil.trans (hK2.mono (r2 := [rb, mb]) (by simp)))
  have A2 := hid (show Aw w2 rb mb n (fun _ => 0) c from ⟨_, hA2, fun o ho hon => by
    unfold wordAt
    rw [over_zero f n o (by omega), over_zero f n _ (by omega), over_zero f n _ (by omega), over_zero f n _ (by omega)]
    rfl⟩)
  have T2 := hid (HT.out.keep K2.out (by simp; omega))
  clear hA2 hK2
  have KM := hid ((Kp.alloc w2 (.map #[] 0) []).trans (Kp.alloc _ (.cells #[.pointer (some ⟨rb, 0, none⟩), .map (some w2.heap.size)] 67) []))
  have H3 := hid (show Hp ((w2.alloc (.map #[] 0)).alloc (.cells #[.pointer (some ⟨rb, 0, none⟩), .map (some w2.heap.size)] 67)) (w2.heap.size + 1) rb mb w2.heap.size n (fun _ => 0) c [] from
    ⟨by
      have := heap_alloc_new (w2.alloc (.map #[] 0)) (.cells #[.pointer (some ⟨rb, 0, none⟩), .map (some w2.heap.size)] 67)
      rw [show (w2.alloc (.map #[] 0)).heap.size = w2.heap.size + 1 by simp] at this
      exact this,
     A2.out.keep KM.out (by simp) (by simp),
     by
      have h1 := World.ownsMap_made (H := Unit) w2 Tryz.prog 3 (plainElem Tryz.prog 3)
      exact (Mp.of_owns (P := []) h1).keep (Kp.alloc _ _ []) (by simp),
     by omega, hc0, T2.out.keep KM.out (by simp), by have := T2.out.lt; omega⟩)
  go_wp2_with fail
  refine (putIn_any _ _ rb mb _ n (fun _ => 0) c [] 112 (n - 112) H3.out (by omega) (by decide) (by decide) (by omega) (by omega) (by have := N8.out; omega)).mono ?_
  rintro e w4 ⟨rfl, c4, hc4, hc4', hH4, hK4⟩
  have W4 := hid (show Went w w4 (w2.heap.size + 1) rb mb w2.heap.size n (fresh0 n) [] c 10 [rb, mb] from ⟨c4, by omega, by omega, hH4, (K2.out.trans KM.out.nil).trans hK4⟩)
  clear hH4 hK4
  go_wp2
  go_ret2
  exact ⟨_, _, rfl, W4.out, by omega, by omega⟩

set_option maxRecDepth 100000 in
theorem made_no (w : World) (n : Int) (h : ¬ Good n) : Calls Tryz.prog 7 #[.int .i64 n] w fun e w' => e = .returned (.pointer none) ∧ w' = w := by
  go_enter Tryz.func7, Tryz.ntmps7
  go_wp2_with fail
  refine (new_no w n h).mono ?_
  rintro e w1 ⟨rfl, rfl⟩
  go_wp2_with (go_at_call 13; go_in)
  go_ret
  exact ⟨rfl, rfl⟩
set_option maxRecDepth 100000 in
theorem made_ok (w : World) (n : Nat) (h : Good n) (ht : Tb w) : Calls Tryz.prog 7 #[.int .i64 n] w fun e w' => ∃ hb rb mb pb, e = .returned (.pointer (some ⟨hb, 0, none⟩)) ∧ Went w w' hb rb mb pb n (fresh0 n) [] 0 10 [] ∧ w.heap.size ≤ hb ∧ w.heap.size ≤ rb ∧ w.heap.size ≤ mb ∧ w.heap.size ≤ pb := by
  have HT := hid ht
  have hlt := ht.lt
  have G := hid h
  clear ht h
  go_enter Tryz.func7, Tryz.ntmps7
  go_wp2_with fail
  refine (new_ok w n G.out).mono ?_
  rintro e w1 ⟨rb, mb, rfl, hA1, hrb, hmb, hK1⟩
  have A1 := hid hA1
  have K1 := hid hK1
  clear hA1 hK1
  go_wp2_with fail
  go_in
  go_wp2_with fail
  refine (hnew_ok w1 rb mb n _ 0 A1.out G.out (by decide) (by decide) (HT.out.keep K1.out (by simp)) (by omega)).mono ?_
  rintro e w2 ⟨hb, pb, rfl, hW2, hhb, hpb⟩
  have W2 := hid hW2
  have hs1 := K1.out.size
  clear hW2
  go_wp2_with (go_at_call 13; go_in)
  go_ret
  obtain ⟨c', x1, x2, x3, x4⟩ := W2.out
  exact ⟨hb, rb, mb, pb, rfl, ⟨c', x1, x2, x3, K1.out.past x4 (by intro k hk hlt; simp at hk; omega)⟩, by omega, hrb, hmb, by omega⟩
end Go.Proofs.YtgefmnnkpffpcaaGreatDoor
