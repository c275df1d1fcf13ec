/- Realloc: refused, of no piece, and where there is room within the block. -/
import Derived.Test.YtgefmnnkpffpcaaGreatDoorHhasJ
import Derived.Test.YtgefmnnkpffpcaaGreatDoorHrepGrowJ
namespace Go.Proofs.YtgefmnnkpffpcaaGreatDoor
open Go.RowKit Go.Maps

set_option maxRecDepth 100000 in
theorem may3 (w : World) (p : Nat) (m : Int) (h0 : w.cell? ⟨p, 0, none⟩ = some (.int .i64 m)) : Calls Tryz.prog 67 #[.pointer (some ⟨p, 0, none⟩)] w fun e w' => e = .returned (.bool (mayB m)) ∧ Kp w w' [] := by
  go_enter Tryz.func67, Tryz.ntmps67
  go_wp2_with fail
  refine (mayHave_any w m).mono ?_
  rintro e w1 ⟨rfl, rfl⟩
  go_wp2
  go_ret
  exact ⟨rfl, Kp.refl _ _⟩
set_option maxRecDepth 100000 in
theorem enters67 : ∀ args w, (callFunc 67 args).run Tryz.prog w = .ok (.enter 67 args) w := enters_of Tryz.func67 (by kernel_rfl) rfl

set_option maxRecDepth 100000 in
theorem realloc_no (w : World) (hb rb mb pb n : Nat) (g : Mem) (c : Int) (P : Pcs) (o m : Int) (h : Hp w hb rb mb pb n g c P) (hm : mayB m = false) :
    Calls Tryz.prog 26 #[.pointer (some ⟨hb, 0, none⟩), .int .i64 o, .int .i64 m] w fun e w' => e = .returned (.tuple #[.int .i64 0, .int .i64 2]) ∧ Kp w w' [] := by
  have A1 := hid (Kp.alloc w (.cells #[.int .i64 m] 3) [])
  have H1 := hid (h.same A1.out)
  have M := hid hm
  clear h hm
  go_enter Tryz.func26, Tryz.ntmps26
  go_wp2_with fail
  refine (refusal_any _ hb rb mb pb n 67 _ g c P (mayB m) H1.out enters67 (may3 _ _ m cell_new0)).mono ?_
  rintro e w1 ⟨rfl, hK1⟩
  rw [M.out]
  have K1 := hid (A1.out.trans hK1)
  clear hK1
  go_wp2
  go_ret2
  exact ⟨rfl, K1.out⟩
set_option maxRecDepth 100000 in
theorem realloc_none (w : World) (hb rb mb pb n : Nat) (g : Mem) (c : Int) (P : Pcs) (o m : Int) (h : Hp w hb rb mb pb n g c P) (hm : mayB m = true) (h0 : -9223372036854775808 ≤ o) (h1 : o ≤ 9223372036854775807) (hp : hasP P o = false) :
    Calls Tryz.prog 26 #[.pointer (some ⟨hb, 0, none⟩), .int .i64 o, .int .i64 m] w fun e w' => e = .returned (.tuple #[.int .i64 0, .int .i64 6]) ∧ Kp w w' [] := by
  have A1 := hid (Kp.alloc w (.cells #[.int .i64 m] 3) [])
  have H1 := hid (h.same A1.out)
  have M := hid hm
  have HP := hid hp
  clear h hm hp
  go_enter Tryz.func26, Tryz.ntmps26
  go_wp2_with fail
  refine (refusal_any _ hb rb mb pb n 67 _ g c P (mayB m) H1.out enters67 (may3 _ _ m cell_new0)).mono ?_
  rintro e w1 ⟨rfl, hK1⟩
  rw [M.out]
  have K1 := hid (A1.out.trans hK1)
  have H2 := hid (H1.out.same hK1)
  clear hK1
  go_wp2_with fail
  refine (blockOf_no w1 hb rb mb pb n g c P o H2.out h0 h1 HP.out).mono ?_
  rintro e w2 ⟨rfl, hK2⟩
  have K2 := hid (K1.out.trans hK2)
  clear hK2
  go_wp2
  go_ret2
  exact ⟨rfl, K2.out.trans (Kp.alloc _ _ _)⟩
set_option maxRecDepth 100000 in
set_option maxHeartbeats 1000000 in
theorem realloc_in (w : World) (hb rb mb pb n : Nat) (g : Mem) (c : Int) (P : Pcs) (o m z : Int) (h : Hp w hb rb mb pb n g c P) (hc : c < 1152921504606820000) (h1 : 1 ≤ m) (h2 : m ≤ 65536) (ho : 8 ≤ o) (hp : hasP P o = true) (hz : getP P o = z) (hz8 : z % 8 = 0) (hnz : needed m ≤ z) (hon : o - 8 + z ≤ n) (hP : P.length < maxLen) :
    Calls Tryz.prog 26 #[.pointer (some ⟨hb, 0, none⟩), .int .i64 o, .int .i64 m] w fun e w' => e = .returned (.tuple #[.int .i64 o, .int .i64 0]) ∧ Went w w' hb rb mb pb n (give n g P (o - 8) z (needed m)).1 (give n g P (o - 8) z (needed m)).2 c 31 [rb, mb, pb] := by
  have A1 := hid (Kp.alloc w (.cells #[.int .i64 m] 3) [])
  have H1 := hid (h.same A1.out)
  have M := hid (show mayB m = true from decide_eq_true ⟨h1, h2⟩)
  have HP := hid hp
  have HZ := hid hz
  have Z8 := hid hz8
  have hnb := h.nb
  have hnd := needed_range h1 h2
  obtain ⟨s, hs⟩ : ∃ s, needed m = s := ⟨_, rfl⟩
  rw [hs] at hnd hnz ⊢
  have HS := hid hs
  have S8 := hid hnd.2.2
  have hs0 : 16 ≤ s ∧ s ≤ 65544 := ⟨hnd.1, hnd.2.1⟩
  have HL := hid h.lt
  clear h hp hz hz8 hnd hs
  go_enter Tryz.func26, Tryz.ntmps26
  go_wp2_with fail
  refine (refusal_any _ hb rb mb pb n 67 _ g c P (mayB m) H1.out enters67 (may3 _ _ m cell_new0)).mono ?_
  rintro e w1 ⟨rfl, hK1⟩
  rw [M.out]
  have K1 := hid (A1.out.trans hK1)
  have H2 := hid (H1.out.same hK1)
  have Q1 := hid (hK1.cell (cell_new0 (w := w) (v := .int .i64 m) (t := 3)) (by simp))
  clear hK1
  go_wp2_with fail
  refine (blockOf_ok w1 hb rb mb pb n g c P o H2.out (by omega) (by omega) HP.out).mono ?_
  rintro e w2 ⟨rfl, hK2⟩
  rw [HZ.out]
  have A2 := hid (hK2.trans (Kp.alloc w2 (.cells #[.int .i64 (o - 8), .int .i64 z] 87) []))
  have K2 := hid (K1.out.trans A2.out)
  have H3 := hid (H2.out.same A2.out)
  have q1 := A2.out.cell Q1.out (by simp)
  have X2 := hid (heap_alloc_new w2 (.cells #[.int .i64 (o - 8), .int .i64 z] 87))
  clear hK2
  go_wp2_with fail
  refine (needed_any _ m (by omega) (by omega)).mono ?_
  rintro e w' ⟨rfl, hE⟩
  rw [hE, HS.out]
  clear hE
  have u1 := cell_two0 X2.out
  have u2 := cell_two1 X2.out
  go_wp2_with fail
  refine (give_any _ hb rb mb pb n g c P (o - 8) z s H3.out (by omega) (by omega) (by omega) Z8.out (by omega) S8.out hnz (by omega) hP).mono ?_
  rintro e w4 ⟨rfl, c4, hc4, hc4', hH4, hK4⟩
  have W4 := hid (show Went w w4 hb rb mb pb n (give n g P (o - 8) z s).1 (give n g P (o - 8) z s).2 c 31 [rb, mb, pb] from ⟨c4, by omega, by omega, hH4, K2.out.nil.trans hK4⟩)
  clear hH4 hK4
  go_wp2
  go_ret2
  exact ⟨rfl, W4.out⟩
end Go.Proofs.YtgefmnnkpffpcaaGreatDoor

/- grown: a block with what is free behind it. -/
namespace Go.Proofs.YtgefmnnkpffpcaaGreatDoor
open Go.RowKit Go.Maps

set_option maxRecDepth 100000 in
set_option maxHeartbeats 2000000 in
theorem grown_any (w : World) (hb rb mb pb n : Nat) (g : Mem) (c : Int) (P : Pcs) (a z s : Int) (h : Hp w hb rb mb pb n g c P) (hc : c < 1152921504606840000)
    (ha0 : 0 ≤ a) (hz0 : 16 ≤ z) (hazn : a + z ≤ n) (hzs : z < s) (hs : s ≤ 1048576) :
    Calls Tryz.prog 68 #[.pointer (some ⟨hb, 0, none⟩), .agg #[.int .i64 a, .int .i64 z], .int .i64 s] w fun e w' => e = .returned (.agg #[.int .i64 a, .int .i64 (grownP n g P a z s).2]) ∧ Went w w' hb rb mb pb n (grownP n g P a z s).1 P c 9 [rb, mb] := by
  have hnb := h.nb
  have HL := hid h.lt
  have W1 := hid ((Kp.alloc w (.cells #[.int .i64 a, .int .i64 z] 87) []).trans (Kp.alloc _ (.cells #[.int .i64 0, .int .i64 0] 87) []))
  have B1 := hid (((Kp.alloc (w.alloc (.cells #[.int .i64 a, .int .i64 z] 87)) (.cells #[.int .i64 0, .int .i64 0] 87) []).block w.heap.size (by simp) (by simp)).trans (heap_alloc_new w (.cells #[.int .i64 a, .int .i64 z] 87)))
  have D1 := hid (show ((w.alloc (.cells #[.int .i64 a, .int .i64 z] 87)).alloc (.cells #[.int .i64 0, .int .i64 0] 87)).heap[w.heap.size + 1]? = some (.cells #[.int .i64 0, .int .i64 0] 87 (0, 0)) by
    have := heap_alloc_new (w.alloc (.cells #[.int .i64 a, .int .i64 z] 87)) (.cells #[.int .i64 0, .int .i64 0] 87)
    simpa using this)
  have H1 := hid (h.same W1.out)
  obtain ⟨r, hr⟩ : ∃ r, grownP n g P a z s = r := ⟨_, rfl⟩
  rw [hr]
  unfold grownP at hr
  rw [if_neg (by omega)] at hr
  have RR := hid hr
  clear h hr
  go_enter Tryz.func68, Tryz.ntmps68
  go_wp2_with fail
  refine (end_any _ a z (by omega) (by omega) (by omega) (by omega)).mono ?_
  rintro e w2 ⟨rfl, hK2⟩
  have B2 := hid ((hK2.block w.heap.size (lt_of_block B1.out) (by simp)).trans B1.out)
  have D2 := hid ((hK2.block (w.heap.size + 1) (lt_of_block D1.out) (by simp)).trans D1.out)
  have H2 := hid (H1.out.same hK2)
  have K2 := hid (W1.out.trans hK2)
  clear hK2
  go_wp2_with fail
  refine (freeAt_any w2 hb rb mb pb n g c P (a + z) H2.out (by omega) (by omega) (by omega)).mono ?_
  rintro e w3 ⟨rfl, c3, hc3, hc3', hH3, hK3⟩
  have B3 := hid ((hK3.block w.heap.size (lt_of_block B2.out) (by simp; have := HL.out; omega)).trans B2.out)
  have D3 := hid ((hK3.block (w.heap.size + 1) (lt_of_block D2.out) (by simp; have := HL.out; omega)).trans D2.out)
  have H3 := hid hH3
  have K3 := hid (show Kp w w3 [rb, mb] from K2.out.nil.trans (hK3.mono (by simp)))
  clear hH3 hK3
  have hs3 : w.heap.size < w3.heap.size := lt_of_block B3.out
  have hs3' : w.heap.size + 1 < w3.heap.size := lt_of_block D3.out
  have e1 := cell_two0 B3.out
  have e2 := cell_two1 B3.out
  have e3 := cell_two0 D3.out
  have e4 := cell_two1 D3.out
  have e5 := free_two (i := 0) D3.out
  have e6 := free_two (i := 1) D3.out
  have hr := RR.out
  have HL1 := hid (show hb < w.heap.size + 1 ∧ rb < w.heap.size + 1 ∧ mb < w.heap.size + 1 ∧ pb < w.heap.size + 1 by have := HL.out; omega)
  cases hf : freeAt n g P (a + z) with
  | none =>
    rw [hf] at hr
    have E := hid hr
    clear hr hf
    simp only [freeAns]
    have A5 := hid (Kp.alloc w3 (.cells #[.int .i64 0, .int .i64 0] 87) [])
    have B5 := hid ((A5.out.block w.heap.size hs3 (by simp)).trans B3.out)
    have D5 := hid ((A5.out.block (w.heap.size + 1) hs3' (by simp)).trans D3.out)
    have H5 := hid (H3.out.same A5.out)
    have u1 := cell_two0 B5.out
    have u2 := cell_two1 B5.out
    have K6 := hid (Kp.refl (w3.alloc (.cells #[.int .i64 0, .int .i64 0] 87)) [])
    have B6 := hid ((K6.out.block w.heap.size (lt_of_block B5.out) (by simp)).trans B5.out)
    have D6 := hid ((K6.out.block (w.heap.size + 1) (lt_of_block D5.out) (by simp)).trans D5.out)
    have WT := hid (show Went w w3 hb rb mb pb n g P c 9 [rb, mb] from ⟨c3, by omega, by omega, H3.out, K3.out⟩)
    go_wp2_with fail
    have v1 := cell_past (o := .cells #[.int .i64 0, .int .i64 0] 87) (cell_two0 (stored2 (a := .int .i64 a) (b := .int .i64 z) D3.out))
    have v2 := cell_past (o := .cells #[.int .i64 0, .int .i64 0] 87) (cell_two1 (stored2 (a := .int .i64 a) (b := .int .i64 z) D3.out))
    refine bodyPost_ret (v := .agg #[.int .i64 a, .int .i64 z]) (by simp [results, Tryz.results68, go_sem, v1, v2]) rfl ⟨by rw [← E.out], by rw [← E.out]; exact (WT.out.store _ _ HL1.out (by omega)).after (Kp.alloc _ _ _)⟩
  | some t =>
    have F := freeAt_some hf
    rw [hf] at hr
    have E := hid hr
    have hs0 : 16 ≤ t ∧ a + z + t ≤ n := by omega
    clear hr hf F
    simp only [freeAns]
    have A5 := hid (Kp.alloc w3 (.cells #[.int .i64 (a + z), .int .i64 t] 87) [])
    have B5 := hid ((A5.out.block w.heap.size hs3 (by simp)).trans B3.out)
    have D5 := hid ((A5.out.block (w.heap.size + 1) hs3' (by simp)).trans D3.out)
    have X5 := hid (Bx.new (w := w3) (a := a + z) (z := t) (t := 87) H3.out.lt.2.1 H3.out.lt.2.2.1)
    have H5 := hid (H3.out.same A5.out)
    have u1 := cell_two0 B5.out
    have u2 := cell_two1 B5.out
    have q1 := X5.out.c1
    have q2 := X5.out.c2
    by_cases hzt : z + t < s
    · have E2 := hid (show (g, z) = r by rw [← E.out]; exact (if_pos hzt).symm)
      have tz : decide (z + t < s) = true := decide_eq_true hzt
      clear hzt
      have K6 := hid (Kp.refl (w3.alloc (.cells #[.int .i64 (a + z), .int .i64 t] 87)) [])
      have B6 := hid ((K6.out.block w.heap.size (lt_of_block B5.out) (by simp)).trans B5.out)
      have D6 := hid ((K6.out.block (w.heap.size + 1) (lt_of_block D5.out) (by simp)).trans D5.out)
      have WT := hid (show Went w w3 hb rb mb pb n g P c 9 [rb, mb] from ⟨c3, by omega, by omega, H3.out, K3.out⟩)
      go_wp2_with fail
      have v1 := cell_past (o := .cells #[.int .i64 (a + z), .int .i64 t] 87) (cell_two0 (stored2 (a := .int .i64 a) (b := .int .i64 z) D3.out))
      have v2 := cell_past (o := .cells #[.int .i64 (a + z), .int .i64 t] 87) (cell_two1 (stored2 (a := .int .i64 a) (b := .int .i64 z) D3.out))
      refine bodyPost_ret (v := .agg #[.int .i64 a, .int .i64 z]) (by simp [results, Tryz.results68, go_sem, v1, v2]) rfl ⟨by rw [← E2.out], by rw [← E2.out]; exact (WT.out.store _ _ HL1.out (by omega)).after (Kp.alloc _ _ _)⟩
    · have E2 := hid (show (takeOut n g (a + z) t, z + t) = r by rw [← E.out]; exact (if_neg hzt).symm)
      have tz : decide (z + t < s) = false := decide_eq_false hzt
      clear hzt
      have K6 := hid (Kp.refl (w3.alloc (.cells #[.int .i64 (a + z), .int .i64 t] 87)) [])
      have B6 := hid ((K6.out.block w.heap.size (lt_of_block B5.out) (by simp)).trans B5.out)
      have D6 := hid ((K6.out.block (w.heap.size + 1) (lt_of_block D5.out) (by simp)).trans D5.out)
      have X6 := hid (X5.out.keep K6.out.nil)
      have H6 := hid (H5.out.same K6.out)
      have KA := hid ((K3.out.trans A5.out.nil).trans K6.out.nil)
      clear u1 u2 q1 q2
      have q1 := X6.out.c1
      have q2 := X6.out.c2
      go_wp2_with fail
      refine (takeOut_any _ hb rb mb pb n g c3 P (a + z) t H6.out (by omega) (by omega) (by omega) (by omega) (by omega)).mono ?_
      rintro e w7 ⟨rfl, c7, hc7, hc7', hH7, hK7⟩
      have B7 := hid ((hK7.block w.heap.size (lt_of_block B6.out) (by simp; have := HL.out; omega)).trans B6.out)
      have D7 := hid ((hK7.block (w.heap.size + 1) (lt_of_block D6.out) (by simp; have := HL.out; omega)).trans D6.out)
      have X7 := hid (X6.out.keep hK7)
      have WT := hid (show Went w w7 hb rb mb pb n (takeOut n g (a + z) t) P c 9 [rb, mb] from ⟨c7, by omega, by omega, hH7, KA.out.trans hK7⟩)
      clear hH7 hK7 q1 q2
      have q1 := X7.out.c1
      have q2 := X7.out.c2
      have u1 := cell_two0 B7.out
      have u2 := cell_two1 B7.out
      have u5 := cell_two0 D7.out
      have u6 := cell_two1 D7.out
      have u3 := free_two (i := 0) D7.out
      have u4 := free_two (i := 1) D7.out
      go_wp2_with fail
      have v1 := cell_two0 (stored2 (a := .int .i64 a) (b := .int .i64 (z + t)) D7.out)
      have v2 := cell_two1 (stored2 (a := .int .i64 a) (b := .int .i64 (z + t)) D7.out)
      refine bodyPost_ret (v := .agg #[.int .i64 a, .int .i64 (z + t)]) (by simp [results, Tryz.results68, go_sem, v1, v2]) rfl ⟨by rw [← E2.out], by rw [← E2.out]; exact WT.out.store _ _ HL1.out (by omega)⟩
end Go.Proofs.YtgefmnnkpffpcaaGreatDoor
