/- move: a new piece with all that the block's piece has. -/
import Derived.Test.YtgefmnnkpffpcaaGreatDoorHrealJ
import Derived.Deep.RegionHeldLaw
namespace Go.Proofs.YtgefmnnkpffpcaaGreatDoor
open Go.RowKit Go.Maps

/-- Words go from one place to another. -/
def cpW (g : Mem) (to o k : Nat) : Mem := fun i => if to ≤ i ∧ i < to + k then g (i - to + o) else g i
theorem words_cp {f : Nat → Int} {g : Mem} {n to o k : Nat} (hg : ∀ p, p % 4 = 0 → p + 4 ≤ n → wordAt f p = g p) (h1 : to % 4 = 0) (h2 : o % 4 = 0) (h3 : k % 4 = 0) (h4 : o + k ≤ n) :
    ∀ p, p % 4 = 0 → p + 4 ≤ n → wordAt (over f to (part f o k)) p = cpW g to o k p := by
  intro p hp hn
  have hl : (part f o k).length = k := part_length _ _ _
  have at1 : ∀ i, i < k → (part f o k).getD i 0 = f (o + i) := fun i hi => by
    simp [part, List.getD_eq_getElem?_getD, hi]
  unfold cpW
  by_cases h : to ≤ p ∧ p < to + k
  · rw [if_pos h, ← hg (p - to + o) (by omega) (by omega)]
    unfold wordAt over
    simp only [hl]
    rw [if_pos (by omega), if_pos (by omega), if_pos (by omega), if_pos (by omega), at1 _ (by omega), at1 _ (by omega), at1 _ (by omega), at1 _ (by omega)]
    rw [show o + (p - to) = p - to + o by omega, show o + (p + 1 - to) = p - to + o + 1 by omega, show o + (p + 2 - to) = p - to + o + 2 by omega, show o + (p + 3 - to) = p - to + o + 3 by omega]
  · rw [if_neg h, ← hg p hp hn]
    unfold wordAt over
    simp only [hl]
    rw [if_neg (by omega), if_neg (by omega), if_neg (by omega), if_neg (by omega)]

theorem read_int (w : World) (rb mb n j k : Nat) (o m : Int) (f : Nat → Int) (c : Int) (h : Ar w rb mb n f c) (hn : n ≤ 65536) (hj : (j : Int) = o) (hk : (k : Int) = m) (hfit : o + m ≤ n) :
    Calls Tryz.prog 107 #[.pointer (some ⟨rb, 0, none⟩), .int .i64 o, .int .i64 m] w fun e w' => ∃ v, e = .returned (.tuple #[v, .int .i64 0]) ∧ w'.ownsRow w.heap.size 5 1 v k (ub (part f j k)) ∧ Kp w w' [] := by
  subst hj hk
  exact read_ok w rb mb n j k f c h hn (by omega)
theorem write_int (w : World) (rb mb n : Nat) (o : Int) (f : Nat → Int) (c : Int) (v : Value) (l : List Int) (h : Ar w rb mb n f c) (hn : n ≤ 65536) (h0 : 0 ≤ o) (hv : Bs w v l) (hby : Byt l) (hfit : o + l.length ≤ n) :
    Calls Tryz.prog 66 #[.pointer (some ⟨rb, 0, none⟩), .int .i64 o, v] w fun e w' => e = .returned (.int .i64 0) ∧ Ar w' rb mb n (over f o.toNat l) c ∧ Kp w w' [mb] := by
  have := write_ok w rb mb n o.toNat f c v l h hn hv hby (by omega)
  rw [Int.toNat_of_nonneg h0] at this
  exact this
set_option maxRecDepth 100000 in
set_option maxHeartbeats 2000000 in
theorem move_no (w : World) (hb rb mb pb n : Nat) (g : Mem) (c : Int) (P : Pcs) (a z m : Int) (h : Hp w hb rb mb pb n g c P) (hc : c < 1152921504606810000) (h1 : 1 ≤ m) (h2 : m ≤ 65536) (hP : P.length < maxLen) (ha : alloc n g P m = none) :
    Calls Tryz.prog 69 #[.pointer (some ⟨hb, 0, none⟩), .agg #[.int .i64 a, .int .i64 z], .int .i64 m] w fun e w' => e = .returned (.tuple #[.int .i64 0, .int .i64 5]) ∧ Went w w' hb rb mb pb n g P c 42 [rb, mb, pb] := by
  have W1 := hid (Kp.alloc w (.cells #[.int .i64 a, .int .i64 z] 87) [])
  have H1 := hid (h.same W1.out)
  have HA := hid ha
  clear h ha
  go_enter Tryz.func69, Tryz.ntmps69
  go_wp2_with fail
  refine (alloc_any _ hb rb mb pb n g c P m H1.out (by omega) h1 h2 hP).mono ?_
  rintro e w2 ⟨rfl, c2, hc2, hc2', hH2, hK2⟩
  rw [HA.out] at hH2 ⊢
  have W2 := hid (show Went w w2 hb rb mb pb n g P c 42 [rb, mb, pb] from ⟨c2, by omega, by omega, hH2, W1.out.nil.trans hK2⟩)
  clear hH2 hK2
  simp only [allocAns]
  go_wp2
  go_ret2
  exact ⟨rfl, W2.out⟩

set_option maxRecDepth 100000 in
set_option maxHeartbeats 2000000 in
theorem move_ok (w : World) (hb rb mb pb n : Nat) (g : Mem) (c : Int) (P : Pcs) (a z m : Int) (h : Hp w hb rb mb pb n g c P) (hc : c < 1152921504606810000) (h1 : 1 ≤ m) (h2 : m ≤ 65536) (hP : P.length < maxLen)
    (ha0 : 0 ≤ a) (ha4 : a % 4 = 0) (hz0 : 16 ≤ z) (hz8 : z % 8 = 0) (hazn : a + z ≤ n) {t : Int} {g1 : Mem} {P1 : Pcs} (ha : alloc n g P m = some (t, g1, P1)) (ht0 : 0 ≤ t) (ht4 : t % 4 = 0) (htn : t + (z - 8) ≤ n) (hp : hasP P1 (a + 8) = true) (hz : getP P1 (a + 8) = z) :
    Calls Tryz.prog 69 #[.pointer (some ⟨hb, 0, none⟩), .agg #[.int .i64 a, .int .i64 z], .int .i64 m] w fun e w' => e = .returned (.tuple #[.int .i64 t, .int .i64 0]) ∧ Went w w' hb rb mb pb n (freed n (cpW g1 t.toNat (a + 8).toNat (z - 8).toNat) (delP P1 (a + 8)) a z) (delP P1 (a + 8)) c 80 [rb, mb, pb] := by
  have hnb := h.nb
  have HL := hid h.lt
  have HN := hid h.ne
  have W1 := hid (Kp.alloc w (.cells #[.int .i64 a, .int .i64 z] 87) [])
  have B1 := hid (heap_alloc_new w (.cells #[.int .i64 a, .int .i64 z] 87))
  have H1 := hid (h.same W1.out)
  have HA := hid ha
  have HPP := hid hp
  have HZ := hid hz
  have Z8 := hid hz8
  have T4 := hid ht4
  have A4 := hid ha4
  clear h ha hp hz hz8 ht4 ha4
  go_enter Tryz.func69, Tryz.ntmps69
  go_wp2_with fail
  refine (alloc_any _ hb rb mb pb n g c P m H1.out (by omega) h1 h2 hP).mono ?_
  rintro e w2 ⟨rfl, c2, hc2, hc2', hH2, hK2⟩
  rw [HA.out] at hH2 ⊢
  simp only [allocMem, allocPcs] at hH2
  have K2 := hid (show Kp w w2 [rb, mb, pb] from W1.out.nil.trans hK2)
  have B2 := hid ((hK2.block w.heap.size (lt_of_block B1.out) (by simp; have := HL.out; omega)).trans B1.out)
  have H2 := hid hH2
  clear hH2 hK2
  simp only [allocAns]
  obtain ⟨f, hf, hfg⟩ := H2.out.aw
  have FA := hid hf
  have FG := hid hfg
  clear hf hfg
  obtain ⟨j, hj⟩ : ∃ j : Nat, (j : Int) = a + 8 := ⟨(a + 8).toNat, by omega⟩
  obtain ⟨k, hk⟩ : ∃ k : Nat, (k : Int) = z - 8 := ⟨(z - 8).toNat, by omega⟩
  have HJ := hid hj
  have HK := hid hk
  clear hj hk
  have S2 := hid (show ∀ W, Kp w2 W [] → W.cell? ⟨hb, 0, none⟩ = some (.pointer (some ⟨rb, 0, none⟩)) ∧ W.cell? ⟨w.heap.size, 0, none⟩ = some (.int .i64 a) ∧ W.cell? ⟨w.heap.size, 1, none⟩ = some (.int .i64 z) from
    fun W hW => ⟨hW.cell H2.out.c0cell (by simp), hW.cell (cell_two0 B2.out) (by simp), hW.cell (cell_two1 B2.out) (by simp)⟩)
  go_wp2_with fail
  have hwr : IntKind.i64.wrap (z - 8) = z - 8 := IntWalk.i64_in _ ⟨by omega, by omega⟩
  go_region_held_law (fun w' => w'.cell? ⟨hb, 0, none⟩ = some (.pointer (some ⟨rb, 0, none⟩)) ∧ w'.cell? ⟨w.heap.size, 0, none⟩ = some (.int .i64 a) ∧ w'.cell? ⟨w.heap.size, 1, none⟩ = some (.int .i64 z))
    (first
      | exact S2.out _ (Kp.drew _ _)
      | exact S2.out _ (((Kp.drew _ _).trans hK3).trans hK4)
      | exact S2.out _ ((Kp.drew _ _).trans hK3))
    (first
      | (go_at_call 107; refine (read_int _ rb mb n j k (a + 8) (z - 8) f c2 (FA.out.keep ((Kp.drew _ _).trans hK3) (by simp) (by simp)) hnb HJ.out HK.out (by omega)).mono ?_; rintro e w4 ⟨v4, rfl, hown4, hK4⟩; obtain ⟨ao4, cp4, rfl⟩ := owns_shape hown4)
      | (go_at_call 100; refine (piece_any _ a z (by omega) (by omega)).mono ?_; rintro e w3 ⟨rfl, hK3⟩))
  have K4 := hid (show Kp w2 w4 [] from ((Kp.drew _ _).trans hK3).trans hK4)
  have O4 := hid (Bs.of_owns (l := part f j k) (by rw [part_length]; exact hown4))
  have F4 := hid (FA.out.keep K4.out (by simp) (by simp))
  have H4 := hid (H2.out.same K4.out)
  have B4 := hid ((K4.out.block w.heap.size (lt_of_block B2.out) (by simp)).trans B2.out)
  have hjn : j + k ≤ n := by have := HJ.out; have := HK.out; omega
  have htk : t + (k : Int) ≤ n := by have := HK.out; omega
  rename_i hh
  clear hh hK3 hK4 hown4 hwr
  have u0 := H4.out.c0cell
  go_wp2_with fail
  refine (write_int w4 rb mb n t f c2 _ (part f j k) F4.out hnb ht0 O4.out (part_byt FA.out.byte hjn) (by rw [part_length]; omega)).mono ?_
  rintro e w5 ⟨rfl, hA5, hK5⟩
  have G5 := hid (show Aw w5 rb mb n (cpW g1 t.toNat j k) c2 from ⟨_, hA5, words_cp FG.out (by have := T4.out; omega) (by have := HJ.out; have := A4.out; omega) (by have := HK.out; have := Z8.out; omega) hjn⟩)
  have H5 := hid (H4.out.turn (hK5.mono (by simp)) G5.out H4.out.c0)
  have B5 := hid ((hK5.block w.heap.size (lt_of_block B4.out) (by simp; have := HL.out; omega)).trans B4.out)
  have K5 := hid (show Kp w w5 [rb, mb, pb] from (K2.out.trans K4.out.nil).trans (hK5.mono (by simp)))
  clear hA5 hK5 u0
  have u1 := cell_two0 B5.out
  have u2 := cell_two1 B5.out
  go_wp2_with fail
  refine (piece_any _ a z (by omega) (by omega)).mono ?_
  rintro e w6 ⟨rfl, hK6⟩
  have H6 := hid (H5.out.same hK6)
  have K6 := hid (K5.out.trans hK6.nil)
  clear hK6 u1 u2
  go_wp2_with fail
  refine (hfree_ok w6 hb rb mb pb n _ c2 P1 (a + 8) z H6.out (by omega) (by omega) HPP.out HZ.out hz0 Z8.out (by omega)).mono ?_
  rintro e w7 ⟨rfl, c7, hc7, hc7', hH7, hK7⟩
  have W7 := hid (show Went w w7 hb rb mb pb n (freed n (cpW g1 t.toNat (a + 8).toNat (z - 8).toNat) (delP P1 (a + 8)) a z) (delP P1 (a + 8)) c 80 [rb, mb, pb] from ⟨c7, by omega, by omega, by
    rw [show (a + 8).toNat = j by have := HJ.out; omega, show (z - 8).toNat = k by have := HK.out; omega]
    rw [show a + 8 - 8 = a by omega] at hH7
    exact hH7, K6.out.trans hK7⟩)
  clear hH7 hK7
  go_wp2
  go_ret2
  exact ⟨rfl, W7.out⟩
end Go.Proofs.YtgefmnnkpffpcaaGreatDoor

/- Realloc where there is no room within the block: into what is free behind it, or elsewhere. -/
namespace Go.Proofs.YtgefmnnkpffpcaaGreatDoor
open Go.RowKit Go.Maps

set_option maxRecDepth 100000 in
set_option maxHeartbeats 2000000 in
theorem realloc_grow (w : World) (hb rb mb pb n : Nat) (g : Mem) (c : Int) (P : Pcs) (o m z z1 : Int) (h : Hp w hb rb mb pb n g c P) (hc : c < 1152921504606810000) (h1 : 1 ≤ m) (h2 : m ≤ 65536) (ho : 8 ≤ o) (hp : hasP P o = true) (hz : getP P o = z) (hz0 : 16 ≤ z) (hnz : z < needed m) (hon : o - 8 + z ≤ n) (hP : P.length < maxLen)
    (hz1 : (grownP n g P (o - 8) z (needed m)).2 = z1) (hz18 : z1 % 8 = 0) (hnz1 : needed m ≤ z1) (hon1 : o - 8 + z1 ≤ n) :
    Calls Tryz.prog 26 #[.pointer (some ⟨hb, 0, none⟩), .int .i64 o, .int .i64 m] w fun e w' => e = .returned (.tuple #[.int .i64 o, .int .i64 0]) ∧ Went w w' hb rb mb pb n (give n (grownP n g P (o - 8) z (needed m)).1 P (o - 8) z1 (needed m)).1 (give n (grownP n g P (o - 8) z (needed m)).1 P (o - 8) z1 (needed m)).2 c 40 [rb, mb, pb] := by
  have A1 := hid (Kp.alloc w (.cells #[.int .i64 m] 3) [])
  have H1 := hid (h.same A1.out)
  have M := hid (show mayB m = true from decide_eq_true ⟨h1, h2⟩)
  have HP := hid hp
  have HZ := hid hz
  have Z8 := hid hz18
  have hnb := h.nb
  have hnd := needed_range h1 h2
  obtain ⟨s, hs⟩ : ∃ s, needed m = s := ⟨_, rfl⟩
  rw [hs] at hnd hnz hnz1 hz1 ⊢
  have HS := hid hs
  have S8 := hid hnd.2.2
  have hs0 : 16 ≤ s ∧ s ≤ 65544 := ⟨hnd.1, hnd.2.1⟩
  have HL := hid h.lt
  obtain ⟨g1, hg1⟩ : ∃ g1, (grownP n g P (o - 8) z s).1 = g1 := ⟨_, rfl⟩
  rw [hg1]
  have GE := hid (And.intro hg1 hz1)
  clear h hp hz hz18 hnd hs hg1 hz1
  go_enter Tryz.func26, Tryz.ntmps26
  go_wp2_with fail
  refine (refusal_any _ hb rb mb pb n 67 _ g c P (mayB m) H1.out enters67 (may3 _ _ m cell_new0)).mono ?_
  rintro e w1 ⟨rfl, hK1⟩
  rw [M.out]
  have K1 := hid (A1.out.trans hK1)
  have H2 := hid (H1.out.same hK1)
  have Q1 := hid (hK1.cell (cell_new0 (w := w) (v := .int .i64 m) (t := 3)) (by simp))
  clear hK1
  go_wp2_with fail
  refine (blockOf_ok w1 hb rb mb pb n g c P o H2.out (by omega) (by omega) HP.out).mono ?_
  rintro e w2 ⟨rfl, hK2⟩
  rw [HZ.out]
  have hs1 : w.heap.size < w1.heap.size := by have := K1.out.size; have := World.block_lt_of_cell? w1 _ Q1.out; exact this
  have hs2 : w1.heap.size ≤ w2.heap.size := hK2.size
  have A2 := hid (hK2.trans (Kp.alloc w2 (.cells #[.int .i64 (o - 8), .int .i64 z] 87) []))
  have K2 := hid (K1.out.trans A2.out)
  have H3 := hid (H2.out.same A2.out)
  have q1 := A2.out.cell Q1.out (by simp)
  have X2 := hid (heap_alloc_new w2 (.cells #[.int .i64 (o - 8), .int .i64 z] 87))
  clear hK2
  go_wp2_with fail
  refine (needed_any _ m (by omega) (by omega)).mono ?_
  rintro e w' ⟨rfl, hE⟩
  rw [hE, HS.out]
  clear hE
  have u1 := cell_two0 X2.out
  have u2 := cell_two1 X2.out
  go_wp2_with fail
  refine (grown_any _ hb rb mb pb n g c P (o - 8) z s H3.out (by omega) (by omega) hz0 hon hnz (by omega)).mono ?_
  rintro e w4 ⟨rfl, c4, hc4, hc4', hH4, hK4⟩
  rw [GE.out.2]
  rw [GE.out.1] at hH4
  have X4 := hid ((hK4.block w2.heap.size (lt_of_block X2.out) (by simp; have := HL.out; omega)).trans X2.out)
  have H4 := hid hH4
  have K4 := hid (show Kp w w4 [rb, mb, pb] from K2.out.nil.trans (hK4.mono (by simp)))
  clear hH4 hK4 u1 u2 q1
  have u1 := cell_two0 X4.out
  have u2 := cell_two1 X4.out
  have u3 := free_two (i := 0) X4.out
  have u4 := free_two (i := 1) X4.out
  go_wp2_with fail
  have kk := Kp.two w4 w2.heap.size (.int .i64 (o - 8)) (.int .i64 z1)
  refine (give_any _ hb rb mb pb n g1 c4 P (o - 8) z1 s (H4.out.keep kk (by simp; have := HL.out; omega) (by simp; have := HL.out; omega) (by simp; have := HL.out; omega) (by simp; have := HL.out; omega) (by simp; have := HL.out; omega)) (by omega) (by omega) (by omega) Z8.out (by omega) S8.out hnz1 (by omega) hP).mono ?_
  rintro e w5 ⟨rfl, c5, hc5, hc5', hH5, hK5⟩
  have W5 := hid (show Went w w5 hb rb mb pb n (give n g1 P (o - 8) z1 s).1 (give n g1 P (o - 8) z1 s).2 c 40 [rb, mb, pb] from ⟨c5, by omega, by omega, hH5, (K4.out.past kk (by intro k hk hlt; simp at hk; omega)).trans hK5⟩)
  clear hH5 hK5 kk
  go_wp2
  go_ret2
  exact ⟨rfl, W5.out⟩
set_option maxRecDepth 100000 in
set_option maxHeartbeats 2000000 in
theorem realloc_full (w : World) (hb rb mb pb n : Nat) (g : Mem) (c : Int) (P : Pcs) (o m z : Int) (h : Hp w hb rb mb pb n g c P) (hc : c < 1152921504606800000) (h1 : 1 ≤ m) (h2 : m ≤ 65536) (ho : 8 ≤ o) (hp : hasP P o = true) (hz : getP P o = z) (hz0 : 16 ≤ z) (hz8 : z % 8 = 0) (hnz : z < needed m) (hon : o - 8 + z ≤ n) (hP : P.length < maxLen)
    (hgz : grownP n g P (o - 8) z (needed m) = (g, z)) (hal : alloc n g P m = none) :
    Calls Tryz.prog 26 #[.pointer (some ⟨hb, 0, none⟩), .int .i64 o, .int .i64 m] w fun e w' => e = .returned (.tuple #[.int .i64 0, .int .i64 5]) ∧ Went w w' hb rb mb pb n (g) (P) c 60 [rb, mb, pb] := by
  have A1 := hid (Kp.alloc w (.cells #[.int .i64 m] 3) [])
  have H1 := hid (h.same A1.out)
  have M := hid (show mayB m = true from decide_eq_true ⟨h1, h2⟩)
  have HP := hid hp
  have HZ := hid hz
  have Z8 := hid hz8
  have hnb := h.nb
  have hnd := needed_range h1 h2
  obtain ⟨s, hs⟩ : ∃ s, needed m = s := ⟨_, rfl⟩
  rw [hs] at hnd hnz hgz
  have HS := hid hs
  have S8 := hid hnd.2.2
  have hs0 : 16 ≤ s ∧ s ≤ 65544 := ⟨hnd.1, hnd.2.1⟩
  have HL := hid h.lt
  have GE := hid hgz
  clear h hp hz hz8 hnd hs hgz
  go_enter Tryz.func26, Tryz.ntmps26
  go_wp2_with fail
  refine (refusal_any _ hb rb mb pb n 67 _ g c P (mayB m) H1.out enters67 (may3 _ _ m cell_new0)).mono ?_
  rintro e w1 ⟨rfl, hK1⟩
  rw [M.out]
  have K1 := hid (A1.out.trans hK1)
  have H2 := hid (H1.out.same hK1)
  have Q1 := hid (hK1.cell (cell_new0 (w := w) (v := .int .i64 m) (t := 3)) (by simp))
  clear hK1
  go_wp2_with fail
  refine (blockOf_ok w1 hb rb mb pb n g c P o H2.out (by omega) (by omega) HP.out).mono ?_
  rintro e w2 ⟨rfl, hK2⟩
  rw [HZ.out]
  have hs1 : w.heap.size < w1.heap.size := by have := K1.out.size; have := World.block_lt_of_cell? w1 _ Q1.out; exact this
  have hs2 : w1.heap.size ≤ w2.heap.size := hK2.size
  have A2 := hid (hK2.trans (Kp.alloc w2 (.cells #[.int .i64 (o - 8), .int .i64 z] 87) []))
  have K2 := hid (K1.out.trans A2.out)
  have H3 := hid (H2.out.same A2.out)
  have q1 := A2.out.cell Q1.out (by simp)
  have Q2 := hid q1
  have X2 := hid (heap_alloc_new w2 (.cells #[.int .i64 (o - 8), .int .i64 z] 87))
  clear hK2
  go_wp2_with fail
  refine (needed_any _ m (by omega) (by omega)).mono ?_
  rintro e w' ⟨rfl, hE⟩
  rw [hE, HS.out]
  clear hE
  have u1 := cell_two0 X2.out
  have u2 := cell_two1 X2.out
  go_wp2_with fail
  refine (grown_any _ hb rb mb pb n g c P (o - 8) z s H3.out (by omega) (by omega) hz0 hon hnz (by omega)).mono ?_
  rintro e w4 ⟨rfl, c4, hc4, hc4', hH4, hK4⟩
  rw [GE.out] at hH4 ⊢
  have X4 := hid ((hK4.block w2.heap.size (lt_of_block X2.out) (by simp; have := HL.out; omega)).trans X2.out)
  have H4 := hid hH4
  have Q4 := hid (hK4.cell Q2.out (by simp; have := HL.out; omega))
  have K4 := hid (show Kp w w4 [rb, mb, pb] from K2.out.nil.trans (hK4.mono (by simp)))
  clear hH4 hK4 u1 u2 q1
  have q4 := Q4.out
  have u1 := cell_two0 X4.out
  have u2 := cell_two1 X4.out
  have u3 := free_two (i := 0) X4.out
  have u4 := free_two (i := 1) X4.out
  go_wp2_with fail
  have kk := Kp.two w4 w2.heap.size (.int .i64 (o - 8)) (.int .i64 z)
  have H5 := hid (H4.out.keep kk (by simp; have := HL.out; omega) (by simp; have := HL.out; omega) (by simp; have := HL.out; omega) (by simp; have := HL.out; omega) (by simp; have := HL.out; omega))
  have K5 := hid (K4.out.past kk (by intro k hk hlt; simp at hk; omega))
  clear kk
  refine (move_no _ hb rb mb pb n g c4 P (o - 8) z m H5.out (by omega) h1 h2 hP hal).mono ?_
  rintro e w5 ⟨rfl, c5, hc5, hc5', hH5, hK5⟩
  have W5 := hid (show Went w w5 hb rb mb pb n g P c 60 [rb, mb, pb] from ⟨c5, by omega, by omega, hH5, K5.out.trans hK5⟩)
  clear hH5 hK5
  go_wp2
  go_ret2
  exact ⟨rfl, W5.out⟩
set_option maxRecDepth 100000 in
set_option maxHeartbeats 2000000 in
theorem realloc_move (w : World) (hb rb mb pb n : Nat) (g : Mem) (c : Int) (P : Pcs) (o m z : Int) (h : Hp w hb rb mb pb n g c P) (hc : c < 1152921504606800000) (h1 : 1 ≤ m) (h2 : m ≤ 65536) (ho : 8 ≤ o) (hp : hasP P o = true) (hz : getP P o = z) (hz0 : 16 ≤ z) (hz8 : z % 8 = 0) (hnz : z < needed m) (hon : o - 8 + z ≤ n) (hP : P.length < maxLen)
    (hgz : grownP n g P (o - 8) z (needed m) = (g, z)) {t : Int} {g1 : Mem} {P1 : Pcs} (hal : alloc n g P m = some (t, g1, P1)) (ho4 : o % 4 = 0) (ht0 : 0 ≤ t) (ht4 : t % 4 = 0) (htn : t + (z - 8) ≤ n) (hp1 : hasP P1 o = true) (hzp : getP P1 o = z) :
    Calls Tryz.prog 26 #[.pointer (some ⟨hb, 0, none⟩), .int .i64 o, .int .i64 m] w fun e w' => e = .returned (.tuple #[.int .i64 t, .int .i64 0]) ∧ Went w w' hb rb mb pb n (freed n (cpW g1 t.toNat o.toNat (z - 8).toNat) (delP P1 o) (o - 8) z) (delP P1 o) c 100 [rb, mb, pb] := by
  have A1 := hid (Kp.alloc w (.cells #[.int .i64 m] 3) [])
  have H1 := hid (h.same A1.out)
  have M := hid (show mayB m = true from decide_eq_true ⟨h1, h2⟩)
  have HP := hid hp
  have HZ := hid hz
  have Z8 := hid hz8
  have hnb := h.nb
  have hnd := needed_range h1 h2
  obtain ⟨s, hs⟩ : ∃ s, needed m = s := ⟨_, rfl⟩
  rw [hs] at hnd hnz hgz
  have HS := hid hs
  have S8 := hid hnd.2.2
  have hs0 : 16 ≤ s ∧ s ≤ 65544 := ⟨hnd.1, hnd.2.1⟩
  have HL := hid h.lt
  have GE := hid hgz
  clear h hp hz hz8 hnd hs hgz
  go_enter Tryz.func26, Tryz.ntmps26
  go_wp2_with fail
  refine (refusal_any _ hb rb mb pb n 67 _ g c P (mayB m) H1.out enters67 (may3 _ _ m cell_new0)).mono ?_
  rintro e w1 ⟨rfl, hK1⟩
  rw [M.out]
  have K1 := hid (A1.out.trans hK1)
  have H2 := hid (H1.out.same hK1)
  have Q1 := hid (hK1.cell (cell_new0 (w := w) (v := .int .i64 m) (t := 3)) (by simp))
  clear hK1
  go_wp2_with fail
  refine (blockOf_ok w1 hb rb mb pb n g c P o H2.out (by omega) (by omega) HP.out).mono ?_
  rintro e w2 ⟨rfl, hK2⟩
  rw [HZ.out]
  have hs1 : w.heap.size < w1.heap.size := by have := K1.out.size; have := World.block_lt_of_cell? w1 _ Q1.out; exact this
  have hs2 : w1.heap.size ≤ w2.heap.size := hK2.size
  have A2 := hid (hK2.trans (Kp.alloc w2 (.cells #[.int .i64 (o - 8), .int .i64 z] 87) []))
  have K2 := hid (K1.out.trans A2.out)
  have H3 := hid (H2.out.same A2.out)
  have q1 := A2.out.cell Q1.out (by simp)
  have Q2 := hid q1
  have X2 := hid (heap_alloc_new w2 (.cells #[.int .i64 (o - 8), .int .i64 z] 87))
  clear hK2
  go_wp2_with fail
  refine (needed_any _ m (by omega) (by omega)).mono ?_
  rintro e w' ⟨rfl, hE⟩
  rw [hE, HS.out]
  clear hE
  have u1 := cell_two0 X2.out
  have u2 := cell_two1 X2.out
  go_wp2_with fail
  refine (grown_any _ hb rb mb pb n g c P (o - 8) z s H3.out (by omega) (by omega) hz0 hon hnz (by omega)).mono ?_
  rintro e w4 ⟨rfl, c4, hc4, hc4', hH4, hK4⟩
  rw [GE.out] at hH4 ⊢
  have X4 := hid ((hK4.block w2.heap.size (lt_of_block X2.out) (by simp; have := HL.out; omega)).trans X2.out)
  have H4 := hid hH4
  have Q4 := hid (hK4.cell Q2.out (by simp; have := HL.out; omega))
  have K4 := hid (show Kp w w4 [rb, mb, pb] from K2.out.nil.trans (hK4.mono (by simp)))
  clear hH4 hK4 u1 u2 q1
  have q4 := Q4.out
  have u1 := cell_two0 X4.out
  have u2 := cell_two1 X4.out
  have u3 := free_two (i := 0) X4.out
  have u4 := free_two (i := 1) X4.out
  go_wp2_with fail
  have kk := Kp.two w4 w2.heap.size (.int .i64 (o - 8)) (.int .i64 z)
  have H5 := hid (H4.out.keep kk (by simp; have := HL.out; omega) (by simp; have := HL.out; omega) (by simp; have := HL.out; omega) (by simp; have := HL.out; omega) (by simp; have := HL.out; omega))
  have K5 := hid (K4.out.past kk (by intro k hk hlt; simp at hk; omega))
  clear kk
  have e8 : o - 8 + 8 = o := by omega
  refine (move_ok _ hb rb mb pb n g c4 P (o - 8) z m H5.out (by omega) h1 h2 hP (by omega) (by omega) hz0 Z8.out hon hal ht0 ht4 htn (by rw [e8]; exact hp1) (by rw [e8]; exact hzp)).mono ?_
  rw [e8]
  rintro e w5 ⟨rfl, c5, hc5, hc5', hH5, hK5⟩
  have W5 := hid (show Went w w5 hb rb mb pb n (freed n (cpW g1 t.toNat o.toNat (z - 8).toNat) (delP P1 o) (o - 8) z) (delP P1 o) c 100 [rb, mb, pb] from ⟨c5, by omega, by omega, hH5, K5.out.trans hK5⟩)
  clear hH5 hK5
  go_wp2
  go_ret2
  exact ⟨rfl, W5.out⟩
end Go.Proofs.YtgefmnnkpffpcaaGreatDoor
