/- Realloc: refused, of no piece, and where there is room within the block. -/
import Derived.Test.YtgefmnnkpffpcaaGreatDoorHset
namespace Go.Proofs.YtgefmnnkpffpcaaGreatDoor
open Go.RowKit Go.Maps

set_option maxRecDepth 100000 in
theorem may3 (w : World) (p : Nat) (m : Int) (h0 : w.cell? ⟨p, 0, none⟩ = some (.int .i64 m)) : Calls Tryz.prog 67 #[.pointer (some ⟨p, 0, none⟩)] w fun e w' => e = .returned (.bool (mayB m)) ∧ Kp w w' [] := by
  go_enter Tryz.func67, Tryz.ntmps67
  go_wp2_with fail
  refine (mayHave_any w m).mono ?_
  rintro e w1 ⟨rfl, rfl⟩
  go_wp2
  go_ret
  exact ⟨rfl, Kp.refl _ _⟩
set_option maxRecDepth 100000 in
theorem enters67 : ∀ args w, (callFunc 67 args).run Tryz.prog w = .ok (.enter 67 args) w := enters_of Tryz.func67 (by kernel_rfl) rfl

set_option maxRecDepth 100000 in
theorem realloc_no (w : World) (hb rb mb pb n : Nat) (g : Mem) (c : Int) (P : Pcs) (o m : Int) (h : Hp w hb rb mb pb n g c P) (hm : mayB m = false) :
    Calls Tryz.prog 26 #[.pointer (some ⟨hb, 0, none⟩), .int .i64 o, .int .i64 m] w fun e w' => e = .returned (.tuple #[.int .i64 0, .int .i64 2]) ∧ Kp w w' [] := by
  have A1 := hid (Kp.alloc w (.cells #[.int .i64 m] 3) [])
  have H1 := hid (h.same A1.out)
  have M := hid hm
  clear h hm
  go_enter Tryz.func26, Tryz.ntmps26
  go_wp2_with fail
  refine (refusal_any _ hb rb mb pb n 67 _ g c P (mayB m) H1.out enters67 (may3 _ _ m cell_new0)).mono ?_
  rintro e w1 ⟨rfl, hK1⟩
  rw [M.out]
  have K1 := hid (A1.out.trans hK1)
  clear hK1
  go_wp2
  go_ret2
  exact ⟨rfl, K1.out⟩
set_option maxRecDepth 100000 in
theorem realloc_none (w : World) (hb rb mb pb n : Nat) (g : Mem) (c : Int) (P : Pcs) (o m : Int) (h : Hp w hb rb mb pb n g c P) (hm : mayB m = true) (h0 : -9223372036854775808 ≤ o) (h1 : o ≤ 9223372036854775807) (hp : hasP P o = false) :
    Calls Tryz.prog 26 #[.pointer (some ⟨hb, 0, none⟩), .int .i64 o, .int .i64 m] w fun e w' => e = .returned (.tuple #[.int .i64 0, .int .i64 6]) ∧ Kp w w' [] := by
  have A1 := hid (Kp.alloc w (.cells #[.int .i64 m] 3) [])
  have H1 := hid (h.same A1.out)
  have M := hid hm
  have HP := hid hp
  clear h hm hp
  go_enter Tryz.func26, Tryz.ntmps26
  go_wp2_with fail
  refine (refusal_any _ hb rb mb pb n 67 _ g c P (mayB m) H1.out enters67 (may3 _ _ m cell_new0)).mono ?_
  rintro e w1 ⟨rfl, hK1⟩
  rw [M.out]
  have K1 := hid (A1.out.trans hK1)
  have H2 := hid (H1.out.same hK1)
  clear hK1
  go_wp2_with fail
  refine (blockOf_no w1 hb rb mb pb n g c P o H2.out h0 h1 HP.out).mono ?_
  rintro e w2 ⟨rfl, hK2⟩
  have K2 := hid (K1.out.trans hK2)
  clear hK2
  go_wp2
  go_ret2
  exact ⟨rfl, K2.out.trans (Kp.alloc _ _ _)⟩
set_option maxRecDepth 100000 in
set_option maxHeartbeats 1000000 in
theorem realloc_in (w : World) (hb rb mb pb n : Nat) (g : Mem) (c : Int) (P : Pcs) (o m z : Int) (h : Hp w hb rb mb pb n g c P) (hc : c < 1152921504606820000) (h1 : 1 ≤ m) (h2 : m ≤ 65536) (ho : 8 ≤ o) (hp : hasP P o = true) (hz : getP P o = z) (hz8 : z % 8 = 0) (hnz : needed m ≤ z) (hon : o - 8 + z ≤ n) (hP : P.length < maxLen) :
    Calls Tryz.prog 26 #[.pointer (some ⟨hb, 0, none⟩), .int .i64 o, .int .i64 m] w fun e w' => e = .returned (.tuple #[.int .i64 o, .int .i64 0]) ∧ Went w w' hb rb mb pb n (give n g P (o - 8) z (needed m)).1 (give n g P (o - 8) z (needed m)).2 c 31 [rb, mb, pb] := by
  have A1 := hid (Kp.alloc w (.cells #[.int .i64 m] 3) [])
  have H1 := hid (h.same A1.out)
  have M := hid (show mayB m = true from decide_eq_true ⟨h1, h2⟩)
  have HP := hid hp
  have HZ := hid hz
  have Z8 := hid hz8
  have hnb := h.nb
  have hnd := needed_range h1 h2
  obtain ⟨s, hs⟩ : ∃ s, needed m = s := ⟨_, rfl⟩
  rw [hs] at hnd hnz ⊢
  have HS := hid hs
  have S8 := hid hnd.2.2
  have hs0 : 16 ≤ s ∧ s ≤ 65544 := ⟨hnd.1, hnd.2.1⟩
  have HL := hid h.lt
  clear h hp hz hz8 hnd hs
  go_enter Tryz.func26, Tryz.ntmps26
  go_wp2_with fail
  refine (refusal_any _ hb rb mb pb n 67 _ g c P (mayB m) H1.out enters67 (may3 _ _ m cell_new0)).mono ?_
  rintro e w1 ⟨rfl, hK1⟩
  rw [M.out]
  have K1 := hid (A1.out.trans hK1)
  have H2 := hid (H1.out.same hK1)
  have Q1 := hid (hK1.cell (cell_new0 (w := w) (v := .int .i64 m) (t := 3)) (by simp))
  clear hK1
  go_wp2_with fail
  refine (blockOf_ok w1 hb rb mb pb n g c P o H2.out (by omega) (by omega) HP.out).mono ?_
  rintro e w2 ⟨rfl, hK2⟩
  rw [HZ.out]
  have A2 := hid (hK2.trans (Kp.alloc w2 (.cells #[.int .i64 (o - 8), .int .i64 z] 87) []))
  have K2 := hid (K1.out.trans A2.out)
  have H3 := hid (H2.out.same A2.out)
  have q1 := A2.out.cell Q1.out (by simp)
  have X2 := hid (heap_alloc_new w2 (.cells #[.int .i64 (o - 8), .int .i64 z] 87))
  clear hK2
  go_wp2_with fail
  refine (needed_any _ m (by omega) (by omega)).mono ?_
  rintro e w' ⟨rfl, hE⟩
  rw [hE, HS.out]
  clear hE
  have u1 := cell_two0 X2.out
  have u2 := cell_two1 X2.out
  go_wp2_with fail
  refine (give_any _ hb rb mb pb n g c P (o - 8) z s H3.out (by omega) (by omega) (by omega) Z8.out (by omega) S8.out hnz (by omega) hP).mono ?_
  rintro e w4 ⟨rfl, c4, hc4, hc4', hH4, hK4⟩
  have W4 := hid (show Went w w4 hb rb mb pb n (give n g P (o - 8) z s).1 (give n g P (o - 8) z s).2 c 31 [rb, mb, pb] from ⟨c4, by omega, by omega, hH4, K2.out.nil.trans hK4⟩)
  clear hH4 hK4
  go_wp2
  go_ret2
  exact ⟨rfl, W4.out⟩
end Go.Proofs.YtgefmnnkpffpcaaGreatDoor
