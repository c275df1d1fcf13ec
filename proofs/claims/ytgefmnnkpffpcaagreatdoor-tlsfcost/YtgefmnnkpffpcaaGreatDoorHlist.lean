/- mark, the closures of putIn and takeOut, change, putIn, takeOut. -/
import Derived.Test.YtgefmnnkpffpcaaGreatDoorHnum
import Derived.Deep.QuietTactic
import Derived.BigQuiet
namespace Go.Proofs.YtgefmnnkpffpcaaGreatDoor
open Go.RowKit

/-- What a closure has captured: the heap's pointer, a block. -/
structure Cl (w : World) (p0 p1 hb rb mb : Nat) (a z : Int) : Prop where
  c0 : w.cell? ⟨p0, 0, none⟩ = some (.pointer (some ⟨hb, 0, none⟩))
  c1 : w.cell? ⟨p1, 0, none⟩ = some (.int .i64 a)
  c2 : w.cell? ⟨p1, 1, none⟩ = some (.int .i64 z)
  n0 : p0 ≠ rb ∧ p0 ≠ mb
  n1 : p1 ≠ rb ∧ p1 ≠ mb
theorem Cl.keep {w w' : World} {p0 p1 hb rb mb : Nat} {a z : Int} (h : Cl w p0 p1 hb rb mb a z) (hk : Kp w w' [rb, mb]) : Cl w' p0 p1 hb rb mb a z := by
  have := h.n0; have := h.n1
  exact ⟨hk.cell h.c0 (by simp; omega), hk.cell h.c1 (by simp; omega), hk.cell h.c2 (by simp; omega), h.n0, h.n1⟩

set_option maxRecDepth 100000 in
theorem putIn1_any (w : World) (hb rb mb pb n p0 p1 : Nat) (g : Mem) (c : Int) (P : Pcs) (a z f : Int) (h : Hp w hb rb mb pb n g c P) (hc : c < 2305843009213693952) (hl : Cl w p0 p1 hb rb mb a z)
    (ha0 : 0 ≤ a) (ha1 : a < 4294967296) (hf0 : 0 ≤ f) (hf1 : f < 4294967296) :
    Calls Tryz.prog 102 #[.int .i64 f, .pointer (some ⟨p0, 0, none⟩), .pointer (some ⟨p1, 0, none⟩)] w fun e w' => e = .returned (.int .i64 a) ∧ Went w w' hb rb mb pb n (putIn1 n g a f) P c 3 [rb, mb] := by
  have q0 := hl.c0
  have q1 := hl.c1
  have H := hid h
  have L := hid hl
  clear h hl
  go_enter Tryz.func102, Tryz.ntmps102
  go_wp2_with fail
  refine (setWord_any w hb rb mb pb n g c P (a + 8) f H.out (by omega) (by omega) hf0 hf1).mono ?_
  rintro e w1 ⟨rfl, c1, hc1, hc1', hH1, hK1⟩
  have H1 := hid hH1
  have L1 := hid (L.out.keep hK1)
  have K1 := hid hK1
  clear hH1 hK1 q0 q1
  have q0 := L1.out.c0
  have q1 := L1.out.c1
  go_wp2_with fail
  refine (setWord_any w1 hb rb mb pb n _ c1 P (a + 12) 0 H1.out (by omega) (by omega) (by decide) (by decide)).mono ?_
  rintro e w2 ⟨rfl, c2, hc2, hc2', hH2, hK2⟩
  have H2 := hid hH2
  have L2 := hid (L1.out.keep hK2)
  have K2 := hid (K1.out.trans hK2)
  clear hH2 hK2 q0 q1
  have q0 := L2.out.c0
  have q1 := L2.out.c1
  by_cases hz : f = 0
  · have hz' : (f != 0) = false := by simp [hz]
    have e1 := hid (show putIn1 n g a f = wr n (wr n g (a + 8) f) (a + 12) 0 by unfold putIn1; rw [if_pos hz])
    clear hz
    go_wp2
    go_ret
    rw [e1.out]
    exact ⟨rfl, c2, by omega, by omega, H2.out, K2.out⟩
  · have hz' : (f != 0) = true := by simp [hz]
    have e1 := hid (show putIn1 n g a f = wr n (wr n (wr n g (a + 8) f) (a + 12) 0) (f + 12) a by unfold putIn1; rw [if_neg hz])
    clear hz
    go_wp2_with fail
    refine (setWord_any w2 hb rb mb pb n _ c2 P (f + 12) a H2.out (by omega) (by omega) ha0 ha1).mono ?_
    rintro e w3 ⟨rfl, c3, hc3, hc3', hH3, hK3⟩
    have H3 := hid hH3
    have L3 := hid (L2.out.keep hK3)
    have K3 := hid (K2.out.trans hK3)
    clear hH3 hK3 q0 q1
    have q1 := L3.out.c1
    go_wp2
    go_ret
    rw [e1.out]
    exact ⟨rfl, c3, by omega, by omega, H3.out, K3.out⟩

theorem Cl.two {w : World} {p0 p1 hb rb mb : Nat} {a z : Int} (h : Cl w p0 p1 hb rb mb a z) : w.cell? ⟨p0, 0, none⟩ = some (.pointer (some ⟨hb, 0, none⟩)) ∧ w.cell? ⟨p1, 0, none⟩ = some (.int .i64 a) := ⟨h.c0, h.c1⟩

set_option maxRecDepth 100000 in
set_option maxHeartbeats 1000000 in
theorem takeOut1_any (w : World) (hb rb mb pb n p0 p1 : Nat) (g : Mem) (c : Int) (P : Pcs) (a z f : Int) (h : Hp w hb rb mb pb n g c P) (hc : c < 2305843009213693952) (hl : Cl w p0 p1 hb rb mb a z)
    (ha0 : 0 ≤ a) (ha1 : a < 4294967296) :
    Calls Tryz.prog 120 #[.int .i64 f, .pointer (some ⟨p0, 0, none⟩), .pointer (some ⟨p1, 0, none⟩)] w fun e w' => e = .returned (.int .i64 (takeOut1 n g a f).2) ∧ Went w w' hb rb mb pb n (takeOut1 n g a f).1 P c 4 [rb, mb] := by
  obtain ⟨x, hx⟩ : ∃ x, x = rd n g (a + 8) := ⟨_, rfl⟩
  obtain ⟨y, hy⟩ : ∃ y, y = rd n g (a + 12) := ⟨_, rfl⟩
  obtain ⟨r, hr⟩ : ∃ r, r = takeOut1 n g a f := ⟨_, rfl⟩
  have hx0 := h.range (a + 8)
  have hy0 := h.range (a + 12)
  rw [← hx] at hx0
  rw [← hy] at hy0
  rw [← hr]
  unfold takeOut1 at hr
  rw [← hx, ← hy] at hr
  have R := hid hr
  have HX := hid hx
  have HY := hid hy
  have H := hid h
  have L := hid hl
  have w8 : IntKind.i64.wrap (a + 8) = a + 8 := IntWalk.i64_in _ ⟨by omega, by omega⟩
  have w12 : IntKind.i64.wrap (a + 12) = a + 12 := IntWalk.i64_in _ ⟨by omega, by omega⟩
  clear h hl hr hx hy
  go_enter Tryz.func120, Tryz.ntmps120
  go_wp2_with fail
  go_region_held (fun w' => w'.cell? ⟨p0, 0, none⟩ = some (.pointer (some ⟨hb, 0, none⟩)) ∧ w'.cell? ⟨p1, 0, none⟩ = some (.int .i64 a))
    (first
      | exact (L.out.keep (Kp.drew _ _)).two
      | exact ((L.out.keep (Kp.drew _ _)).keep ((hK1.mono (by simp)).trans (hK2.mono (by simp)))).two
      | exact ((L.out.keep (Kp.drew _ _)).keep (hK1.mono (by simp))).two)
    (first
      | (go_at_call 73; have _hh := hK1; refine (word_any _ hb rb mb pb n g c1 P (a + 12) hH1 (by omega) (by omega)).mono ?_; rintro e w2 ⟨rfl, c2, hc2, hc2', hH2, hK2⟩)
      | (go_at_call 73; refine (word_any _ hb rb mb pb n g c P (a + 8) (H.out.same (Kp.drew _ _)) (by omega) (by omega)).mono ?_; rintro e w1 ⟨rfl, c1, hc1, hc1', hH1, hK1⟩))
  have K2 := hid (show Kp w w2 [rb, mb] from ((Kp.drew _ _).trans (hK1.mono (by simp))).trans (hK2.mono (by simp)))
  have H2 := hid hH2
  have L2 := hid (L.out.keep K2.out)
  clear hK1 hK2 hH1 hH2
  have q0 := L2.out.c0
  rw [← HX.out, ← HY.out]
  clear w8 w12
  by_cases hx1 : x = 0
  · have tx : (x != 0) = false := by simp [hx1]
    have R1 := hid (show r = if y = 0 then (g, x) else (wr n g (y + 8) x, f) by rw [R.out, if_pos hx1])
    clear hx1
    by_cases hy1 : y = 0
    · have ty : (y == 0) = true := by simp [hy1]
      have R2 := hid (show r = (g, x) by rw [R1.out, if_pos hy1])
      clear hy1
      go_wp2
      go_ret
      rw [R2.out]
      exact ⟨rfl, c2, by omega, by omega, H2.out, K2.out⟩
    · have ty : (y == 0) = false := by simp [hy1]
      have R2 := hid (show r = (wr n g (y + 8) x, f) by rw [R1.out, if_neg hy1])
      clear hy1
      go_wp2_with fail
      refine (setWord_any w2 hb rb mb pb n _ c2 P (y + 8) x H2.out (by omega) (by omega) hx0.1 hx0.2).mono ?_
      rintro e w3 ⟨rfl, c3, hc3, hc3', hH3, hK3⟩
      have H3 := hid hH3
      have K3 := hid (K2.out.trans hK3)
      clear hH3 hK3 q0
      go_wp2
      go_ret
      rw [R2.out]
      exact ⟨rfl, c3, by omega, by omega, H3.out, K3.out⟩
  · have tx : (x != 0) = true := by simp [hx1]
    have R1 := hid (show r = if y = 0 then (wr n g (x + 12) y, x) else (wr n (wr n g (x + 12) y) (y + 8) x, f) by rw [R.out, if_neg hx1])
    clear hx1
    go_wp2_with fail
    refine (setWord_any w2 hb rb mb pb n _ c2 P (x + 12) y H2.out (by omega) (by omega) hy0.1 hy0.2).mono ?_
    rintro e w3 ⟨rfl, c3, hc3, hc3', hH3, hK3⟩
    have H3 := hid hH3
    have L3 := hid (L2.out.keep hK3)
    have K3 := hid (K2.out.trans hK3)
    clear hH3 hK3 q0
    have q0 := L3.out.c0
    by_cases hy1 : y = 0
    · have ty : (y == 0) = true := by simp [hy1]
      have R2 := hid (show r = (wr n g (x + 12) y, x) by rw [R1.out, if_pos hy1])
      clear hy1
      go_wp2
      go_ret
      rw [R2.out]
      exact ⟨rfl, c3, by omega, by omega, H3.out, K3.out⟩
    · have ty : (y == 0) = false := by simp [hy1]
      have R2 := hid (show r = (wr n (wr n g (x + 12) y) (y + 8) x, f) by rw [R1.out, if_neg hy1])
      clear hy1
      go_wp2_with fail
      refine (setWord_any w3 hb rb mb pb n _ c3 P (y + 8) x H3.out (by omega) (by omega) hx0.1 hx0.2).mono ?_
      rintro e w4 ⟨rfl, c4, hc4, hc4', hH4, hK4⟩
      have H4 := hid hH4
      have K4 := hid (K3.out.trans hK4)
      clear hH4 hK4 q0
      go_wp2
      go_ret
      rw [R2.out]
      exact ⟨rfl, c4, by omega, by omega, H4.out, K4.out⟩
end Go.Proofs.YtgefmnnkpffpcaaGreatDoor
