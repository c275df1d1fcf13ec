/- checkRest, checkList. -/
import Derived.Deep.LoopGhost
import Derived.Test.YtgefmnnkpffpcaaGreatDoorHzero
namespace Go.Proofs.YtgefmnnkpffpcaaGreatDoor
open Go.RowKit Go.Maps

set_option maxRecDepth 100000 in
set_option maxHeartbeats 1000000 in
theorem rest_ok (w : World) (hb rb mb pb n : Nat) (g : Mem) (c : Int) (P : Pcs) (h : Hp w hb rb mb pb n g c P) (hc : c < 1152921504606820000) (h0 : rd n g 100 = 0) (h1 : rd n g 104 = 0) (h2 : rd n g 108 = 0) :
    Calls Tryz.prog 75 #[.pointer (some ⟨hb, 0, none⟩)] w fun e w' => e = .returned (.bool true) ∧ Went w w' hb rb mb pb n g P c 3 [rb] := by
  have H := hid h
  have R0 := hid h0
  have R1 := hid h1
  have R2 := hid h2
  clear h h0 h1 h2
  go_enter Tryz.func75, Tryz.ntmps75
  go_wp2_with fail
  refine wp_loop_rounds 4 ?_
  rw [rounds_succ]
  go_wp2_with fail
  refine (word_any w hb rb mb pb n g c P 100 H.out (by omega) (by decide)).mono ?_
  rintro e w1 ⟨rfl, c1, hc1, hc1', hH1, hK1⟩
  rw [R0.out]
  have H1 := hid hH1
  have K1 := hid hK1
  clear hH1 hK1
  go_wp2_with fail
  rw [rounds_succ]
  go_wp2_with fail
  refine (word_any w1 hb rb mb pb n g c1 P 104 H1.out (by omega) (by decide)).mono ?_
  rintro e w2 ⟨rfl, c2, hc2, hc2', hH2, hK2⟩
  rw [R1.out]
  have H2 := hid hH2
  have K2 := hid (K1.out.trans hK2)
  clear hH2 hK2
  go_wp2_with fail
  rw [rounds_succ]
  go_wp2_with fail
  refine (word_any w2 hb rb mb pb n g c2 P 108 H2.out (by omega) (by decide)).mono ?_
  rintro e w3 ⟨rfl, c3, hc3, hc3', hH3, hK3⟩
  rw [R2.out]
  have H3 := hid hH3
  have K3 := hid (K2.out.trans hK3)
  clear hH3 hK3
  go_wp2_with fail
  rw [rounds_succ]
  go_wp2_with fail
  go_ret
  exact ⟨rfl, c3, by omega, by omega, H3.out, K3.out⟩

/-- A class's list, taken out of the free blocks: what is left of them. -/
def chkL (n : Nat) (g : Mem) (cl : Int) : Nat → Int → Int → Pcs → Option Pcs
  | 0, _, a, F => if a = 0 then some F else none
  | k + 1, pr, a, F => if a = 0 then some F else if hasP F a = true ∧ getP F a = cl ∧ rd n g (a + 12) = pr then chkL n g cl k a (rd n g (a + 8)) (delP F a) else none

/-- While the check goes on: the heap, and the map of the free blocks. -/
def Ck (w w' : World) (hb rb mb pb fb n : Nat) (g : Mem) (P : Pcs) (c k : Int) (F : Pcs) : Prop :=
  ∃ c', c ≤ c' ∧ c' ≤ c + k ∧ Hp w' hb rb mb pb n g c' P ∧ Mp w' fb F ∧ Kp w w' [rb, fb]
/-- A block that is none of the heap's. -/
def Off (hb rb mb pb fb : Nat) : Prop := fb ≠ hb ∧ fb ≠ rb ∧ fb ≠ mb ∧ fb ≠ pb ∧ fb ≠ 0
theorem Ck.word {w w' w'' : World} {hb rb mb pb fb n : Nat} {g : Mem} {P F : Pcs} {c k c1 : Int} (hf : Off hb rb mb pb fb) (h1 : c ≤ c1) (h2 : c1 ≤ c + k) (hM : Mp w' fb F) (hK : Kp w w' [rb, fb]) (hW : Went w' w'' hb rb mb pb n g P c1 1 [rb]) : Ck w w'' hb rb mb pb fb n g P c (k + 1) F := by
  obtain ⟨c2, x1, x2, x3, x4⟩ := hW
  exact ⟨c2, by omega, by omega, x3, hM.keep x4 (by simp; exact hf.2.1), hK.trans (x4.mono (by simp))⟩
theorem Ck.drop {w w' w'' : World} {hb rb mb pb fb n : Nat} {g : Mem} {P F F' : Pcs} {c k : Int} (hf : Off hb rb mb pb fb) (h : Ck w w' hb rb mb pb fb n g P c k F) (hM : Mp w'' fb F') (hK : Kp w' w'' [fb]) : Ck w w'' hb rb mb pb fb n g P c k F' := by
  obtain ⟨c1, x1, x2, x3, -, x5⟩ := h
  have hf2 := hf
  unfold Off at hf2
  exact ⟨c1, x1, x2, x3.keep hK (by simp; omega) (by simp; omega) (by simp; omega) (by simp; omega) (by simp; omega), hM, x5.trans (hK.mono (by simp))⟩
theorem Ck.mono {w w' : World} {hb rb mb pb fb n : Nat} {g : Mem} {P F : Pcs} {c k k' : Int} (h : Ck w w' hb rb mb pb fb n g P c k F) (hk : k ≤ k') : Ck w w' hb rb mb pb fb n g P c k' F := by
  obtain ⟨c1, x1, x2, x3⟩ := h
  exact ⟨c1, x1, by omega, x3⟩
theorem chkL_zero {n j : Nat} {g : Mem} {cl pr : Int} {F F' : Pcs} (h : chkL n g cl j pr 0 F = some F') : F = F' := by
  cases j <;> simpa [chkL] using h
theorem chkL_step {n j : Nat} {g : Mem} {cl pr z : Int} {F F' : Pcs} (h : chkL n g cl j pr z F = some F') (hz : z ≠ 0) : ∃ i, j = i + 1 ∧ hasP F z = true ∧ getP F z = cl ∧ rd n g (z + 12) = pr ∧ chkL n g cl i z (rd n g (z + 8)) (delP F z) = some F' := by
  cases j with
  | zero => simp [chkL, hz] at h
  | succ i =>
    rw [chkL, if_neg hz] at h
    split at h
    · rename_i hh
      exact ⟨i, rfl, hh.1, hh.2.1, hh.2.2, h⟩
    · cases h

set_option maxRecDepth 100000 in
set_option maxHeartbeats 4000000 in
theorem list_ok (w : World) (hb rb mb pb fb n k : Nat) (g : Mem) (c cl : Int) (P F F' : Pcs) (h : Hp w hb rb mb pb n g c P) (hF : Mp w fb F) (hf : Off hb rb mb pb fb) (hc : c + 2 * k < 1152921504606820000) (h0 : 0 ≤ cl) (h1 : cl < 1000)
    (hL : chkL n g cl k 0 (rd n g (4 + cl * 4)) F = some F') :
    Calls Tryz.prog 111 #[.pointer (some ⟨hb, 0, none⟩), .int .i64 cl, .map (some fb)] w fun e w' => e = .returned (.bool true) ∧ Ck w w' hb rb mb pb fb n g P c (2 * k + 1) F' := by
  have H := hid h
  have M := hid hF
  have OF := hid hf
  have HL := hid hL
  have hr := h.range (4 + cl * 4)
  obtain ⟨x, hx⟩ : ∃ x, rd n g (4 + cl * 4) = x := ⟨_, rfl⟩
  rw [hx] at hr HL
  have HX := hid hx
  clear h hF hf hL hx
  go_enter Tryz.func111, Tryz.ntmps111
  go_wp2_with fail
  go_step3
  go_wp2_with (go_at_call 96; refine (firstAt_any _ cl h0 h1).mono ?_; rintro e w' ⟨rfl, hE⟩; rw [hE]; clear hE)
  refine (word_any _ hb rb mb pb n g c P (4 + cl * 4) H.out (by omega) (by omega)).mono ?_
  rintro e w1 ⟨rfl, hW1⟩
  rw [HX.out]
  have C1 := hid (Ck.word (k := 0) OF.out (Int.le_refl c) (by omega) M.out (Kp.refl _ _) hW1)
  clear hW1
  go_wp2_with fail
  go_step3
  go_wp2_with fail
  go_loopg [7, 8] k (fun j p a wr => ∃ pr z F1, p = .int .i64 pr ∧ a = .int .i64 z ∧ j ≤ k ∧ 0 ≤ z ∧ z < 4294967296 ∧ Hid (chkL n g cl j pr z F1 = some F') ∧ Hid (Ck w wr hb rb mb pb fb n g P c (2 * (k - j : Int) + 1) F1))
  case atStart => exact ⟨0, x, F, rfl, rfl, Nat.le_refl _, hr.1, hr.2, HL, hid (C1.out.mono (by omega))⟩
  case round =>
    obtain ⟨pr, z, F1, rfl, rfl, hjk, hz0, hz1, CL, CK⟩ := hrel
    by_cases hz : z = 0
    · subst hz
      have FE := hid (chkL_zero CL.out)
      clear CL
      go_wp2_with fail
      rw [Exit.noGoto_ret]
      go_ret
      exact ⟨rfl, by rw [← FE.out]; exact CK.out.mono (by omega)⟩
    · obtain ⟨i, rfl, t1, t2, t3, t4⟩ := chkL_step CL.out hz
      obtain ⟨c1, x1, x2, hH1, hM1, hK1⟩ := CK.out
      have lk := hM1.look (k := z) (by omega) (by omega)
      rw [t1, t2] at lk
      have hzb : (z == 0) = false := by simpa using hz
      have RD := hid t3
      have T4 := hid t4
      have H1 := hid hH1
      have M1 := hid hM1
      have K1 := hid hK1
      have DD := hid (dat_del F1 z)
      clear CL CK t1 t2 t3 t4 hH1 hM1 hK1 hz
      go_wp2_with fail
      refine (word_any wr hb rb mb pb n g c1 P (z + 12) H1.out (by omega) (by omega)).mono ?_
      rintro e w2 ⟨rfl, hW2⟩
      rw [RD.out]
      have C2 := hid (Ck.word OF.out x1 x2 M1.out K1.out hW2)
      obtain ⟨c2, y1, y2, hH2, hM2, hK2⟩ := C2.out
      have M2 := hid hM2
      clear hW2 lk hH2 hM2 hK2
      go_wp2_with (at_delete; refine wpList_delete_own _ rfl _ _ 65 3 rfl 3 keyed3 Tryz.underlying65 _ fb _ _ rfl M2.out _ _ rfl (keyOf_int_mk Tryz.underlying3 (wf64 (by omega) (by omega))) ?_; intro w3 hown3 hturn3; rw [DD.out] at hown3; have M3 := hid (Mp.of_owns hown3); have KK3 := hid (Kp.turned hturn3); clear hown3 hturn3)
      have C3 := hid (C2.out.drop OF.out M3.out KK3.out)
      obtain ⟨c3, v1, v2, hH3, hM3, hK3⟩ := C3.out
      have hr3 := hH3.range (z + 8)
      obtain ⟨y, hy⟩ : ∃ y, rd n g (z + 8) = y := ⟨_, rfl⟩
      rw [hy] at hr3 T4
      have HY := hid hy
      have H3 := hid hH3
      have K3 := hid hK3
      clear hH3 hM3 hK3 hy
      refine (word_any w3 hb rb mb pb n g c3 P (z + 8) H3.out (by omega) (by omega)).mono ?_
      rintro e w4 ⟨rfl, hW4⟩
      rw [HY.out]
      have C4 := hid (Ck.word OF.out v1 v2 M3.out K3.out hW4)
      clear hW4
      go_wp2_with fail
      go_roundg i
      case measure => omega
      case rel => exact ⟨z, y, delP F1 z, rfl, rfl, by omega, hr3.1, hr3.2, T4, hid (C4.out.mono (by omega))⟩
end Go.Proofs.YtgefmnnkpffpcaaGreatDoor
