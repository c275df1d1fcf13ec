/- change: a list's first block is what a closure tells; the class's bit. -/
import Derived.Test.YtgefmnnkpffpcaaGreatDoorHnumJ
namespace Go.Proofs.YtgefmnnkpffpcaaGreatDoor
open Go.RowKit

theorem bit_off (x : Int) (k : Nat) (h0 : 0 ≤ x) (h1 : x < 4294967296) (hk : k < 32) : bits .andNot .i64 x (2 ^ k) = bitOf x k false ∧ 0 ≤ bitOf x k false ∧ bitOf x k false < 4294967296 := by
  obtain ⟨y, rfl⟩ := Int.eq_ofNat_of_zero_le h0
  have hp : 2 ^ k < 2 ^ 32 := Nat.pow_lt_pow_right (by decide) hk
  have e : (2 : Int) ^ k = ((2 ^ k : Nat) : Int) := by push_cast; rfl
  have : y &&& (18446744073709551615 - 2 ^ k) ≤ y := Nat.and_le_left
  refine ⟨?_, ?_, ?_⟩
  · rw [e, i64_andNot y (2 ^ k) (by omega) (by omega)]; rfl
  · simp only [bitOf, Int.toNat_natCast]; simp only [Bool.false_eq_true, if_false]; omega
  · simp only [bitOf, Int.toNat_natCast]; simp only [Bool.false_eq_true, if_false]; omega
theorem bit_on (x : Int) (k : Nat) (h0 : 0 ≤ x) (h1 : x < 4294967296) (hk : k < 32) : bits .or .i64 (bitOf x k false) (2 ^ k) = bitOf x k true ∧ 0 ≤ bitOf x k true ∧ bitOf x k true < 4294967296 := by
  obtain ⟨y, rfl⟩ := Int.eq_ofNat_of_zero_le h0
  have hp : 2 ^ k < 2 ^ 32 := Nat.pow_lt_pow_right (by decide) hk
  have e : (2 : Int) ^ k = ((2 ^ k : Nat) : Int) := by push_cast; rfl
  have hle : y &&& (18446744073709551615 - 2 ^ k) ≤ y := Nat.and_le_left
  have e1 : bitOf (y : Int) k false = ((y &&& (18446744073709551615 - 2 ^ k) : Nat) : Int) := rfl
  have e2 : bitOf (y : Int) k true = ((y &&& (18446744073709551615 - 2 ^ k) ||| 2 ^ k : Nat) : Int) := rfl
  have hb : y &&& (18446744073709551615 - 2 ^ k) ||| 2 ^ k < 2 ^ 32 := Nat.or_lt_two_pow (by omega) hp
  refine ⟨?_, ?_, ?_⟩
  · rw [e, e1, e2, i64_or _ _ (by omega) (by omega)]
  · rw [e2]; omega
  · rw [e2]; omega

set_option maxRecDepth 100000 in
set_option maxHeartbeats 1000000 in
theorem change_any (w : World) (hb rb mb pb n F p0 p1 k : Nat) (g g1 : Mem) (c : Int) (P : Pcs) (f : Int) (h : Hp w hb rb mb pb n g c P) (hc : c < 1152921504606846976) (hk : k < 32)
    (hf0 : 0 ≤ f) (hf1 : f < 4294967296) (heg : ∀ args w, (callFunc F args).run Tryz.prog w = .ok (.enter F args) w)
    (hcall : ∀ w1 c1, Hp w1 hb rb mb pb n g c1 P → c1 ≤ c + 1 → Kp w w1 [rb, mb] → Calls Tryz.prog F #[.int .i64 (rd n g (4 + (k : Int) * 4)), .pointer (some ⟨p0, 0, none⟩), .pointer (some ⟨p1, 0, none⟩)] w1 fun e w' => e = .returned (.int .i64 f) ∧ Went w1 w' hb rb mb pb n g1 P c1 4 [rb, mb]) :
    Calls Tryz.prog 101 #[.pointer (some ⟨hb, 0, none⟩), .int .i64 k, .func (.func F) #[] #[.pointer (some ⟨p0, 0, none⟩), .pointer (some ⟨p1, 0, none⟩)]] w fun e w' => e = .returned (.tuple #[]) ∧ Went w w' hb rb mb pb n (told n g1 k f) P c 8 [rb, mb] := by
  have H := hid h
  have HC := hid hcall
  clear h hcall
  go_enter Tryz.func101, Tryz.ntmps101
  go_wp2_with fail
  refine (firstAt_any w k (by omega) (by omega)).mono ?_
  rintro e w' ⟨rfl, rfl⟩
  go_wp2_with fail
  refine (word_any w' hb rb mb pb n g c P (4 + (k : Int) * 4) H.out (by omega) (by omega)).mono ?_
  rintro e w1 ⟨rfl, c1, hc1, hc1', hH1, hK1⟩
  have H1 := hid hH1
  have K1 := hid (show Kp w' w1 [rb, mb] from hK1.mono (by simp))
  clear hH1 hK1
  go_wp2_with fail
  refine (HC.out w1 c1 H1.out (by omega) K1.out).mono ?_
  rintro e w2 ⟨rfl, c2, hc2, hc2', hH2, hK2⟩
  have H2 := hid hH2
  have K2 := hid (K1.out.trans hK2)
  clear hH2 hK2 heg
  go_wp2_with fail
  refine (firstAt_any w2 k (by omega) (by omega)).mono ?_
  rintro e w'' ⟨rfl, rfl⟩
  go_wp2_with fail
  refine (setWord_any w'' hb rb mb pb n g1 c2 P (4 + (k : Int) * 4) f H2.out (by omega) (by omega) hf0 hf1).mono ?_
  rintro e w3 ⟨rfl, c3, hc3, hc3', hH3, hK3⟩
  have H3 := hid hH3
  have K3 := hid (K2.out.trans hK3)
  obtain ⟨g3, hg3⟩ : ∃ g3, g3 = wr n g1 (4 + (k : Int) * 4) f := ⟨_, rfl⟩
  have G3 := hid (show told n g1 k f = wr n g3 0 (bitOf (rd n g3 0) k (f != 0)) by rw [hg3]; unfold told; rw [Int.toNat_natCast])
  rw [← hg3] at H3
  obtain ⟨v, hv⟩ : ∃ v, v = rd n g3 0 := ⟨_, rfl⟩
  have hv0 := H3.out.range 0
  rw [← hv] at hv0
  have V := hid hv
  obtain ⟨b1, b2, b3⟩ := bit_off v k hv0.1 hv0.2 hk
  obtain ⟨d1, d2, d3⟩ := bit_on v k hv0.1 hv0.2 hk
  obtain ⟨A, hA⟩ : ∃ A, A = bitOf v k false := ⟨_, rfl⟩
  obtain ⟨O, hO⟩ : ∃ O, O = bitOf v k true := ⟨_, rfl⟩
  rw [← hA] at b1 b2 b3 d1
  rw [← hO] at d1 d2 d3
  have HA := hid hA
  have HO := hid hO
  have hw2 : IntKind.i64.wrap (2 ^ k) = 2 ^ k := by
    have hp : 2 ^ k < 2 ^ 32 := Nat.pow_lt_pow_right (by decide) hk
    have e : (2 : Int) ^ k = ((2 ^ k : Nat) : Int) := by push_cast; rfl
    rw [e]
    exact wrap64_small _ (by omega)
  clear hH3 hK3 hg3 hv hA hO
  go_wp2_with fail
  go_region_held (fun w' => True)
    (trivial)
    ((go_at_call 73; refine (word_any _ hb rb mb pb n g3 c3 P 0 (H3.out.same (Kp.drew _ _)) (by omega) (by omega)).mono ?_; rintro e w4 ⟨rfl, c4, hc4, hc4', hH4, hK4⟩))
  rw [← V.out, b1]
  have H4 := hid hH4
  have K4 := hid (K3.out.trans (show Kp w3 w4 [rb, mb] from (Kp.drew _ _).trans (hK4.mono (by simp))))
  clear hH4 hK4 b1
  by_cases hz : f = 0
  · have tz : (f != 0) = false := by simp [hz]
    have G4 := hid (show told n g1 k f = wr n g3 0 A by rw [G3.out, tz, HA.out, V.out])
    clear hz
    go_wp2_with fail
    refine (setWord_any w4 hb rb mb pb n g3 c4 P 0 A H4.out (by omega) (by omega) b2 b3).mono ?_
    rintro e w5 ⟨rfl, c5, hc5, hc5', hH5, hK5⟩
    have H5 := hid hH5
    have K5 := hid (K4.out.trans hK5)
    clear hH5 hK5
    go_wp2
    refine bodyPost_end (results_none rfl _ _ _) rfl ?_
    rw [G4.out]
    exact ⟨rfl, c5, by omega, by omega, H5.out, K5.out⟩
  · have tz : (f != 0) = true := by simp [hz]
    have G4 := hid (show told n g1 k f = wr n g3 0 O by rw [G3.out, tz, HO.out, V.out])
    clear hz
    go_wp2_with fail
    refine (setWord_any w4 hb rb mb pb n g3 c4 P 0 O H4.out (by omega) (by omega) d2 d3).mono ?_
    rintro e w5 ⟨rfl, c5, hc5, hc5', hH5, hK5⟩
    have H5 := hid hH5
    have K5 := hid (K4.out.trans hK5)
    clear hH5 hK5
    go_wp2
    refine bodyPost_end (results_none rfl _ _ _) rfl ?_
    rw [G4.out]
    exact ⟨rfl, c5, by omega, by omega, H5.out, K5.out⟩
end Go.Proofs.YtgefmnnkpffpcaaGreatDoor

/- mark: a block's size, and where it begins, to the block behind it. -/
namespace Go.Proofs.YtgefmnnkpffpcaaGreatDoor
open Go.RowKit

/-- A block, boxed. -/
structure Bx (w : World) (p rb mb : Nat) (a z : Int) : Prop where
  c1 : w.cell? ⟨p, 0, none⟩ = some (.int .i64 a)
  c2 : w.cell? ⟨p, 1, none⟩ = some (.int .i64 z)
  n1 : p ≠ rb ∧ p ≠ mb
theorem Bx.keep {w w' : World} {p rb mb : Nat} {a z : Int} (h : Bx w p rb mb a z) (hk : Kp w w' [rb, mb]) : Bx w' p rb mb a z := by
  have := h.n1
  exact ⟨hk.cell h.c1 (by simp; omega), hk.cell h.c2 (by simp; omega), h.n1⟩
theorem cell2_new {w : World} {u v : Value} {t : TypeId} : (w.alloc (.cells #[u, v] t)).cell? ⟨w.heap.size, 0, none⟩ = some u ∧ (w.alloc (.cells #[u, v] t)).cell? ⟨w.heap.size, 1, none⟩ = some v :=
  ⟨cell_two0 (heap_alloc_new w _), cell_two1 (heap_alloc_new w _)⟩
theorem Bx.new {w : World} {rb mb : Nat} {a z : Int} {t : TypeId} (h1 : rb < w.heap.size) (h2 : mb < w.heap.size) : Bx (w.alloc (.cells #[.int .i64 a, .int .i64 z] t)) w.heap.size rb mb a z :=
  ⟨cell2_new.1, cell2_new.2, by omega⟩
theorem or_flag (z fl : Int) (h0 : 0 ≤ z) (h1 : z < 4294967296) (h8 : z % 8 = 0) (hf : fl = 0 ∨ fl = 1) : bits .or .i64 z fl = z + fl := by
  obtain ⟨y, rfl⟩ := Int.eq_ofNat_of_zero_le h0
  rcases hf with rfl | rfl
  · have := i64_or y 0 (by omega) (by decide)
    simpa using this
  · have h := i64_or y 1 (by omega) (by decide)
    have e : y ||| 1 = y + 1 := by
      have := Nat.two_pow_add_eq_or_of_lt (i := 1) (b := 1) (by decide) (y / 2)
      rw [show 2 ^ 1 * (y / 2) = y by omega] at this
      exact this.symm
    rw [e] at h
    exact h
theorem Hp.sized {w : World} {hb rb mb pb n : Nat} {g : Mem} {c : Int} {P : Pcs} (h : Hp w hb rb mb pb n g c P) : Calls Tryz.prog 65 #[.pointer (some ⟨rb, 0, none⟩)] w fun e w' => e = .returned (.int .i64 n) ∧ w' = w := by
  obtain ⟨f, ha, -⟩ := h.aw
  exact size_ok w rb mb n f c ha
theorem keepBx3 {w w' : World} {p hb rb mb pb n : Nat} {g : Mem} {c a z : Int} {P : Pcs} (hB : Bx w p rb mb a z) (hH : Hp w hb rb mb pb n g c P) (hk : Kp w w' []) : w'.cell? ⟨p, 0, none⟩ = some (.int .i64 a) ∧ w'.cell? ⟨p, 1, none⟩ = some (.int .i64 z) ∧ w'.cell? ⟨hb, 0, none⟩ = some (.pointer (some ⟨rb, 0, none⟩)) :=
  ⟨hk.cell hB.c1 (by simp), hk.cell hB.c2 (by simp), hk.cell hH.c0cell (by simp)⟩
/-- Like Kp, one word for 'it is as it was'. -/
theorem Kp.of_eq {w w' : World} (h : w' = w) : Kp w w' [] := by subst h; exact Kp.refl _ _

set_option maxRecDepth 100000 in
set_option maxHeartbeats 1000000 in
theorem mark_any (w : World) (hb rb mb pb n : Nat) (g : Mem) (c : Int) (P : Pcs) (a z fl : Int) (h : Hp w hb rb mb pb n g c P) (hc : c < 1152921504606846976)
    (ha0 : 0 ≤ a) (ha1 : a < 1048576) (hz0 : 0 ≤ z) (hz1 : z < 1048576) (hz8 : z % 8 = 0) (hfl : fl = 0 ∨ fl = 1) :
    Calls Tryz.prog 99 #[.pointer (some ⟨hb, 0, none⟩), .agg #[.int .i64 a, .int .i64 z], .int .i64 fl] w fun e w' => e = .returned (.tuple #[]) ∧ Went w w' hb rb mb pb n (mark n g a z fl) P c 2 [rb, mb] := by
  have hor := or_flag z fl hz0 (by omega) hz8 hfl
  have hf0 : 0 ≤ fl ∧ fl ≤ 1 := by omega
  have hlt := h.lt
  have W1 := hid (Kp.alloc w (.cells #[.int .i64 a, .int .i64 z] 87) [])
  have B1 := hid (Bx.new (w := w) (a := a) (z := z) (t := 87) hlt.2.1 hlt.2.2.1)
  have H1 := hid (h.same W1.out)
  have HZ8 := hid hz8
  clear h hfl hlt hz8
  go_enter Tryz.func99, Tryz.ntmps99
  go_wp2_with fail
  refine (setWord_any _ hb rb mb pb n g c P a (z + fl) H1.out (by omega) (by omega) (by omega) (by omega)).mono ?_
  rintro e w2 ⟨rfl, c2, hc2, hc2', hH2, hK2⟩
  have H2 := hid hH2
  have B2 := hid (B1.out.keep hK2)
  have K2 := hid (W1.out.nil.trans hK2)
  clear hH2 hK2 hor
  go_wp2_with fail
  go_region_held (fun w' => w'.cell? ⟨w.heap.size, 0, none⟩ = some (.int .i64 a) ∧ w'.cell? ⟨w.heap.size, 1, none⟩ = some (.int .i64 z) ∧ w'.cell? ⟨hb, 0, none⟩ = some (.pointer (some ⟨rb, 0, none⟩)))
    (first
      | exact keepBx3 B2.out H2.out (Kp.drew _ _)
      | exact keepBx3 B2.out H2.out ((Kp.drew _ _).trans hK3)
      | exact keepBx3 B2.out H2.out (((Kp.drew _ _).trans hK3).trans hK4))
    (first
      | (go_at_call 62; refine (end_any _ a z (by omega) (by omega) (by omega) (by omega)).mono ?_; rintro e w3 ⟨rfl, hK3⟩)
      | (go_at_call 65; refine ((H2.out.same ((Kp.drew _ _).trans hK3)).sized).mono ?_; rintro e w4 ⟨rfl, hE4⟩; have hK4 := Kp.of_eq hE4))
  have K3 := hid (show Kp w2 w3 [] from (Kp.drew _ _).trans hK3)
  have H3 := hid (H2.out.same K3.out)
  have B3 := hid (B2.out.keep K3.out.nil)
  clear hK3 hK4 hE4
  by_cases hlt : a + z < n
  · have M := hid (show mark n g a z fl = wr n (wr n g a (z + fl)) (a + z + 4) a by unfold mark; rw [if_pos hlt])
    have w4e : IntKind.i64.wrap (a + z + 4) = a + z + 4 := IntWalk.i64_in _ ⟨by omega, by omega⟩
    go_wp2_with fail
    go_region_held (fun w' => w'.cell? ⟨w.heap.size, 0, none⟩ = some (.int .i64 a) ∧ w'.cell? ⟨w.heap.size, 1, none⟩ = some (.int .i64 z) ∧ w'.cell? ⟨hb, 0, none⟩ = some (.pointer (some ⟨rb, 0, none⟩)))
      (first
        | exact keepBx3 B3.out H3.out (Kp.drew _ _)
        | exact keepBx3 B3.out H3.out ((Kp.drew _ _).trans hK5)
        | exact keepBx3 ((B3.out.keep (Kp.drew _ _)).keep (hK5.nil.trans hK6)) hH6 (Kp.refl _ _))
      (first
        | (go_at_call 62; refine (end_any _ a z (by omega) (by omega) (by omega) (by omega)).mono ?_; rintro e w5 ⟨rfl, hK5⟩)
        | (go_at_call 103; refine (setWord_any _ hb rb mb pb n _ c2 P (a + z + 4) a (H3.out.same ((Kp.drew _ _).trans hK5)) (by omega) (by omega) (by omega) (by omega)).mono ?_; rintro e w6 ⟨rfl, c6, hc6, hc6', hH6, hK6⟩))
    have H6 := hid hH6
    have K6 := hid (show Kp w w6 [rb, mb] from (K2.out.trans K3.out.nil).trans (((Kp.drew _ _).trans hK5.nil).trans hK6))
    clear hH6 hK6 hK5
    go_wp2
    refine bodyPost_end (results_none rfl _ _ _) rfl ?_
    rw [M.out]
    exact ⟨rfl, c6, by omega, by omega, H6.out, K6.out⟩
  · have M := hid (show mark n g a z fl = wr n g a (z + fl) by unfold mark; rw [if_neg hlt])
    go_wp2_with fail
    refine bodyPost_end (results_none rfl _ _ _) rfl ?_
    rw [M.out]
    exact ⟨rfl, c2, by omega, by omega, H3.out, K2.out.trans K3.out.nil⟩
end Go.Proofs.YtgefmnnkpffpcaaGreatDoor
