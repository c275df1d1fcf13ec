/- mark: a block's size, and where it begins, to the block behind it. -/
import Derived.Test.YtgefmnnkpffpcaaGreatDoorHchange
namespace Go.Proofs.YtgefmnnkpffpcaaGreatDoor
open Go.RowKit

/-- A block, boxed. -/
structure Bx (w : World) (p rb mb : Nat) (a z : Int) : Prop where
  c1 : w.cell? ⟨p, 0, none⟩ = some (.int .i64 a)
  c2 : w.cell? ⟨p, 1, none⟩ = some (.int .i64 z)
  n1 : p ≠ rb ∧ p ≠ mb
theorem Bx.keep {w w' : World} {p rb mb : Nat} {a z : Int} (h : Bx w p rb mb a z) (hk : Kp w w' [rb, mb]) : Bx w' p rb mb a z := by
  have := h.n1
  exact ⟨hk.cell h.c1 (by simp; omega), hk.cell h.c2 (by simp; omega), h.n1⟩
theorem cell2_new {w : World} {u v : Value} {t : TypeId} : (w.alloc (.cells #[u, v] t)).cell? ⟨w.heap.size, 0, none⟩ = some u ∧ (w.alloc (.cells #[u, v] t)).cell? ⟨w.heap.size, 1, none⟩ = some v :=
  ⟨cell_two0 (heap_alloc_new w _), cell_two1 (heap_alloc_new w _)⟩
theorem Bx.new {w : World} {rb mb : Nat} {a z : Int} {t : TypeId} (h1 : rb < w.heap.size) (h2 : mb < w.heap.size) : Bx (w.alloc (.cells #[.int .i64 a, .int .i64 z] t)) w.heap.size rb mb a z :=
  ⟨cell2_new.1, cell2_new.2, by omega⟩
theorem or_flag (z fl : Int) (h0 : 0 ≤ z) (h1 : z < 4294967296) (h8 : z % 8 = 0) (hf : fl = 0 ∨ fl = 1) : bits .or .i64 z fl = z + fl := by
  obtain ⟨y, rfl⟩ := Int.eq_ofNat_of_zero_le h0
  rcases hf with rfl | rfl
  · have := i64_or y 0 (by omega) (by decide)
    simpa using this
  · have h := i64_or y 1 (by omega) (by decide)
    have e : y ||| 1 = y + 1 := by
      have := Nat.two_pow_add_eq_or_of_lt (i := 1) (b := 1) (by decide) (y / 2)
      rw [show 2 ^ 1 * (y / 2) = y by omega] at this
      exact this.symm
    rw [e] at h
    exact h
theorem Hp.sized {w : World} {hb rb mb pb n : Nat} {g : Mem} {c : Int} {P : Pcs} (h : Hp w hb rb mb pb n g c P) : Calls Tryz.prog 65 #[.pointer (some ⟨rb, 0, none⟩)] w fun e w' => e = .returned (.int .i64 n) ∧ w' = w := by
  obtain ⟨f, ha, -⟩ := h.aw
  exact size_ok w rb mb n f c ha
theorem keepBx3 {w w' : World} {p hb rb mb pb n : Nat} {g : Mem} {c a z : Int} {P : Pcs} (hB : Bx w p rb mb a z) (hH : Hp w hb rb mb pb n g c P) (hk : Kp w w' []) : w'.cell? ⟨p, 0, none⟩ = some (.int .i64 a) ∧ w'.cell? ⟨p, 1, none⟩ = some (.int .i64 z) ∧ w'.cell? ⟨hb, 0, none⟩ = some (.pointer (some ⟨rb, 0, none⟩)) :=
  ⟨hk.cell hB.c1 (by simp), hk.cell hB.c2 (by simp), hk.cell hH.c0cell (by simp)⟩
/-- Like Kp, one word for 'it is as it was'. -/
theorem Kp.of_eq {w w' : World} (h : w' = w) : Kp w w' [] := by subst h; exact Kp.refl _ _

set_option maxRecDepth 100000 in
set_option maxHeartbeats 1000000 in
theorem mark_any (w : World) (hb rb mb pb n : Nat) (g : Mem) (c : Int) (P : Pcs) (a z fl : Int) (h : Hp w hb rb mb pb n g c P) (hc : c < 1152921504606846976)
    (ha0 : 0 ≤ a) (ha1 : a < 1048576) (hz0 : 0 ≤ z) (hz1 : z < 1048576) (hz8 : z % 8 = 0) (hfl : fl = 0 ∨ fl = 1) :
    Calls Tryz.prog 99 #[.pointer (some ⟨hb, 0, none⟩), .agg #[.int .i64 a, .int .i64 z], .int .i64 fl] w fun e w' => e = .returned (.tuple #[]) ∧ Went w w' hb rb mb pb n (mark n g a z fl) P c 2 [rb, mb] := by
  have hor := or_flag z fl hz0 (by omega) hz8 hfl
  have hf0 : 0 ≤ fl ∧ fl ≤ 1 := by omega
  have hlt := h.lt
  have W1 := hid (Kp.alloc w (.cells #[.int .i64 a, .int .i64 z] 87) [])
  have B1 := hid (Bx.new (w := w) (a := a) (z := z) (t := 87) hlt.2.1 hlt.2.2.1)
  have H1 := hid (h.same W1.out)
  have HZ8 := hid hz8
  clear h hfl hlt hz8
  go_enter Tryz.func99, Tryz.ntmps99
  go_wp2_with fail
  refine (setWord_any _ hb rb mb pb n g c P a (z + fl) H1.out (by omega) (by omega) (by omega) (by omega)).mono ?_
  rintro e w2 ⟨rfl, c2, hc2, hc2', hH2, hK2⟩
  have H2 := hid hH2
  have B2 := hid (B1.out.keep hK2)
  have K2 := hid (W1.out.nil.trans hK2)
  clear hH2 hK2 hor
  go_wp2_with fail
  go_region_held (fun w' => w'.cell? ⟨w.heap.size, 0, none⟩ = some (.int .i64 a) ∧ w'.cell? ⟨w.heap.size, 1, none⟩ = some (.int .i64 z) ∧ w'.cell? ⟨hb, 0, none⟩ = some (.pointer (some ⟨rb, 0, none⟩)))
    (first
      | exact keepBx3 B2.out H2.out (Kp.drew _ _)
      | exact keepBx3 B2.out H2.out ((Kp.drew _ _).trans hK3)
      | exact keepBx3 B2.out H2.out (((Kp.drew _ _).trans hK3).trans hK4))
    (first
      | (go_at_call 62; refine (end_any _ a z (by omega) (by omega) (by omega) (by omega)).mono ?_; rintro e w3 ⟨rfl, hK3⟩)
      | (go_at_call 65; refine ((H2.out.same ((Kp.drew _ _).trans hK3)).sized).mono ?_; rintro e w4 ⟨rfl, hE4⟩; have hK4 := Kp.of_eq hE4))
  have K3 := hid (show Kp w2 w3 [] from (Kp.drew _ _).trans hK3)
  have H3 := hid (H2.out.same K3.out)
  have B3 := hid (B2.out.keep K3.out.nil)
  clear hK3 hK4 hE4
  by_cases hlt : a + z < n
  · have M := hid (show mark n g a z fl = wr n (wr n g a (z + fl)) (a + z + 4) a by unfold mark; rw [if_pos hlt])
    have w4e : IntKind.i64.wrap (a + z + 4) = a + z + 4 := IntWalk.i64_in _ ⟨by omega, by omega⟩
    go_wp2_with fail
    go_region_held (fun w' => w'.cell? ⟨w.heap.size, 0, none⟩ = some (.int .i64 a) ∧ w'.cell? ⟨w.heap.size, 1, none⟩ = some (.int .i64 z) ∧ w'.cell? ⟨hb, 0, none⟩ = some (.pointer (some ⟨rb, 0, none⟩)))
      (first
        | exact keepBx3 B3.out H3.out (Kp.drew _ _)
        | exact keepBx3 B3.out H3.out ((Kp.drew _ _).trans hK5)
        | exact keepBx3 ((B3.out.keep (Kp.drew _ _)).keep (hK5.nil.trans hK6)) hH6 (Kp.refl _ _))
      (first
        | (go_at_call 62; refine (end_any _ a z (by omega) (by omega) (by omega) (by omega)).mono ?_; rintro e w5 ⟨rfl, hK5⟩)
        | (go_at_call 103; refine (setWord_any _ hb rb mb pb n _ c2 P (a + z + 4) a (H3.out.same ((Kp.drew _ _).trans hK5)) (by omega) (by omega) (by omega) (by omega)).mono ?_; rintro e w6 ⟨rfl, c6, hc6, hc6', hH6, hK6⟩))
    have H6 := hid hH6
    have K6 := hid (show Kp w w6 [rb, mb] from (K2.out.trans K3.out.nil).trans (((Kp.drew _ _).trans hK5.nil).trans hK6))
    clear hH6 hK6 hK5
    go_wp2
    refine bodyPost_end (results_none rfl _ _ _) rfl ?_
    rw [M.out]
    exact ⟨rfl, c6, by omega, by omega, H6.out, K6.out⟩
  · have M := hid (show mark n g a z fl = wr n g a (z + fl) by unfold mark; rw [if_neg hlt])
    go_wp2_with fail
    refine bodyPost_end (results_none rfl _ _ _) rfl ?_
    rw [M.out]
    exact ⟨rfl, c2, by omega, by omega, H3.out, K2.out.trans K3.out.nil⟩
end Go.Proofs.YtgefmnnkpffpcaaGreatDoor
