/- The reference: Add, Sub. -/
import Derived.Test.YtojdahgoapknjaaDoorSub
import Derived.Deep.RegionHeldLaw
import Derived.Deep.RegionLaw
namespace Go.Proofs.YtojdahgoapknjaaDoor
open Go.RowKit

theorem tot_bd {a b : Int} (h : may a b = true) : 0 ≤ tot a b ∧ tot a b ≤ 2147483647999999999 := by
  obtain ⟨a1, a2, b1, b2⟩ := may_iff.1 h
  unfold tot
  omega
theorem Bx.drew {w : World} {p : Nat} {s n : Int} (h : Bx w p s n) : Bx w.drew p s n := h

set_option maxRecDepth 100000 in
set_option maxHeartbeats 4000000 in
theorem radd_any (w : World) (a b c d : Int) : Calls Tryd.prog 10 #[sp a b, sp c d] w fun x w' => x = .returned (spE (addP a b c d)) ∧ Kp w w' [] := by
  by_cases m1 : may a b = true
  · by_cases m2 : may c d = true
    · have ba := tot_bd m1
      have bc := tot_bd m2
      rw [show addP a b c d = ofN (tot a b + tot c d) by unfold addP; simp [m1, m2]]
      have co := fun w => of_any w (tot a b + tot c d) (by omega) (by omega)
      have wt : IntKind.i64.wrap (tot a b + tot c d) = tot a b + tot c d := wrap_id ⟨by omega, by omega⟩
      obtain ⟨r, hr⟩ : ∃ r, ofN (tot a b + tot c d) = r := ⟨_, rfl⟩
      simp only [hr] at co ⊢
      clear hr
      obtain ⟨u, v, g⟩ := r
      go_enter Tryd.func10, Tryd.ntmps10
      go_wp2_with fail
      obtain ⟨p1, p2, p3, k⟩ := bx3 w a b c d 0 0
      refine (rmay_any _ a b).mono ?_
      rintro e w1 ⟨rfl, k1⟩
      rw [m1]
      have K1 := hid (k.trans k1)
      have P1 := hid (p1.keep k1)
      have Q1 := hid (p2.keep k1)
      have R1 := hid (p3.keep k1)
      clear p1 p2 p3 k k1
      have x0 := Q1.out.c0
      have x1 := Q1.out.c1
      go_wp2_with fail
      refine (rmay_any _ c d).mono ?_
      rintro e w2 ⟨rfl, k1⟩
      rw [m2]
      have K2 := hid (K1.out.trans k1)
      have P2 := hid (P1.out.keep k1)
      have Q2 := hid (Q1.out.keep k1)
      have R2 := hid (R1.out.keep k1)
      clear P1 Q1 R1 K1 k1 x0 x1
      have x0 := P2.out.c0
      have x1 := P2.out.c1
      have x2 := Q2.out.c0
      have x3 := Q2.out.c1
      go_wp2_with fail
      go_region_with
        (first
          | (go_at_call 30; have _hh := h2; refine (co _).mono ?_; rintro e y3 ⟨rfl, h3⟩; have z := (R2.out.drew.keep (h1.trans h2)).keep h3; have z1 := z.c0; have z2 := z.c1; have z3 := z.f0; have z4 := z.f1)
          | (go_at_call 31; have _hh := h1; refine (all_any _ _ _ (by first | exact m1 | exact m2)).mono ?_; rintro e y2 ⟨rfl, h2⟩)
          | (go_at_call 31; refine (all_any _ _ _ (by first | exact m1 | exact m2)).mono ?_; rintro e y1 ⟨rfl, h1⟩; have y1a := (P2.out.drew.keep h1).c0; have y1b := (P2.out.drew.keep h1).c1; have y1c := (Q2.out.drew.keep h1).c0; have y1d := (Q2.out.drew.keep h1).c1))
      all_goals (
        have Kz := hid (K2.out.trans (((Kp.drew w2 []).trans h1).trans (h2.trans h3)))
        have Z := hid z
        clear h1 h2 h3 z y1a y1b y1c y1d x0 x1 x2 x3 _hh
        go_wp2_with fail
        exact bodyPost_ret (v := spE (u, v, g)) (by simp [results, Tryd.results10, go_sem, (Z.out.set u v).c0, (Z.out.set u v).c1]) rfl ⟨rfl, Kz.out.store2 (by omega) _ _⟩)
    · have m2' : may c d = false := by simpa using m2
      rw [show addP a b c d = (0, 0, 2) by unfold addP; simp [m2']]
      clear m2
      go_enter Tryd.func10, Tryd.ntmps10
      go_wp2_with fail
      obtain ⟨p1, p2, p3, k⟩ := bx3 w a b c d 0 0
      refine (rmay_any _ a b).mono ?_
      rintro e w1 ⟨rfl, k1⟩
      rw [m1]
      have K1 := hid (k.trans k1)
      have P1 := hid (p1.keep k1)
      have Q1 := hid (p2.keep k1)
      have R1 := hid (p3.keep k1)
      clear p1 p2 p3 k k1
      have x0 := Q1.out.c0
      have x1 := Q1.out.c1
      go_wp2_with fail
      refine (rmay_any _ c d).mono ?_
      rintro e w2 ⟨rfl, k1⟩
      rw [m2']
      have K2 := hid (K1.out.trans k1)
      have R2 := hid (R1.out.keep k1)
      clear P1 Q1 R1 K1 k1 x0 x1
      have x0 := R2.out.c0
      have x1 := R2.out.c1
      have x2 := R2.out.f0
      have x3 := R2.out.f1
      go_wp2_with fail
      exact bodyPost_ret (v := spE (0, 0, 2)) (by simp [results, Tryd.results10, go_sem, (R2.out.set 0  0).c0, (R2.out.set 0  0).c1]) rfl ⟨rfl, K2.out.store2 (by omega) _ _⟩
  · have m1' : may a b = false := by simpa using m1
    rw [show addP a b c d = (0, 0, 2) by unfold addP; simp [m1']]
    clear m1
    go_enter Tryd.func10, Tryd.ntmps10
    go_wp2_with fail
    obtain ⟨p1, p2, p3, k⟩ := bx3 w a b c d 0 0
    refine (rmay_any _ a b).mono ?_
    rintro e w1 ⟨rfl, k1⟩
    rw [m1']
    have K1 := hid (k.trans k1)
    have P1 := hid (p1.keep k1)
    have Q1 := hid (p2.keep k1)
    have R1 := hid (p3.keep k1)
    clear p1 p2 p3 k k1
    have x0 := R1.out.c0
    have x1 := R1.out.c1
    have x2 := R1.out.f0
    have x3 := R1.out.f1
    go_wp2_with fail
    exact bodyPost_ret (v := spE (0, 0, 2)) (by simp [results, Tryd.results10, go_sem, (R1.out.set 0  0).c0, (R1.out.set 0  0).c1]) rfl ⟨rfl, K1.out.store2 (by omega) _ _⟩
end Go.Proofs.YtojdahgoapknjaaDoor
