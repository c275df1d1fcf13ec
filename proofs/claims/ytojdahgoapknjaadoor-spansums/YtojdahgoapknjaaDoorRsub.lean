/- The reference: Sub. -/
import Derived.Test.YtojdahgoapknjaaDoorRadd
namespace Go.Proofs.YtojdahgoapknjaaDoor
open Go.RowKit
set_option linter.unusedVariables false

set_option maxRecDepth 100000 in
set_option maxHeartbeats 4000000 in
theorem rsub_any (w : World) (a b c d : Int) : Calls Tryd.prog 12 #[sp a b, sp c d] w fun x w' => x = .returned (spE (subP a b c d)) ∧ Kp w w' [] := by
  by_cases m1 : may a b = true
  · by_cases m2 : may c d = true
    · by_cases m3 : tot c d ≤ tot a b
      · have ba := tot_bd m1
        have bc := tot_bd m2
        rw [show subP a b c d = ofN (tot a b - tot c d) by unfold subP; simp [m1, m2, m3]]
        have co := fun w => of_any w (tot a b - tot c d) (by omega) (by omega)
        have wt : IntKind.i64.wrap (tot a b - tot c d) = tot a b - tot c d := wrap_id ⟨by omega, by omega⟩
        obtain ⟨r, hr⟩ : ∃ r, ofN (tot a b - tot c d) = r := ⟨_, rfl⟩
        simp only [hr] at co ⊢
        clear hr
        obtain ⟨u, v, g⟩ := r
        have hlt : decide (tot a b < tot c d) = false := by simp; omega
        go_enter Tryd.func12, Tryd.ntmps12
        go_wp2_with fail
        obtain ⟨p1, p2, p3, k⟩ := bx3 w a b c d 0 0
        have K1 := hid k
        have P1 := hid p1
        have Q1 := hid p2
        have R1 := hid p3
        clear p1 p2 p3 k
        obtain ⟨w0, hw0⟩ : ∃ w0, ((w.alloc (ob a b)).alloc (ob c d)).alloc (ob 0 0) = w0 := ⟨_, rfl⟩
        rw [hw0] at K1 P1 Q1 R1
        simp only [hw0]
        clear hw0
        have x0 := P1.out.c0
        have x1 := P1.out.c1
        have x2 := Q1.out.c0
        have x3 := Q1.out.c1
        go_region_with
          (first
            | (go_at_call 31; have _hh := h3; refine (all_any _ _ _ (by first | exact m1 | exact m2)).mono ?_; rintro e y4 ⟨rfl, h4⟩; have s4 := hid (P1.out.drew.keep (((h1.trans h2).trans h3).trans h4)); have t4 := hid (Q1.out.drew.keep (((h1.trans h2).trans h3).trans h4)); have a41 := s4.out.c0; have a42 := s4.out.c1; have a43 := t4.out.c0; have a44 := t4.out.c1)
            | (go_at_call 31; have _hh := h2; refine (all_any _ _ _ (by first | exact m1 | exact m2)).mono ?_; rintro e y3 ⟨rfl, h3⟩; have s3 := hid (P1.out.drew.keep ((h1.trans h2).trans h3)); have t3 := hid (Q1.out.drew.keep ((h1.trans h2).trans h3)); have a31 := s3.out.c0; have a32 := s3.out.c1; have a33 := t3.out.c0; have a34 := t3.out.c1)
            | (go_at_call 16; have _hh := h1; refine (rmay_any _ _ _).mono ?_; rintro e y2 ⟨rfl, h2⟩; rw [m2]; have s2 := hid (P1.out.drew.keep (h1.trans h2)); have t2 := hid (Q1.out.drew.keep (h1.trans h2)); have a21 := s2.out.c0; have a22 := s2.out.c1; have a23 := t2.out.c0; have a24 := t2.out.c1)
            | (go_at_call 16; refine (rmay_any _ _ _).mono ?_; rintro e y1 ⟨rfl, h1⟩; rw [m1]; have s1 := hid (P1.out.drew.keep h1); have t1 := hid (Q1.out.drew.keep h1); have a11 := s1.out.c0; have a12 := s1.out.c1; have a13 := t1.out.c0; have a14 := t1.out.c1))
        all_goals (
          have K4 := hid (K1.out.trans (((Kp.drew w0 []).trans h1).trans (h2.trans (h3.trans h4))))
          have P4 := hid (s4.out)
          have Q4 := hid (t4.out)
          have R4 := hid (R1.out.keep (((Kp.drew w0 []).trans h1).trans (h2.trans (h3.trans h4))))
          clear P1 Q1 R1 K1 x0 x1 x2 x3 s1 t1 a11 a12 a13 a14 s2 t2 a21 a22 a23 a24 s3 t3 a31 a32 a33 a34 s4 t4 h1 h2 h3 h4 _hh
          go_wp2_with fail
          go_region_with
            (first
              | (go_at_call 30; have _hh := j2; refine (co _).mono ?_; rintro e z3 ⟨rfl, j3⟩; have z := (R4.out.drew.keep (j1.trans j2)).keep j3; have z1 := z.c0; have z2 := z.c1; have z3 := z.f0; have z4 := z.f1)
              | (go_at_call 31; have _hh := j1; refine (all_any _ _ _ (by first | exact m1 | exact m2)).mono ?_; rintro e z2 ⟨rfl, j2⟩)
              | (go_at_call 31; refine (all_any _ _ _ (by first | exact m1 | exact m2)).mono ?_; rintro e z1 ⟨rfl, j1⟩; have y1a := (P4.out.drew.keep j1).c0; have y1b := (P4.out.drew.keep j1).c1; have y1c := (Q4.out.drew.keep j1).c0; have y1d := (Q4.out.drew.keep j1).c1))
          all_goals (
            have Kz := hid (K4.out.trans (((Kp.drew y4 []).trans j1).trans (j2.trans j3)))
            have Z := hid z
            clear j1 j2 j3 z y1a y1b y1c y1d
            go_wp2_with fail
            exact bodyPost_ret (v := spE (u, v, g)) (by simp [results, Tryd.results12, go_sem, (Z.out.set u v).c0, (Z.out.set u v).c1]) rfl ⟨rfl, Kz.out.store2 (by omega) _ _⟩))
      · have m3' : tot a b < tot c d := by omega
        have hlt : decide (tot a b < tot c d) = true := by simp; omega
        rw [show subP a b c d = (0, 0, 2) by unfold subP; simp [m1, m2]; omega]
        clear m3
        go_enter Tryd.func12, Tryd.ntmps12
        go_wp2_with fail
        obtain ⟨p1, p2, p3, k⟩ := bx3 w a b c d 0 0
        have K1 := hid k
        have P1 := hid p1
        have Q1 := hid p2
        have R1 := hid p3
        clear p1 p2 p3 k
        obtain ⟨w0, hw0⟩ : ∃ w0, ((w.alloc (ob a b)).alloc (ob c d)).alloc (ob 0 0) = w0 := ⟨_, rfl⟩
        rw [hw0] at K1 P1 Q1 R1
        simp only [hw0]
        clear hw0
        have x0 := P1.out.c0
        have x1 := P1.out.c1
        have x2 := Q1.out.c0
        have x3 := Q1.out.c1
        go_region_with
          (first
            | (go_at_call 31; have _hh := h3; refine (all_any _ _ _ (by first | exact m1 | exact m2)).mono ?_; rintro e y4 ⟨rfl, h4⟩; have s4 := hid (P1.out.drew.keep (((h1.trans h2).trans h3).trans h4)); have t4 := hid (Q1.out.drew.keep (((h1.trans h2).trans h3).trans h4)); have a41 := s4.out.c0; have a42 := s4.out.c1; have a43 := t4.out.c0; have a44 := t4.out.c1)
            | (go_at_call 31; have _hh := h2; refine (all_any _ _ _ (by first | exact m1 | exact m2)).mono ?_; rintro e y3 ⟨rfl, h3⟩; have s3 := hid (P1.out.drew.keep ((h1.trans h2).trans h3)); have t3 := hid (Q1.out.drew.keep ((h1.trans h2).trans h3)); have a31 := s3.out.c0; have a32 := s3.out.c1; have a33 := t3.out.c0; have a34 := t3.out.c1)
            | (go_at_call 16; have _hh := h1; refine (rmay_any _ _ _).mono ?_; rintro e y2 ⟨rfl, h2⟩; rw [m2]; have s2 := hid (P1.out.drew.keep (h1.trans h2)); have t2 := hid (Q1.out.drew.keep (h1.trans h2)); have a21 := s2.out.c0; have a22 := s2.out.c1; have a23 := t2.out.c0; have a24 := t2.out.c1)
            | (go_at_call 16; refine (rmay_any _ _ _).mono ?_; rintro e y1 ⟨rfl, h1⟩; rw [m1]; have s1 := hid (P1.out.drew.keep h1); have t1 := hid (Q1.out.drew.keep h1); have a11 := s1.out.c0; have a12 := s1.out.c1; have a13 := t1.out.c0; have a14 := t1.out.c1))
        all_goals (
          have K4 := hid (K1.out.trans (((Kp.drew w0 []).trans h1).trans (h2.trans (h3.trans h4))))
          have R4 := hid (R1.out.keep (((Kp.drew w0 []).trans h1).trans (h2.trans (h3.trans h4))))
          have v0 := R4.out.c0
          have v1 := R4.out.c1
          have v2 := R4.out.f0
          have v3 := R4.out.f1
          go_wp2_with fail
          exact bodyPost_ret (v := spE (0, 0, 2)) (by simp [results, Tryd.results12, go_sem, (R4.out.set 0  0).c0, (R4.out.set 0  0).c1]) rfl ⟨rfl, K4.out.store2 (by omega) _ _⟩)
    · have m2' : may c d = false := by simpa using m2
      rw [show subP a b c d = (0, 0, 2) by unfold subP; simp [m2']]
      clear m2
      go_enter Tryd.func12, Tryd.ntmps12
      go_wp2_with fail
      obtain ⟨p1, p2, p3, k⟩ := bx3 w a b c d 0 0
      have K1 := hid k
      have P1 := hid p1
      have Q1 := hid p2
      have R1 := hid p3
      clear p1 p2 p3 k
      obtain ⟨w0, hw0⟩ : ∃ w0, ((w.alloc (ob a b)).alloc (ob c d)).alloc (ob 0 0) = w0 := ⟨_, rfl⟩
      rw [hw0] at K1 P1 Q1 R1
      simp only [hw0]
      clear hw0
      have x0 := P1.out.c0
      have x1 := P1.out.c1
      have x2 := Q1.out.c0
      have x3 := Q1.out.c1
      go_region_with
        (first
          | (go_at_call 16; have _hh := h1; refine (rmay_any _ _ _).mono ?_; rintro e y2 ⟨rfl, h2⟩; rw [m2']; have s2 := hid (P1.out.drew.keep (h1.trans h2)); have t2 := hid (Q1.out.drew.keep (h1.trans h2)); have a21 := s2.out.c0; have a22 := s2.out.c1; have a23 := t2.out.c0; have a24 := t2.out.c1)
          | (go_at_call 16; refine (rmay_any _ _ _).mono ?_; rintro e y1 ⟨rfl, h1⟩; rw [m1]; have s1 := hid (P1.out.drew.keep h1); have t1 := hid (Q1.out.drew.keep h1); have a11 := s1.out.c0; have a12 := s1.out.c1; have a13 := t1.out.c0; have a14 := t1.out.c1))
      all_goals (
        have K4 := hid (K1.out.trans (((Kp.drew w0 []).trans h1).trans h2))
        have R4 := hid (R1.out.keep (((Kp.drew w0 []).trans h1).trans h2))
        have v0 := R4.out.c0
        have v1 := R4.out.c1
        have v2 := R4.out.f0
        have v3 := R4.out.f1
        go_wp2_with fail
        exact bodyPost_ret (v := spE (0, 0, 2)) (by simp [results, Tryd.results12, go_sem, (R4.out.set 0  0).c0, (R4.out.set 0  0).c1]) rfl ⟨rfl, K4.out.store2 (by omega) _ _⟩)
  · have m1' : may a b = false := by simpa using m1
    rw [show subP a b c d = (0, 0, 2) by unfold subP; simp [m1']]
    clear m1
    go_enter Tryd.func12, Tryd.ntmps12
    go_wp2_with fail
    obtain ⟨p1, p2, p3, k⟩ := bx3 w a b c d 0 0
    have K1 := hid k
    have P1 := hid p1
    have Q1 := hid p2
    have R1 := hid p3
    clear p1 p2 p3 k
    obtain ⟨w0, hw0⟩ : ∃ w0, ((w.alloc (ob a b)).alloc (ob c d)).alloc (ob 0 0) = w0 := ⟨_, rfl⟩
    rw [hw0] at K1 P1 Q1 R1
    simp only [hw0]
    clear hw0
    have x0 := P1.out.c0
    have x1 := P1.out.c1
    have x2 := Q1.out.c0
    have x3 := Q1.out.c1
    go_region_with
      (go_at_call 16; refine (rmay_any _ _ _).mono ?_; rintro e y1 ⟨rfl, h1⟩; rw [m1']; have s1 := hid (P1.out.drew.keep h1); have t1 := hid (Q1.out.drew.keep h1); have a11 := s1.out.c0; have a12 := s1.out.c1; have a13 := t1.out.c0; have a14 := t1.out.c1)
    all_goals (
      have K4 := hid (K1.out.trans ((Kp.drew w0 []).trans h1))
      have R4 := hid (R1.out.keep ((Kp.drew w0 []).trans h1))
      have v0 := R4.out.c0
      have v1 := R4.out.c1
      have v2 := R4.out.f0
      have v3 := R4.out.f1
      go_wp2_with fail
      exact bodyPost_ret (v := spE (0, 0, 2)) (by simp [results, Tryd.results12, go_sem, (R4.out.set 0  0).c0, (R4.out.set 0  0).c1]) rfl ⟨rfl, K4.out.store2 (by omega) _ _⟩)
end Go.Proofs.YtojdahgoapknjaaDoor
