/- LockSame's walk. -/
import Derived.Test.YtcfjlmkeomiiaaaOs
import Derived.Test.YtcfjlmkeomiiaaaKn
import Derived.Test.YtcfjlmkeomiiaaaArgs
namespace Go.Proofs.Ytcfjlmkeomiiaaa
open Go.RowKit Go.Shelf Go.Lib Go.Sort Go.Maps
attribute [local go_sem] Oper.semAt_some

set_option maxRecDepth 100000 in
set_option maxHeartbeats 4000000 in
theorem same_walk (w : World) (V V' : Value) (N N' : Nat) (S S' : Nat → Sp) (hV : Sc w V N S) (hV' : Sc w V' N' S') : Calls Try.prog 4 #[V, V'] w fun e w' => e = .returned (.bool true) ∧ Kp w w' [] := by
  obtain ⟨so, sc, rfl⟩ := hV.shape
  obtain ⟨so', sc', rfl⟩ := hV'.shape
  have HV := hid hV
  have HV' := hid hV'
  clear hV hV'
  go_enter Try.func4, Try.ntmps4
  go_wp2_with fail
  refine (lnew w).mono ?_
  rintro e w1 ⟨xb, R1, rfl, hx, hx1, hx2⟩
  have X1 := hid (And.intro hx (And.intro hx1 hx2))
  clear hx hx1 hx2
  go_wp2_with fail
  refine (lnew w1).mono ?_
  rintro e w2 ⟨yb, R2, rfl, hx, hx1, hx2⟩
  have X2 := hid (And.intro hx (And.intro hx1 hx2))
  clear hx hx1 hx2
  go_wp2_with fail
  refine (rnew w2).mono ?_
  rintro e w3 ⟨r, a, b0, rfl, hr, f1, f2, f3, hk⟩
  have X3 := hid (And.intro hr (And.intro f1 (And.intro f2 (And.intro f3 hk))))
  clear hr f1 f2 f3 hk
  go_wp2_with fail
  refine (rnew w3).mono ?_
  rintro e w4 ⟨r2, c0, d0, rfl, hr, f1, f2, f3, hk⟩
  have X4 := hid (And.intro hr (And.intro f1 (And.intro f2 (And.intro f3 hk))))
  clear hr f1 f2 f3 hk
  have D0 := hid (show Tw w w4 xb r yb r2 from by
    obtain ⟨a1, a2, a3⟩ := X1.out
    obtain ⟨b1, b2, b3⟩ := X2.out
    obtain ⟨c1, c2, c3, c4, c5⟩ := X3.out
    obtain ⟨d1, d2, d3, d4, d5⟩ := X4.out
    obtain ⟨p1, p2⟩ := pa_new (w := w) (a1.same b3) a2 (a3.trans b3) c1 c2 c3 c4 c5
    obtain ⟨q1, q2⟩ := pa_new (w := w1) (b1.same c5) b2 (b3.trans c5) d1 d2 d3 d4 d5
    have s1 := a3.size
    have s2 := b3.size
    have s3 := c5.size
    refine ⟨_, newL, _, newL, p1.same d5, lok_new, p2, q1, lok_new, fun k hk => Nat.le_trans s1 (q2 k hk), fun k hk hm => ?_, ((a3.trans b3).trans c5).trans d5⟩
    rcases List.mem_append.1 hm with hm | hm
    · rcases List.mem_append.1 hk with hk | hk
      · have := a1.lt k hk; have := b2 k hm; omega
      · have := b1.lt k hm
        simp at hk
        rcases hk with rfl | rfl | rfl <;> omega
    · have h3 : w3.heap.size ≤ k := by
        simp at hm
        rcases hm with rfl | rfl | rfl <;> omega
      have := p1.lt k hk
      omega)
  clear X1 X2 X3 X4
  go_wp2_with fail
  go_loopw [5, 7, 9, 10] (fun vx vp vo vi W => ∃ (i b : Nat), i ≤ 60 ∧ vi = .int .i64 i ∧ vo = .bool true ∧ vx = .pointer (some ⟨b, 0, none⟩) ∧ vp = .pointer (some ⟨r, 0, none⟩) ∧ Hid (Tw w W b r yb r2)) (fun _ _ _ vi _ => 60 - (intOf vi).toNat)
  case atStart => exact ⟨0, xb, by omega, rfl, rfl, rfl, rfl, D0⟩
  case round =>
    obtain ⟨i, b, hi, rfl, rfl, rfl, rfl, hT⟩ := hrel
    clear D0
    by_cases hin : i < N ∧ i < 60
    · have h1 : (i : Int) < N := by omega
      have h2 : (i : Int) < 60 := by omega
      obtain ⟨sb, off, rfl, y0, y1, y2⟩ := (HV.out.keep hT.out.kp).at hin.1
      have HI := hid (HV.out.i64 hin.1)
      go_wp2_with fail
      refine (hT.out.step (S i).k (S i).t (S i).p HI.out).mono ?_
      rintro e W3 ⟨b', rfl, hT2⟩
      have T2 := hid hT2
      clear hT y0 y1 y2 hT2
      go_wp2
      go_roundw
      case rel => exact ⟨i + 1, b', by omega, by simp, rfl, rfl, rfl, T2⟩
      case measure => simp [intOf]; omega
    · have hx : ¬ (i : Int) < N ∨ ((i : Int) < N ∧ ¬ (i : Int) < 60) := by omega
      clear hin
      have TS := hid hT.out.swap
      clear hT
      rcases hx with h1 | ⟨h1, h2⟩
      · as_aux_lemma =>
          go_wp2_with fail
          go_loopw [6, 8, 9, 11] (fun vx vp vo vi W => ∃ (j c : Nat), j ≤ 60 ∧ vi = .int .i64 j ∧ vo = .bool true ∧ vx = .pointer (some ⟨c, 0, none⟩) ∧ vp = .pointer (some ⟨r2, 0, none⟩) ∧ Hid (Tw w W c r2 b r)) (fun _ _ _ vi _ => 60 - (intOf vi).toNat)
          case atStart => exact ⟨0, yb, by omega, rfl, rfl, rfl, rfl, TS⟩
          case round =>
            obtain ⟨j, c, hj, rfl, rfl, rfl, rfl, hU⟩ := hrel
            clear TS
            by_cases hjn : j < N' ∧ j < 60
            · have g1 : (j : Int) < N' := by omega
              have g2 : (j : Int) < 60 := by omega
              obtain ⟨sb, off, rfl, y0, y1, y2⟩ := (HV'.out.keep hU.out.kp).at hjn.1
              have HI := hid (HV'.out.i64 hjn.1)
              go_wp2_with fail
              refine (hU.out.step (S' j).k (S' j).t (S' j).p HI.out).mono ?_
              rintro e W3 ⟨c', rfl, hU2⟩
              have U2 := hid hU2
              clear hU y0 y1 y2 hU2
              go_wp2
              go_roundw
              case rel => exact ⟨j + 1, c', by omega, by simp, rfl, rfl, rfl, U2⟩
              case measure => simp [intOf]; omega
            · have gx : ¬ (j : Int) < N' ∨ ((j : Int) < N' ∧ ¬ (j : Int) < 60) := by omega
              clear hjn
              have K6 := hid hU.out.kp
              obtain ⟨B, e1, e2, e3⟩ := hU.out.swap.end
              have HE := hid (And.intro e1 (And.intro e2 e3))
              clear hU e1 e2 e3
              rcases gx with g1 | ⟨g1, g2⟩
              · cases B
                all_goals (
                  go_wp2_with fail
                  refine (HE.out.1 _ (Kp.refl _ _)).mono ?_
                  rintro e y1 ⟨rfl, hk1⟩
                  have L1 := hid hk1
                  clear hk1
                  go_wp2_with fail
                  refine (HE.out.2.1 _ L1.out).mono ?_
                  rintro e y2 ⟨rfl, hk2⟩
                  have L2 := hid (L1.out.trans hk2)
                  clear hk2
                  go_wp2_with fail
                  refine (HE.out.2.2 _ L2.out).mono ?_
                  rintro e y3 ⟨rfl, hk3⟩
                  have L3 := hid (L2.out.trans hk3)
                  clear hk3
                  go_wp2_with fail
                  refine (known_any _).mono ?_
                  rintro e y4 ⟨rfl, hk4⟩
                  have L4 := hid (K6.out.trans (L3.out.trans hk4))
                  clear hk4
                  go_wp2
                  go_ret
                  exact ⟨rfl, L4.out⟩)
              · cases B
                all_goals (
                  go_wp2_with fail
                  refine (HE.out.1 _ (Kp.refl _ _)).mono ?_
                  rintro e y1 ⟨rfl, hk1⟩
                  have L1 := hid hk1
                  clear hk1
                  go_wp2_with fail
                  refine (HE.out.2.1 _ L1.out).mono ?_
                  rintro e y2 ⟨rfl, hk2⟩
                  have L2 := hid (L1.out.trans hk2)
                  clear hk2
                  go_wp2_with fail
                  refine (HE.out.2.2 _ L2.out).mono ?_
                  rintro e y3 ⟨rfl, hk3⟩
                  have L3 := hid (L2.out.trans hk3)
                  clear hk3
                  go_wp2_with fail
                  refine (known_any _).mono ?_
                  rintro e y4 ⟨rfl, hk4⟩
                  have L4 := hid (K6.out.trans (L3.out.trans hk4))
                  clear hk4
                  go_wp2
                  go_ret
                  exact ⟨rfl, L4.out⟩)
      · as_aux_lemma =>
          go_wp2_with fail
          go_loopw [6, 8, 9, 11] (fun vx vp vo vi W => ∃ (j c : Nat), j ≤ 60 ∧ vi = .int .i64 j ∧ vo = .bool true ∧ vx = .pointer (some ⟨c, 0, none⟩) ∧ vp = .pointer (some ⟨r2, 0, none⟩) ∧ Hid (Tw w W c r2 b r)) (fun _ _ _ vi _ => 60 - (intOf vi).toNat)
          case atStart => exact ⟨0, yb, by omega, rfl, rfl, rfl, rfl, TS⟩
          case round =>
            obtain ⟨j, c, hj, rfl, rfl, rfl, rfl, hU⟩ := hrel
            clear TS
            by_cases hjn : j < N' ∧ j < 60
            · have g1 : (j : Int) < N' := by omega
              have g2 : (j : Int) < 60 := by omega
              obtain ⟨sb, off, rfl, y0, y1, y2⟩ := (HV'.out.keep hU.out.kp).at hjn.1
              have HI := hid (HV'.out.i64 hjn.1)
              go_wp2_with fail
              refine (hU.out.step (S' j).k (S' j).t (S' j).p HI.out).mono ?_
              rintro e W3 ⟨c', rfl, hU2⟩
              have U2 := hid hU2
              clear hU y0 y1 y2 hU2
              go_wp2
              go_roundw
              case rel => exact ⟨j + 1, c', by omega, by simp, rfl, rfl, rfl, U2⟩
              case measure => simp [intOf]; omega
            · have gx : ¬ (j : Int) < N' ∨ ((j : Int) < N' ∧ ¬ (j : Int) < 60) := by omega
              clear hjn
              have K6 := hid hU.out.kp
              obtain ⟨B, e1, e2, e3⟩ := hU.out.swap.end
              have HE := hid (And.intro e1 (And.intro e2 e3))
              clear hU e1 e2 e3
              rcases gx with g1 | ⟨g1, g2⟩
              · cases B
                all_goals (
                  go_wp2_with fail
                  refine (HE.out.1 _ (Kp.refl _ _)).mono ?_
                  rintro e y1 ⟨rfl, hk1⟩
                  have L1 := hid hk1
                  clear hk1
                  go_wp2_with fail
                  refine (HE.out.2.1 _ L1.out).mono ?_
                  rintro e y2 ⟨rfl, hk2⟩
                  have L2 := hid (L1.out.trans hk2)
                  clear hk2
                  go_wp2_with fail
                  refine (HE.out.2.2 _ L2.out).mono ?_
                  rintro e y3 ⟨rfl, hk3⟩
                  have L3 := hid (L2.out.trans hk3)
                  clear hk3
                  go_wp2_with fail
                  refine (known_any _).mono ?_
                  rintro e y4 ⟨rfl, hk4⟩
                  have L4 := hid (K6.out.trans (L3.out.trans hk4))
                  clear hk4
                  go_wp2
                  go_ret
                  exact ⟨rfl, L4.out⟩)
              · cases B
                all_goals (
                  go_wp2_with fail
                  refine (HE.out.1 _ (Kp.refl _ _)).mono ?_
                  rintro e y1 ⟨rfl, hk1⟩
                  have L1 := hid hk1
                  clear hk1
                  go_wp2_with fail
                  refine (HE.out.2.1 _ L1.out).mono ?_
                  rintro e y2 ⟨rfl, hk2⟩
                  have L2 := hid (L1.out.trans hk2)
                  clear hk2
                  go_wp2_with fail
                  refine (HE.out.2.2 _ L2.out).mono ?_
                  rintro e y3 ⟨rfl, hk3⟩
                  have L3 := hid (L2.out.trans hk3)
                  clear hk3
                  go_wp2_with fail
                  refine (known_any _).mono ?_
                  rintro e y4 ⟨rfl, hk4⟩
                  have L4 := hid (K6.out.trans (L3.out.trans hk4))
                  clear hk4
                  go_wp2
                  go_ret
                  exact ⟨rfl, L4.out⟩)
end Go.Proofs.Ytcfjlmkeomiiaaa
