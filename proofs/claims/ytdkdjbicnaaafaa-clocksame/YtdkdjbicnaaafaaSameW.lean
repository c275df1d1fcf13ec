/- ClockSame's walk. -/
import Derived.Test.YtdkdjbicnaaafaaSides
import Derived.Test.YtdkdjbicnaaafaaTick
import Derived.Deep.RegionHeldLaw
namespace Go.Proofs.Ytdkdjbicnaaafaa
open Go.RowKit

set_option maxRecDepth 100000 in
set_option maxHeartbeats 4000000 in
theorem same_walk (w : World) (r0 r1 : Int) (V U : Value) (N M : Nat) (S T : Nat → St) (hV : Sc w V N S) (hU : Sc w U M T) :
    Calls Try.prog 4 #[.agg #[.int .i64 r0, .int .i64 r1], V, U] w fun e w' => e = .returned (.bool true) ∧ Kp w w' [] := by
  obtain ⟨so, sc, rfl⟩ := hV.shape
  obtain ⟨to, tc, rfl⟩ := hU.shape
  have HV := hid hV
  have HU := hid hU
  obtain ⟨W0, hW0⟩ : ∃ W0, w.alloc (.cells #[.int .i64 r0, .int .i64 r1] 38) = W0 := ⟨_, rfl⟩
  have hn := heap_alloc_new w (.cells #[.int .i64 r0, .int .i64 r1] 38)
  have c0 : (w.alloc (.cells #[.int .i64 r0, .int .i64 r1] 38)).cell? ⟨w.heap.size, 0, none⟩ = some (.int .i64 r0) := by rw [cell_of_row _ _ _ _ _ _ hn]; rfl
  have c1 : (w.alloc (.cells #[.int .i64 r0, .int .i64 r1] 38)).cell? ⟨w.heap.size, 1, none⟩ = some (.int .i64 r1) := by rw [cell_of_row _ _ _ _ _ _ hn]; rfl
  have kk : Kp w W0 [] := by rw [← hW0]; exact Kp.alloc _ _ _
  rw [hW0] at c0 c1
  have d1 := (newW_kp W0 r0).cell c1 (by simp)
  have kA := (newW_kp W0 r0).trans (newW_kp (newW W0 r0) r1)
  clear hV hU hn
  go_enter Try.func4, Try.ntmps4
  go_wp2_with fail
  refine (new_any _ r0).mono ?_
  rintro e w1 ⟨rfl, rfl⟩
  go_wp2_with fail
  refine (new_any _ r1).mono ?_
  rintro e w1 ⟨rfl, rfl⟩
  go_wp2_with fail
  have D0 := hid ((start W0 (newW (newW W0 r0) r1).drew r0 r1 (Kp.drew _ _)).base kk)
  obtain ⟨A, hA⟩ : ∃ A, newW (newW W0 r0) r1 = A := ⟨_, rfl⟩
  rw [hA] at D0 kA ⊢
  have g1 := hid (And.intro ((kA.trans (Kp.drew A [])).cell c0 (by simp)) ((kA.trans (Kp.drew A [])).cell c1 (by simp)))
  have kB := (kA.trans (Kp.drew A [])).trans (rnewW_kp A.drew r0)
  have g2 := hid (And.intro (kB.cell c0 (by simp)) (kB.cell c1 (by simp)))
  have kC := kB.trans (rnewW_kp (rnewW A.drew r0) r1)
  have g3 := hid (And.intro (kC.cell c0 (by simp)) (kC.cell c1 (by simp)))
  clear hA kA kB kC c0 c1 d1 kk hW0
  go_region_held_law (fun w2 => w2.cell? ⟨w.heap.size, 0, none⟩ = some (.int .i64 r0) ∧ w2.cell? ⟨w.heap.size, 1, none⟩ = some (.int .i64 r1))
    (first | with_reducible exact g1.out | with_reducible exact g2.out | with_reducible exact g3.out)
    (first
      | (go_at_call 8; refine (rnew_any _ _).mono ?_; rintro e z3 ⟨rfl, rfl⟩) | fail)
  revert D0
  generalize newP (rnewW A.drew r0) r1 = pq
  generalize newP A.drew r0 = pp
  generalize newP (newW W0 r0) r1 = py
  generalize newP W0 r0 = px
  generalize rnewW (rnewW A.drew r0) r1 = W1
  generalize newE r0 = er0
  generalize newE r1 = er1
  intro D0
  clear g1 g2 g3
  go_wp2_with fail
  go_loopw [7, 11, 13, 14] (fun vx vp vok vi W => ∃ (i : Nat) (p q : Option Addr), i ≤ 60 ∧ vi = .int .i64 i ∧ vx = .pointer p ∧ vp = .pointer q ∧ vok = .bool true ∧ Hid (Ts w W p q py pq)) (fun _ _ _ vi _ => 60 - (intOf vi).toNat)
  case atStart => exact ⟨0, px, pp, by omega, rfl, rfl, rfl, rfl, D0.out⟩
  case round =>
    obtain ⟨i, p, q, hi, rfl, rfl, rfl, rfl, hT⟩ := hrel
    clear D0
    have hx : ((i : Int) < N ∧ (i : Int) < 60 ∧ ∃ b c x y, p = some ⟨b, 0, none⟩ ∧ q = some ⟨c, 0, none⟩ ∧ Bo wr b c x y) ∨ ¬ (i : Int) < N ∨ ((i : Int) < N ∧ ¬ (i : Int) < 60) ∨ ((i : Int) < N ∧ (i : Int) < 60 ∧ p = none ∧ q = none) := by
      by_cases h1 : (i : Int) < N
      · by_cases h2 : (i : Int) < 60
        · rcases hT.out.s1 with ⟨h3, h4⟩ | ⟨b, c, x, y, h3, h4, hB, -, -⟩
          · exact .inr (.inr (.inr ⟨h1, h2, h3, h4⟩))
          · exact .inl ⟨h1, h2, b, c, x, y, h3, h4, hB⟩
        · exact .inr (.inr (.inl ⟨h1, h2⟩))
      · exact .inr (.inl h1)
    rcases hx with ⟨h1, h2, b, c, x, y, rfl, rfl, hB⟩ | hx
    · obtain ⟨sb, off, rfl, y0, y1, y2, -⟩ := (HV.out.keep hT.out.kp).at (i := i) (by omega)
      have B1 := hid hB
      clear hB
      go_wp2_with fail
      refine (do_any wr b c x y (S i).k (S i).c (S i).n B1.out).mono ?_
      intro e W3 hd
      obtain ⟨b2, rfl, hT2⟩ := hT.out.step hd
      have T2 := hid hT2
      clear hd hT2 B1 hT y0 y1 y2
      go_wp2
      go_roundw
      case rel => exact ⟨i + 1, _, _, by omega, by simp, rfl, rfl, rfl, T2.out⟩
      case measure => simp [intOf]; omega
    · rcases hx with h1 | ⟨h1, h2⟩ | ⟨h1, h2, rfl, rfl⟩
      all_goals go_wp2_with fail
      all_goals
        go_loopw [9, 12, 13, 15] (fun vy vq vok vi W => ∃ (i : Nat) (r s : Option Addr), i ≤ 60 ∧ vi = .int .i64 i ∧ vy = .pointer r ∧ vq = .pointer s ∧ vok = .bool true ∧ Hid (Ts w W r s _ _)) (fun _ _ _ vi _ => 60 - (intOf vi).toNat)
        case atStart => exact ⟨0, py, pq, by omega, rfl, rfl, rfl, rfl, hT.out.swap⟩
        case round =>
          obtain ⟨j, r, s, hj, rfl, rfl, rfl, rfl, hT⟩ := hrel
          have hx : ((j : Int) < M ∧ (j : Int) < 60 ∧ ∃ b c x y, r = some ⟨b, 0, none⟩ ∧ s = some ⟨c, 0, none⟩ ∧ Bo wr b c x y) ∨ ¬ (j : Int) < M ∨ ((j : Int) < M ∧ ¬ (j : Int) < 60) ∨ ((j : Int) < M ∧ (j : Int) < 60 ∧ r = none ∧ s = none) := by
            by_cases h1 : (j : Int) < M
            · by_cases h2 : (j : Int) < 60
              · rcases hT.out.s1 with ⟨h3, h4⟩ | ⟨b, c, x, y, h3, h4, hB, -, -⟩
                · exact .inr (.inr (.inr ⟨h1, h2, h3, h4⟩))
                · exact .inl ⟨h1, h2, b, c, x, y, h3, h4, hB⟩
              · exact .inr (.inr (.inl ⟨h1, h2⟩))
            · exact .inr (.inl h1)
          rcases hx with ⟨h1, h2, b, c, x, y, rfl, rfl, hB⟩ | hx
          · obtain ⟨sb, off, rfl, y0, y1, y2, -⟩ := (HU.out.keep hT.out.kp).at (i := j) (by omega)
            have B1 := hid hB
            clear hB
            go_wp2_with fail
            refine (do_any wr b c x y (T j).k (T j).c (T j).n B1.out).mono ?_
            intro e W3 hd
            obtain ⟨b2, rfl, hT2⟩ := hT.out.step hd
            have T2 := hid hT2
            clear hd hT2 B1 hT y0 y1 y2
            go_wp2
            go_roundw
            case rel => exact ⟨j + 1, _, _, by omega, by simp, rfl, rfl, rfl, T2.out⟩
            case measure => simp [intOf]; omega
          · have T1 := hid hT.out.swap
            clear hT
            rcases hx with h1 | ⟨h1, h2⟩ | ⟨h1, h2, rfl, rfl⟩
            all_goals go_wp2_with fail
            all_goals
              obtain ⟨rr, cs, cr⟩ := T1.out.same
              have CR := hid cr
              refine cs.mono ?_
              rintro e W4 ⟨rfl, k4⟩
              have cr4 := CR.out W4 k4
              have T4 := hid (T1.out.keep k4)
              clear k4 cs cr T1 CR
              go_wp2_with fail
              refine cr4.mono ?_
              rintro e W5 ⟨rfl, k5⟩
              have T5 := hid (T4.out.keep k5)
              clear k5 cr4 T4
              have qq : (rr == rr) = true := by simp
              go_wp2_with fail
              refine T5.out.s1.self.mono ?_
              rintro e W6 ⟨rfl, k6⟩
              have K6 := hid (T5.out.kp.trans k6)
              clear k6 T5
              go_wp2_with fail
              refine (known_any _).mono ?_
              rintro e W7 ⟨rfl, k7⟩
              have K7 := hid (K6.out.trans k7)
              clear k7 K6
              go_wp2
              go_ret
              exact ⟨rfl, K7.out⟩
end Go.Proofs.Ytdkdjbicnaaafaa
