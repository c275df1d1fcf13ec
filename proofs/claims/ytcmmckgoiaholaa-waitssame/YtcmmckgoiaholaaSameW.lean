/- WaitsSame's walk. -/
import Derived.Test.YtcmmckgoiaholaaSides
namespace Go.Proofs.Ytcmmckgoiaholaa
open Go.RowKit Go.Shelf Go.Lib Go.Sort Go.Maps

set_option maxRecDepth 100000 in
set_option maxHeartbeats 4000000 in
theorem same_walk (w : World) (V U : Value) (N M : Nat) (S T : Nat → Sp) (hV : Sc w V N S) (hU : Sc w U M T) :
    Calls Try.prog 4 #[V, U] w fun e w' => e = .returned (.bool true) ∧ Kp w w' [] := by
  obtain ⟨so, sc, rfl⟩ := hV.shape
  obtain ⟨to, tc, rfl⟩ := hU.shape
  have HV := hid hV
  have HU := hid hU
  clear hV hU
  go_enter Try.func4, Try.ntmps4
  go_wp2_with fail
  refine (new_any _).mono ?_
  rintro e w1 ⟨xb, pb, rfl, hx, hx1, hx2, hxk⟩
  have X6 := hid (And.intro hx (And.intro hx1 (And.intro hx2 hxk)))
  clear hx hx1 hx2 hxk
  go_wp2_with fail
  refine (new_any _).mono ?_
  rintro e w2 ⟨yb, qb, rfl, hy, hy1, hy2, hyk⟩
  have ka := Kp.alloc w2 (.cells #[.slice none 0 0] 28) []
  have kb := Kp.alloc (w2.alloc (.cells #[.slice none 0 0] 28)) (.cells #[.slice none 0 0] 28) []
  have D0 := hid (show Ts w ((w2.alloc (.cells #[.slice none 0 0] 28)).alloc (.cells #[.slice none 0 0] 28)) xb w2.heap.size yb (w2.heap.size + 1) by
    obtain ⟨hx, hx1, hx2, hxk⟩ := X6.out
    have hl := hx.lt
    have hs := hxk.size
    have hs2 := hyk.size
    have hrf := rf_new (w2.alloc (.cells #[.slice none 0 0] 28))
    rw [show (w2.alloc (.cells #[.slice none 0 0] 28)).heap.size = w2.heap.size + 1 by simp] at hrf
    exact ⟨⟨_, [], _, [], ⟨⟨pb, _, rfl, ((hx.same hyk).same ka).same kb⟩, (rf_new w2).keep kb, fun k hk => by simp [rows, Value.ownBlock] at hk; omega⟩, ⟨⟨qb, _, rfl, (hy.same ka).same kb⟩, hrf, fun k hk => by simp [rows, Value.ownBlock] at hk; omega⟩, fun k hk => by simp [rows, Value.ownBlock] at hk ⊢; omega, by omega⟩, ((hxk.trans hyk).trans ka).trans kb⟩)
  clear hy hy1 hy2 hyk X6 ka kb
  go_wp2_with fail
  go_loopw [5, 7, 9, 10] (fun vx vp vok vi W => ∃ (i b : Nat), i ≤ 60 ∧ vi = .int .i64 i ∧ vx = .pointer (some ⟨b, 0, none⟩) ∧ vp = .pointer (some ⟨w2.heap.size, 0, none⟩) ∧ vok = .bool true ∧ Hid (Ts w W b w2.heap.size yb (w2.heap.size + 1))) (fun _ _ _ vi _ => 60 - (intOf vi).toNat)
  case atStart => exact ⟨0, xb, by omega, rfl, rfl, rfl, rfl, D0.out⟩
  case round =>
    obtain ⟨i, b, hi, rfl, rfl, rfl, rfl, hT⟩ := hrel
    clear D0
    by_cases hin : i < N ∧ i < 60
    · have h1 : (i : Int) < N := by omega
      have h2 : (i : Int) < 60 := by omega
      obtain ⟨sb, off, rfl, y0, y1, y2⟩ := (HV.out.keep hT.out.kp).at hin.1
      go_wp2_with fail
      refine (hT.out.step (S i).k (S i).t (S i).p).mono ?_
      rintro e W3 ⟨b', rfl, hT2⟩
      have T2 := hid hT2
      clear hT2 hT y0 y1 y2
      go_wp2
      go_roundw
      case rel => exact ⟨i + 1, b', by omega, by simp, rfl, rfl, rfl, T2.out⟩
      case measure => simp [intOf]; omega
    · have hx : ¬ (i : Int) < N ∨ ((i : Int) < N ∧ ¬ (i : Int) < 60) := by omega
      clear hin
      have T0 := hid hT.out.swap
      clear hT
      rcases hx with h1 | ⟨h1, h2⟩
      all_goals go_wp2_with fail
      all_goals
        go_loopw [6, 8, 9, 11] (fun vy vq vok vi W => ∃ (i c : Nat), i ≤ 60 ∧ vi = .int .i64 i ∧ vy = .pointer (some ⟨c, 0, none⟩) ∧ vq = .pointer (some ⟨w2.heap.size + 1, 0, none⟩) ∧ vok = .bool true ∧ Hid (Ts w W c (w2.heap.size + 1) b w2.heap.size)) (fun _ _ _ vi _ => 60 - (intOf vi).toNat)
        case atStart => exact ⟨0, yb, by omega, rfl, rfl, rfl, rfl, T0.out⟩
        case round =>
          obtain ⟨j, c, hj, rfl, rfl, rfl, rfl, hT⟩ := hrel
          by_cases hin : j < M ∧ j < 60
          · have h1 : (j : Int) < M := by omega
            have h2 : (j : Int) < 60 := by omega
            obtain ⟨sb, off, rfl, y0, y1, y2⟩ := (HU.out.keep hT.out.kp).at hin.1
            go_wp2_with fail
            refine (hT.out.step (T j).k (T j).t (T j).p).mono ?_
            rintro e W3 ⟨b', rfl, hT2⟩
            have T2 := hid hT2
            clear hT2 hT y0 y1 y2
            go_wp2
            go_roundw
            case rel => exact ⟨j + 1, b', by omega, by simp, rfl, rfl, rfl, T2.out⟩
            case measure => simp [intOf]; omega
          · have hx : ¬ (j : Int) < M ∨ ((j : Int) < M ∧ ¬ (j : Int) < 60) := by omega
            clear hin
            have T1 := hid hT.out.swap
            clear hT
            rcases hx with h3 | ⟨h3, h4⟩
            all_goals go_wp2_with fail
            all_goals
              obtain ⟨rr, cs, cr⟩ := T1.out.same
              have CR := hid cr
              refine cs.mono ?_
              rintro e W4 ⟨rfl, k4⟩
              have cr4 := CR.out W4 k4
              have T4 := hid (T1.out.keep k4)
              clear k4 cs cr T1 CR
              go_wp2_with fail
              refine cr4.mono ?_
              rintro e W5 ⟨rfl, k5⟩
              have T5 := hid (T4.out.keep k5)
              clear k5 cr4 T4
              have hbb := fun w => run_equal_bool (P := Try.prog) w 4 rr rr Try.underlying4
              go_wp2_with fail
              refine T5.out.self.mono ?_
              rintro e W6 ⟨rfl, k6⟩
              have K6 := hid (T5.out.kp.trans k6)
              clear k6 T5
              go_wp2_with fail
              refine (known_any _).mono ?_
              rintro e W7 ⟨rfl, k7⟩
              have K7 := hid (K6.out.trans k7)
              clear k7 K6
              go_wp2
              go_ret
              exact ⟨rfl, K7.out⟩
end Go.Proofs.Ytcmmckgoiaholaa
