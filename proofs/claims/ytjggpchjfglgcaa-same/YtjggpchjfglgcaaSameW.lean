/- CancelSame's walk. -/
import Derived.Test.YtjggpchjfglgcaaOs
namespace Go.Proofs.Ytjggpchjfglgcaa
open Go.RowKit Go.Shelf
attribute [local go_sem] Oper.semAt_some

set_option maxRecDepth 100000 in
set_option maxHeartbeats 8000000 in
theorem same_walk (w : World) (V V' : Value) (N1 N2 : Nat) (F F' : Nat → Stp) (hV : Scr w V N1 F) (hV' : Scr w V' N2 F') : Calls Try.prog 4 #[V, V'] w fun e w' => e = .returned (.bool true) ∧ Kp w w' [] := by
  obtain ⟨so, sc, rfl⟩ := hV.shape
  obtain ⟨so', sc', rfl⟩ := hV'.shape
  have HV1 := hid hV
  have HV2 := hid hV'
  clear hV hV'
  go_enter Try.func4, Try.ntmps4
  go_wp2_with fail
  refine (new_any w).mono ?_
  rintro e w1 ⟨rfl, h0, k0⟩
  have H0 := hid (And.intro h0 k0)
  clear h0 k0
  go_wp2_with fail
  refine (new_any w1).mono ?_
  rintro e w2 ⟨rfl, h1, k1⟩
  have H1 := hid (And.intro h1 k1)
  clear h1 k1
  go_wp2_with fail
  refine (rnew_any w2).mono ?_
  rintro e w3 ⟨rfl, h2, k2⟩
  have H2 := hid (And.intro h2 k2)
  clear h2 k2
  go_wp2_with fail
  refine (rnew_any w3).mono ?_
  rintro e w4 ⟨rfl, h3, k3⟩
  have H3 := hid (And.intro h3 k3)
  clear h3 k3
  have D1 := hid (O2.new H0.out.1 H0.out.2 H1.out.1 H1.out.2 H2.out.1 H2.out.2 H3.out.1 H3.out.2)
  clear H0 H1 H2 H3
  generalize w.heap.size = cb at D1 ⊢
  generalize w2.heap.size = rb at D1 ⊢
  generalize w1.heap.size = cc at D1 ⊢
  generalize w3.heap.size = rc at D1 ⊢
  go_wp2_with fail
  go_loopw [5, 7, 9, 10] (fun vx vp vo vi W => ∃ (i cb : Nat), i ≤ 60 ∧ vi = .int .i64 i ∧ vo = .bool true ∧ vp = .pointer (some ⟨rb, 0, none⟩) ∧ vx = .pointer (some ⟨cb, 0, none⟩) ∧ Hid (O2 w W cb rb cc rc)) (fun _ _ _ vi _ => 60 - (intOf vi).toNat)
  case atStart => exact ⟨0, _, by omega, rfl, rfl, rfl, rfl, D1⟩
  case round =>
    obtain ⟨i, cb, hi, rfl, rfl, rfl, rfl, hT⟩ := hrel
    by_cases hin : i < N1 ∧ i < 60
    · have h1 : (i : Int) < N1 := by omega
      have h2 : (i : Int) < 60 := by omega
      obtain ⟨gb, off, rfl, y0, y1, y2, y3⟩ := (HV1.out.keep hT.out.a.kp).at hin.1
      go_wp2_with fail
      refine (hT.out.step (F i)).mono ?_
      rintro e W3 ⟨b', rfl, hT2⟩
      have T2 := hid hT2
      clear hT hT2 y0 y1 y2 y3
      go_wp2
      go_roundw
      case rel => exact ⟨i + 1, b', by omega, by simp, rfl, rfl, rfl, T2⟩
      case measure => simp [intOf]; omega
    · have hx : ¬ (i : Int) < N1 ∨ ((i : Int) < N1 ∧ ¬ (i : Int) < 60) := by omega
      clear hin
      rcases hx with h1 | ⟨h1, h2⟩
      · go_wp2_with fail
        have hT1 := hT
        clear h1 D1 hT
        go_loopw [6, 8, 9, 11] (fun vx vp vo vi W => ∃ (i cc : Nat), i ≤ 60 ∧ vi = .int .i64 i ∧ vo = .bool true ∧ vp = .pointer (some ⟨rc, 0, none⟩) ∧ vx = .pointer (some ⟨cc, 0, none⟩) ∧ Hid (O2 w W cb rb cc rc)) (fun _ _ _ vi _ => 60 - (intOf vi).toNat)
        case atStart => exact ⟨0, _, by omega, rfl, rfl, rfl, rfl, hT1⟩
        case round =>
          obtain ⟨i, cc, hi, rfl, rfl, rfl, rfl, hT⟩ := hrel
          by_cases hin : i < N2 ∧ i < 60
          · have h1 : (i : Int) < N2 := by omega
            have h2 : (i : Int) < 60 := by omega
            obtain ⟨gb, off, rfl, y0, y1, y2, y3⟩ := (HV2.out.keep hT.out.a.kp).at hin.1
            go_wp2_with fail
            refine (hT.out.swap.step (F' i)).mono ?_
            rintro e W3 ⟨b', rfl, hT2⟩
            have T2 := hid hT2
            clear hT hT2 y0 y1 y2 y3
            go_wp2
            go_roundw
            case rel => exact ⟨i + 1, b', by omega, by simp, rfl, rfl, rfl, hid T2.out.swap⟩
            case measure => simp [intOf]; omega
          · have hx : ¬ (i : Int) < N2 ∨ ((i : Int) < N2 ∧ ¬ (i : Int) < 60) := by omega
            clear hin
            rcases hx with h1 | ⟨h1, h2⟩
            · go_wp2_with fail
              have HB := hT
              clear h1 hT1
              obtain ⟨B, cB1, cB2⟩ := HB.out.sames
              have he : ∀ W, (binOp .eql 4 (.bool B) (.bool B)).run Try.prog W = .ok (.bool true) W := fun W => by cases B <;> kernel_rfl
              have CB1 := hid cB1
              have CB2 := hid cB2
              have K6 := hid HB.out.a.kp
              clear cB1 cB2
              go_wp2_with fail
              refine CB1.out.mono ?_
              rintro e W5 ⟨rfl, k5⟩
              have HC := hid (HB.out.same k5)
              have CB3 := CB2.out W5 k5
              have K7 := hid (K6.out.trans k5)
              clear k5 CB1 CB2 HB K6
              go_wp2_with fail
              refine CB3.mono ?_
              rintro e W6 ⟨rfl, k6⟩
              have CS := (HC.out.same k6).self
              have K8 := hid (K7.out.trans k6)
              clear k6 HC K7 CB3
              go_wp2_with fail
              refine CS.mono ?_
              rintro e W7 ⟨rfl, k7⟩
              have K9 := hid (K8.out.trans k7)
              clear k7 CS K8
              go_wp2_with fail
              refine (known_any _).mono ?_
              rintro e W8 ⟨rfl, k8⟩
              have K10 := hid (K9.out.trans k8)
              clear k8 K9
              go_wp2
              go_ret
              exact ⟨rfl, K10.out⟩
            · go_wp2_with fail
              have HB := hT
              clear h1 hT1
              obtain ⟨B, cB1, cB2⟩ := HB.out.sames
              have he : ∀ W, (binOp .eql 4 (.bool B) (.bool B)).run Try.prog W = .ok (.bool true) W := fun W => by cases B <;> kernel_rfl
              have CB1 := hid cB1
              have CB2 := hid cB2
              have K6 := hid HB.out.a.kp
              clear cB1 cB2
              go_wp2_with fail
              refine CB1.out.mono ?_
              rintro e W5 ⟨rfl, k5⟩
              have HC := hid (HB.out.same k5)
              have CB3 := CB2.out W5 k5
              have K7 := hid (K6.out.trans k5)
              clear k5 CB1 CB2 HB K6
              go_wp2_with fail
              refine CB3.mono ?_
              rintro e W6 ⟨rfl, k6⟩
              have CS := (HC.out.same k6).self
              have K8 := hid (K7.out.trans k6)
              clear k6 HC K7 CB3
              go_wp2_with fail
              refine CS.mono ?_
              rintro e W7 ⟨rfl, k7⟩
              have K9 := hid (K8.out.trans k7)
              clear k7 CS K8
              go_wp2_with fail
              refine (known_any _).mono ?_
              rintro e W8 ⟨rfl, k8⟩
              have K10 := hid (K9.out.trans k8)
              clear k8 K9
              go_wp2
              go_ret
              exact ⟨rfl, K10.out⟩
      · go_wp2_with fail
        have hT1 := hT
        clear h1 D1 hT
        go_loopw [6, 8, 9, 11] (fun vx vp vo vi W => ∃ (i cc : Nat), i ≤ 60 ∧ vi = .int .i64 i ∧ vo = .bool true ∧ vp = .pointer (some ⟨rc, 0, none⟩) ∧ vx = .pointer (some ⟨cc, 0, none⟩) ∧ Hid (O2 w W cb rb cc rc)) (fun _ _ _ vi _ => 60 - (intOf vi).toNat)
        case atStart => exact ⟨0, _, by omega, rfl, rfl, rfl, rfl, hT1⟩
        case round =>
          obtain ⟨i, cc, hi, rfl, rfl, rfl, rfl, hT⟩ := hrel
          by_cases hin : i < N2 ∧ i < 60
          · have h1 : (i : Int) < N2 := by omega
            have h2 : (i : Int) < 60 := by omega
            obtain ⟨gb, off, rfl, y0, y1, y2, y3⟩ := (HV2.out.keep hT.out.a.kp).at hin.1
            go_wp2_with fail
            refine (hT.out.swap.step (F' i)).mono ?_
            rintro e W3 ⟨b', rfl, hT2⟩
            have T2 := hid hT2
            clear hT hT2 y0 y1 y2 y3
            go_wp2
            go_roundw
            case rel => exact ⟨i + 1, b', by omega, by simp, rfl, rfl, rfl, hid T2.out.swap⟩
            case measure => simp [intOf]; omega
          · have hx : ¬ (i : Int) < N2 ∨ ((i : Int) < N2 ∧ ¬ (i : Int) < 60) := by omega
            clear hin
            rcases hx with h1 | ⟨h1, h2⟩
            · go_wp2_with fail
              have HB := hT
              clear h1 hT1
              obtain ⟨B, cB1, cB2⟩ := HB.out.sames
              have he : ∀ W, (binOp .eql 4 (.bool B) (.bool B)).run Try.prog W = .ok (.bool true) W := fun W => by cases B <;> kernel_rfl
              have CB1 := hid cB1
              have CB2 := hid cB2
              have K6 := hid HB.out.a.kp
              clear cB1 cB2
              go_wp2_with fail
              refine CB1.out.mono ?_
              rintro e W5 ⟨rfl, k5⟩
              have HC := hid (HB.out.same k5)
              have CB3 := CB2.out W5 k5
              have K7 := hid (K6.out.trans k5)
              clear k5 CB1 CB2 HB K6
              go_wp2_with fail
              refine CB3.mono ?_
              rintro e W6 ⟨rfl, k6⟩
              have CS := (HC.out.same k6).self
              have K8 := hid (K7.out.trans k6)
              clear k6 HC K7 CB3
              go_wp2_with fail
              refine CS.mono ?_
              rintro e W7 ⟨rfl, k7⟩
              have K9 := hid (K8.out.trans k7)
              clear k7 CS K8
              go_wp2_with fail
              refine (known_any _).mono ?_
              rintro e W8 ⟨rfl, k8⟩
              have K10 := hid (K9.out.trans k8)
              clear k8 K9
              go_wp2
              go_ret
              exact ⟨rfl, K10.out⟩
            · go_wp2_with fail
              have HB := hT
              clear h1 hT1
              obtain ⟨B, cB1, cB2⟩ := HB.out.sames
              have he : ∀ W, (binOp .eql 4 (.bool B) (.bool B)).run Try.prog W = .ok (.bool true) W := fun W => by cases B <;> kernel_rfl
              have CB1 := hid cB1
              have CB2 := hid cB2
              have K6 := hid HB.out.a.kp
              clear cB1 cB2
              go_wp2_with fail
              refine CB1.out.mono ?_
              rintro e W5 ⟨rfl, k5⟩
              have HC := hid (HB.out.same k5)
              have CB3 := CB2.out W5 k5
              have K7 := hid (K6.out.trans k5)
              clear k5 CB1 CB2 HB K6
              go_wp2_with fail
              refine CB3.mono ?_
              rintro e W6 ⟨rfl, k6⟩
              have CS := (HC.out.same k6).self
              have K8 := hid (K7.out.trans k6)
              clear k6 HC K7 CB3
              go_wp2_with fail
              refine CS.mono ?_
              rintro e W7 ⟨rfl, k7⟩
              have K9 := hid (K8.out.trans k7)
              clear k7 CS K8
              go_wp2_with fail
              refine (known_any _).mono ?_
              rintro e W8 ⟨rfl, k8⟩
              have K10 := hid (K9.out.trans k8)
              clear k8 K9
              go_wp2
              go_ret
              exact ⟨rfl, K10.out⟩
end Go.Proofs.Ytjggpchjfglgcaa
