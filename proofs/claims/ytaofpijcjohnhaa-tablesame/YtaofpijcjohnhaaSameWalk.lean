/- TableSame's walk. -/
import Derived.Test.YtaofpijcjohnhaaSides
import Derived.Test.YtaofpijcjohnhaaKnown
import Derived.Deep.RegionHeldLaw
namespace Go.Proofs.Ytaofpijcjohnhaa
open Go.RowKit

/-- Both sides, apart. -/
def Ts (w W : World) (pt pr ao : Option Addr) (cp m s : Nat) (pt' pr' ao' : Option Addr) (cp' m' s' : Nat) : Prop :=
  ∃ bs bs', Sd w W pt pr ao cp m s bs ∧ Sd w W pt' pr' ao' cp' m' s' bs' ∧ (∀ b ∈ bs, b ∉ bs') ∧ Kp w W []
theorem Ts.swap {w W : World} {pt pr ao pt' pr' ao' : Option Addr} {cp m s cp' m' s' : Nat} (h : Ts w W pt pr ao cp m s pt' pr' ao' cp' m' s') : Ts w W pt' pr' ao' cp' m' s' pt pr ao cp m s := by
  obtain ⟨bs, bs', h1, h2, h3, h4⟩ := h
  exact ⟨bs', bs, h2, h1, fun b hb hb' => h3 b hb' hb, h4⟩
theorem Ts.keep {w W W' : World} {pt pr ao pt' pr' ao' : Option Addr} {cp m s cp' m' s' : Nat} (h : Ts w W pt pr ao cp m s pt' pr' ao' cp' m' s') (hk : Kp W W' []) : Ts w W' pt pr ao cp m s pt' pr' ao' cp' m' s' := by
  obtain ⟨bs, bs', h1, h2, h3, h4⟩ := h
  exact ⟨bs, bs', h1.keep hk, h2.keep hk, h3, h4.trans hk⟩
/-- A step of the first side, where it is there. -/
theorem Ts.step {w W : World} {pt pr ao pt' pr' ao' : Option Addr} {cp m s cp' m' s' : Nat} (h : Ts w W pt pr ao cp m s pt' pr' ao' cp' m' s') (hp : pr ≠ none) (hs : s ≤ 100) (x : St) :
    Calls Try.prog 11 #[.pointer pt, .pointer pr, .agg #[.int .i64 x.k, .int .i64 x.n, .bool x.odd, .int .i64 x.h], .slice ao m cp] W fun e w' => ∃ pt2 ao2 cp2 m2, e = .returned (.tuple #[.pointer pt2, .pointer pr, .slice ao2 m2 cp2, .bool true]) ∧ Ts w w' pt2 pr ao2 cp2 m2 (s + 1) pt' pr' ao' cp' m' s' := by
  obtain ⟨bs, bs', h1, h2, h3, h4⟩ := h
  rcases h1 with ⟨-, rfl, -, -⟩ | ⟨tb, rb, mb, n, T, l, rfl, rfl, rfl, n1, n2, n3, d⟩
  · exact absurd rfl hp
  · refine (do_any w W tb rb mb n s T l ao cp m x d (by omega) n1 n2 (by omega)).mono ?_
    rintro e w' ⟨tb2, T2, l2, ao2, cp2, m2, rfl, d2, hm, hk, hf⟩
    have hlt := h2.lt
    refine ⟨_, _, _, _, rfl, [tb2, mb], bs', .inr ⟨tb2, rb, mb, n, T2, l2, rfl, rfl, rfl, n1, n2, by omega, by simpa using d2⟩, h2.other d hk ⟨h3 tb (by simp), h3 mb (by simp)⟩, ?_, h4.past hk (by intro k hk' hl; have := d.nb; simp at hk'; omega)⟩
    intro b hb hb'
    simp at hb
    rcases hb with rfl | rfl
    · rcases hf with rfl | hf
      · exact h3 b (by simp) hb'
      · have := hlt b hb'; omega
    · exact h3 b (by simp) hb'

set_option maxRecDepth 100000 in
set_option maxHeartbeats 4000000 in
theorem same_walk (w : World) (p0 p1 : Int) (V V' : Value) (N N' : Nat) (S S' : Nat → St) (hV : Sc w V N S) (hV' : Sc w V' N' S') :
    Calls Try.prog 4 #[.agg #[.int .i64 p0, .int .i64 p1], V, V'] w fun e w' => e = .returned (.bool true) ∧ Kp w w' [] := by
  obtain ⟨so, sc, rfl⟩ := hV.shape
  obtain ⟨so', sc', rfl⟩ := hV'.shape
  have HV := hid hV
  have HV' := hid hV'
  clear hV hV'
  have K0 := hid (Kp.alloc w (.cells #[.int .i64 p0, .int .i64 p1] 40) [])
  have b0 := hid (heap_alloc_new w (.cells #[.int .i64 p0, .int .i64 p1] 40))
  obtain ⟨pb, hpb⟩ : ∃ pb, w.heap.size = pb := ⟨_, rfl⟩
  go_enter Try.func4, Try.ntmps4
  go_wp2_with fail
  obtain ⟨W0, hW0⟩ : ∃ W0, w.alloc (.cells #[.int .i64 p0, .int .i64 p1] 40) = W0 := ⟨_, rfl⟩
  rw [hW0] at K0 b0 ⊢
  rw [hpb] at b0
  clear hW0
  refine (tnew_any W0 p0).mono ?_
  rintro e W1 ⟨pt, c1, rfl, k1, hT⟩
  have c0 := k1.cell (show W0.cell? ⟨pb, 0, none⟩ = some (.int .i64 p0) by rw [cell_of_row _ _ _ _ _ _ b0.out]; rfl) (by simp)
  have c1' := k1.cell (show W0.cell? ⟨pb, 1, none⟩ = some (.int .i64 p1) by rw [cell_of_row _ _ _ _ _ _ b0.out]; rfl) (by simp)
  have K1 := hid k1
  have HT := hid hT
  clear k1 hT
  go_wp2_with fail
  refine (tnew_any W1 p1).mono ?_
  rintro e W2 ⟨pt', c2, rfl, k2, hT'⟩
  have d0 := k2.cell c0 (by simp)
  have d1 := k2.cell c1' (by simp)
  have K2 := hid k2
  have HT' := hid hT'
  clear k2 hT' c0 c1'
  go_wp2_with fail
  go_region_held_law (fun w' => w'.cell? ⟨pb, 0, none⟩ = some (.int .i64 p0) ∧ w'.cell? ⟨pb, 1, none⟩ = some (.int .i64 p1))
    (first
      | exact ⟨hk2.cell (hk1.cell (by simpa using d0) (by simp)) (by simp), hk2.cell (hk1.cell (by simpa using d1) (by simp)) (by simp)⟩
      | exact ⟨hk1.cell (by simpa using d0) (by simp), hk1.cell (by simpa using d1) (by simp)⟩
      | exact ⟨by simpa using d0, by simpa using d1⟩)
    (first
      | (go_at_call 8; have _hh := hk1; refine (rnew_any _ _).mono ?_; rintro e y2 ⟨pr', rfl, hk2, hR'⟩)
      | (go_at_call 8; refine (rnew_any _ _).mono ?_; rintro e y1 ⟨pr, rfl, hk1, hR⟩))
  have TS := hid (show Ts w y2 pt pr none 0 0 0 pt' pr' none 0 0 0 by
    obtain ⟨bs, s1, q1⟩ := side0 (E := y2) HT.out hR K0.out K1.out (K2.out.trans (Kp.drew _ _)) hk1 hk2
    obtain ⟨bs', s2, q2⟩ := side0 (E := y2) HT'.out hR' (K0.out.trans K1.out) K2.out ((Kp.drew _ _).trans hk1) hk2 (Kp.refl _ _)
    refine ⟨bs, bs', s1, s2, fun b hb hb' => ?_, ((((K0.out.trans K1.out).trans K2.out).trans (Kp.drew _ _)).trans hk1).trans hk2⟩
    have z1 := q1 b hb
    have z2 := q2 b hb'
    have e1 := K1.out.size
    have e2 := K2.out.size
    have e3 := hk1.size
    have e4 := hk2.size
    have e5 : (World.drew W2).heap.size = W2.heap.size := rfl
    omega)
  clear HT HT' hR hR' hk1 hk2 K0 K1 K2 d0 d1 b0 hpb
  go_wp2_with fail
  go_loopw [7, 11, 13, 14, 16] (fun vt vr vk vl vi W => ∃ (i m cp : Nat) (pt ao : Option Addr), i ≤ 60 ∧ vi = .int .i64 i ∧ vt = .pointer pt ∧ vr = .pointer pr ∧ vk = .bool true ∧ vl = .slice ao m cp ∧ Hid (Ts w W pt pr ao cp m i pt' pr' none 0 0 0)) (fun _ _ _ _ vi _ => 60 - (intOf vi).toNat)
  case atStart => exact ⟨0, 0, 0, pt, none, by omega, rfl, rfl, rfl, rfl, rfl, TS.out⟩
  case round =>
    obtain ⟨i, m, cp, pt2, ao, hi, rfl, rfl, rfl, rfl, rfl, hT⟩ := hrel
    by_cases hlt : i < N ∧ i < 60 ∧ pr ≠ none
    · obtain ⟨hi1, hi2, hp⟩ := hlt
      have hkp : Kp w wr [] := by obtain ⟨_, _, _, _, _, hk⟩ := hT.out; exact hk
      obtain ⟨b, off, rfl, y0, y1, y2', y3, hfit⟩ := (HV.out.keep hkp).at hi1
      have hi1' : (i : Int) < N := by omega
      have hi2' : (i : Int) < 60 := by omega
      obtain ⟨pa, rfl⟩ : ∃ pa, pr = some pa := by cases pr with | none => exact absurd rfl hp | some pa => exact ⟨pa, rfl⟩
      clear hkp hp
      go_wp2_with fail
      refine (hT.out.step (by simp) (by omega) (S i)).mono ?_
      rintro e W2 ⟨pt3, ao3, cp3, m3, rfl, hT3⟩
      have T3 := hid hT3
      clear hT3 hT y0 y1 y2' y3
      go_wp2
      go_roundw
      case rel => exact ⟨i + 1, m3, cp3, pt3, ao3, by omega, by simp, rfl, rfl, rfl, rfl, T3.out⟩
      case measure => simp [intOf]; omega
    · have TW := hid hT.out
      clear hT TS
      refine (Classical.em (i < N)).elim (fun e1 => ?in1) (fun e1 => ?out1)
      case' out1 =>
        have e1' : ¬ (i : Int) < N := by omega
        go_wp2_with fail
      case' in1 =>
        have e1' : (i : Int) < N := by omega
        refine (Classical.em (i < 60)).elim (fun e2 => ?in2) (fun e2 => ?out2)
        case' out2 =>
          have e2' : ¬ (i : Int) < 60 := by omega
          go_wp2_with fail
        case' in2 =>
          have e2' : (i : Int) < 60 := by omega
          obtain rfl : pr = none := by
            cases pr with
            | none => rfl
            | some pa => exact absurd ⟨e1, e2, by simp⟩ hlt
          go_wp2_with fail
      all_goals
        clear hlt
        go_loopw [9, 12, 13, 15, 17] (fun vt vr vk vl vi W => ∃ (j m' cp' : Nat) (pt' ao' : Option Addr), j ≤ 60 ∧ vi = .int .i64 j ∧ vt = .pointer pt' ∧ vr = .pointer pr' ∧ vk = .bool true ∧ vl = .slice ao' m' cp' ∧ Hid (Ts w W pt2 _ ao cp m i pt' pr' ao' cp' m' j)) (fun _ _ _ _ vi _ => 60 - (intOf vi).toNat)
        case atStart => exact ⟨0, 0, 0, pt', none, by omega, rfl, rfl, rfl, rfl, rfl, TW.out⟩
        case round =>
          obtain ⟨j, m', cp', pt2', ao', hj, rfl, rfl, rfl, rfl, rfl, hT⟩ := hrel
          by_cases hlt : j < N' ∧ j < 60 ∧ pr' ≠ none
          · obtain ⟨hi1, hi2, hp⟩ := hlt
            have hkp : Kp w wr [] := by obtain ⟨_, _, _, _, _, hk⟩ := hT.out; exact hk
            obtain ⟨b, off, rfl, y0, y1, y2', y3, hfit⟩ := (HV'.out.keep hkp).at hi1
            have hi1' : (j : Int) < N' := by omega
            have hi2' : (j : Int) < 60 := by omega
            obtain ⟨pa, rfl⟩ : ∃ pa, pr' = some pa := by cases pr' with | none => exact absurd rfl hp | some pa => exact ⟨pa, rfl⟩
            clear hkp hp
            go_wp2_with fail
            refine (hT.out.swap.step (by simp) (by omega) (S' j)).mono ?_
            rintro e W2 ⟨pt3, ao3, cp3, m3, rfl, hT3⟩
            have T3 := hid hT3.swap
            clear hT3 hT y0 y1 y2' y3
            go_wp2
            go_roundw
            case rel => exact ⟨j + 1, m3, cp3, pt3, ao3, by omega, by simp, rfl, rfl, rfl, rfl, T3.out⟩
            case measure => simp [intOf]; omega
          · have TZ := hid hT.out
            clear hT TW
            obtain ⟨bs, bs', s1, s2, -, hkw⟩ := TZ.out
            obtain ⟨bv, cs, cr⟩ := same_sides s1 s2
            have CR := hid cr
            have S1 := hid s1
            have KW := hid hkw
            clear s1 s2 hkw TZ cr
            have hbb : (bv == bv) = true := by simp
            by_cases f1 : j < N'
            case' neg =>
              have f1' : ¬ (j : Int) < N' := by omega
              go_wp2_with fail
            case' pos =>
              have f1' : (j : Int) < N' := by omega
              by_cases f2 : j < 60
              case' neg =>
                have f2' : ¬ (j : Int) < 60 := by omega
                go_wp2_with fail
              case' pos =>
                have f2' : (j : Int) < 60 := by omega
                obtain rfl : pr' = none := by
                  cases pr' with
                  | none => rfl
                  | some pa => exact absurd ⟨f1, f2, by simp⟩ hlt
                go_wp2_with fail
            all_goals
              refine cs.mono ?_
              rintro e W4 ⟨rfl, k4⟩
              have S4 := hid (S1.out.keep k4)
              have K4 := hid (KW.out.trans k4)
              have C4 := CR.out W4 k4
              clear k4 S1 KW cs
              go_wp2_with fail
              refine C4.mono ?_
              rintro e W5 ⟨rfl, k5⟩
              have S5 := hid (S4.out.keep k5)
              have K5 := hid (K4.out.trans k5)
              clear k5 S4 K4 C4
              go_wp2_with fail
              refine (same_self S5.out).mono ?_
              rintro e W6 ⟨rfl, k6⟩
              have K6 := hid (K5.out.trans k6)
              clear k6 S5 K5
              go_wp2_with fail
              refine (known_any W6).mono ?_
              rintro e W7 ⟨rfl, k7⟩
              have K7 := hid (K6.out.trans k7)
              clear k7 K6
              go_wp2
              go_ret
              exact ⟨rfl, K7.out⟩
end Go.Proofs.Ytaofpijcjohnhaa
