/- SemSame's walk. -/
import Derived.Test.YtpkaeanagdhmiaaQd
import Derived.Test.YtpkaeanagdhmiaaArgs
namespace Go.Proofs.Ytpkaeanagdhmiaa
open Go.RowKit Go.Shelf Go.Lib Go.Sort Go.Maps
attribute [local go_sem] Oper.semAt_some

set_option maxRecDepth 100000 in
set_option maxHeartbeats 8000000 in
theorem same_walk (w : World) (a b : Int) (V U : Value) (N M : Nat) (S T : Nat → Sp) (hV : Sc w V N S) (hU : Sc w U M T) :
    Calls Try.prog 5 #[.agg #[.int .i64 a, .int .i64 b], V, U] w fun e w' => e = .returned (.bool true) ∧ Kp w w' [] := by
  obtain ⟨so, sc, rfl⟩ := hV.shape
  obtain ⟨to, tc, rfl⟩ := hU.shape
  have HV := hid hV
  have HU := hid hU
  clear hV hU
  have hc0 : (w.alloc (.cells #[.int .i64 a, .int .i64 b] 55)).cell? ⟨w.heap.size, 0, none⟩ = some (.int .i64 a) := by simp
  have hc1 : (w.alloc (.cells #[.int .i64 a, .int .i64 b] 55)).cell? ⟨w.heap.size, 1, none⟩ = some (.int .i64 b) := by simp
  have K1 := hid (Kp.alloc w (.cells #[.int .i64 a, .int .i64 b] 55) [])
  have CC := hid (fun (z : World) (hk : Kp (w.alloc (.cells #[.int .i64 a, .int .i64 b] 55)) z []) => And.intro (hk.cell hc0 (by simp)) (hk.cell hc1 (by simp)))
  clear hc0 hc1
  go_enter Try.func5, Try.ntmps5
  go_wp2_with fail
  refine (mk_s _ a).mono ?_
  rintro e w2 ⟨x, E1, rfl, hx⟩
  have X := hid hx
  have k2 := hid hx.kp
  obtain ⟨d0, d1⟩ := CC.out w2 k2.out
  clear hx
  go_wp2_with fail
  refine (mk_s _ b).mono ?_
  rintro e w3 ⟨y, E2, rfl, hy⟩
  have Y := hid hy
  have k3 := hid (k2.out.trans hy.kp)
  clear hy d0 d1
  obtain ⟨d0, d1⟩ := CC.out w3 k3.out
  go_wp2_with fail
  go_region_held_law (fun w1 => w1.cell? ⟨w.heap.size, 0, none⟩ = some (.int .i64 a) ∧ w1.cell? ⟨w.heap.size, 1, none⟩ = some (.int .i64 b))
    (first
      | exact CC.out _ (k3.out.trans (Kp.drew _ _))
      | exact CC.out _ ((k3.out.trans (Kp.drew _ _)).trans hP.kp)
      | exact CC.out _ (((k3.out.trans (Kp.drew _ _)).trans hP.kp).trans hQ.kp))
    (first
      | (go_at_call 9; have _hh := hP; refine (mk_rs _ b).mono ?_; rintro e w6 ⟨q, rfl, hQ⟩)
      | (go_at_call 9; refine (mk_rs _ a).mono ?_; rintro e w5 ⟨p, rfl, hP⟩)
      | fail)
  have PQ := hid (And.intro hP hQ)
  have k6 := hid (((k3.out.trans (Kp.drew _ _)).trans hP.kp).trans hQ.kp)
  clear hP hQ d0 d1
  obtain ⟨d0, d1⟩ := CC.out w6 k6.out
  go_wp2_with fail
  refine (mk_b _ a).mono ?_
  rintro e w8 ⟨u, E3, rfl, hu⟩
  have UU := hid hu
  have k8 := hid (k6.out.trans hu.kp)
  clear hu d0 d1
  obtain ⟨d0, d1⟩ := CC.out w8 k8.out
  go_wp2_with fail
  refine (mk_b _ b).mono ?_
  rintro e w9 ⟨v, E4, rfl, hv⟩
  have VV := hid hv
  have k9 := hid (k8.out.trans hv.kp)
  clear hv d0 d1
  obtain ⟨d0, d1⟩ := CC.out w9 k9.out
  go_wp2_with fail
  go_region_held_law (fun w1 => w1.cell? ⟨w.heap.size, 0, none⟩ = some (.int .i64 a) ∧ w1.cell? ⟨w.heap.size, 1, none⟩ = some (.int .i64 b))
    (first
      | exact CC.out _ (k9.out.trans (Kp.drew _ _))
      | exact CC.out _ ((k9.out.trans (Kp.drew _ _)).trans hP.kp)
      | exact CC.out _ (((k9.out.trans (Kp.drew _ _)).trans hP.kp).trans hQ.kp))
    (first
      | (go_at_call 19; have _hh := hP; refine (mk_rb _ b).mono ?_; rintro e w12 ⟨d, rfl, hQ⟩)
      | (go_at_call 19; refine (mk_rb _ a).mono ?_; rintro e w11 ⟨c, rfl, hP⟩)
      | fail)
  have D0 := hid (qd_new K1.out X.out Y.out (Kp.drew _ _) PQ.out.1 PQ.out.2 (Kp.refl _ _) UU.out VV.out (Kp.drew _ _) hP hQ)
  clear hP hQ d0 d1 X Y PQ UU VV k2 k3 k6 k8 k9 CC K1
  go_wp2_with fail
  go_loopw [7, 11, 13, 17, 19, 20, 21] (fun vx vp vu vc vok vis vi W => ∃ (i : Nat) (x p u c : Option Addr), i ≤ 60 ∧ vi = .int .i64 i ∧ vx = .pointer x ∧ vp = .pointer p ∧ vu = .pointer u ∧ vc = .pointer c ∧ vok = .bool true ∧ vis = .bool true ∧ Hid (Qd w W (sOb x p) (bOb u c) (sOb y q) (bOb v d))) (fun _ _ _ _ _ _ vi _ => 60 - (intOf vi).toNat)
  case atStart => exact ⟨0, _, _, _, _, by omega, rfl, rfl, rfl, rfl, rfl, rfl, rfl, D0.out⟩
  case round =>
    obtain ⟨i, x, p, u, c, hi, rfl, rfl, rfl, rfl, rfl, rfl, rfl, hT⟩ := hrel
    clear D0
    by_cases hin : i < N ∧ i < 60
    · have h1 : (i : Int) < N := by omega
      have h2 : (i : Int) < 60 := by omega
      have hiN := hin.1
      clear hin
      cases p with
      | none =>
        cases c with
        | none =>
          have T2 := hid hT.out
          clear hT
          go_wp2
          go_roundw
          case rel => exact ⟨i + 1, _, _, _, _, by omega, by simp, rfl, rfl, rfl, rfl, rfl, rfl, T2.out⟩
          case measure => simp [intOf]; omega
        | some C =>
          obtain ⟨sb, off, rfl, y0, y1, y2⟩ := (HV.out.keep hT.out.kp).at hiN
          obtain ⟨X, P, rfl, rfl, hC⟩ := hT.out.rot.bstep rfl (S i).k (S i).t (S i).p
          have HC := hid hC
          clear hC hT
          go_wp2_with fail
          refine HC.out.mono ?_
          rintro e W3 ⟨x', rfl, hT2⟩
          have T2 := hid hT2.rot.rot.rot
          clear hT2 HC y0 y1 y2
          go_wp2
          go_roundw
          case rel => exact ⟨i + 1, _, _, _, _, by omega, by simp, rfl, rfl, rfl, rfl, rfl, rfl, T2.out⟩
          case measure => simp [intOf]; omega
      | some C =>
        cases c with
        | none =>
          obtain ⟨sb, off, rfl, y0, y1, y2⟩ := (HV.out.keep hT.out.kp).at hiN
          obtain ⟨X, P, rfl, rfl, hC⟩ := hT.out.sstep rfl (S i).k (S i).t (S i).p
          have HC := hid hC
          clear hC hT
          go_wp2_with fail
          refine HC.out.mono ?_
          rintro e W3 ⟨x', rfl, hT2⟩
          have T2 := hid hT2
          clear hT2 HC y0 y1 y2
          go_wp2
          go_roundw
          case rel => exact ⟨i + 1, _, _, _, _, by omega, by simp, rfl, rfl, rfl, rfl, rfl, rfl, T2.out⟩
          case measure => simp [intOf]; omega
        | some D =>
          obtain ⟨sb, off, rfl, y0, y1, y2⟩ := (HV.out.keep hT.out.kp).at hiN
          obtain ⟨X, P, rfl, rfl, hC⟩ := hT.out.sstep rfl (S i).k (S i).t (S i).p
          have HC := hid hC
          clear hC hT
          go_wp2_with fail
          refine HC.out.mono ?_
          rintro e W3 ⟨x', rfl, hT2⟩
          have T2 := hid hT2
          clear hT2 HC y0 y1 y2
          obtain ⟨Y, P, rfl, rfl, hC⟩ := T2.out.rot.bstep rfl (S i).k (S i).t (S i).p
          have HC := hid hC
          obtain ⟨sb2, off2, hso, y0, y1, y2⟩ := (HV.out.keep T2.out.kp).at hiN
          simp only [Option.some.injEq, Addr.mk.injEq, and_true] at hso
          obtain ⟨rfl, rfl⟩ := hso
          clear hC T2
          go_wp2_with fail
          refine HC.out.mono ?_
          rintro e W4 ⟨u', rfl, hT2⟩
          have T2 := hid hT2.rot.rot.rot
          clear hT2 HC y0 y1 y2
          go_wp2
          go_roundw
          case rel => exact ⟨i + 1, _, _, _, _, by omega, by simp, rfl, rfl, rfl, rfl, rfl, rfl, T2.out⟩
          case measure => simp [intOf]; omega
    · have hx : ¬ (i : Int) < N ∨ ((i : Int) < N ∧ ¬ (i : Int) < 60) := by omega
      clear hin
      have D0 := hid hT.out.rot.rot
      clear hT
      rcases hx with h1 | ⟨h1, h2⟩
      all_goals go_wp2_with fail
      all_goals
      go_loopw [9, 12, 15, 18, 19, 20, 22] (fun vx vp vu vc vok vis vi W => ∃ (i : Nat) (y q v d : Option Addr), i ≤ 60 ∧ vi = .int .i64 i ∧ vx = .pointer y ∧ vp = .pointer q ∧ vu = .pointer v ∧ vc = .pointer d ∧ vok = .bool true ∧ vis = .bool true ∧ Hid (Qd w W (sOb y q) (bOb v d) (sOb x p) (bOb u c))) (fun _ _ _ _ _ _ vi _ => 60 - (intOf vi).toNat)
      case atStart => exact ⟨0, _, _, _, _, by omega, rfl, rfl, rfl, rfl, rfl, rfl, rfl, D0.out⟩
      case round =>
        obtain ⟨i, y, q, v, d, hi, rfl, rfl, rfl, rfl, rfl, rfl, rfl, hT⟩ := hrel
        clear D0
        by_cases hin : i < M ∧ i < 60
        · have h1 : (i : Int) < M := by omega
          have h2 : (i : Int) < 60 := by omega
          have hiN := hin.1
          clear hin
          cases q with
          | none =>
            cases d with
            | none =>
              have T2 := hid hT.out
              clear hT
              go_wp2
              go_roundw
              case rel => exact ⟨i + 1, _, _, _, _, by omega, by simp, rfl, rfl, rfl, rfl, rfl, rfl, T2.out⟩
              case measure => simp [intOf]; omega
            | some C =>
              obtain ⟨sb, off, rfl, y0, y1, y2⟩ := (HU.out.keep hT.out.kp).at hiN
              obtain ⟨X, P, rfl, rfl, hC⟩ := hT.out.rot.bstep rfl (T i).k (T i).t (T i).p
              have HC := hid hC
              clear hC hT
              go_wp2_with fail
              refine HC.out.mono ?_
              rintro e W3 ⟨x', rfl, hT2⟩
              have T2 := hid hT2.rot.rot.rot
              clear hT2 HC y0 y1 y2
              go_wp2
              go_roundw
              case rel => exact ⟨i + 1, _, _, _, _, by omega, by simp, rfl, rfl, rfl, rfl, rfl, rfl, T2.out⟩
              case measure => simp [intOf]; omega
          | some C =>
            cases d with
            | none =>
              obtain ⟨sb, off, rfl, y0, y1, y2⟩ := (HU.out.keep hT.out.kp).at hiN
              obtain ⟨X, P, rfl, rfl, hC⟩ := hT.out.sstep rfl (T i).k (T i).t (T i).p
              have HC := hid hC
              clear hC hT
              go_wp2_with fail
              refine HC.out.mono ?_
              rintro e W3 ⟨x', rfl, hT2⟩
              have T2 := hid hT2
              clear hT2 HC y0 y1 y2
              go_wp2
              go_roundw
              case rel => exact ⟨i + 1, _, _, _, _, by omega, by simp, rfl, rfl, rfl, rfl, rfl, rfl, T2.out⟩
              case measure => simp [intOf]; omega
            | some D =>
              obtain ⟨sb, off, rfl, y0, y1, y2⟩ := (HU.out.keep hT.out.kp).at hiN
              obtain ⟨X, P, rfl, rfl, hC⟩ := hT.out.sstep rfl (T i).k (T i).t (T i).p
              have HC := hid hC
              clear hC hT
              go_wp2_with fail
              refine HC.out.mono ?_
              rintro e W3 ⟨x', rfl, hT2⟩
              have T2 := hid hT2
              clear hT2 HC y0 y1 y2
              obtain ⟨Y, P, rfl, rfl, hC⟩ := T2.out.rot.bstep rfl (T i).k (T i).t (T i).p
              have HC := hid hC
              obtain ⟨sb2, off2, hso, y0, y1, y2⟩ := (HU.out.keep T2.out.kp).at hiN
              simp only [Option.some.injEq, Addr.mk.injEq, and_true] at hso
              obtain ⟨rfl, rfl⟩ := hso
              clear hC T2
              go_wp2_with fail
              refine HC.out.mono ?_
              rintro e W4 ⟨u', rfl, hT2⟩
              have T2 := hid hT2.rot.rot.rot
              clear hT2 HC y0 y1 y2
              go_wp2
              go_roundw
              case rel => exact ⟨i + 1, _, _, _, _, by omega, by simp, rfl, rfl, rfl, rfl, rfl, rfl, T2.out⟩
              case measure => simp [intOf]; omega
        · have hx : ¬ (i : Int) < M ∨ ((i : Int) < M ∧ ¬ (i : Int) < 60) := by omega
          clear hin
          have D0 := hid hT.out.rot.rot
          clear hT
          rcases hx with h1 | ⟨h1, h2⟩
          all_goals go_wp2_with fail
          all_goals
          obtain ⟨B1, s1, s2⟩ := D0.out.ssame
          have H1 := hid s1
          have H2 := hid s2
          clear s1 s2
          refine H1.out.mono ?_
          rintro e W4 ⟨rfl, k4⟩
          have cr4 := hid (H2.out W4 k4)
          have D4 := hid (D0.out.same k4)
          clear k4 H1 H2 D0
          go_wp2_with fail
          refine cr4.out.mono ?_
          rintro e W5 ⟨rfl, k5⟩
          have D5 := hid (D4.out.same k5)
          clear k5 cr4 D4
          have hb1 := fun w => run_equal_bool (P := Try.prog) w 4 B1 B1 Try.underlying4
          obtain ⟨B2, s1, s2⟩ := D5.out.rot.bsame
          have H1 := hid s1
          have H2 := hid s2
          clear s1 s2
          go_wp2_with fail
          refine H1.out.mono ?_
          rintro e W6 ⟨rfl, k6⟩
          have cr6 := hid (H2.out W6 k6)
          have D6 := hid (D5.out.same k6)
          clear k6 H1 H2 D5
          go_wp2_with fail
          refine cr6.out.mono ?_
          rintro e W7 ⟨rfl, k7⟩
          have D7 := hid (D6.out.same k7)
          clear k7 cr6 D6
          have hb2 := fun w => run_equal_bool (P := Try.prog) w 4 B2 B2 Try.underlying4
          go_wp2_with fail
          refine D7.out.self.mono ?_
          rintro e W8 ⟨rfl, k8⟩
          have K8 := hid (D7.out.kp.trans k8)
          clear k8 D7
          go_wp2_with fail
          refine (known_any _).mono ?_
          rintro e W9 ⟨rfl, k9⟩
          have K9 := hid (K8.out.trans k9)
          clear k9 K8
          go_wp2
          go_ret
          exact ⟨rfl, K9.out⟩
end Go.Proofs.Ytpkaeanagdhmiaa
