/- CondWakes' walk. -/
import Derived.Test.YtpkjnjhbgjgfaaaWk
namespace Go.Proofs.Ytpkjnjhbgjgfaaa
open Go.RowKit Go.Shelf Go.Lib Go.Sort Go.Maps
attribute [local go_sem] Oper.semAt_some

set_option maxRecDepth 100000 in
set_option maxHeartbeats 3000000 in
theorem wakes_walk (w : World) (V : Value) (N : Nat) (S : Nat → Sp) (hV : Sc w V N S) : Calls Try.prog 5 #[V] w fun e w' => e = .returned (.bool true) ∧ Kp w w' [] := by
  obtain ⟨so, sc, rfl⟩ := hV.shape
  have HV := hid hV
  clear hV
  go_enter Try.func5, Try.ntmps5
  go_wp2_with fail
  refine (known_any w).mono ?_
  rintro e w1 ⟨rfl, hk1⟩
  have K1 := hid hk1
  clear hk1
  go_wp2_with fail
  refine (cnew w1).mono ?_
  rintro e w2 ⟨cb, R1, rfl, hx, hx1, hx2⟩
  have D0 := hid (show ∃ m L, Cc w w2 cb m L [] from ⟨0, [], R1, hx, fun k hk => Nat.le_trans K1.out.size (hx1 k hk), by simp, K1.out.trans hx2⟩)
  clear hx hx1 hx2 K1
  go_wp2
  go_loopw [4] (fun v wr => ∃ i : Nat, i ≤ 200 ∧ v = .int .i64 i ∧ Hid (∃ m L, Cc w wr cb m L [])) (fun v _ => 200 - (intOf v).toNat)
  case atStart => exact ⟨0, by omega, rfl, D0⟩
  case round =>
    obtain ⟨i, hi, rfl, hA⟩ := hrel
    clear D0
    by_cases hin : i < N ∧ i < 200
    · have h1 : (i : Int) < N := by omega
      have h2 : (i : Int) < 200 := by omega
      obtain ⟨m, L, hC⟩ := hA.out
      obtain ⟨sb, off, rfl, y0, y1, y2, y3⟩ := (HV.out.keep hC.kp).at hin.1
      have HLI := hid hin
      clear hin
      generalize (S i).k = k at y0
      generalize (S i).t = t at y1
      generalize (S i).p = p at y2
      generalize (S i).m = u at y3
      have X0 := hid (hC.cx #[.int .i64 k, .int .i64 t, .int .i64 p, .int .i64 u])
      obtain ⟨W0, hW0⟩ : ∃ W0, wr.alloc (.cells #[.int .i64 k, .int .i64 t, .int .i64 p, .int .i64 u] 30) = W0 := ⟨_, rfl⟩
      obtain ⟨xb, hxb⟩ : ∃ xb, wr.heap.size = xb := ⟨_, rfl⟩
      rw [hW0, hxb] at X0
      have HWX := hid (And.intro hW0 hxb)
      clear hC hA hW0 hxb
      go_wp2_with fail
      rw [HWX.out.1, HWX.out.2]
      refine (X0.out.list).mono ?_
      rintro e z0 ⟨x, rfl, hx, hk0⟩
      have hns : Ns z0 w.heap.size x ((ordL L).map (·.1)) := hx.ns (List.mem_cons_self ..)
      obtain ⟨lo, lc, hxe⟩ := hns.slice
      obtain ⟨nl, hnl⟩ : ∃ nl, ((ordL L).map (·.1)).length = nl := ⟨_, rfl⟩
      rw [hnl] at hxe
      subst hxe
      have HNL0 := hid hnl
      clear hnl
      have X1 := hid hx
      clear hx hk0 y0 y1 y2 y3 X0 HWX hns
      go_wp2_with fail
      refine (X1.out.mutex).mono ?_
      rintro e z1 ⟨rfl, hk0⟩
      have X2 := hid (X1.out.same hk0)
      have HOK := hid X2.out.ok
      clear hk0 X1
      obtain ⟨d0, d1, d2, d3⟩ := X2.out.cells
      have HNL := hid (show nl = L.length ∧ nl ≤ 16 from by rw [← HNL0.out, List.length_map, ord_len HOK.out]; exact ⟨rfl, HOK.out.len⟩)
      clear HNL0
      obtain ⟨b0, hb0⟩ : ∃ b0, muB L = b0 := ⟨_, rfl⟩
      obtain ⟨mu0, hmu0⟩ : ∃ mu0, muT m L = mu0 := ⟨_, rfl⟩
      have HB0 := hid hb0
      have HMU := hid hmu0
      rw [hb0, hmu0]
      clear hb0 hmu0
      by_cases k1 : k = 1
      · have kt : (k == 1) = true := by simp [k1]
        clear k1
        as_aux_lemma =>
          go_wp2_with fail
          refine (X2.out.wait t p u).mono ?_
          rintro e z2 ⟨rfl, hx⟩
          have X3 := hid hx
          clear hx
          by_cases hE : cwE m L t p u = 0
          · rw [hE]
            obtain ⟨e1, e2⟩ := cw_yes hE
            obtain ⟨-, e3, -, -, -, e4⟩ := cw_put hE
            rw [e2, e1, e3] at X3
            have hlen : (L ++ [(t, p)]).length = nl + 1 := by rw [List.length_append, HNL.out.1]; rfl
            have HL := hid X3.out.len
            rw [hlen] at HL
            obtain ⟨-, -, -, d3⟩ := X3.out.cells
            have hwr : IntKind.i64.wrap ((nl : Int) + 1) = (nl : Int) + 1 := IntWalk.i64_in _ ⟨by omega, by have := HNL.out.2; omega⟩
            have hne : (((nl + 1 : Nat) : Int) != (nl : Int) + 1) = false := by simp
            have hb : b0 = true → u = mu0 := fun h => by
              rw [← HB0.out] at h
              rw [← HMU.out]
              cases L with
              | nil => cases h
              | cons y Z => rcases e4 with e4 | e4
                            · cases e4
                            · exact e4.symm
            have HBU := hid hb
            clear hE e1 e2 e3 e4 hlen hb
            go_wp2_with (go_at_call 17; refine (num_any _ _).mono ?_; rintro e wx ⟨rfl, hw⟩; obtain rfl := hw.symm)
            refine HL.out.mono ?_
            rintro e z3 ⟨rfl, hk3⟩
            have XE := hid (X3.out.same hk3)
            obtain ⟨-, -, -, d3⟩ := XE.out.cells
            clear hk3 HL X3
            cases b0 with
            | false =>
              go_wp2_with (go_at_call 17; refine (num_any _ _).mono ?_; rintro e wx ⟨rfl, hw⟩; obtain rfl := hw.symm)
              clear d3
              obtain ⟨M2, hM2⟩ : ∃ M2, u = M2 := ⟨_, rfl⟩
              obtain ⟨L2, hL2⟩ : ∃ L2, (L ++ [(t, p)]) = L2 := ⟨_, rfl⟩
              have HE := hid (show false = true → muB L2 = true → muT M2 L2 = mu0 from by rw [← hM2, ← hL2]; intro h; exact absurd h (by simp))
              rw [hM2, hL2] at XE
              clear hM2 hL2
              have HL2 := hid (fun (zz : World) (hk : Kp _ zz []) => (XE.out.same hk).len)
              have HB1 := hid (mu_len L2)
              go_wp2_with fail
              refine (XE.out.mutex).mono ?_
              rintro e z8 ⟨rfl, hk8⟩
              have X8 := hid (XE.out.same hk8)
              have L8 := hid (HL2.out z8 hk8)
              have FIN := hid (fun (zz : World) (hk : Kp z8 zz []) => (show ∃ m L, Cc w zz cb m L [] from ⟨_, _, (X8.out.same hk).drop⟩))
              clear hk8 XE X8 HL2
              generalize L2.length = n2 at L8 HB1
              generalize muB L2 = b1 at HB1 HE
              generalize muT M2 L2 = mu1 at HE
              go_wp2_with fail
              refine L8.out.mono ?_
              rintro e z9 ⟨rfl, hk9⟩
              have F9 := hid (FIN.out z9 hk9)
              clear hk9 FIN L8
              by_cases hn2 : 0 < n2
              · have hn2I : (0 : Int) < n2 := by omega
                have hb1 : b1 = true := by rw [HB1.out]; exact decide_eq_true hn2
                subst hb1
                go_wp2
                go_roundw
                case rel => exact ⟨i + 1, by have := HLI.out; omega, by simp, F9⟩
                case measure => simp [intOf]; have := HLI.out; omega
              · have hn0 : n2 = 0 := by omega
                subst hn0
                have hb1 : b1 = false := by rw [HB1.out]; rfl
                subst hb1
                go_wp2
                go_roundw
                case rel => exact ⟨i + 1, by have := HLI.out; omega, by simp, F9⟩
                case measure => simp [intOf]; have := HLI.out; omega
            | true =>
              have hu := HBU.out rfl
              subst hu
              have huf : (u != u) = false := by simp
              go_wp2_with (go_at_call 17; refine (num_any _ _).mono ?_; rintro e wx ⟨rfl, hw⟩; obtain rfl := hw.symm)
              clear d3
              obtain ⟨M2, hM2⟩ : ∃ M2, u = M2 := ⟨_, rfl⟩
              obtain ⟨L2, hL2⟩ : ∃ L2, (L ++ [(t, p)]) = L2 := ⟨_, rfl⟩
              have HE := hid (show true = true → muB L2 = true → muT M2 L2 = u from by rw [← hM2, ← hL2]; rintro - -; cases L <;> rfl)
              rw [hM2, hL2] at XE
              clear hM2 hL2
              have HL2 := hid (fun (zz : World) (hk : Kp _ zz []) => (XE.out.same hk).len)
              have HB1 := hid (mu_len L2)
              go_wp2_with fail
              refine (XE.out.mutex).mono ?_
              rintro e z8 ⟨rfl, hk8⟩
              have X8 := hid (XE.out.same hk8)
              have L8 := hid (HL2.out z8 hk8)
              have FIN := hid (fun (zz : World) (hk : Kp z8 zz []) => (show ∃ m L, Cc w zz cb m L [] from ⟨_, _, (X8.out.same hk).drop⟩))
              clear hk8 XE X8 HL2
              generalize L2.length = n2 at L8 HB1
              generalize muB L2 = b1 at HB1 HE
              generalize muT M2 L2 = mu1 at HE
              go_wp2_with fail
              refine L8.out.mono ?_
              rintro e z9 ⟨rfl, hk9⟩
              have F9 := hid (FIN.out z9 hk9)
              clear hk9 FIN L8
              by_cases hn2 : 0 < n2
              · have hn2I : (0 : Int) < n2 := by omega
                have hb1 : b1 = true := by rw [HB1.out]; exact decide_eq_true hn2
                subst hb1
                have hmm := HE.out (by trivial) (by trivial)
                subst hmm
                go_wp2
                go_roundw
                case rel => exact ⟨i + 1, by have := HLI.out; omega, by simp, F9⟩
                case measure => simp [intOf]; have := HLI.out; omega
              · have hn0 : n2 = 0 := by omega
                subst hn0
                have hb1 : b1 = false := by rw [HB1.out]; rfl
                subst hb1
                go_wp2
                go_roundw
                case rel => exact ⟨i + 1, by have := HLI.out; omega, by simp, F9⟩
                case measure => simp [intOf]; have := HLI.out; omega
          · obtain ⟨e1, e2⟩ := cw_no hE
            rw [e1, e2] at X3
            have hE0 : (cwE m L t p u == 0) = false := by simp [hE]
            have hE1 : (cwE m L t p u != 0) = true := by simp [hE]
            have HL := hid X3.out.list
            generalize cwE m L t p u = E at hE0 hE1 ⊢
            clear hE e1 e2
            go_wp2_with (go_at_call 17; refine (num_any _ _).mono ?_; rintro e wx ⟨rfl, hw⟩; obtain rfl := hw.symm)
            refine HL.out.mono ?_
            rintro e z3 ⟨y, rfl, hx3, hk3⟩
            have N1 := hid (show Ns z3 w.heap.size y ((ordL L).map (·.1)) from hx3.ns (List.mem_cons_self ..))
            have N2 := hid (show Ns z3 w.heap.size (.slice lo nl lc) ((ordL L).map (·.1)) from hx3.ns (List.mem_cons_of_mem _ (List.mem_cons_self ..)))
            have X4 := hid (X3.out.same hk3)
            clear hx3 hk3 HL X3
            go_wp2_with fail
            refine (ints_yes z3 _ _ y _ _ N1.out N2.out (by rw [List.length_map, ord_len HOK.out]; have := HOK.out.len; omega)).mono ?_
            rintro e z4 ⟨rfl, hk4⟩
            have XE := hid (X4.out.same hk4)
            clear hk4 X4 N1 N2
            go_wp2_with fail
            obtain ⟨M2, hM2⟩ : ∃ M2, m = M2 := ⟨_, rfl⟩
            obtain ⟨L2, hL2⟩ : ∃ L2, L = L2 := ⟨_, rfl⟩
            have HE := hid (show b0 = true → muB L2 = true → muT M2 L2 = mu0 from by rw [← hM2, ← hL2, ← HB0.out, ← HMU.out]; exact fun h h1 => mu_eq m h h1)
            rw [hM2, hL2] at XE
            clear hM2 hL2
            have HL2 := hid (fun (zz : World) (hk : Kp _ zz []) => (XE.out.same hk).len)
            have HB1 := hid (mu_len L2)
            go_wp2_with fail
            refine (XE.out.mutex).mono ?_
            rintro e z8 ⟨rfl, hk8⟩
            have X8 := hid (XE.out.same hk8)
            have L8 := hid (HL2.out z8 hk8)
            have FIN := hid (fun (zz : World) (hk : Kp z8 zz []) => (show ∃ m L, Cc w zz cb m L [] from ⟨_, _, (X8.out.same hk).drop⟩))
            clear hk8 XE X8 HL2
            generalize L2.length = n2 at L8 HB1
            generalize muB L2 = b1 at HB1 HE
            generalize muT M2 L2 = mu1 at HE
            go_wp2_with fail
            refine L8.out.mono ?_
            rintro e z9 ⟨rfl, hk9⟩
            have F9 := hid (FIN.out z9 hk9)
            clear hk9 FIN L8
            by_cases hn2 : 0 < n2
            · have hn2I : (0 : Int) < n2 := by omega
              have hb1 : b1 = true := by rw [HB1.out]; exact decide_eq_true hn2
              subst hb1
              cases b0 with
              | false =>
                go_wp2
                go_roundw
                case rel => exact ⟨i + 1, by have := HLI.out; omega, by simp, F9⟩
                case measure => simp [intOf]; have := HLI.out; omega
              | true =>
                have hmm := HE.out rfl rfl
                subst hmm
                have hmf : (mu1 != mu1) = false := by simp
                go_wp2
                go_roundw
                case rel => exact ⟨i + 1, by have := HLI.out; omega, by simp, F9⟩
                case measure => simp [intOf]; have := HLI.out; omega
            · have hn0 : n2 = 0 := by omega
              subst hn0
              have hb1 : b1 = false := by rw [HB1.out]; rfl
              subst hb1
              cases b0
              all_goals
                go_wp2
                go_roundw
                case rel => exact ⟨i + 1, by have := HLI.out; omega, by simp, F9⟩
                case measure => simp [intOf]; have := HLI.out; omega
      by_cases k2 : k = 2
      · have kt : (k == 2) = true := by simp [k2]
        have kf1 : (k == 1) = false := by simp [k1]
        clear k1 k2
        as_aux_lemma =>
          go_wp2_with fail
          refine (X2.out.signal).mono ?_
          rintro e z2 ⟨rfl, hx⟩
          have X3 := hid hx
          clear hx
          cases hB : fstB L
          · have hL := fst_no HOK.out hB
            subst hL
            have hn0 := HNL.out.1
            rw [List.length_nil] at hn0
            subst hn0
            rw [fst_nil.1]
            rw [take_nil] at X3
            clear hB
            have dz : decide ((0 : Int) < ((0 : Nat) : Int)) = false := by decide
            go_wp2_with fail
            go_quiet (fail)
            have XE := hid (X3.out.same (Kp.drewN _ nq _))
            clear X3 dz
            obtain ⟨M2, hM2⟩ : ∃ M2, m = M2 := ⟨_, rfl⟩
            obtain ⟨L2, hL2⟩ : ∃ L2, ([] : List Dl) = L2 := ⟨_, rfl⟩
            have HE := hid (show b0 = true → muB L2 = true → muT M2 L2 = mu0 from by rw [← hM2, ← hL2, ← HB0.out, ← HMU.out]; exact fun h h1 => absurd h1 (by simp [muB]))
            rw [hM2, hL2] at XE
            clear hM2 hL2
            have HL2 := hid (fun (zz : World) (hk : Kp _ zz []) => (XE.out.same hk).len)
            have HB1 := hid (mu_len L2)
            go_wp2_with fail
            refine (XE.out.mutex).mono ?_
            rintro e z8 ⟨rfl, hk8⟩
            have X8 := hid (XE.out.same hk8)
            have L8 := hid (HL2.out z8 hk8)
            have FIN := hid (fun (zz : World) (hk : Kp z8 zz []) => (show ∃ m L, Cc w zz cb m L [] from ⟨_, _, (X8.out.same hk).drop⟩))
            clear hk8 XE X8 HL2
            generalize L2.length = n2 at L8 HB1
            generalize muB L2 = b1 at HB1 HE
            generalize muT M2 L2 = mu1 at HE
            go_wp2_with fail
            refine L8.out.mono ?_
            rintro e z9 ⟨rfl, hk9⟩
            have F9 := hid (FIN.out z9 hk9)
            clear hk9 FIN L8
            by_cases hn2 : 0 < n2
            · have hn2I : (0 : Int) < n2 := by omega
              have hb1 : b1 = true := by rw [HB1.out]; exact decide_eq_true hn2
              subst hb1
              cases b0 with
              | false =>
                go_wp2
                go_roundw
                case rel => exact ⟨i + 1, by have := HLI.out; omega, by simp, F9⟩
                case measure => simp [intOf]; have := HLI.out; omega
              | true =>
                have hmm := HE.out rfl rfl
                subst hmm
                have hmf : (mu1 != mu1) = false := by simp
                go_wp2
                go_roundw
                case rel => exact ⟨i + 1, by have := HLI.out; omega, by simp, F9⟩
                case measure => simp [intOf]; have := HLI.out; omega
            · have hn0 : n2 = 0 := by omega
              subst hn0
              have hb1 : b1 = false := by rw [HB1.out]; rfl
              subst hb1
              cases b0
              all_goals
                go_wp2
                go_roundw
                case rel => exact ⟨i + 1, by have := HLI.out; omega, by simp, F9⟩
                case measure => simp [intOf]; have := HLI.out; omega
          · have hN : 0 < nl := by
              have := HNL.out.1
              cases L with
              | nil => rw [fst_nil.2] at hB; cases hB
              | cons y Z => simp at this; omega
            have hNI : (0 : Int) < nl := by omega
            have hNd : decide ((0 : Int) < (nl : Int)) = true := decide_eq_true hNI
            obtain ⟨ft, hft⟩ : ∃ ft, fstT L = ft := ⟨_, rfl⟩
            have hOL : (ordL L).map (·.1) = ft :: (ordL (takeL L)).map (·.1) := by
              rw [ord_tail HOK.out, ← hft]
              unfold fstT fstB at *
              cases hz : ordL L with
              | nil => rw [hz] at hB; cases hB
              | cons y Z => rfl
            have hns := X3.out.ns (x := (.slice lo nl lc, (ordL L).map (·.1))) (List.mem_cons_self ..)
            rw [hOL] at hns
            rw [hft]
            have HLI2 := hid (fun (z : World) (hk : Kp z2 z []) => (X3.out.same hk).list)
            have hlt : ((ordL (takeL L)).map (·.1)).length + 1 = nl := by
              have := congrArg List.length hOL
              rw [List.length_map, ord_len HOK.out, List.length_cons] at this
              rw [HNL.out.1, this]
            obtain ⟨OT, hOT⟩ : ∃ OT, (ordL (takeL L)).map (·.1) = OT := ⟨_, rfl⟩
            rw [hOT] at hns hlt HLI2
            clear hOL hOT hB hft
            have hlen : OT.length ≤ 100000 := by have := HNL.out.2; omega
            obtain ⟨g, rfl, cg, -⟩ := hns.at (k := 0) (by simp) (x := ft) (by simp)
            have HNS := hid hns
            have CG := hid (fun (z : World) (hk : Kp z2 z []) => hk.cell cg (by simp))
            obtain ⟨-, -, -, -, hcap, -⟩ := hns.open
            rw [List.length_cons, hlt] at hcap
            have hn1 : (1 : Int) ≤ nl := by omega
            have hcI : (nl : Int) ≤ lc := by omega
            have hn1w : IntKind.i64.wrap ((nl : Int) - 1) = (nl : Int) - 1 := IntWalk.i64_in _ ⟨by omega, by have := HNL.out.2; omega⟩
            have HNV := hid (fun (z : World) (hk : Kp z2 z []) => (show Nv z (.slice (some ⟨g, 1, none⟩) (nl - 1) (lc - 1)) OT from by
              have e1 : nl - 1 = OT.length := by omega
              rw [e1]
              rw [← hlt] at hns
              exact (nv_tail hns 1 _ (fun _ => rfl)).keep hk))
            have HLT := hid hlt
            clear hns hlt
            rcases (show lc = 1 ∨ 1 < lc by omega) with hc1 | hc1
            · subst hc1
              have hOT : OT = [] := List.eq_nil_of_length_eq_zero (by have := HLT.out; omega)
              subst hOT
              go_wp2_with fail
              go_region_held_law (fun w1 => w1.cell? ⟨g, 0, none⟩ = some (.int .i64 ft))
                (first
                  | exact CG.out _ (Kp.drew _ _)
                  | exact CG.out _ ((Kp.drew _ _).trans hK1)
                  | exact CG.out _ (((Kp.drew _ _).trans hK1).trans hK2))
                (first
                  | (go_at_call 14; refine (HLI2.out _ (Kp.drew _ _)).mono ?_; rintro e y1 ⟨y, rfl, hY, hK1⟩)
                  | (go_at_call 19; have hq1 := (show Ns y1 w.heap.size y [] from hY.ns (List.mem_cons_self ..)); have hq2 := ints_view y1 _ y (.slice (some ⟨g, 0, none⟩) 0 0) [] hq1 ⟨_, _, rfl, fun k hk => absurd hk (by simp)⟩ (by simp); refine hq2.mono ?_; rintro e y2 ⟨rfl, hK2⟩)
                  | fail)
              have XE := hid (hY.same hK2)
              clear hY hK1 hK2 X3 HNV HNS HLI2 CG hcap hcI hn1 hn1w
              go_wp2_with fail
              obtain ⟨M2, hM2⟩ : ∃ M2, m = M2 := ⟨_, rfl⟩
              obtain ⟨L2, hL2⟩ : ∃ L2, (takeL L) = L2 := ⟨_, rfl⟩
              have HE := hid (show b0 = true → muB L2 = true → muT M2 L2 = mu0 from by rw [← hM2, ← hL2, ← HB0.out, ← HMU.out]; exact fun h h1 => mu_eq m h h1)
              rw [hM2, hL2] at XE
              clear hM2 hL2
              have HL2 := hid (fun (zz : World) (hk : Kp _ zz []) => (XE.out.same hk).len)
              have HB1 := hid (mu_len L2)
              refine (XE.out.mutex).mono ?_
              rintro e z8 ⟨rfl, hk8⟩
              have X8 := hid (XE.out.same hk8)
              have L8 := hid (HL2.out z8 hk8)
              have FIN := hid (fun (zz : World) (hk : Kp z8 zz []) => (show ∃ m L, Cc w zz cb m L [] from ⟨_, _, (X8.out.same hk).drop⟩))
              clear hk8 XE X8 HL2
              generalize L2.length = n2 at L8 HB1
              generalize muB L2 = b1 at HB1 HE
              generalize muT M2 L2 = mu1 at HE
              go_wp2_with fail
              refine L8.out.mono ?_
              rintro e z9 ⟨rfl, hk9⟩
              have F9 := hid (FIN.out z9 hk9)
              clear hk9 FIN L8
              by_cases hn2 : 0 < n2
              · have hn2I : (0 : Int) < n2 := by omega
                have hb1 : b1 = true := by rw [HB1.out]; exact decide_eq_true hn2
                subst hb1
                cases b0 with
                | false =>
                  go_wp2
                  go_roundw
                  case rel => exact ⟨i + 1, by have := HLI.out; omega, by simp, F9⟩
                  case measure => simp [intOf]; have := HLI.out; omega
                | true =>
                  have hmm := HE.out rfl rfl
                  subst hmm
                  have hmf : (mu1 != mu1) = false := by simp
                  go_wp2
                  go_roundw
                  case rel => exact ⟨i + 1, by have := HLI.out; omega, by simp, F9⟩
                  case measure => simp [intOf]; have := HLI.out; omega
              · have hn0 : n2 = 0 := by omega
                subst hn0
                have hb1 : b1 = false := by rw [HB1.out]; rfl
                subst hb1
                cases b0
                all_goals
                  go_wp2
                  go_roundw
                  case rel => exact ⟨i + 1, by have := HLI.out; omega, by simp, F9⟩
                  case measure => simp [intOf]; have := HLI.out; omega
            · go_wp2_with fail
              go_region_held_law (fun w1 => w1.cell? ⟨g, 0, none⟩ = some (.int .i64 ft))
                (first
                  | exact CG.out _ (Kp.drew _ _)
                  | exact CG.out _ ((Kp.drew _ _).trans hK1)
                  | exact CG.out _ (((Kp.drew _ _).trans hK1).trans hK2))
                (first
                  | (go_at_call 14; refine (HLI2.out _ (Kp.drew _ _)).mono ?_; rintro e y1 ⟨y, rfl, hY, hK1⟩)
                  | (go_at_call 19; have hq1 := (show Ns y1 w.heap.size y OT from hY.ns (List.mem_cons_self ..)); have hq2 := ints_view y1 _ y (.slice (some ⟨g, 1, none⟩) (nl - 1) (lc - 1)) OT hq1 (HNV.out y1 ((Kp.drew _ _).trans hK1)) hlen; refine hq2.mono ?_; rintro e y2 ⟨rfl, hK2⟩)
                  | fail)
              have XE := hid (hY.same hK2)
              clear hY hK1 hK2 X3 HNV HNS HLI2 CG hcap hcI hn1 hn1w
              go_wp2_with fail
              obtain ⟨M2, hM2⟩ : ∃ M2, m = M2 := ⟨_, rfl⟩
              obtain ⟨L2, hL2⟩ : ∃ L2, (takeL L) = L2 := ⟨_, rfl⟩
              have HE := hid (show b0 = true → muB L2 = true → muT M2 L2 = mu0 from by rw [← hM2, ← hL2, ← HB0.out, ← HMU.out]; exact fun h h1 => mu_eq m h h1)
              rw [hM2, hL2] at XE
              clear hM2 hL2
              have HL2 := hid (fun (zz : World) (hk : Kp _ zz []) => (XE.out.same hk).len)
              have HB1 := hid (mu_len L2)
              refine (XE.out.mutex).mono ?_
              rintro e z8 ⟨rfl, hk8⟩
              have X8 := hid (XE.out.same hk8)
              have L8 := hid (HL2.out z8 hk8)
              have FIN := hid (fun (zz : World) (hk : Kp z8 zz []) => (show ∃ m L, Cc w zz cb m L [] from ⟨_, _, (X8.out.same hk).drop⟩))
              clear hk8 XE X8 HL2
              generalize L2.length = n2 at L8 HB1
              generalize muB L2 = b1 at HB1 HE
              generalize muT M2 L2 = mu1 at HE
              go_wp2_with fail
              refine L8.out.mono ?_
              rintro e z9 ⟨rfl, hk9⟩
              have F9 := hid (FIN.out z9 hk9)
              clear hk9 FIN L8
              by_cases hn2 : 0 < n2
              · have hn2I : (0 : Int) < n2 := by omega
                have hb1 : b1 = true := by rw [HB1.out]; exact decide_eq_true hn2
                subst hb1
                cases b0 with
                | false =>
                  go_wp2
                  go_roundw
                  case rel => exact ⟨i + 1, by have := HLI.out; omega, by simp, F9⟩
                  case measure => simp [intOf]; have := HLI.out; omega
                | true =>
                  have hmm := HE.out rfl rfl
                  subst hmm
                  have hmf : (mu1 != mu1) = false := by simp
                  go_wp2
                  go_roundw
                  case rel => exact ⟨i + 1, by have := HLI.out; omega, by simp, F9⟩
                  case measure => simp [intOf]; have := HLI.out; omega
              · have hn0 : n2 = 0 := by omega
                subst hn0
                have hb1 : b1 = false := by rw [HB1.out]; rfl
                subst hb1
                cases b0
                all_goals
                  go_wp2
                  go_roundw
                  case rel => exact ⟨i + 1, by have := HLI.out; omega, by simp, F9⟩
                  case measure => simp [intOf]; have := HLI.out; omega
      by_cases k3 : k = 3
      · have kt : (k == 3) = true := by simp [k3]
        have kf1 : (k == 1) = false := by simp [k1]
        have kf2 : (k == 2) = false := by simp [k2]
        clear k1 k2 k3
        as_aux_lemma =>
          go_wp2_with fail
          refine (X2.out.broad).mono ?_
          rintro e z2 ⟨y, rfl, hx⟩
          have N1 := hid (show Ns z2 w.heap.size y ((ordL L).map (·.1)) from hx.ns (List.mem_cons_self ..))
          have N2 := hid (show Ns z2 w.heap.size (.slice lo nl lc) ((ordL L).map (·.1)) from hx.ns (List.mem_cons_of_mem _ (List.mem_cons_self ..)))
          have X3 := hid hx
          clear hx
          go_wp2_with fail
          refine (ints_yes z2 _ _ y _ _ N1.out N2.out (by rw [List.length_map, ord_len HOK.out]; have := HOK.out.len; omega)).mono ?_
          rintro e z3 ⟨rfl, hk3⟩
          have X4 := hid (X3.out.same hk3)
          have HL := hid X4.out.len
          rw [List.length_nil] at HL
          clear hk3 X3 N1 N2
          go_wp2_with fail
          refine HL.out.mono ?_
          rintro e z4 ⟨rfl, hk4⟩
          have XE := hid (X4.out.same hk4)
          clear hk4 X4 HL
          obtain ⟨M2, hM2⟩ : ∃ M2, m = M2 := ⟨_, rfl⟩
          obtain ⟨L2, hL2⟩ : ∃ L2, ([] : List Dl) = L2 := ⟨_, rfl⟩
          have HE := hid (show b0 = true → muB L2 = true → muT M2 L2 = mu0 from by rw [← hM2, ← hL2, ← HB0.out, ← HMU.out]; exact fun h h1 => absurd h1 (by simp [muB]))
          rw [hM2, hL2] at XE
          clear hM2 hL2
          have HL2 := hid (fun (zz : World) (hk : Kp _ zz []) => (XE.out.same hk).len)
          have HB1 := hid (mu_len L2)
          go_wp2_with fail
          refine (XE.out.mutex).mono ?_
          rintro e z8 ⟨rfl, hk8⟩
          have X8 := hid (XE.out.same hk8)
          have L8 := hid (HL2.out z8 hk8)
          have FIN := hid (fun (zz : World) (hk : Kp z8 zz []) => (show ∃ m L, Cc w zz cb m L [] from ⟨_, _, (X8.out.same hk).drop⟩))
          clear hk8 XE X8 HL2
          generalize L2.length = n2 at L8 HB1
          generalize muB L2 = b1 at HB1 HE
          generalize muT M2 L2 = mu1 at HE
          go_wp2_with fail
          refine L8.out.mono ?_
          rintro e z9 ⟨rfl, hk9⟩
          have F9 := hid (FIN.out z9 hk9)
          clear hk9 FIN L8
          by_cases hn2 : 0 < n2
          · have hn2I : (0 : Int) < n2 := by omega
            have hb1 : b1 = true := by rw [HB1.out]; exact decide_eq_true hn2
            subst hb1
            cases b0 with
            | false =>
              go_wp2
              go_roundw
              case rel => exact ⟨i + 1, by have := HLI.out; omega, by simp, F9⟩
              case measure => simp [intOf]; have := HLI.out; omega
            | true =>
              have hmm := HE.out rfl rfl
              subst hmm
              have hmf : (mu1 != mu1) = false := by simp
              go_wp2
              go_roundw
              case rel => exact ⟨i + 1, by have := HLI.out; omega, by simp, F9⟩
              case measure => simp [intOf]; have := HLI.out; omega
          · have hn0 : n2 = 0 := by omega
            subst hn0
            have hb1 : b1 = false := by rw [HB1.out]; rfl
            subst hb1
            cases b0
            all_goals
              go_wp2
              go_roundw
              case rel => exact ⟨i + 1, by have := HLI.out; omega, by simp, F9⟩
              case measure => simp [intOf]; have := HLI.out; omega
      by_cases k4 : k = 4
      · have kt : (k == 4) = true := by simp [k4]
        have kf1 : (k == 1) = false := by simp [k1]
        have kf2 : (k == 2) = false := by simp [k2]
        have kf3 : (k == 3) = false := by simp [k3]
        clear k1 k2 k3 k4
        as_aux_lemma =>
          go_wp2_with fail
          refine (X2.out.leave t).mono ?_
          rintro e z2 ⟨rfl, hx⟩
          have XE := hid hx
          clear hx
          generalize lvE L t = E
          obtain ⟨M2, hM2⟩ : ∃ M2, m = M2 := ⟨_, rfl⟩
          obtain ⟨L2, hL2⟩ : ∃ L2, (lvL L t) = L2 := ⟨_, rfl⟩
          have HE := hid (show b0 = true → muB L2 = true → muT M2 L2 = mu0 from by rw [← hM2, ← hL2, ← HB0.out, ← HMU.out]; exact fun h h1 => mu_eq m h h1)
          rw [hM2, hL2] at XE
          clear hM2 hL2
          have HL2 := hid (fun (zz : World) (hk : Kp _ zz []) => (XE.out.same hk).len)
          have HB1 := hid (mu_len L2)
          go_wp2_with fail
          refine (XE.out.mutex).mono ?_
          rintro e z8 ⟨rfl, hk8⟩
          have X8 := hid (XE.out.same hk8)
          have L8 := hid (HL2.out z8 hk8)
          have FIN := hid (fun (zz : World) (hk : Kp z8 zz []) => (show ∃ m L, Cc w zz cb m L [] from ⟨_, _, (X8.out.same hk).drop⟩))
          clear hk8 XE X8 HL2
          generalize L2.length = n2 at L8 HB1
          generalize muB L2 = b1 at HB1 HE
          generalize muT M2 L2 = mu1 at HE
          go_wp2_with fail
          refine L8.out.mono ?_
          rintro e z9 ⟨rfl, hk9⟩
          have F9 := hid (FIN.out z9 hk9)
          clear hk9 FIN L8
          by_cases hn2 : 0 < n2
          · have hn2I : (0 : Int) < n2 := by omega
            have hb1 : b1 = true := by rw [HB1.out]; exact decide_eq_true hn2
            subst hb1
            cases b0 with
            | false =>
              go_wp2
              go_roundw
              case rel => exact ⟨i + 1, by have := HLI.out; omega, by simp, F9⟩
              case measure => simp [intOf]; have := HLI.out; omega
            | true =>
              have hmm := HE.out rfl rfl
              subst hmm
              have hmf : (mu1 != mu1) = false := by simp
              go_wp2
              go_roundw
              case rel => exact ⟨i + 1, by have := HLI.out; omega, by simp, F9⟩
              case measure => simp [intOf]; have := HLI.out; omega
          · have hn0 : n2 = 0 := by omega
            subst hn0
            have hb1 : b1 = false := by rw [HB1.out]; rfl
            subst hb1
            cases b0
            all_goals
              go_wp2
              go_roundw
              case rel => exact ⟨i + 1, by have := HLI.out; omega, by simp, F9⟩
              case measure => simp [intOf]; have := HLI.out; omega
      by_cases k5 : k = 5
      · have kt : (k == 5) = true := by simp [k5]
        have kf1 : (k == 1) = false := by simp [k1]
        have kf2 : (k == 2) = false := by simp [k2]
        have kf3 : (k == 3) = false := by simp [k3]
        have kf4 : (k == 4) = false := by simp [k4]
        clear k1 k2 k3 k4 k5
        as_aux_lemma =>
          go_wp2_with fail
          refine (X2.out.change t p).mono ?_
          rintro e z2 ⟨rfl, hx⟩
          have XE := hid hx
          clear hx
          generalize chgE L t p = E
          obtain ⟨M2, hM2⟩ : ∃ M2, m = M2 := ⟨_, rfl⟩
          obtain ⟨L2, hL2⟩ : ∃ L2, (chgL L t p) = L2 := ⟨_, rfl⟩
          have HE := hid (show b0 = true → muB L2 = true → muT M2 L2 = mu0 from by rw [← hM2, ← hL2, ← HB0.out, ← HMU.out]; exact fun h h1 => mu_eq m h h1)
          rw [hM2, hL2] at XE
          clear hM2 hL2
          have HL2 := hid (fun (zz : World) (hk : Kp _ zz []) => (XE.out.same hk).len)
          have HB1 := hid (mu_len L2)
          go_wp2_with fail
          refine (XE.out.mutex).mono ?_
          rintro e z8 ⟨rfl, hk8⟩
          have X8 := hid (XE.out.same hk8)
          have L8 := hid (HL2.out z8 hk8)
          have FIN := hid (fun (zz : World) (hk : Kp z8 zz []) => (show ∃ m L, Cc w zz cb m L [] from ⟨_, _, (X8.out.same hk).drop⟩))
          clear hk8 XE X8 HL2
          generalize L2.length = n2 at L8 HB1
          generalize muB L2 = b1 at HB1 HE
          generalize muT M2 L2 = mu1 at HE
          go_wp2_with fail
          refine L8.out.mono ?_
          rintro e z9 ⟨rfl, hk9⟩
          have F9 := hid (FIN.out z9 hk9)
          clear hk9 FIN L8
          by_cases hn2 : 0 < n2
          · have hn2I : (0 : Int) < n2 := by omega
            have hb1 : b1 = true := by rw [HB1.out]; exact decide_eq_true hn2
            subst hb1
            cases b0 with
            | false =>
              go_wp2
              go_roundw
              case rel => exact ⟨i + 1, by have := HLI.out; omega, by simp, F9⟩
              case measure => simp [intOf]; have := HLI.out; omega
            | true =>
              have hmm := HE.out rfl rfl
              subst hmm
              have hmf : (mu1 != mu1) = false := by simp
              go_wp2
              go_roundw
              case rel => exact ⟨i + 1, by have := HLI.out; omega, by simp, F9⟩
              case measure => simp [intOf]; have := HLI.out; omega
          · have hn0 : n2 = 0 := by omega
            subst hn0
            have hb1 : b1 = false := by rw [HB1.out]; rfl
            subst hb1
            cases b0
            all_goals
              go_wp2
              go_roundw
              case rel => exact ⟨i + 1, by have := HLI.out; omega, by simp, F9⟩
              case measure => simp [intOf]; have := HLI.out; omega
      have kf1 : (k == 1) = false := by simp [k1]
      have kf2 : (k == 2) = false := by simp [k2]
      have kf3 : (k == 3) = false := by simp [k3]
      have kf4 : (k == 4) = false := by simp [k4]
      have kf5 : (k == 5) = false := by simp [k5]
      clear k1 k2 k3 k4 k5
      as_aux_lemma =>
        have XE := X2
        clear X2
        obtain ⟨M2, hM2⟩ : ∃ M2, m = M2 := ⟨_, rfl⟩
        obtain ⟨L2, hL2⟩ : ∃ L2, L = L2 := ⟨_, rfl⟩
        have HE := hid (show b0 = true → muB L2 = true → muT M2 L2 = mu0 from by rw [← hM2, ← hL2, ← HB0.out, ← HMU.out]; exact fun h h1 => mu_eq m h h1)
        rw [hM2, hL2] at XE
        clear hM2 hL2
        have HL2 := hid (fun (zz : World) (hk : Kp _ zz []) => (XE.out.same hk).len)
        have HB1 := hid (mu_len L2)
        go_wp2_with fail
        refine (XE.out.mutex).mono ?_
        rintro e z8 ⟨rfl, hk8⟩
        have X8 := hid (XE.out.same hk8)
        have L8 := hid (HL2.out z8 hk8)
        have FIN := hid (fun (zz : World) (hk : Kp z8 zz []) => (show ∃ m L, Cc w zz cb m L [] from ⟨_, _, (X8.out.same hk).drop⟩))
        clear hk8 XE X8 HL2
        generalize L2.length = n2 at L8 HB1
        generalize muB L2 = b1 at HB1 HE
        generalize muT M2 L2 = mu1 at HE
        go_wp2_with fail
        refine L8.out.mono ?_
        rintro e z9 ⟨rfl, hk9⟩
        have F9 := hid (FIN.out z9 hk9)
        clear hk9 FIN L8
        by_cases hn2 : 0 < n2
        · have hn2I : (0 : Int) < n2 := by omega
          have hb1 : b1 = true := by rw [HB1.out]; exact decide_eq_true hn2
          subst hb1
          cases b0 with
          | false =>
            go_wp2
            go_roundw
            case rel => exact ⟨i + 1, by have := HLI.out; omega, by simp, F9⟩
            case measure => simp [intOf]; have := HLI.out; omega
          | true =>
            have hmm := HE.out rfl rfl
            subst hmm
            have hmf : (mu1 != mu1) = false := by simp
            go_wp2
            go_roundw
            case rel => exact ⟨i + 1, by have := HLI.out; omega, by simp, F9⟩
            case measure => simp [intOf]; have := HLI.out; omega
        · have hn0 : n2 = 0 := by omega
          subst hn0
          have hb1 : b1 = false := by rw [HB1.out]; rfl
          subst hb1
          cases b0
          all_goals
            go_wp2
            go_roundw
            case rel => exact ⟨i + 1, by have := HLI.out; omega, by simp, F9⟩
            case measure => simp [intOf]; have := HLI.out; omega
    · have hx : ¬ (i : Int) < N ∨ ((i : Int) < N ∧ ¬ (i : Int) < 200) := by omega
      clear hin
      obtain ⟨m, L, hC⟩ := hA.out
      have K6 := hid hC
      clear hA hC
      rcases hx with h1 | ⟨h1, h2⟩
      all_goals go_wp2_with fail
      all_goals
        obtain ⟨R, c1, c2, -, c4⟩ := K6.out
        have c1 := hid (And.intro c1 (And.intro c2 c4))
        refine (cbroad _ cb R m L c1.out.1).mono ?_
        rintro e z1 ⟨x, rfl, hT⟩
        have T := hid hT.to
        clear hT
      all_goals go_wp2_with fail
      all_goals
        obtain ⟨R', f1, f2, f3⟩ := T.out
        have F := hid (And.intro f1 (And.intro f2 f3))
        refine (cwait _ cb R' m [] 0 1 4611686018427387904 F.out.1).mono ?_
        rintro e z2 ⟨rfl, hT⟩
        rw [show cwE m [] 0 1 4611686018427387904 = 0 from rfl]
        have K9 := hid (show Kp w z2 [] from (c1.out.2.2.past F.out.2.2 (fun k hk hl => by have := c1.out.2.1 k hk; omega)).past hT.kp (fun k hk hl => by
          rcases F.out.2.1 k hk with q | q
          · have := c1.out.2.1 k q; omega
          · have := c1.out.2.2.size; omega))
        clear hT
      all_goals go_wp2_with (go_at_call 17; refine (num_any _ _).mono ?_; rintro e wx ⟨rfl, hw⟩; obtain rfl := hw.symm)
      all_goals go_ret
      all_goals exact ⟨rfl, K9.out⟩
end Go.Proofs.Ytpkjnjhbgjgfaaa
