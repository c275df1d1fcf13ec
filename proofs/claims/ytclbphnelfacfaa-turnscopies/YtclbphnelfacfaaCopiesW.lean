/- TurnsCopies' walk. -/
import Derived.Test.YtclbphnelfacfaaArr
namespace Go.Proofs.Ytclbphnelfacfaa
open Go.RowKit Go.Shelf

set_option maxRecDepth 100000 in
set_option maxHeartbeats 4000000 in
theorem copies_no (w : World) (q : Int) (V V' : Value) (N M : Nat) (S S' : Nat → Sp) (hV : Sc w V N S) (hV' : Sc w V' M S') (h : ¬ ((1 ≤ q ∧ q ≤ 100) ∧ N ≤ 100 ∧ M ≤ 100)) : Calls Try.prog 7 #[.int .i64 q, V, V'] w fun e w' => e = .returned (.bool true) ∧ Kp w w' [] := by
  obtain ⟨so, sc, rfl⟩ := hV.shape
  obtain ⟨so', sc', rfl⟩ := hV'.shape
  have ck := known_any w
  have hc : q < 1 ∨ (¬ q < 1 ∧ 100 < q) ∨ (¬ q < 1 ∧ ¬ 100 < q ∧ (100 : Int) < N) ∨ (¬ q < 1 ∧ ¬ 100 < q ∧ ¬ (100 : Int) < N ∧ (100 : Int) < M) := by omega
  clear h hV hV'
  rcases hc with a1 | ⟨a1, a2⟩ | ⟨a1, a2, a3⟩ | ⟨a1, a2, a3, a4⟩
  all_goals
    go_enter Try.func7, Try.ntmps7
    go_wp2_with fail
    refine ck.mono ?_
    rintro e w1 ⟨rfl, hk⟩
    have HK := hid hk
    clear hk ck
    go_wp2
    go_ret
    exact ⟨rfl, HK.out⟩
theorem Kn.wide {w w1 W : World} {xb rb q m : Nat} {S : Sh} {L : Ls} (h : Kn w1 W xb rb q S L m) (hk : Kp w w1 []) : Kn w W xb rb q S L m :=
  ⟨h.tn, hk.trans h.kp, Nat.le_trans hk.size h.g1, Nat.le_trans hk.size h.g2⟩
set_option maxRecDepth 100000 in
set_option maxHeartbeats 8000000 in
theorem copies_ok (w : World) (q : Nat) (V V' : Value) (N M : Nat) (S S' : Nat → Sp) (hV : Sc w V N S) (hV' : Sc w V' M S') (q1 : 1 ≤ q) (q2 : q ≤ 100) (n1 : N ≤ 100) (m1 : M ≤ 100) : Calls Try.prog 7 #[.int .i64 q, V, V'] w fun e w' => e = .returned (.bool true) ∧ Kp w w' [] := by
  obtain ⟨so, sc, rfl⟩ := hV.shape
  obtain ⟨so', sc', rfl⟩ := hV'.shape
  have HV := hid hV
  have HV' := hid hV'
  have a1 : ¬ (q : Int) < 1 := by omega
  have a2 : ¬ (100 : Int) < q := by omega
  have a3 : ¬ (100 : Int) < N := by omega
  have a4 : ¬ (100 : Int) < M := by omega
  clear hV hV'
  go_enter Try.func7, Try.ntmps7
  go_wp2_with fail
  refine (kn_new w w (Kp.refl _ _) q q1 q2).mono ?_
  rintro e w1 ⟨xb, rb, rfl, hl⟩
  have H1 := hid hl
  clear hl
  go_wp2_with fail
  refine (kn_new w1 w1 (Kp.refl _ _) q q1 q2).mono ?_
  rintro e w2 ⟨yb, sb, rfl, hl⟩
  have H2 := hid hl
  clear hl
  go_wp2_with fail
  refine (rnew_ok _ q q1 q2).mono ?_
  rintro e w3 ⟨rfl, hR, hk⟩
  have R3 := hid (And.intro hR hk)
  clear hR hk
  go_wp2_with fail
  refine (rnew_ok _ q q1 q2).mono ?_
  rintro e w4 ⟨rfl, hR, hk⟩
  have T0 := hid (show Two w w4 q xb rb w2.heap.size S0 L0 0 yb sb w3.heap.size S0 L0 0 from by
    obtain ⟨s1, -, t1⟩ := H1.out.tn
    obtain ⟨s2, -, t2⟩ := H2.out.tn
    have l1 := t1.lt
    have l2 := t2.lt
    have g1 := H2.out.g1
    have g2 := H2.out.g2
    have z2 := H2.out.kp.size
    have lr := Rx.lt R3.out.1
    have z3 := R3.out.2.size
    have zw := H1.out.kp.size
    have k14 : Kp w1 w4 [] := (H2.out.kp.trans R3.out.2).trans hk
    refine ⟨⟨H1.out.same k14, rt_zero (Rx.keep R3.out.1 hk), by omega⟩, ⟨(H2.out.wide H1.out.kp).same (R3.out.2.trans hk), rt_zero hR, by omega⟩, ?_⟩
    intro x hx hy
    simp at hx hy
    omega)
  obtain ⟨qb, hqb⟩ : ∃ qb, w2.heap.size = qb := ⟨_, rfl⟩
  obtain ⟨pb, hpb⟩ : ∃ pb, w3.heap.size = pb := ⟨_, rfl⟩
  rw [hqb, hpb] at T0
  rw [hqb, hpb]
  clear hR hk H1 H2 R3 hqb hpb
  go_wp2_with fail
  go_loopw [13] (fun v wr => ∃ i : Nat, i ≤ N ∧ v = .int .i64 i ∧ Hid (∃ T L, Two w wr q xb rb qb T L (i * 20) yb sb pb T L (i * 20))) (fun v _ => N - (intOf v).toNat)
  case atStart => exact ⟨0, by omega, rfl, _, _, T0.out⟩
  case round =>
    obtain ⟨i, hi, rfl, hT⟩ := hrel
    clear T0
    obtain ⟨T, L, hP⟩ := hT.out
    have HP := hid hP
    clear hT hP
    by_cases hlt : i < N
    · have h1 : (i : Int) < N := by omega
      obtain ⟨tb, off, rfl, y0, y1, y2, y3⟩ := (HV.out.keep HP.out.a.kp).at hlt
      go_wp2_with fail
      refine (HP.out.step (by omega) (S i).k (S i).t (S i).p (S i).r).mono ?_
      rintro e W3 ⟨rfl, hP2⟩
      have P3 := hid hP2.swap
      clear hP2 HP y0 y1 y2 y3
      obtain ⟨tb', off', e', y0, y1, y2, y3⟩ := (HV.out.keep P3.out.a.kp).at hlt
      cases e'
      go_wp2_with fail
      refine (P3.out.step (by omega) (S i).k (S i).t (S i).p (S i).r).mono ?_
      rintro e W4 ⟨rfl, hP4⟩
      have P4 := hid hP4.swap
      clear hP4 P3 y0 y1 y2 y3
      go_wp2
      go_roundw
      case rel => exact ⟨i + 1, by omega, by simp, _, _, by rw [show (i + 1) * 20 = i * 20 + 20 by omega]; exact P4.out⟩
      case measure => simp [intOf]; omega
    · have h1 : ¬ (i : Int) < N := by omega
      obtain ⟨s1, z1, t1⟩ := HP.out.a.1.tn
      obtain ⟨s2, z2, t2⟩ := HP.out.b.1.tn
      have X1 := hid t1
      have Y1 := hid t2
      have Z1 := hid z1
      clear t1 t2 z1 z2
      go_wp2_with fail
      refine (X1.out.copy).mono ?_
      rintro e w5 ⟨cb, db, rfl, hC, hk5, gc, gd⟩
      have C5 := hid hC
      have K5 := hid hk5
      have GC := hid (And.intro gc gd)
      clear hC hk5 gc gd
      go_wp2_with fail
      refine ((X1.out.same K5.out).eq C5.out).mono ?_
      rintro e w6 ⟨rfl, hk6⟩
      rw [show (decide (q = q) && sameS T T && decide (seqs L 31 = seqs L 31)) = true from by simp [sameS]]
      have K6 := hid hk6
      clear hk6
      go_wp2_with fail
      refine ((X1.out.same (K5.out.trans K6.out)).eq (Y1.out.same (K5.out.trans K6.out))).mono ?_
      rintro e w7 ⟨rfl, hk7⟩
      rw [show (decide (q = q) && sameS T T && decide (seqs L 31 = seqs L 31)) = true from by simp [sameS]]
      have P7 := hid (show Pl w w7 cb db pb q T L (i * 20) from by
        have k9 := K6.out.trans hk7
        have hz := HP.out.a.kp.size
        exact ⟨⟨⟨s1, Z1.out, C5.out.same k9⟩, (HP.out.a.kp.trans K5.out).trans k9, Nat.le_trans hz GC.out.1, Nat.le_trans hz GC.out.2⟩, HP.out.b.2.1.keep (K5.out.trans k9), HP.out.b.2.2⟩)
      have A7 := hid (show Pl w w7 xb rb qb q T L (i * 20) from by
        have k9 := K5.out.trans (K6.out.trans hk7)
        exact ⟨HP.out.a.1.same k9, HP.out.a.2.1.keep k9, HP.out.a.2.2⟩)
      have B7 := hid (Y1.out.same ((K5.out.trans K6.out).trans hk7))
      have D7 := hid (show ∀ x ∈ [xb, rb, qb, yb, sb], x ∉ [cb, db, pb] from by
        have l1 := X1.out.lt
        have l2 := Y1.out.lt
        have l3 := Rx.lt HP.out.a.2.1
        have h5 := Y1.out.qne HP.out.b.2.1
        have h6 := HP.out.d
        have g := GC.out
        intro x hx hy
        simp at hx hy h6
        rcases hy with e | e | e
        · omega
        · omega
        · rcases hx with e1 | e1 | e1 | e1 | e1
          · exact h6.1.2.2 (e1.symm.trans e)
          · exact h6.2.1.2.2 (e1.symm.trans e)
          · exact h6.2.2.2.2 (e1.symm.trans e)
          · exact h5.1 (e.symm.trans e1)
          · exact h5.2 (e.symm.trans e1))
      have hiN : i ≤ 100 := by omega
      clear hk7 X1 Y1 Z1 C5 K5 K6 GC HP
      go_wp2_with fail
      go_loopw [15] (fun v wr => ∃ k : Nat, k ≤ M ∧ v = .int .i64 k ∧ Hid (∃ U O, Pl w wr cb db pb q U O (i * 20 + k * 20)) ∧ Hid (Kp w7 wr [cb, db, pb])) (fun v _ => M - (intOf v).toNat)
      case atStart => exact ⟨0, by omega, rfl, ⟨_, _, P7.out⟩, Kp.refl _ _⟩
      case round =>
        obtain ⟨k, hk, rfl, hT, hK⟩ := hrel
        obtain ⟨U, O, hP⟩ := hT.out
        have HP := hid hP
        clear hT hP
        by_cases hlk : k < M
        · have h2 : (k : Int) < M := by omega
          obtain ⟨tb, off, rfl, y0, y1, y2, y3⟩ := (HV'.out.keep HP.out.kp).at hlk
          go_wp2_with fail
          refine (HP.out.step (by omega) (S' k).k (S' k).t (S' k).p (S' k).r).mono ?_
          rintro e W3 ⟨rfl, hP2, hk2⟩
          have P3 := hid (hP2.more (show i * 20 + k * 20 + 20 ≤ i * 20 + (k + 1) * 20 by omega))
          have K3 := hid (hK.out.trans hk2)
          clear hP2 HP hk2 y0 y1 y2 y3
          go_wp2
          go_roundw
          case rel => exact ⟨k + 1, by omega, by simp, ⟨_, _, P3.out⟩, K3⟩
          case measure => simp [intOf]; omega
        · have h2 : ¬ (k : Int) < M := by omega
          have A8 := hid (A7.out.kept hK.out (fun x hx => D7.out x (by simp at hx ⊢; omega)) P7.out.kinds HP.out.kp)
          have B8 := hid (B7.out.keep hK.out (D7.out _ (by simp)) (D7.out _ (by simp)))
          clear P7 A7 B7 hK
          go_wp2_with fail
          have OKL := hid A8.out.1.ok
          have OKO := hid HP.out.1.ok
          have hAL := alike_iff (S := T) (T := U) OKL.out OKO.out
          obtain ⟨f1, hf1⟩ : ∃ f : Nat → Int, (fun t => ((prN L t 31 : Nat) : Int)) = f := ⟨_, rfl⟩
          obtain ⟨f2, hf2⟩ : ∃ f : Nat → Int, (fun t => ((prN O t 31 : Nat) : Int)) = f := ⟨_, rfl⟩
          obtain ⟨g1, hg1⟩ : ∃ f : Nat → Bool, (fun t => (T t).1) = f := ⟨_, rfl⟩
          obtain ⟨g2, hg2⟩ : ∃ f : Nat → Bool, (fun t => (U t).1) = f := ⟨_, rfl⟩
          obtain ⟨e1, he1⟩ : ∃ f : Nat → Int, (fun t => (((T t).2 : Nat) : Int)) = f := ⟨_, rfl⟩
          obtain ⟨e2, he2⟩ : ∃ f : Nat → Int, (fun t => (((U t).2 : Nat) : Int)) = f := ⟨_, rfl⟩
          have HS := hid (fun (W : World) (hk : Kp wr W []) => show W.rangeAt qb 33 (vI f1) ∧ W.rangeAt pb 33 (vI f2) ∧ W.rangeAt qb 49 (vB g1) ∧ W.rangeAt pb 49 (vB g2) ∧ W.rangeAt qb 65 (vI e1) ∧ W.rangeAt pb 65 (vI e2) from by
            have h1 := A8.out.2.1.keep hk
            have h2 := HP.out.2.1.keep hk
            rw [← hf1, ← hf2, ← hg1, ← hg2, ← he1, ← he2]
            exact ⟨range_of fun t ht => Rx.prio h1 ht, range_of fun t ht => Rx.prio h2 ht, range_of fun t ht => Rx.robin h1 ht, range_of fun t ht => Rx.robin h2 ht, range_of fun t ht => Rx.left h1 ht, range_of fun t ht => Rx.left h2 ht⟩)
          rw [hf1, hf2, hg1, hg2, he1, he2] at hAL
          have hEP := arrI f1 f2
          have hEB := arrB g1 g2
          have hEE := arrI e1 e2
          obtain ⟨bP, hbP⟩ : ∃ b, sameA f1 f2 = b := ⟨_, rfl⟩
          obtain ⟨bB, hbB⟩ : ∃ b, sameA g1 g2 = b := ⟨_, rfl⟩
          obtain ⟨bE, hbE⟩ : ∃ b, sameA e1 e2 = b := ⟨_, rfl⟩
          rw [hbP] at hEP hAL
          rw [hbB] at hEB hAL
          rw [hbE] at hEE hAL
          have HAL := hid hAL
          have EP := hid hEP
          have EB := hid hEB
          have EE := hid hEE
          have G50 := hid (fun (w : World) (x y : Operand) (xs ys : Array Value) => run_eqGuard_agg (P := Try.prog) w .eql 50 x y xs ys (by kernel_rfl))
          have G51 := hid (fun (w : World) (x y : Operand) (xs ys : Array Value) => run_eqGuard_agg (P := Try.prog) w .eql 51 x y xs ys (by kernel_rfl))
          clear hAL hEP hEB hEE hbP hbB hbE hf1 hf2 hg1 hg2 he1 he2
          refine wp_mono (Q := fun e a' W => match e with | .normal => ∃ (t95 t96 t97 t98 t99 t100 t101 t102 t103 t104 t105 t106 t107 t108 t109 t110 t111 t112 t113 t114 t115 t116 t117 t118 t119 t120 t121 t122 t123 t124 t125 : Value), a' = { tmps := #[Value.int IntKind.i64 ↑q, Value.slice so N sc, Value.slice so' M sc', undef, undef, undef, u6, Value.pointer (some { block := xb, off := 0 }), Value.int IntKind.i64 0, Value.pointer (some { block := yb, off := 0 }), Value.int IntKind.i64 0, Value.pointer (some { block := qb, off := 0 }), Value.pointer (some { block := pb, off := 0 }), Value.int IntKind.i64 ↑i, Value.pointer (some { block := cb, off := 0 }), Value.int IntKind.i64 ↑k, .bool (bP && bB && bE), undef, Value.int IntKind.i64 ↑q, Value.bool false, Value.bool false, Value.int IntKind.i64 ↑q, Value.bool false, Value.bool false, Value.bool false, Value.slice so N sc, Value.int IntKind.i64 ↑N, Value.bool false, Value.bool false, Value.bool false, Value.slice so' M sc', Value.int IntKind.i64 ↑M, Value.bool false, Value.bool false, undef, Value.tuple #[Value.pointer (some { block := xb, off := 0 }), Value.int IntKind.i64 0], Value.int IntKind.i64 ↑q, Value.tuple #[Value.pointer (some { block := xb, off := 0 }), Value.int IntKind.i64 0], Value.pointer (some { block := xb, off := 0 }), Value.int IntKind.i64 0, Value.tuple #[Value.pointer (some { block := yb, off := 0 }), Value.int IntKind.i64 0], Value.int IntKind.i64 ↑q, Value.tuple #[Value.pointer (some { block := yb, off := 0 }), Value.int IntKind.i64 0], Value.pointer (some { block := yb, off := 0 }), Value.int IntKind.i64 0, Value.int IntKind.i64 ↑q, Value.pointer (some { block := qb, off := 0 }), Value.int IntKind.i64 ↑q, Value.pointer (some { block := pb, off := 0 }), Value.int IntKind.i64 ↑i, Value.slice so N sc, Value.int IntKind.i64 ↑N, Value.bool false, u53, u54, u55, u56, u57, u58, u59, u60, u61, u62, u63, u64, u65, u66, u67, u68, Value.pointer (some { block := xb, off := 0 }), Value.pointer (some { block := cb, off := 0 }), Value.pointer (some { block := xb, off := 0 }), Value.pointer (some { block := cb, off := 0 }), Value.bool true, Value.bool false, Value.bool false, Value.pointer (some { block := xb, off := 0 }), Value.pointer (some { block := yb, off := 0 }), Value.bool true, Value.bool false, Value.bool false, Value.int IntKind.i64 ↑k, Value.slice so' M sc', Value.int IntKind.i64 ↑M, Value.bool false, u85, u86, u87, u88, u89, u90, u91, u92, u93, u94, t95, t96, t97, t98, t99, t100, t101, t102, t103, t104, t105, t106, t107, t108, t109, t110, t111, t112, t113, t114, t115, t116, t117, t118, t119, t120, t121, t122, t123, t124, t125, undef, undef, undef, undef, undef, undef, undef, undef, undef, undef, undef, undef, undef, undef, undef, undef, undef, undef, undef, undef, undef, undef, undef, undef, undef, undef, undef, undef, undef, undef, undef, undef, undef, undef, undef, undef, undef, undef], defers := [] } ∧ Hid (Kp wr W []) | _ => False) ?_ ?_
          · cases bP with
            | false =>
              refine wp_region_held_drew (S := fun W : World => W.rangeAt qb 33 (vI f1) ∧ W.rangeAt pb 33 (vI f2) ∧ W.rangeAt qb 49 (vB g1) ∧ W.rangeAt pb 49 (vB g2) ∧ W.rangeAt qb 65 (vI e1) ∧ W.rangeAt pb 65 (vI e2)) (by kernel_rfl) (HS.out _ (Kp.drew _ _)) (fun hHeld => ?_)
              refine wpAnyH_take (i := 0) (v := .pointer (some ⟨qb, 0, none⟩)) rfl (by kernel_rfl) (by kernel_rfl) (by kernel_rfl) (fun _ _ _ h => h) (Or.inl ⟨by kernel_rfl, fun w _ => by kernel_rfl⟩) hHeld ?_
              refine wpAnyH_take (i := 1) (v := .pointer (some ⟨qb, 0, none⟩)) rfl (by kernel_rfl) (by kernel_rfl) (by kernel_rfl) (fun _ _ _ h => h) (Or.inl ⟨by kernel_rfl, fun w _ => by kernel_rfl⟩) hHeld ?_
              refine wpAnyH_take (i := 2) (v := .pointer (some ⟨qb, 33, none⟩)) rfl (by kernel_rfl) (by kernel_rfl) (by kernel_rfl) (fun _ _ _ h => h) (Or.inl ⟨by kernel_rfl, fun w _ => by kernel_rfl⟩) hHeld ?_
              refine wpAnyH_take (i := 3) (v := .agg (vI f1).toArray) rfl (by kernel_rfl) (by kernel_rfl) (by kernel_rfl) (fun _ _ _ h => h) (yieldsIf_load_mid (by kernel_rfl) 50 (.tmp 97) rfl qb 33 (by kernel_rfl) _ _ (fun _ hw => hw.1) Try.underlying50 rfl (size50 _)) hHeld ?_
              refine wpAnyH_take (i := 4) (v := .pointer (some ⟨pb, 0, none⟩)) rfl (by kernel_rfl) (by kernel_rfl) (by kernel_rfl) (fun _ _ _ h => h) (Or.inl ⟨by kernel_rfl, fun w _ => by kernel_rfl⟩) hHeld ?_
              refine wpAnyH_take (i := 5) (v := .pointer (some ⟨pb, 0, none⟩)) rfl (by kernel_rfl) (by kernel_rfl) (by kernel_rfl) (fun _ _ _ h => h) (Or.inl ⟨by kernel_rfl, fun w _ => by kernel_rfl⟩) hHeld ?_
              refine wpAnyH_take (i := 6) (v := .pointer (some ⟨pb, 33, none⟩)) rfl (by kernel_rfl) (by kernel_rfl) (by kernel_rfl) (fun _ _ _ h => h) (Or.inl ⟨by kernel_rfl, fun w _ => by kernel_rfl⟩) hHeld ?_
              refine wpAnyH_take (i := 7) (v := .agg (vI f2).toArray) rfl (by kernel_rfl) (by kernel_rfl) (by kernel_rfl) (fun _ _ _ h => h) (yieldsIf_load_mid (by kernel_rfl) 50 (.tmp 101) rfl pb 33 (by kernel_rfl) _ _ (fun _ hw => hw.2.1) Try.underlying50 rfl (size50 _)) hHeld ?_
              refine wpAnyH_take (i := 8) (v := .bool false) rfl (by kernel_rfl) (by kernel_rfl) (by kernel_rfl) (fun _ _ _ h => h) (yieldsIf_eql (by kernel_rfl) 50 (.tmp 98) (.tmp 102) 50 rfl _ _ (by kernel_rfl) (by kernel_rfl) _ (fun w => G50.out w _ _ _ _) EP.out) hHeld ?_
              refine wpAnyH_take (i := 9) (v := .bool false) rfl (by kernel_rfl) (by kernel_rfl) (by kernel_rfl) (fun _ _ _ h => h) (Or.inl ⟨by kernel_rfl, fun w _ => by kernel_rfl⟩) hHeld ?_
              refine wpAnyH_take (i := 10) (v := undef) rfl (by kernel_rfl) (by kernel_rfl) (by kernel_rfl) (fun _ _ _ h => h) (Or.inr ⟨by kernel_rfl, rfl⟩) hHeld ?_
              refine wpAnyH_take (i := 11) (v := undef) rfl (by kernel_rfl) (by kernel_rfl) (by kernel_rfl) (fun _ _ _ h => h) (Or.inr ⟨by kernel_rfl, rfl⟩) hHeld ?_
              refine wpAnyH_take (i := 12) (v := undef) rfl (by kernel_rfl) (by kernel_rfl) (by kernel_rfl) (fun _ _ _ h => h) (Or.inr ⟨by kernel_rfl, rfl⟩) hHeld ?_
              refine wpAnyH_take (i := 13) (v := undef) rfl (by kernel_rfl) (by kernel_rfl) (by kernel_rfl) (fun _ _ _ h => h) (Or.inr ⟨by kernel_rfl, rfl⟩) hHeld ?_
              refine wpAnyH_take (i := 14) (v := undef) rfl (by kernel_rfl) (by kernel_rfl) (by kernel_rfl) (fun _ _ _ h => h) (Or.inr ⟨by kernel_rfl, rfl⟩) hHeld ?_
              refine wpAnyH_take (i := 15) (v := undef) rfl (by kernel_rfl) (by kernel_rfl) (by kernel_rfl) (fun _ _ _ h => h) (Or.inr ⟨by kernel_rfl, rfl⟩) hHeld ?_
              refine wpAnyH_take (i := 16) (v := undef) rfl (by kernel_rfl) (by kernel_rfl) (by kernel_rfl) (fun _ _ _ h => h) (Or.inr ⟨by kernel_rfl, rfl⟩) hHeld ?_
              refine wpAnyH_take (i := 17) (v := undef) rfl (by kernel_rfl) (by kernel_rfl) (by kernel_rfl) (fun _ _ _ h => h) (Or.inr ⟨by kernel_rfl, rfl⟩) hHeld ?_
              refine wpAnyH_take (i := 18) (v := undef) rfl (by kernel_rfl) (by kernel_rfl) (by kernel_rfl) (fun _ _ _ h => h) (Or.inr ⟨by kernel_rfl, rfl⟩) hHeld ?_
              refine wpAnyH_take (i := 19) (v := .bool false) rfl (by kernel_rfl) (by kernel_rfl) (by kernel_rfl) (fun _ _ _ h => h) (Or.inl ⟨by kernel_rfl, fun w _ => by kernel_rfl⟩) hHeld ?_
              refine wpAnyH_take (i := 20) (v := .bool false) rfl (by kernel_rfl) (by kernel_rfl) (by kernel_rfl) (fun _ _ _ h => h) (Or.inl ⟨by kernel_rfl, fun w _ => by kernel_rfl⟩) hHeld ?_
              refine wpAnyH_take (i := 21) (v := undef) rfl (by kernel_rfl) (by kernel_rfl) (by kernel_rfl) (fun _ _ _ h => h) (Or.inr ⟨by kernel_rfl, rfl⟩) hHeld ?_
              refine wpAnyH_take (i := 22) (v := undef) rfl (by kernel_rfl) (by kernel_rfl) (by kernel_rfl) (fun _ _ _ h => h) (Or.inr ⟨by kernel_rfl, rfl⟩) hHeld ?_
              refine wpAnyH_take (i := 23) (v := undef) rfl (by kernel_rfl) (by kernel_rfl) (by kernel_rfl) (fun _ _ _ h => h) (Or.inr ⟨by kernel_rfl, rfl⟩) hHeld ?_
              refine wpAnyH_take (i := 24) (v := undef) rfl (by kernel_rfl) (by kernel_rfl) (by kernel_rfl) (fun _ _ _ h => h) (Or.inr ⟨by kernel_rfl, rfl⟩) hHeld ?_
              refine wpAnyH_take (i := 25) (v := undef) rfl (by kernel_rfl) (by kernel_rfl) (by kernel_rfl) (fun _ _ _ h => h) (Or.inr ⟨by kernel_rfl, rfl⟩) hHeld ?_
              refine wpAnyH_take (i := 26) (v := undef) rfl (by kernel_rfl) (by kernel_rfl) (by kernel_rfl) (fun _ _ _ h => h) (Or.inr ⟨by kernel_rfl, rfl⟩) hHeld ?_
              refine wpAnyH_take (i := 27) (v := undef) rfl (by kernel_rfl) (by kernel_rfl) (by kernel_rfl) (fun _ _ _ h => h) (Or.inr ⟨by kernel_rfl, rfl⟩) hHeld ?_
              refine wpAnyH_take (i := 28) (v := undef) rfl (by kernel_rfl) (by kernel_rfl) (by kernel_rfl) (fun _ _ _ h => h) (Or.inr ⟨by kernel_rfl, rfl⟩) hHeld ?_
              refine wpAnyH_take (i := 29) (v := undef) rfl (by kernel_rfl) (by kernel_rfl) (by kernel_rfl) (fun _ _ _ h => h) (Or.inr ⟨by kernel_rfl, rfl⟩) hHeld ?_
              refine wpAnyH_take (i := 30) (v := .bool false) rfl (by kernel_rfl) (by kernel_rfl) (by kernel_rfl) (fun _ _ _ h => h) (Or.inl ⟨by kernel_rfl, fun w _ => by kernel_rfl⟩) hHeld ?_
              refine wpAnyH_take (i := 31) (v := .bool false) rfl (by kernel_rfl) (by kernel_rfl) (by kernel_rfl) (fun _ _ _ h => h) (Or.inl ⟨by kernel_rfl, fun w _ => by kernel_rfl⟩) hHeld ?_
              refine wpAnyH_done (by kernel_rfl) ?_ _
              exact ⟨.pointer (some ⟨qb, 0, none⟩), .pointer (some ⟨qb, 0, none⟩), .pointer (some ⟨qb, 33, none⟩), .agg (vI f1).toArray, .pointer (some ⟨pb, 0, none⟩), .pointer (some ⟨pb, 0, none⟩), .pointer (some ⟨pb, 33, none⟩), .agg (vI f2).toArray, .bool false, .bool false, undef, undef, undef, undef, undef, undef, undef, undef, undef, .bool false, .bool false, undef, undef, undef, undef, undef, undef, undef, undef, undef, .bool false, by kernel_rfl, hid (Kp.drew _ _)⟩
            | true =>
              cases bB with
              | false =>
                refine wp_region_held_drew (S := fun W : World => W.rangeAt qb 33 (vI f1) ∧ W.rangeAt pb 33 (vI f2) ∧ W.rangeAt qb 49 (vB g1) ∧ W.rangeAt pb 49 (vB g2) ∧ W.rangeAt qb 65 (vI e1) ∧ W.rangeAt pb 65 (vI e2)) (by kernel_rfl) (HS.out _ (Kp.drew _ _)) (fun hHeld => ?_)
                refine wpAnyH_take (i := 0) (v := .pointer (some ⟨qb, 0, none⟩)) rfl (by kernel_rfl) (by kernel_rfl) (by kernel_rfl) (fun _ _ _ h => h) (Or.inl ⟨by kernel_rfl, fun w _ => by kernel_rfl⟩) hHeld ?_
                refine wpAnyH_take (i := 1) (v := .pointer (some ⟨qb, 0, none⟩)) rfl (by kernel_rfl) (by kernel_rfl) (by kernel_rfl) (fun _ _ _ h => h) (Or.inl ⟨by kernel_rfl, fun w _ => by kernel_rfl⟩) hHeld ?_
                refine wpAnyH_take (i := 2) (v := .pointer (some ⟨qb, 33, none⟩)) rfl (by kernel_rfl) (by kernel_rfl) (by kernel_rfl) (fun _ _ _ h => h) (Or.inl ⟨by kernel_rfl, fun w _ => by kernel_rfl⟩) hHeld ?_
                refine wpAnyH_take (i := 3) (v := .agg (vI f1).toArray) rfl (by kernel_rfl) (by kernel_rfl) (by kernel_rfl) (fun _ _ _ h => h) (yieldsIf_load_mid (by kernel_rfl) 50 (.tmp 97) rfl qb 33 (by kernel_rfl) _ _ (fun _ hw => hw.1) Try.underlying50 rfl (size50 _)) hHeld ?_
                refine wpAnyH_take (i := 4) (v := .pointer (some ⟨pb, 0, none⟩)) rfl (by kernel_rfl) (by kernel_rfl) (by kernel_rfl) (fun _ _ _ h => h) (Or.inl ⟨by kernel_rfl, fun w _ => by kernel_rfl⟩) hHeld ?_
                refine wpAnyH_take (i := 5) (v := .pointer (some ⟨pb, 0, none⟩)) rfl (by kernel_rfl) (by kernel_rfl) (by kernel_rfl) (fun _ _ _ h => h) (Or.inl ⟨by kernel_rfl, fun w _ => by kernel_rfl⟩) hHeld ?_
                refine wpAnyH_take (i := 6) (v := .pointer (some ⟨pb, 33, none⟩)) rfl (by kernel_rfl) (by kernel_rfl) (by kernel_rfl) (fun _ _ _ h => h) (Or.inl ⟨by kernel_rfl, fun w _ => by kernel_rfl⟩) hHeld ?_
                refine wpAnyH_take (i := 7) (v := .agg (vI f2).toArray) rfl (by kernel_rfl) (by kernel_rfl) (by kernel_rfl) (fun _ _ _ h => h) (yieldsIf_load_mid (by kernel_rfl) 50 (.tmp 101) rfl pb 33 (by kernel_rfl) _ _ (fun _ hw => hw.2.1) Try.underlying50 rfl (size50 _)) hHeld ?_
                refine wpAnyH_take (i := 8) (v := .bool true) rfl (by kernel_rfl) (by kernel_rfl) (by kernel_rfl) (fun _ _ _ h => h) (yieldsIf_eql (by kernel_rfl) 50 (.tmp 98) (.tmp 102) 50 rfl _ _ (by kernel_rfl) (by kernel_rfl) _ (fun w => G50.out w _ _ _ _) EP.out) hHeld ?_
                refine wpAnyH_take (i := 9) (v := .bool true) rfl (by kernel_rfl) (by kernel_rfl) (by kernel_rfl) (fun _ _ _ h => h) (Or.inl ⟨by kernel_rfl, fun w _ => by kernel_rfl⟩) hHeld ?_
                refine wpAnyH_take (i := 10) (v := .pointer (some ⟨qb, 0, none⟩)) rfl (by kernel_rfl) (by kernel_rfl) (by kernel_rfl) (fun _ _ _ h => h) (Or.inl ⟨by kernel_rfl, fun w _ => by kernel_rfl⟩) hHeld ?_
                refine wpAnyH_take (i := 11) (v := .pointer (some ⟨qb, 0, none⟩)) rfl (by kernel_rfl) (by kernel_rfl) (by kernel_rfl) (fun _ _ _ h => h) (Or.inl ⟨by kernel_rfl, fun w _ => by kernel_rfl⟩) hHeld ?_
                refine wpAnyH_take (i := 12) (v := .pointer (some ⟨qb, 49, none⟩)) rfl (by kernel_rfl) (by kernel_rfl) (by kernel_rfl) (fun _ _ _ h => h) (Or.inl ⟨by kernel_rfl, fun w _ => by kernel_rfl⟩) hHeld ?_
                refine wpAnyH_take (i := 13) (v := .agg (vB g1).toArray) rfl (by kernel_rfl) (by kernel_rfl) (by kernel_rfl) (fun _ _ _ h => h) (yieldsIf_load_mid (by kernel_rfl) 51 (.tmp 107) rfl qb 49 (by kernel_rfl) _ _ (fun _ hw => hw.2.2.1) Try.underlying51 rfl (size51 _)) hHeld ?_
                refine wpAnyH_take (i := 14) (v := .pointer (some ⟨pb, 0, none⟩)) rfl (by kernel_rfl) (by kernel_rfl) (by kernel_rfl) (fun _ _ _ h => h) (Or.inl ⟨by kernel_rfl, fun w _ => by kernel_rfl⟩) hHeld ?_
                refine wpAnyH_take (i := 15) (v := .pointer (some ⟨pb, 0, none⟩)) rfl (by kernel_rfl) (by kernel_rfl) (by kernel_rfl) (fun _ _ _ h => h) (Or.inl ⟨by kernel_rfl, fun w _ => by kernel_rfl⟩) hHeld ?_
                refine wpAnyH_take (i := 16) (v := .pointer (some ⟨pb, 49, none⟩)) rfl (by kernel_rfl) (by kernel_rfl) (by kernel_rfl) (fun _ _ _ h => h) (Or.inl ⟨by kernel_rfl, fun w _ => by kernel_rfl⟩) hHeld ?_
                refine wpAnyH_take (i := 17) (v := .agg (vB g2).toArray) rfl (by kernel_rfl) (by kernel_rfl) (by kernel_rfl) (fun _ _ _ h => h) (yieldsIf_load_mid (by kernel_rfl) 51 (.tmp 111) rfl pb 49 (by kernel_rfl) _ _ (fun _ hw => hw.2.2.2.1) Try.underlying51 rfl (size51 _)) hHeld ?_
                refine wpAnyH_take (i := 18) (v := .bool false) rfl (by kernel_rfl) (by kernel_rfl) (by kernel_rfl) (fun _ _ _ h => h) (yieldsIf_eql (by kernel_rfl) 51 (.tmp 108) (.tmp 112) 51 rfl _ _ (by kernel_rfl) (by kernel_rfl) _ (fun w => G51.out w _ _ _ _) EB.out) hHeld ?_
                refine wpAnyH_take (i := 19) (v := .bool false) rfl (by kernel_rfl) (by kernel_rfl) (by kernel_rfl) (fun _ _ _ h => h) (Or.inl ⟨by kernel_rfl, fun w _ => by kernel_rfl⟩) hHeld ?_
                refine wpAnyH_take (i := 20) (v := .bool false) rfl (by kernel_rfl) (by kernel_rfl) (by kernel_rfl) (fun _ _ _ h => h) (Or.inl ⟨by kernel_rfl, fun w _ => by kernel_rfl⟩) hHeld ?_
                refine wpAnyH_take (i := 21) (v := undef) rfl (by kernel_rfl) (by kernel_rfl) (by kernel_rfl) (fun _ _ _ h => h) (Or.inr ⟨by kernel_rfl, rfl⟩) hHeld ?_
                refine wpAnyH_take (i := 22) (v := undef) rfl (by kernel_rfl) (by kernel_rfl) (by kernel_rfl) (fun _ _ _ h => h) (Or.inr ⟨by kernel_rfl, rfl⟩) hHeld ?_
                refine wpAnyH_take (i := 23) (v := undef) rfl (by kernel_rfl) (by kernel_rfl) (by kernel_rfl) (fun _ _ _ h => h) (Or.inr ⟨by kernel_rfl, rfl⟩) hHeld ?_
                refine wpAnyH_take (i := 24) (v := undef) rfl (by kernel_rfl) (by kernel_rfl) (by kernel_rfl) (fun _ _ _ h => h) (Or.inr ⟨by kernel_rfl, rfl⟩) hHeld ?_
                refine wpAnyH_take (i := 25) (v := undef) rfl (by kernel_rfl) (by kernel_rfl) (by kernel_rfl) (fun _ _ _ h => h) (Or.inr ⟨by kernel_rfl, rfl⟩) hHeld ?_
                refine wpAnyH_take (i := 26) (v := undef) rfl (by kernel_rfl) (by kernel_rfl) (by kernel_rfl) (fun _ _ _ h => h) (Or.inr ⟨by kernel_rfl, rfl⟩) hHeld ?_
                refine wpAnyH_take (i := 27) (v := undef) rfl (by kernel_rfl) (by kernel_rfl) (by kernel_rfl) (fun _ _ _ h => h) (Or.inr ⟨by kernel_rfl, rfl⟩) hHeld ?_
                refine wpAnyH_take (i := 28) (v := undef) rfl (by kernel_rfl) (by kernel_rfl) (by kernel_rfl) (fun _ _ _ h => h) (Or.inr ⟨by kernel_rfl, rfl⟩) hHeld ?_
                refine wpAnyH_take (i := 29) (v := undef) rfl (by kernel_rfl) (by kernel_rfl) (by kernel_rfl) (fun _ _ _ h => h) (Or.inr ⟨by kernel_rfl, rfl⟩) hHeld ?_
                refine wpAnyH_take (i := 30) (v := .bool false) rfl (by kernel_rfl) (by kernel_rfl) (by kernel_rfl) (fun _ _ _ h => h) (Or.inl ⟨by kernel_rfl, fun w _ => by kernel_rfl⟩) hHeld ?_
                refine wpAnyH_take (i := 31) (v := .bool false) rfl (by kernel_rfl) (by kernel_rfl) (by kernel_rfl) (fun _ _ _ h => h) (Or.inl ⟨by kernel_rfl, fun w _ => by kernel_rfl⟩) hHeld ?_
                refine wpAnyH_done (by kernel_rfl) ?_ _
                exact ⟨.pointer (some ⟨qb, 0, none⟩), .pointer (some ⟨qb, 0, none⟩), .pointer (some ⟨qb, 33, none⟩), .agg (vI f1).toArray, .pointer (some ⟨pb, 0, none⟩), .pointer (some ⟨pb, 0, none⟩), .pointer (some ⟨pb, 33, none⟩), .agg (vI f2).toArray, .bool true, .bool true, .pointer (some ⟨qb, 0, none⟩), .pointer (some ⟨qb, 0, none⟩), .pointer (some ⟨qb, 49, none⟩), .agg (vB g1).toArray, .pointer (some ⟨pb, 0, none⟩), .pointer (some ⟨pb, 0, none⟩), .pointer (some ⟨pb, 49, none⟩), .agg (vB g2).toArray, .bool false, .bool false, .bool false, undef, undef, undef, undef, undef, undef, undef, undef, undef, .bool false, by kernel_rfl, hid (Kp.drew _ _)⟩
              | true =>
                refine wp_region_held_drew (S := fun W : World => W.rangeAt qb 33 (vI f1) ∧ W.rangeAt pb 33 (vI f2) ∧ W.rangeAt qb 49 (vB g1) ∧ W.rangeAt pb 49 (vB g2) ∧ W.rangeAt qb 65 (vI e1) ∧ W.rangeAt pb 65 (vI e2)) (by kernel_rfl) (HS.out _ (Kp.drew _ _)) (fun hHeld => ?_)
                refine wpAnyH_take (i := 0) (v := .pointer (some ⟨qb, 0, none⟩)) rfl (by kernel_rfl) (by kernel_rfl) (by kernel_rfl) (fun _ _ _ h => h) (Or.inl ⟨by kernel_rfl, fun w _ => by kernel_rfl⟩) hHeld ?_
                refine wpAnyH_take (i := 1) (v := .pointer (some ⟨qb, 0, none⟩)) rfl (by kernel_rfl) (by kernel_rfl) (by kernel_rfl) (fun _ _ _ h => h) (Or.inl ⟨by kernel_rfl, fun w _ => by kernel_rfl⟩) hHeld ?_
                refine wpAnyH_take (i := 2) (v := .pointer (some ⟨qb, 33, none⟩)) rfl (by kernel_rfl) (by kernel_rfl) (by kernel_rfl) (fun _ _ _ h => h) (Or.inl ⟨by kernel_rfl, fun w _ => by kernel_rfl⟩) hHeld ?_
                refine wpAnyH_take (i := 3) (v := .agg (vI f1).toArray) rfl (by kernel_rfl) (by kernel_rfl) (by kernel_rfl) (fun _ _ _ h => h) (yieldsIf_load_mid (by kernel_rfl) 50 (.tmp 97) rfl qb 33 (by kernel_rfl) _ _ (fun _ hw => hw.1) Try.underlying50 rfl (size50 _)) hHeld ?_
                refine wpAnyH_take (i := 4) (v := .pointer (some ⟨pb, 0, none⟩)) rfl (by kernel_rfl) (by kernel_rfl) (by kernel_rfl) (fun _ _ _ h => h) (Or.inl ⟨by kernel_rfl, fun w _ => by kernel_rfl⟩) hHeld ?_
                refine wpAnyH_take (i := 5) (v := .pointer (some ⟨pb, 0, none⟩)) rfl (by kernel_rfl) (by kernel_rfl) (by kernel_rfl) (fun _ _ _ h => h) (Or.inl ⟨by kernel_rfl, fun w _ => by kernel_rfl⟩) hHeld ?_
                refine wpAnyH_take (i := 6) (v := .pointer (some ⟨pb, 33, none⟩)) rfl (by kernel_rfl) (by kernel_rfl) (by kernel_rfl) (fun _ _ _ h => h) (Or.inl ⟨by kernel_rfl, fun w _ => by kernel_rfl⟩) hHeld ?_
                refine wpAnyH_take (i := 7) (v := .agg (vI f2).toArray) rfl (by kernel_rfl) (by kernel_rfl) (by kernel_rfl) (fun _ _ _ h => h) (yieldsIf_load_mid (by kernel_rfl) 50 (.tmp 101) rfl pb 33 (by kernel_rfl) _ _ (fun _ hw => hw.2.1) Try.underlying50 rfl (size50 _)) hHeld ?_
                refine wpAnyH_take (i := 8) (v := .bool true) rfl (by kernel_rfl) (by kernel_rfl) (by kernel_rfl) (fun _ _ _ h => h) (yieldsIf_eql (by kernel_rfl) 50 (.tmp 98) (.tmp 102) 50 rfl _ _ (by kernel_rfl) (by kernel_rfl) _ (fun w => G50.out w _ _ _ _) EP.out) hHeld ?_
                refine wpAnyH_take (i := 9) (v := .bool true) rfl (by kernel_rfl) (by kernel_rfl) (by kernel_rfl) (fun _ _ _ h => h) (Or.inl ⟨by kernel_rfl, fun w _ => by kernel_rfl⟩) hHeld ?_
                refine wpAnyH_take (i := 10) (v := .pointer (some ⟨qb, 0, none⟩)) rfl (by kernel_rfl) (by kernel_rfl) (by kernel_rfl) (fun _ _ _ h => h) (Or.inl ⟨by kernel_rfl, fun w _ => by kernel_rfl⟩) hHeld ?_
                refine wpAnyH_take (i := 11) (v := .pointer (some ⟨qb, 0, none⟩)) rfl (by kernel_rfl) (by kernel_rfl) (by kernel_rfl) (fun _ _ _ h => h) (Or.inl ⟨by kernel_rfl, fun w _ => by kernel_rfl⟩) hHeld ?_
                refine wpAnyH_take (i := 12) (v := .pointer (some ⟨qb, 49, none⟩)) rfl (by kernel_rfl) (by kernel_rfl) (by kernel_rfl) (fun _ _ _ h => h) (Or.inl ⟨by kernel_rfl, fun w _ => by kernel_rfl⟩) hHeld ?_
                refine wpAnyH_take (i := 13) (v := .agg (vB g1).toArray) rfl (by kernel_rfl) (by kernel_rfl) (by kernel_rfl) (fun _ _ _ h => h) (yieldsIf_load_mid (by kernel_rfl) 51 (.tmp 107) rfl qb 49 (by kernel_rfl) _ _ (fun _ hw => hw.2.2.1) Try.underlying51 rfl (size51 _)) hHeld ?_
                refine wpAnyH_take (i := 14) (v := .pointer (some ⟨pb, 0, none⟩)) rfl (by kernel_rfl) (by kernel_rfl) (by kernel_rfl) (fun _ _ _ h => h) (Or.inl ⟨by kernel_rfl, fun w _ => by kernel_rfl⟩) hHeld ?_
                refine wpAnyH_take (i := 15) (v := .pointer (some ⟨pb, 0, none⟩)) rfl (by kernel_rfl) (by kernel_rfl) (by kernel_rfl) (fun _ _ _ h => h) (Or.inl ⟨by kernel_rfl, fun w _ => by kernel_rfl⟩) hHeld ?_
                refine wpAnyH_take (i := 16) (v := .pointer (some ⟨pb, 49, none⟩)) rfl (by kernel_rfl) (by kernel_rfl) (by kernel_rfl) (fun _ _ _ h => h) (Or.inl ⟨by kernel_rfl, fun w _ => by kernel_rfl⟩) hHeld ?_
                refine wpAnyH_take (i := 17) (v := .agg (vB g2).toArray) rfl (by kernel_rfl) (by kernel_rfl) (by kernel_rfl) (fun _ _ _ h => h) (yieldsIf_load_mid (by kernel_rfl) 51 (.tmp 111) rfl pb 49 (by kernel_rfl) _ _ (fun _ hw => hw.2.2.2.1) Try.underlying51 rfl (size51 _)) hHeld ?_
                refine wpAnyH_take (i := 18) (v := .bool true) rfl (by kernel_rfl) (by kernel_rfl) (by kernel_rfl) (fun _ _ _ h => h) (yieldsIf_eql (by kernel_rfl) 51 (.tmp 108) (.tmp 112) 51 rfl _ _ (by kernel_rfl) (by kernel_rfl) _ (fun w => G51.out w _ _ _ _) EB.out) hHeld ?_
                refine wpAnyH_take (i := 19) (v := .bool true) rfl (by kernel_rfl) (by kernel_rfl) (by kernel_rfl) (fun _ _ _ h => h) (Or.inl ⟨by kernel_rfl, fun w _ => by kernel_rfl⟩) hHeld ?_
                refine wpAnyH_take (i := 20) (v := .bool true) rfl (by kernel_rfl) (by kernel_rfl) (by kernel_rfl) (fun _ _ _ h => h) (Or.inl ⟨by kernel_rfl, fun w _ => by kernel_rfl⟩) hHeld ?_
                refine wpAnyH_take (i := 21) (v := .pointer (some ⟨qb, 0, none⟩)) rfl (by kernel_rfl) (by kernel_rfl) (by kernel_rfl) (fun _ _ _ h => h) (Or.inl ⟨by kernel_rfl, fun w _ => by kernel_rfl⟩) hHeld ?_
                refine wpAnyH_take (i := 22) (v := .pointer (some ⟨qb, 0, none⟩)) rfl (by kernel_rfl) (by kernel_rfl) (by kernel_rfl) (fun _ _ _ h => h) (Or.inl ⟨by kernel_rfl, fun w _ => by kernel_rfl⟩) hHeld ?_
                refine wpAnyH_take (i := 23) (v := .pointer (some ⟨qb, 65, none⟩)) rfl (by kernel_rfl) (by kernel_rfl) (by kernel_rfl) (fun _ _ _ h => h) (Or.inl ⟨by kernel_rfl, fun w _ => by kernel_rfl⟩) hHeld ?_
                refine wpAnyH_take (i := 24) (v := .agg (vI e1).toArray) rfl (by kernel_rfl) (by kernel_rfl) (by kernel_rfl) (fun _ _ _ h => h) (yieldsIf_load_mid (by kernel_rfl) 50 (.tmp 118) rfl qb 65 (by kernel_rfl) _ _ (fun _ hw => hw.2.2.2.2.1) Try.underlying50 rfl (size50 _)) hHeld ?_
                refine wpAnyH_take (i := 25) (v := .pointer (some ⟨pb, 0, none⟩)) rfl (by kernel_rfl) (by kernel_rfl) (by kernel_rfl) (fun _ _ _ h => h) (Or.inl ⟨by kernel_rfl, fun w _ => by kernel_rfl⟩) hHeld ?_
                refine wpAnyH_take (i := 26) (v := .pointer (some ⟨pb, 0, none⟩)) rfl (by kernel_rfl) (by kernel_rfl) (by kernel_rfl) (fun _ _ _ h => h) (Or.inl ⟨by kernel_rfl, fun w _ => by kernel_rfl⟩) hHeld ?_
                refine wpAnyH_take (i := 27) (v := .pointer (some ⟨pb, 65, none⟩)) rfl (by kernel_rfl) (by kernel_rfl) (by kernel_rfl) (fun _ _ _ h => h) (Or.inl ⟨by kernel_rfl, fun w _ => by kernel_rfl⟩) hHeld ?_
                refine wpAnyH_take (i := 28) (v := .agg (vI e2).toArray) rfl (by kernel_rfl) (by kernel_rfl) (by kernel_rfl) (fun _ _ _ h => h) (yieldsIf_load_mid (by kernel_rfl) 50 (.tmp 122) rfl pb 65 (by kernel_rfl) _ _ (fun _ hw => hw.2.2.2.2.2) Try.underlying50 rfl (size50 _)) hHeld ?_
                refine wpAnyH_take (i := 29) (v := .bool bE) rfl (by kernel_rfl) (by kernel_rfl) (by kernel_rfl) (fun _ _ _ h => h) (yieldsIf_eql (by kernel_rfl) 50 (.tmp 119) (.tmp 123) 50 rfl _ _ (by kernel_rfl) (by kernel_rfl) _ (fun w => G50.out w _ _ _ _) EE.out) hHeld ?_
                refine wpAnyH_take (i := 30) (v := .bool bE) rfl (by kernel_rfl) (by kernel_rfl) (by kernel_rfl) (fun _ _ _ h => h) (Or.inl ⟨by kernel_rfl, fun w _ => by kernel_rfl⟩) hHeld ?_
                refine wpAnyH_take (i := 31) (v := .bool bE) rfl (by kernel_rfl) (by kernel_rfl) (by kernel_rfl) (fun _ _ _ h => h) (Or.inl ⟨by kernel_rfl, fun w _ => by kernel_rfl⟩) hHeld ?_
                refine wpAnyH_done (by kernel_rfl) ?_ _
                exact ⟨.pointer (some ⟨qb, 0, none⟩), .pointer (some ⟨qb, 0, none⟩), .pointer (some ⟨qb, 33, none⟩), .agg (vI f1).toArray, .pointer (some ⟨pb, 0, none⟩), .pointer (some ⟨pb, 0, none⟩), .pointer (some ⟨pb, 33, none⟩), .agg (vI f2).toArray, .bool true, .bool true, .pointer (some ⟨qb, 0, none⟩), .pointer (some ⟨qb, 0, none⟩), .pointer (some ⟨qb, 49, none⟩), .agg (vB g1).toArray, .pointer (some ⟨pb, 0, none⟩), .pointer (some ⟨pb, 0, none⟩), .pointer (some ⟨pb, 49, none⟩), .agg (vB g2).toArray, .bool true, .bool true, .bool true, .pointer (some ⟨qb, 0, none⟩), .pointer (some ⟨qb, 0, none⟩), .pointer (some ⟨qb, 65, none⟩), .agg (vI e1).toArray, .pointer (some ⟨pb, 0, none⟩), .pointer (some ⟨pb, 0, none⟩), .pointer (some ⟨pb, 65, none⟩), .agg (vI e2).toArray, .bool bE, .bool bE, by kernel_rfl, hid (Kp.drew _ _)⟩
          · rintro e a' W4 hpost
            cases e with
            | normal =>
              obtain ⟨t95, t96, t97, t98, t99, t100, t101, t102, t103, t104, t105, t106, t107, t108, t109, t110, t111, t112, t113, t114, t115, t116, t117, t118, t119, t120, t121, t122, t123, t124, t125, rfl, K9⟩ := hpost
              obtain ⟨A0, hA0⟩ : ∃ A0, (bP && bB && bE) = A0 := ⟨_, rfl⟩
              rw [hA0] at HAL ⊢
              have KW := hid K9.out
              clear hA0 HS EP EB EE G50 G51 K9
              go_wp2_with fail
              go_loopw [16, 17] (fun va v wr2 => ∃ p : Nat, 1 ≤ p ∧ p ≤ 32 ∧ v = .int .i64 p ∧ va = .bool (A0 && eqTo L O (p - 1)) ∧ Hid (Kp wr wr2 [])) (fun _ v _ => 32 - (intOf v).toNat)
              case atStart => exact ⟨1, by omega, by omega, rfl, by simp [eqTo], KW⟩
              case round =>
                obtain ⟨p, p1, p2, rfl, rfl, hK⟩ := hrel
                clear KW
                obtain ⟨b, hb⟩ : ∃ b, (A0 && eqTo L O (p - 1)) = b := ⟨_, rfl⟩
                by_cases hp : p ≤ 31
                · have hpI : (p : Int) ≤ 31 := by omega
                  have HB := hid (show (A0 && eqTo L O p) = (b && decide (L p = O p)) from by
                    rw [← hb]
                    obtain ⟨k', rfl⟩ : ∃ k', p = k' + 1 := ⟨p - 1, by omega⟩
                    rw [eqTo, Nat.add_sub_cancel, Bool.and_assoc])
                  rw [hb]
                  clear hb
                  obtain ⟨V1, c1, hN1⟩ := (A8.out.2.1.keep hK.out).seq (p := p) (by omega)
                  obtain ⟨V2, c2, hN2⟩ := (HP.out.2.1.keep hK.out).seq (p := p) (by omega)
                  obtain ⟨ao1, cp1, rfl⟩ := hN1.slice
                  obtain ⟨ao2, cp2, rfl⟩ := hN2.slice
                  have N1 := hid hN1
                  have N2 := hid hN2
                  obtain ⟨z1, hz1⟩ : ∃ z, (L p).length = z := ⟨_, rfl⟩
                  obtain ⟨z2, hz2⟩ : ∃ z, (O p).length = z := ⟨_, rfl⟩
                  rw [hz1] at N1 c1
                  rw [hz2] at N2 c2
                  have C1 := hid c1
                  have C2 := hid c2
                  have ZZ := hid (And.intro hz1 hz2)
                  clear hN1 hN2 c1 c2 hz1 hz2
                  go_wp2_with fail
                  have a3 : (0 : Int) ≤ (p : Int) := by omega
                  have a4 : (p : Int) < 32 := by omega
                  have l1 := OKL.out.len p
                  have l2 := OKO.out.len p
                  have HS := hid (fun (W : World) (hk : Kp wr W []) => show W.cell? ⟨qb, 1 + p, none⟩ = some (.slice ao1 z1 cp1) ∧ W.cell? ⟨pb, 1 + p, none⟩ = some (.slice ao2 z2 cp2) from ⟨hk.cell C1.out (by simp), hk.cell C2.out (by simp)⟩)
                  refine wp_mono (Q := fun e a' W => match e with | .normal => ∃ (y130 y131 y132 y133 y134 y135 y136 y137 y138 y139 y140 y141 y142 y143 y144 y145 : Value), a' = { tmps := #[Value.int IntKind.i64 ↑q, Value.slice so N sc, Value.slice so' M sc', undef, undef, undef, u6, Value.pointer (some { block := xb, off := 0 }), Value.int IntKind.i64 0, Value.pointer (some { block := yb, off := 0 }), Value.int IntKind.i64 0, Value.pointer (some { block := qb, off := 0 }), Value.pointer (some { block := pb, off := 0 }), Value.int IntKind.i64 ↑i, Value.pointer (some { block := cb, off := 0 }), Value.int IntKind.i64 ↑k, .bool (b && decide (L p = O p)), Value.int IntKind.i64 ↑p, Value.int IntKind.i64 ↑q, Value.bool false, Value.bool false, Value.int IntKind.i64 ↑q, Value.bool false, Value.bool false, Value.bool false, Value.slice so N sc, Value.int IntKind.i64 ↑N, Value.bool false, Value.bool false, Value.bool false, Value.slice so' M sc', Value.int IntKind.i64 ↑M, Value.bool false, Value.bool false, undef, Value.tuple #[Value.pointer (some { block := xb, off := 0 }), Value.int IntKind.i64 0], Value.int IntKind.i64 ↑q, Value.tuple #[Value.pointer (some { block := xb, off := 0 }), Value.int IntKind.i64 0], Value.pointer (some { block := xb, off := 0 }), Value.int IntKind.i64 0, Value.tuple #[Value.pointer (some { block := yb, off := 0 }), Value.int IntKind.i64 0], Value.int IntKind.i64 ↑q, Value.tuple #[Value.pointer (some { block := yb, off := 0 }), Value.int IntKind.i64 0], Value.pointer (some { block := yb, off := 0 }), Value.int IntKind.i64 0, Value.int IntKind.i64 ↑q, Value.pointer (some { block := qb, off := 0 }), Value.int IntKind.i64 ↑q, Value.pointer (some { block := pb, off := 0 }), Value.int IntKind.i64 ↑i, Value.slice so N sc, Value.int IntKind.i64 ↑N, Value.bool false, u53, u54, u55, u56, u57, u58, u59, u60, u61, u62, u63, u64, u65, u66, u67, u68, Value.pointer (some { block := xb, off := 0 }), Value.pointer (some { block := cb, off := 0 }), Value.pointer (some { block := xb, off := 0 }), Value.pointer (some { block := cb, off := 0 }), Value.bool true, Value.bool false, Value.bool false, Value.pointer (some { block := xb, off := 0 }), Value.pointer (some { block := yb, off := 0 }), Value.bool true, Value.bool false, Value.bool false, Value.int IntKind.i64 ↑k, Value.slice so' M sc', Value.int IntKind.i64 ↑M, Value.bool false, u85, u86, u87, u88, u89, u90, u91, u92, u93, u94, t95, t96, t97, t98, t99, t100, t101, t102, t103, t104, t105, t106, t107, t108, t109, t110, t111, t112, t113, t114, t115, t116, t117, t118, t119, t120, t121, t122, t123, t124, t125, Value.int IntKind.i64 ↑p, Value.bool true, u128, u129, y130, y131, y132, y133, y134, y135, y136, y137, y138, y139, y140, y141, y142, y143, y144, y145, undef, undef, undef, undef, undef, undef, undef, undef, undef, undef, undef, undef, undef, undef, undef, undef, undef, undef], defers := [] } ∧ Hid (Kp wr W []) | _ => False) ?_ ?_
                  · cases b with
                    | false =>
                      refine wp_region_held_drew (S := fun W : World => W.cell? ⟨qb, 1 + p, none⟩ = some (.slice ao1 z1 cp1) ∧ W.cell? ⟨pb, 1 + p, none⟩ = some (.slice ao2 z2 cp2)) (by kernel_rfl) (HS.out _ (Kp.drew _ _)) (fun hHeld => ?_)
                      refine wpAnyH_take (i := 0) (v := .bool false) rfl (by kernel_rfl) (by kernel_rfl) (by kernel_rfl) (fun _ _ _ h => h) (Or.inl ⟨by kernel_rfl, fun w _ => by kernel_rfl⟩) hHeld ?_
                      refine wpAnyH_take (i := 1) (v := .bool false) rfl (by kernel_rfl) (by kernel_rfl) (by kernel_rfl) (fun _ _ _ h => h) (Or.inl ⟨by kernel_rfl, fun w _ => by kernel_rfl⟩) hHeld ?_
                      refine wpAnyH_take (i := 2) (v := undef) rfl (by kernel_rfl) (by kernel_rfl) (by kernel_rfl) (fun _ _ _ h => h) (Or.inr ⟨by kernel_rfl, rfl⟩) hHeld ?_
                      refine wpAnyH_take (i := 3) (v := undef) rfl (by kernel_rfl) (by kernel_rfl) (by kernel_rfl) (fun _ _ _ h => h) (Or.inr ⟨by kernel_rfl, rfl⟩) hHeld ?_
                      refine wpAnyH_take (i := 4) (v := undef) rfl (by kernel_rfl) (by kernel_rfl) (by kernel_rfl) (fun _ _ _ h => h) (Or.inr ⟨by kernel_rfl, rfl⟩) hHeld ?_
                      refine wpAnyH_take (i := 5) (v := undef) rfl (by kernel_rfl) (by kernel_rfl) (by kernel_rfl) (fun _ _ _ h => h) (Or.inr ⟨by kernel_rfl, rfl⟩) hHeld ?_
                      refine wpAnyH_take (i := 6) (v := undef) rfl (by kernel_rfl) (by kernel_rfl) (by kernel_rfl) (fun _ _ _ h => h) (Or.inr ⟨by kernel_rfl, rfl⟩) hHeld ?_
                      refine wpAnyH_take (i := 7) (v := undef) rfl (by kernel_rfl) (by kernel_rfl) (by kernel_rfl) (fun _ _ _ h => h) (Or.inr ⟨by kernel_rfl, rfl⟩) hHeld ?_
                      refine wpAnyH_take (i := 8) (v := undef) rfl (by kernel_rfl) (by kernel_rfl) (by kernel_rfl) (fun _ _ _ h => h) (Or.inr ⟨by kernel_rfl, rfl⟩) hHeld ?_
                      refine wpAnyH_take (i := 9) (v := undef) rfl (by kernel_rfl) (by kernel_rfl) (by kernel_rfl) (fun _ _ _ h => h) (Or.inr ⟨by kernel_rfl, rfl⟩) hHeld ?_
                      refine wpAnyH_take (i := 10) (v := undef) rfl (by kernel_rfl) (by kernel_rfl) (by kernel_rfl) (fun _ _ _ h => h) (Or.inr ⟨by kernel_rfl, rfl⟩) hHeld ?_
                      refine wpAnyH_take (i := 11) (v := undef) rfl (by kernel_rfl) (by kernel_rfl) (by kernel_rfl) (fun _ _ _ h => h) (Or.inr ⟨by kernel_rfl, rfl⟩) hHeld ?_
                      refine wpAnyH_take (i := 12) (v := undef) rfl (by kernel_rfl) (by kernel_rfl) (by kernel_rfl) (fun _ _ _ h => h) (Or.inr ⟨by kernel_rfl, rfl⟩) hHeld ?_
                      refine wpAnyH_take (i := 13) (v := undef) rfl (by kernel_rfl) (by kernel_rfl) (by kernel_rfl) (fun _ _ _ h => h) (Or.inr ⟨by kernel_rfl, rfl⟩) hHeld ?_
                      refine wpAnyH_take (i := 14) (v := undef) rfl (by kernel_rfl) (by kernel_rfl) (by kernel_rfl) (fun _ _ _ h => h) (Or.inr ⟨by kernel_rfl, rfl⟩) hHeld ?_
                      refine wpAnyH_take (i := 15) (v := .bool false) rfl (by kernel_rfl) (by kernel_rfl) (by kernel_rfl) (fun _ _ _ h => h) (Or.inl ⟨by kernel_rfl, fun w _ => by kernel_rfl⟩) hHeld ?_
                      refine wpAnyH_take (i := 16) (v := .bool false) rfl (by kernel_rfl) (by kernel_rfl) (by kernel_rfl) (fun _ _ _ h => h) (Or.inl ⟨by kernel_rfl, fun w _ => by kernel_rfl⟩) hHeld ?_
                      refine wpAnyH_done (by kernel_rfl) ?_ _
                      exact ⟨.bool false, .bool false, undef, undef, undef, undef, undef, undef, undef, undef, undef, undef, undef, undef, undef, .bool false, by kernel_rfl, hid (Kp.drew _ _)⟩
                    | true =>
                      refine wp_region_held_drew (S := fun W : World => W.cell? ⟨qb, 1 + p, none⟩ = some (.slice ao1 z1 cp1) ∧ W.cell? ⟨pb, 1 + p, none⟩ = some (.slice ao2 z2 cp2)) (by kernel_rfl) (HS.out _ (Kp.drew _ _)) (fun hHeld => ?_)
                      refine wpAnyH_take (i := 0) (v := .bool true) rfl (by kernel_rfl) (by kernel_rfl) (by kernel_rfl) (fun _ _ _ h => h) (Or.inl ⟨by kernel_rfl, fun w _ => by kernel_rfl⟩) hHeld ?_
                      refine wpAnyH_take (i := 1) (v := .bool true) rfl (by kernel_rfl) (by kernel_rfl) (by kernel_rfl) (fun _ _ _ h => h) (Or.inl ⟨by kernel_rfl, fun w _ => by kernel_rfl⟩) hHeld ?_
                      refine wpAnyH_take (i := 2) (v := .pointer (some ⟨qb, 0, none⟩)) rfl (by kernel_rfl) (by kernel_rfl) (by kernel_rfl) (fun _ _ _ h => h) (Or.inl ⟨by kernel_rfl, fun w _ => by kernel_rfl⟩) hHeld ?_
                      refine wpAnyH_take (i := 3) (v := .int .i64 (p : Nat)) rfl (by kernel_rfl) (by kernel_rfl) (by kernel_rfl) (fun _ _ _ h => h) (Or.inl ⟨by kernel_rfl, fun w _ => by kernel_rfl⟩) hHeld ?_
                      refine wpAnyH_take (i := 4) (v := .pointer (some ⟨qb, 0, none⟩)) rfl (by kernel_rfl) (by kernel_rfl) (by kernel_rfl) (fun _ _ _ h => h) (Or.inl ⟨by kernel_rfl, fun w _ => by kernel_rfl⟩) hHeld ?_
                      refine wpAnyH_take (i := 5) (v := .pointer (some ⟨qb, 1, none⟩)) rfl (by kernel_rfl) (by kernel_rfl) (by kernel_rfl) (fun _ _ _ h => h) (Or.inl ⟨by kernel_rfl, fun w _ => by kernel_rfl⟩) hHeld ?_
                      refine wpAnyH_take (i := 6) (v := .pointer (some ⟨qb, 1 + p, none⟩)) rfl (by kernel_rfl) (by kernel_rfl) (by kernel_rfl) (fun _ _ _ h => h) (Or.inl ⟨by kernel_rfl, by intro w hSw; obtain ⟨s1, s2⟩ := hSw; go_simp⟩) hHeld ?_
                      refine wpAnyH_take (i := 7) (v := .slice ao1 z1 cp1) rfl (by kernel_rfl) (by kernel_rfl) (by kernel_rfl) (fun _ _ _ h => h) (Or.inl ⟨by kernel_rfl, by intro w hSw; obtain ⟨s1, s2⟩ := hSw; go_simp⟩) hHeld ?_
                      refine wpAnyH_take (i := 8) (v := .pointer (some ⟨pb, 0, none⟩)) rfl (by kernel_rfl) (by kernel_rfl) (by kernel_rfl) (fun _ _ _ h => h) (Or.inl ⟨by kernel_rfl, fun w _ => by kernel_rfl⟩) hHeld ?_
                      refine wpAnyH_take (i := 9) (v := .int .i64 (p : Nat)) rfl (by kernel_rfl) (by kernel_rfl) (by kernel_rfl) (fun _ _ _ h => h) (Or.inl ⟨by kernel_rfl, fun w _ => by kernel_rfl⟩) hHeld ?_
                      refine wpAnyH_take (i := 10) (v := .pointer (some ⟨pb, 0, none⟩)) rfl (by kernel_rfl) (by kernel_rfl) (by kernel_rfl) (fun _ _ _ h => h) (Or.inl ⟨by kernel_rfl, fun w _ => by kernel_rfl⟩) hHeld ?_
                      refine wpAnyH_take (i := 11) (v := .pointer (some ⟨pb, 1, none⟩)) rfl (by kernel_rfl) (by kernel_rfl) (by kernel_rfl) (fun _ _ _ h => h) (Or.inl ⟨by kernel_rfl, fun w _ => by kernel_rfl⟩) hHeld ?_
                      refine wpAnyH_take (i := 12) (v := .pointer (some ⟨pb, 1 + p, none⟩)) rfl (by kernel_rfl) (by kernel_rfl) (by kernel_rfl) (fun _ _ _ h => h) (Or.inl ⟨by kernel_rfl, by intro w hSw; obtain ⟨s1, s2⟩ := hSw; go_simp⟩) hHeld ?_
                      refine wpAnyH_take (i := 13) (v := .slice ao2 z2 cp2) rfl (by kernel_rfl) (by kernel_rfl) (by kernel_rfl) (fun _ _ _ h => h) (Or.inl ⟨by kernel_rfl, by intro w hSw; obtain ⟨s1, s2⟩ := hSw; go_simp⟩) hHeld ?_
                      refine wpAnyH_ready (rs := [14]) (by kernel_rfl) (by simp) ?_
                      refine AllReadyH.cons rfl (fun K hK2 => ?_) AllReadyH.nil
                      go_simp
                      refine (ints_any _ _ _ _ _ (L p) (O p) (N1.out.keep (Kp.drew _ _)) (N2.out.keep (Kp.drew _ _)) (by omega) (by omega)).mono ?_
                      rintro e w5 ⟨rfl, hk5⟩
                      have K5 := hid ((Kp.drew wr []).trans hk5)
                      clear hk5
                      obtain ⟨d, hd⟩ : ∃ d, decide (L p = O p) = d := ⟨_, rfl⟩
                      rw [hd]
                      have HD := hid hd
                      clear hd
                      go_simp
                      refine hK2.out _ _ (HS.out _ K5.out) (fun hHeld => ?_)
                      refine wpAnyH_take (i := 15) (v := .bool d) rfl (by kernel_rfl) (by kernel_rfl) (by kernel_rfl) (fun _ _ _ h => h) (Or.inl ⟨by kernel_rfl, fun w _ => by kernel_rfl⟩) hHeld ?_
                      refine wpAnyH_take (i := 16) (v := .bool d) rfl (by kernel_rfl) (by kernel_rfl) (by kernel_rfl) (fun _ _ _ h => h) (Or.inl ⟨by kernel_rfl, fun w _ => by kernel_rfl⟩) hHeld ?_
                      refine wpAnyH_done (by kernel_rfl) ?_ _
                      exact ⟨.bool true, .bool true, .pointer (some ⟨qb, 0, none⟩), .int .i64 (p : Nat), .pointer (some ⟨qb, 0, none⟩), .pointer (some ⟨qb, 1, none⟩), .pointer (some ⟨qb, 1 + p, none⟩), .slice ao1 z1 cp1, .pointer (some ⟨pb, 0, none⟩), .int .i64 (p : Nat), .pointer (some ⟨pb, 0, none⟩), .pointer (some ⟨pb, 1, none⟩), .pointer (some ⟨pb, 1 + p, none⟩), .slice ao2 z2 cp2, .bool d, .bool d, by rw [HD.out]; kernel_rfl, K5⟩
                  · rintro e a' W4 hpost
                    cases e with
                    | normal =>
                      obtain ⟨y130, y131, y132, y133, y134, y135, y136, y137, y138, y139, y140, y141, y142, y143, y144, y145, rfl, K9⟩ := hpost
                      have KW := hid (hK.out.trans K9.out)
                      clear K9
                      rw [← HB.out]
                      go_wp2
                      go_roundw
                      case rel => exact ⟨p + 1, by omega, by omega, by simp, by rw [Nat.add_sub_cancel], KW⟩
                      case measure => simp [intOf]; omega
                    | _ => exact hpost.elim
                · have hpI : ¬ (p : Int) ≤ 31 := by omega
                  have hp32 : p - 1 = 31 := by omega
                  rw [hp32] at hb
                  rw [hp32, hb]
                  have HB := hid (show b = (sameS U T && decide (seqs O 31 = seqs L 31)) from by rw [← hb]; exact HAL.out)
                  clear hb hp32
                  obtain ⟨x1, z1, t1⟩ := A8.out.1.tn
                  obtain ⟨x2, z2, t2⟩ := HP.out.1.tn
                  have X9 := hid (t1.same hK.out)
                  have C9 := hid (t2.same hK.out)
                  have Y9 := hid (B8.out.same hK.out)
                  have A9 := hid (show Pl w _ xb rb qb q T L (i * 20) from ⟨A8.out.1.same hK.out, A8.out.2.1.keep hK.out, A8.out.2.2⟩)
                  clear t1 t2 z1 z2 A8 B8 HP hK
                  go_wp2_with fail
                  refine (X9.out.eq Y9.out).mono ?_
                  rintro e w6 ⟨rfl, hk6⟩
                  rw [show (decide (q = q) && sameS T T && decide (seqs L 31 = seqs L 31)) = true from by simp [sameS]]
                  have K6 := hid hk6
                  clear hk6
                  go_wp2_with fail
                  refine ((C9.out.same K6.out).eq (X9.out.same K6.out)).mono ?_
                  rintro e w7 ⟨rfl, hk7⟩
                  rw [show (decide (q = q) && sameS U T && decide (seqs O 31 = seqs L 31)) = b from by rw [HB.out]; simp]
                  have A10 := hid (show Pl w w7 xb rb qb q T L (i * 20) from ⟨A9.out.1.same (K6.out.trans hk7), A9.out.2.1.keep (K6.out.trans hk7), A9.out.2.2⟩)
                  clear hk7 HB HAL
                  have hbb : (b == b) = true := by simp
                  go_wp2_with fail
                  refine (A10.out.stands (by omega)).mono ?_
                  rintro e w8 ⟨rfl, hP8⟩
                  have K8 := hid hP8.kp
                  clear hP8
                  go_wp2_with fail
                  refine (known_any _).mono ?_
                  rintro e w9 ⟨rfl, hk9⟩
                  have K9 := hid (K8.out.trans hk9)
                  clear hk9
                  go_wp2
                  go_ret
                  exact ⟨rfl, K9.out⟩
            | _ => exact hpost.elim
theorem copies_walk (w : World) (q : Int) (V V' : Value) (N M : Nat) (S S' : Nat → Sp) (hV : Sc w V N S) (hV' : Sc w V' M S') : Calls Try.prog 7 #[.int .i64 q, V, V'] w fun e w' => e = .returned (.bool true) ∧ Kp w w' [] := by
  by_cases h : (1 ≤ q ∧ q ≤ 100) ∧ N ≤ 100 ∧ M ≤ 100
  · obtain ⟨q', rfl⟩ : ∃ n : Nat, q = n := ⟨q.toNat, by omega⟩
    exact copies_ok w q' V V' N M S S' hV hV' (by omega) (by omega) h.2.1 h.2.2
  · exact copies_no w q V V' N M S S' hV hV' h
end Go.Proofs.Ytclbphnelfacfaa
