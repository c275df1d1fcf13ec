/- InheritCopies' walk: a copy is the same, and goes on apart. -/
import Derived.Test.YtomdnppnabncaaaEq
import Derived.Shelf.RegionOpen
namespace Go.Proofs.Ytomdnppnabncaaa
open Go.RowKit Go.Shelf
open Go.Lib hiding intOf

theorem yieldsIf_eql {P : Program} {ops : Array Oper} {Sw : World → Prop} {op : Oper} {a : Act} (hw : Region.wanted op (yielded ops a.tmps) = true) (t : TypeId) (x y : Operand) (k : TypeId) (ho : op.op = .binOp .eql t x y k) (xs ys : Array Value)
    (hx : a.eval x = .agg xs) (hy : a.eval y = .agg ys) (b : Bool) (hg : ∀ w, (eqGuard .eql t x y (.agg xs) (.agg ys)).run P w = .ok () w) (he : ∀ w, (binOp .eql t (.agg xs) (.agg ys)).run P w = .ok (.bool b) w) : YieldsIf P ops Sw op (.bool b) a :=
  .inl ⟨hw, fun w _ => by
    unfold execOp
    simp only [ho, hx, hy, Sem.run_bind, hg, he, Result.andThen_ok, Sem.run_pure]⟩
/-- Two pairs apart. -/
structure Two (Gr : World → Nat → Gs → Prop) (w W : World) (gb rb ob qb : Nat) (G H : Gs) : Prop where
  a : Pl Gr w W gb rb G
  b : Pl Gr w W ob qb H
  d1 : gb ≠ ob
  d2 : rb ≠ qb
section
variable {Gr : World → Nat → Gs → Prop} {w W W' : World} {gb rb ob qb cb : Nat} {G H : Gs}
theorem Two.same (P : Prg Gr) (h : Two Gr w W gb rb ob qb G H) (hk : Kp W W' []) : Two Gr w W' gb rb ob qb G H := ⟨h.a.same P hk, h.b.same P hk, h.d1, h.d2⟩
theorem Two.swap (h : Two Gr w W gb rb ob qb G H) : Two Gr w W ob qb gb rb H G := ⟨h.b, h.a, h.d1.symm, h.d2.symm⟩
theorem Two.step (P : Prg Gr) (h : Two Gr w W gb rb ob qb G H) (k t x : Int) : Calls Try.prog 11 #[.pointer (some ⟨gb, 0, none⟩), .pointer (some ⟨rb, 0, none⟩), .agg #[.int .i64 k, .int .i64 t, .int .i64 x]] W fun e w' => e = .returned (.bool true) ∧ Two Gr w w' gb rb ob qb (stepG G k t x) H := by
  refine (h.a.step P k t x).mono ?_
  rintro e w' ⟨rfl, ha, hk⟩
  have n1 : ob ∉ [gb, rb] := by
    have := P.ne h.b.gr h.a.rr
    have := h.d1
    simp
    omega
  have n2 : qb ∉ [gb, rb] := by
    have := P.ne h.a.gr h.b.rr
    have := h.d2
    simp
    omega
  exact ⟨rfl, ha, ⟨P.keep h.b.gr hk n1, h.b.rr.keep hk n2, h.b.g0, h.b.r0, ha.kp⟩, h.d1, h.d2⟩
/-- Behind the copy: the copy goes on with the second reference. -/
structure Thr (Gr : World → Nat → Gs → Prop) (w W : World) (gb rb ob cb qb : Nat) (G H : Gs) : Prop where
  t : Two Gr w W gb rb cb qb G H
  o : Gr W ob G
  d3 : ob ≠ cb
  o0 : w.heap.size ≤ ob
theorem Thr.same (P : Prg Gr) (h : Thr Gr w W gb rb ob cb qb G H) (hk : Kp W W' []) : Thr Gr w W' gb rb ob cb qb G H := ⟨h.t.same P hk, P.still h.o hk, h.d3, h.o0⟩
theorem Thr.step (P : Prg Gr) (h : Thr Gr w W gb rb ob cb qb G H) (k t x : Int) : Calls Try.prog 11 #[.pointer (some ⟨cb, 0, none⟩), .pointer (some ⟨qb, 0, none⟩), .agg #[.int .i64 k, .int .i64 t, .int .i64 x]] W fun e w' => e = .returned (.bool true) ∧ Thr Gr w w' gb rb ob cb qb G (stepG H k t x) := by
  refine (h.t.b.step P k t x).mono ?_
  rintro e w' ⟨rfl, ha, hk⟩
  have n1 : gb ∉ [cb, qb] := by
    have := P.ne h.t.a.gr h.t.b.rr
    have := h.t.d1
    simp
    omega
  have n2 : rb ∉ [cb, qb] := by
    have := P.ne h.t.b.gr h.t.a.rr
    have := h.t.d2
    simp
    omega
  have n3 : ob ∉ [cb, qb] := by
    have := P.ne h.o h.t.b.rr
    have := h.d3
    simp
    omega
  exact ⟨rfl, ⟨⟨P.keep h.t.a.gr hk n1, h.t.a.rr.keep hk n2, h.t.a.g0, h.t.a.r0, ha.kp⟩, ha, h.t.d1, h.t.d2⟩, P.keep h.o hk n3, h.d3, h.o0⟩
end
section
variable {Gr : World → Nat → Gs → Prop}
set_option maxRecDepth 100000 in
set_option maxHeartbeats 4000000 in
theorem copies_no (P : Prg Gr) (kn : KnownOk) (w : World) (k : Int) (V V' : Value) (N N' : Nat) (S S' : Nat → Sp) (hV : Sc w V N S) (hV' : Sc w V' N' S') (hk : ¬ (1 ≤ k ∧ k ≤ 16)) : Calls Try.prog 6 #[.int .i64 k, V, V'] w fun e w' => e = .returned (.bool true) ∧ Kp w w' [] := by
  obtain ⟨so, sc, rfl⟩ := hV.shape
  obtain ⟨so', sc', rfl⟩ := hV'.shape
  have c1 := P.new_no w k hk
  clear hV hV' hk
  go_enter Try.func6, Try.ntmps6
  go_wp2_with fail
  refine c1.mono ?_
  rintro e w1 ⟨rfl, k1⟩
  have K1 := hid k1
  clear k1 c1
  go_wp2_with fail
  refine (kn _).mono ?_
  rintro e w3 ⟨rfl, k3⟩
  have K3 := hid (K1.out.trans k3)
  clear k3 K1
  go_wp2
  go_ret
  exact ⟨rfl, K3.out⟩
set_option maxRecDepth 100000 in
set_option maxHeartbeats 8000000 in
theorem copies_ok (P : Prg Gr) (kn : KnownOk) (st : StandsOk Gr) (w : World) (n : Nat) (h1 : 1 ≤ n) (h2 : n ≤ 16) (V V' : Value) (N N' : Nat) (S S' : Nat → Sp) (hV : Sc w V N S) (hV' : Sc w V' N' S') : Calls Try.prog 6 #[.int .i64 n, V, V'] w fun e w' => e = .returned (.bool true) ∧ Kp w w' [] := by
  obtain ⟨so, sc, rfl⟩ := hV.shape
  obtain ⟨so', sc', rfl⟩ := hV'.shape
  have HV := hid hV
  have HV' := hid hV'
  have C1 := hid (fun W => P.new_ok W n h1 h2)
  have C2 := hid (fun W => rnew_ok W n h1 h2)
  clear hV hV'
  go_enter Try.func6, Try.ntmps6
  go_wp2_with fail
  refine (C1.out w).mono ?_
  rintro e w1 ⟨⟨gb, rfl, hg0, hg⟩, k1⟩
  have H1 := hid (And.intro hg0 (And.intro hg k1))
  clear k1 hg hg0
  by_cases hN : N ≤ 100
  case' neg =>
    have hNI : (100 : Int) < N := by omega
    have K6 := hid H1.out.2.2
    go_wp2_with fail
    refine (kn _).mono ?_
    rintro e W7 ⟨rfl, k7⟩
    have K7 := hid (K6.out.trans k7)
    clear k7 K6
    go_wp2
    go_ret
    exact ⟨rfl, K7.out⟩
  have hNI : ¬ (100 : Int) < N := by omega
  by_cases hM : N' ≤ 100
  case' neg =>
    have hMI : (100 : Int) < N' := by omega
    have K6 := hid H1.out.2.2
    go_wp2_with fail
    refine (kn _).mono ?_
    rintro e W7 ⟨rfl, k7⟩
    have K7 := hid (K6.out.trans k7)
    clear k7 K6
    go_wp2
    go_ret
    exact ⟨rfl, K7.out⟩
  have hMI : ¬ (100 : Int) < N' := by omega
  go_wp2_with fail
  refine (C1.out w1).mono ?_
  rintro e w2 ⟨⟨ob, rfl, ho0, ho⟩, k2⟩
  have H2 := hid (And.intro ho0 (And.intro ho k2))
  clear k2 ho ho0
  go_wp2_with fail
  refine (C2.out w2).mono ?_
  rintro e w3 ⟨rfl, hr, k3⟩
  obtain ⟨rb, hrb⟩ : ∃ rb, w2.heap.size = rb := ⟨_, rfl⟩
  rw [hrb] at hr
  have H3 := hid (And.intro hr k3)
  clear hr k3
  go_wp2_with fail
  refine (C2.out w3).mono ?_
  rintro e w4 ⟨rfl, hq, k4⟩
  obtain ⟨qb, hqb⟩ : ∃ qb, w3.heap.size = qb := ⟨_, rfl⟩
  rw [hqb] at hq
  have T0 := hid (show Two Gr w w4 gb rb ob qb (newG n) (newG n) from by
    have s1 := H1.out.2.2.size
    have s2 := H2.out.2.2.size
    have s3 := H3.out.2.size
    have l1 := P.lt H1.out.2.1
    have l2 := H3.out.1.lt
    have kk := (H1.out.2.2.trans H2.out.2.2).trans (H3.out.2.trans k4)
    refine ⟨⟨P.still H1.out.2.1 (H2.out.2.2.trans (H3.out.2.trans k4)), H3.out.1.same k4, H1.out.1, by omega, kk⟩, ⟨P.still H2.out.2.1 (H3.out.2.trans k4), hq, ?_, by omega, kk⟩, ?_, by omega⟩
    · have := H2.out.1
      omega
    · have := H2.out.1
      omega)
  clear hq k4 H1 H2 H3
  go_wp2_with fail
  clear hrb hqb
  go_loopw [13] (fun vi W => ∃ (i : Nat) (G : Gs), i ≤ N ∧ vi = .int .i64 i ∧ Hid (Two Gr w W gb rb ob qb G G)) (fun vi _ => N - (intOf vi).toNat)
  case atStart => exact ⟨0, _, by omega, rfl, T0⟩
  case round =>
    obtain ⟨i, G, hi, rfl, hT⟩ := hrel
    clear T0
    by_cases hin : i < N
    · have hx : (i : Int) < N := by omega
      obtain ⟨sb, off, rfl, y0, y1, y2⟩ := (HV.out.keep hT.out.a.kp).at hin
      go_wp2_with fail
      refine (hT.out.step P (S i).k (S i).t (S i).p).mono ?_
      rintro e W3 ⟨rfl, hT2⟩
      have T2 := hid hT2
      clear hT2 hT y0 y1 y2
      obtain ⟨sb', off', e9, y0, y1, y2⟩ := (HV.out.keep T2.out.a.kp).at hin
      simp only [Option.some.injEq, Addr.mk.injEq, and_true] at e9
      obtain ⟨rfl, rfl⟩ := e9
      go_wp2_with fail
      refine (T2.out.swap.step P (S i).k (S i).t (S i).p).mono ?_
      rintro e W4 ⟨rfl, hT3⟩
      have T3 := hid hT3.swap
      clear hT3 T2 y0 y1 y2
      go_wp2
      go_roundw
      case rel => exact ⟨i + 1, _, by omega, by simp, T3⟩
      case measure => simp [intOf]; omega
    · have hx : ¬ (i : Int) < N := by omega
      have HT := hid hT.out
      have cc := P.copy wr gb G HT.out.a.gr
      clear hT hin
      go_wp2_with fail
      refine cc.mono ?_
      rintro e W5 ⟨⟨cb, rfl, hc0, hc⟩, k5⟩
      have T5 := hid (show Thr Gr w W5 gb rb ob cb qb G G from by
        have t5 := HT.out.same P k5
        have l1 := P.lt HT.out.a.gr
        have l2 := P.lt HT.out.b.gr
        have s1 := HT.out.a.kp.size
        exact ⟨⟨t5.a, ⟨hc, t5.b.rr, by omega, t5.b.r0, t5.b.kp⟩, by omega, t5.d2⟩, t5.b.gr, by omega, t5.b.g0⟩)
      clear cc hc hc0 k5 HT
      have cs := P.same W5 gb cb G G T5.out.t.a.gr T5.out.t.b.gr
      rw [sameG_refl] at cs
      go_wp2_with fail
      refine cs.mono ?_
      rintro e W6 ⟨rfl, n6, hW6⟩
      have T6 := hid (show Thr Gr w W6 gb rb ob cb qb G G by rw [hW6]; exact T5.out.same P (Kp.drewN _ _ _))
      clear hW6 cs T5
      have cs := P.same W6 gb ob G G T6.out.t.a.gr T6.out.o
      rw [sameG_refl] at cs
      go_wp2_with fail
      refine cs.mono ?_
      rintro e W7 ⟨rfl, n7, hW7⟩
      have T7 := hid (show Thr Gr w W7 gb rb ob cb qb G G by rw [hW7]; exact T6.out.same P (Kp.drewN _ _ _))
      clear hW7 cs T6
      go_wp2_with fail
      go_loopw [15] (fun vj W => ∃ (j : Nat) (H : Gs), j ≤ N' ∧ vj = .int .i64 j ∧ Hid (Thr Gr w W gb rb ob cb qb G H)) (fun vj _ => N' - (intOf vj).toNat)
      case atStart => exact ⟨0, _, by omega, rfl, T7⟩
      case round =>
        obtain ⟨j, H, hj, rfl, hT⟩ := hrel
        clear T7
        by_cases hjn : j < N'
        · have hx2 : (j : Int) < N' := by omega
          obtain ⟨xb, off, rfl, y0, y1, y2⟩ := (HV'.out.keep hT.out.t.a.kp).at hjn
          go_wp2_with fail
          refine (hT.out.step P (S' j).k (S' j).t (S' j).p).mono ?_
          rintro e W8 ⟨rfl, hT2⟩
          have T2 := hid hT2
          clear hT2 hT y0 y1 y2
          go_wp2
          go_roundw
          case rel => exact ⟨j + 1, _, by omega, by simp, T2⟩
          case measure => simp [intOf]; omega
        · have hx2 : ¬ (j : Int) < N' := by omega
          obtain ⟨SB, hSB⟩ : ∃ SB, sameG G H = SB := ⟨_, rfl⟩
          have EQ := hid (eq39 G H)
          rw [hSB] at EQ
          have G39 := hid (fun (w : World) (x y : Operand) (xs ys : Array Value) => run_eqGuard_agg (P := Try.prog) w .eql 39 x y xs ys (by kernel_rfl))
          have HS := hid (fun (W : World) (hk : Kp wr W []) => show W.rangeAt rb 0 (vG G) ∧ W.rangeAt qb 0 (vG H) from ⟨vG_range (hT.out.t.a.rr.same hk), vG_range (hT.out.t.b.rr.same hk)⟩)
          have C20a := hid (show ∀ W, Kp wr W [] → Calls Try.prog 20 #[.pointer (some ⟨gb, 0, none⟩), .pointer (some ⟨ob, 0, none⟩)] W fun e w' => e = .returned (.bool true) ∧ Kp W w' [] from fun W hk => by
            have := P.same W gb ob G G (P.still hT.out.t.a.gr hk) (P.still hT.out.o hk)
            rw [sameG_refl] at this
            exact this.mono fun e w' ⟨a, n, b⟩ => ⟨a, by rw [b]; exact Kp.drewN _ _ _⟩)
          have C20b := hid (show ∀ W, Kp wr W [] → Calls Try.prog 20 #[.pointer (some ⟨cb, 0, none⟩), .pointer (some ⟨gb, 0, none⟩)] W fun e w' => e = .returned (.bool SB) ∧ Kp W w' [] from fun W hk => by
            have := P.same W cb gb H G (P.still hT.out.t.b.gr hk) (P.still hT.out.t.a.gr hk)
            rw [sameG_symm, hSB] at this
            exact this.mono fun e w' ⟨a, n, b⟩ => ⟨a, by rw [b]; exact Kp.drewN _ _ _⟩)
          have C12 := hid (show ∀ W, Kp wr W [] → Calls Try.prog 12 #[.pointer (some ⟨gb, 0, none⟩), .pointer (some ⟨rb, 0, none⟩), .int .i64 (-1)] W fun e w' => e = .returned (.bool true) ∧ Kp W w' [] from fun W hk => st W gb rb G (-1) (P.still hT.out.t.a.gr hk) (hT.out.t.a.rr.same hk))
          have hbb : ∀ W : World, (binOp .eql 4 (.bool SB) (.bool SB)).run Try.prog W = .ok (.bool true) W := fun W => by cases SB <;> kernel_rfl
          have KW := hid hT.out.t.a.kp
          clear hSB hT
          go_wp2_with fail
          refine wp_only ?_
          refine wp_region_held_drew (S := fun W : World => W.rangeAt rb 0 (vG G) ∧ W.rangeAt qb 0 (vG H)) (by kernel_rfl) (HS.out _ (Kp.drew _ _)) (fun hHeld => ?_)
          refine wpAnyH_take (i := 0) (v := .pointer (some ⟨gb, 0, none⟩)) rfl (by kernel_rfl) (by kernel_rfl) (by kernel_rfl) (fun _ _ _ h => h) (Or.inl ⟨by kernel_rfl, fun w _ => by kernel_rfl⟩) hHeld ?_
          refine wpAnyH_take (i := 1) (v := .pointer (some ⟨ob, 0, none⟩)) rfl (by kernel_rfl) (by kernel_rfl) (by kernel_rfl) (fun _ _ _ h => h) (Or.inl ⟨by kernel_rfl, fun w _ => by kernel_rfl⟩) hHeld ?_
          refine wpAnyH_ready (rs := [2]) (by kernel_rfl) (by simp) ?_
          refine AllReadyH.cons rfl (fun K hK => ?_) AllReadyH.nil
          go_simp
          refine (C20a.out _ (Kp.drew _ _)).mono ?_
          rintro e y2 ⟨rfl, hk2⟩
          have z1 := hid ((Kp.drew wr []).trans hk2)
          clear hk2
          go_simp
          refine hK.out _ _ (HS.out _ z1.out) (fun hHeld => ?_)
          refine wpAnyH_take (i := 3) (v := .bool true) rfl (by kernel_rfl) (by kernel_rfl) (by kernel_rfl) (fun _ _ _ h => h) (Or.inl ⟨by kernel_rfl, fun w _ => by kernel_rfl⟩) hHeld ?_
          refine wpAnyH_take (i := 4) (v := .pointer (some ⟨cb, 0, none⟩)) rfl (by kernel_rfl) (by kernel_rfl) (by kernel_rfl) (fun _ _ _ h => h) (Or.inl ⟨by kernel_rfl, fun w _ => by kernel_rfl⟩) hHeld ?_
          refine wpAnyH_take (i := 5) (v := .pointer (some ⟨gb, 0, none⟩)) rfl (by kernel_rfl) (by kernel_rfl) (by kernel_rfl) (fun _ _ _ h => h) (Or.inl ⟨by kernel_rfl, fun w _ => by kernel_rfl⟩) hHeld ?_
          refine wpAnyH_take (i := 7) (v := .pointer (some ⟨rb, 0, none⟩)) rfl (by kernel_rfl) (by kernel_rfl) (by kernel_rfl) (fun _ _ _ h => h) (Or.inl ⟨by kernel_rfl, fun w _ => by kernel_rfl⟩) hHeld ?_
          refine wpAnyH_take (i := 8) (v := .pointer (some ⟨rb, 0, none⟩)) rfl (by kernel_rfl) (by kernel_rfl) (by kernel_rfl) (fun _ _ _ h => h) (Or.inl ⟨by kernel_rfl, fun w _ => by kernel_rfl⟩) hHeld ?_
          refine wpAnyH_take (i := 9) (v := .agg (vG G).toArray) rfl (by kernel_rfl) (by kernel_rfl) (by kernel_rfl) (fun _ _ _ h => h) (yieldsIf_load_mid (by kernel_rfl) 39 (.tmp 99) rfl rb 0 (by kernel_rfl) _ _ (fun _ hw => hw.1) Try.underlying39 rfl (size39 _)) hHeld ?_
          refine wpAnyH_take (i := 10) (v := .pointer (some ⟨qb, 0, none⟩)) rfl (by kernel_rfl) (by kernel_rfl) (by kernel_rfl) (fun _ _ _ h => h) (Or.inl ⟨by kernel_rfl, fun w _ => by kernel_rfl⟩) hHeld ?_
          refine wpAnyH_take (i := 11) (v := .pointer (some ⟨qb, 0, none⟩)) rfl (by kernel_rfl) (by kernel_rfl) (by kernel_rfl) (fun _ _ _ h => h) (Or.inl ⟨by kernel_rfl, fun w _ => by kernel_rfl⟩) hHeld ?_
          refine wpAnyH_take (i := 12) (v := .agg (vG H).toArray) rfl (by kernel_rfl) (by kernel_rfl) (by kernel_rfl) (fun _ _ _ h => h) (yieldsIf_load_mid (by kernel_rfl) 39 (.tmp 102) rfl qb 0 (by kernel_rfl) _ _ (fun _ hw => hw.2) Try.underlying39 rfl (size39 _)) hHeld ?_
          refine wpAnyH_take (i := 13) (v := .bool SB) rfl (by kernel_rfl) (by kernel_rfl) (by kernel_rfl) (fun _ _ _ h => h) (yieldsIf_eql (by kernel_rfl) 39 (.tmp 100) (.tmp 103) 39 rfl _ _ (by kernel_rfl) (by kernel_rfl) _ (fun w => G39.out w _ _ _ _) EQ.out) hHeld ?_
          refine wpAnyH_ready (rs := [6]) (by kernel_rfl) (by simp) ?_
          refine AllReadyH.cons rfl (fun K hK => ?_) AllReadyH.nil
          go_simp
          refine (C20b.out _ z1.out).mono ?_
          rintro e y6 ⟨rfl, hk6⟩
          have z2 := hid (z1.out.trans hk6)
          clear hk6
          go_simp
          refine hK.out _ _ (HS.out _ z2.out) (fun hHeld => ?_)
          refine wpAnyH_take (i := 14) (v := .bool true) rfl (by kernel_rfl) (by kernel_rfl) (by kernel_rfl) (fun _ _ _ h => h) (Or.inl ⟨by kernel_rfl, by intro w hSw; go_simp⟩) hHeld ?_
          refine wpAnyH_take (i := 15) (v := .bool true) rfl (by kernel_rfl) (by kernel_rfl) (by kernel_rfl) (fun _ _ _ h => h) (Or.inl ⟨by kernel_rfl, fun w _ => by kernel_rfl⟩) hHeld ?_
          refine wpAnyH_take (i := 16) (v := .bool true) rfl (by kernel_rfl) (by kernel_rfl) (by kernel_rfl) (fun _ _ _ h => h) (Or.inl ⟨by kernel_rfl, fun w _ => by kernel_rfl⟩) hHeld ?_
          refine wpAnyH_take (i := 17) (v := .pointer (some ⟨gb, 0, none⟩)) rfl (by kernel_rfl) (by kernel_rfl) (by kernel_rfl) (fun _ _ _ h => h) (Or.inl ⟨by kernel_rfl, fun w _ => by kernel_rfl⟩) hHeld ?_
          refine wpAnyH_take (i := 18) (v := .pointer (some ⟨rb, 0, none⟩)) rfl (by kernel_rfl) (by kernel_rfl) (by kernel_rfl) (fun _ _ _ h => h) (Or.inl ⟨by kernel_rfl, fun w _ => by kernel_rfl⟩) hHeld ?_
          refine wpAnyH_ready (rs := [19]) (by kernel_rfl) (by simp) ?_
          refine AllReadyH.cons rfl (fun K hK => ?_) AllReadyH.nil
          go_simp
          refine (C12.out _ z2.out).mono ?_
          rintro e y19 ⟨rfl, hk19⟩
          have z3 := hid (z2.out.trans hk19)
          clear hk19
          go_simp
          refine hK.out _ _ (HS.out _ z3.out) (fun hHeld => ?_)
          refine wpAnyH_take (i := 20) (v := .bool true) rfl (by kernel_rfl) (by kernel_rfl) (by kernel_rfl) (fun _ _ _ h => h) (Or.inl ⟨by kernel_rfl, fun w _ => by kernel_rfl⟩) hHeld ?_
          refine wpAnyH_take (i := 21) (v := .bool true) rfl (by kernel_rfl) (by kernel_rfl) (by kernel_rfl) (fun _ _ _ h => h) (Or.inl ⟨by kernel_rfl, fun w _ => by kernel_rfl⟩) hHeld ?_
          refine wpAnyH_ready (rs := [22]) (by kernel_rfl) (by simp) ?_
          refine AllReadyH.cons rfl (fun K hK => ?_) AllReadyH.nil
          go_simp
          refine (kn _).mono ?_
          rintro e y22 ⟨rfl, hk22⟩
          have z4 := hid (z3.out.trans hk22)
          clear hk22
          go_simp
          refine hK.out _ _ (HS.out _ z4.out) (fun hHeld => ?_)
          refine wpAnyH_take (i := 23) (v := .bool true) rfl (by kernel_rfl) (by kernel_rfl) (by kernel_rfl) (fun _ _ _ h => h) (Or.inl ⟨by kernel_rfl, fun w _ => by kernel_rfl⟩) hHeld ?_
          refine wpAnyH_take (i := 24) (v := .bool true) rfl (by kernel_rfl) (by kernel_rfl) (by kernel_rfl) (fun _ _ _ h => h) (Or.inl ⟨by kernel_rfl, fun w _ => by kernel_rfl⟩) hHeld ?_
          refine wpAnyH_done (by kernel_rfl) ?_ _
          have K9 := hid (KW.out.trans z4.out)
          go_wp2
          go_ret
          exact ⟨rfl, K9.out⟩
theorem copies_walk (P : Prg Gr) (kn : KnownOk) (st : StandsOk Gr) (w : World) (k : Int) (V V' : Value) (N N' : Nat) (S S' : Nat → Sp) (hV : Sc w V N S) (hV' : Sc w V' N' S') : Calls Try.prog 6 #[.int .i64 k, V, V'] w fun e w' => e = .returned (.bool true) ∧ Kp w w' [] := by
  by_cases hk : 1 ≤ k ∧ k ≤ 16
  · obtain ⟨n, rfl⟩ : ∃ n : Nat, k = n := ⟨k.toNat, by omega⟩
    exact copies_ok P kn st w n (by omega) (by omega) V V' N N' S S' hV hV'
  · exact copies_no P kn w k V V' N N' S S' hV hV' hk
end
end Go.Proofs.Ytomdnppnabncaaa
