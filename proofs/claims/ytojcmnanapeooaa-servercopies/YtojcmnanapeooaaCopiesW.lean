/- ServerCopies's walk. -/
import Derived.Test.YtojcmnanapeooaaPl
import Derived.Test.YtojcmnanapeooaaArgs
namespace Go.Proofs.Ytojcmnanapeooaa
open Go.RowKit Go.Shelf

theorem step_pm (s : Sv) (k at1 : Int) : (stepS s k at1).per = s.per ∧ (stepS s k at1).most = s.most := by
  unfold stepS
  split
  · unfold startS; split <;> exact ⟨rfl, rfl⟩
  · split
    · unfold useS; split
      · split <;> exact ⟨rfl, rfl⟩
      · exact ⟨rfl, rfl⟩
    · split
      · unfold stopS; split <;> exact ⟨rfl, rfl⟩
      · split <;> exact ⟨rfl, rfl⟩
theorem same_self (s : Sv) : sameB s s = true := by simp [sameB]
/-- Two pairs, apart. -/
structure Two (w W : World) (sb rb : Nat) (rs : List Nat) (ob qb : Nat) (qs : List Nat) (s t : Sv) : Prop where
  a : Pl w W sb rb rs s
  b : Pl w W ob qb qs t
  ap : ∀ k ∈ rs, k ∉ qs
section
variable {w W : World} {sb rb ob qb : Nat} {rs qs : List Nat} {s t : Sv}
theorem Two.flip (h : Two w W sb rb rs ob qb qs s t) : Two w W ob qb qs sb rb rs t s := ⟨h.b, h.a, fun k hk hm => h.ap k hm hk⟩
theorem Two.left (hat : AtSame) (h : Two w W sb rb rs ob qb qs s t) (k x : Int) : Calls Try.prog 12 #[.pointer (some ⟨sb, 0, none⟩), .pointer (some ⟨rb, 0, none⟩), .agg #[.int .i64 k, .int .i64 x]] W fun e W' => e = .returned (.bool true) ∧ ∃ rs', Two w W' sb rb rs' ob qb qs (stepS s k x) t ∧ Kp W W' rs ∧ ∀ k ∈ rs', k ∈ rs ∨ W.heap.size ≤ k :=
  (h.a.step hat k x).mono fun _ _ ⟨a, rs', b, c, d⟩ => ⟨a, rs', ⟨b, h.b.keep c (fun k hk hm => h.ap k hm hk) h.a.new, fun k hk hm => by
    have hl := h.b.bo.lt k hm
    rcases d k hk with q | q
    · exact h.ap k q hm
    · omega⟩, c, d⟩
theorem Two.same {W' : World} (h : Two w W sb rb rs ob qb qs s t) (hk : Kp W W' []) : Two w W' sb rb rs ob qb qs s t := ⟨h.a.same hk, h.b.same hk, h.ap⟩
end
/-- Behind the copy: the first pair, the other server, the copy with the second reference. -/
structure Thr (w W : World) (sb rb : Nat) (rs : List Nat) (ob : Nat) (vo : Value) (cb qb : Nat) (qs : List Nat) (s t : Sv) : Prop where
  two : Two w W sb rb rs cb qb qs s t
  o : Sr W ob vo s
  ap : ∀ k ∈ rws ob vo, k ∉ qs
section
variable {w W W' : World} {sb rb ob cb qb : Nat} {rs qs : List Nat} {s t : Sv} {vo : Value}
theorem Thr.step (hat : AtSame) (h : Thr w W sb rb rs ob vo cb qb qs s t) (k x : Int) : Calls Try.prog 12 #[.pointer (some ⟨cb, 0, none⟩), .pointer (some ⟨qb, 0, none⟩), .agg #[.int .i64 k, .int .i64 x]] W fun e W' => e = .returned (.bool true) ∧ ∃ qs', Thr w W' sb rb rs ob vo cb qb qs' s (stepS t k x) :=
  (h.two.flip.left hat k x).mono fun _ _ ⟨a, qs', b, c, d⟩ => ⟨a, qs', ⟨b.flip, h.o.keep c h.ap, fun k hk hm => by
    have hl := h.o.rlt k hk
    rcases d k hm with q | q
    · exact h.ap k hk q
    · omega⟩⟩
theorem Thr.same (h : Thr w W sb rb rs ob vo cb qb qs s t) (hk : Kp W W' []) : Thr w W' sb rb rs ob vo cb qb qs s t := ⟨h.two.same hk, h.o.same hk, h.ap⟩
theorem Thr.cs (h : Thr w W sb rb rs ob vo cb qb qs s t) : (∃ v, Sr W sb v s) ∧ (∃ u, Rr W rb u s) ∧ (∃ v, Sr W cb v t) ∧ ∃ u, Rr W qb u t := by
  obtain ⟨v, u, a, -⟩ := h.two.a.bo
  obtain ⟨v2, u2, b, -⟩ := h.two.b.bo
  exact ⟨⟨v, a.a⟩, ⟨u, a.b⟩, ⟨v2, b.a⟩, ⟨u2, b.b⟩⟩
/-- A copy is made. -/
theorem Two.copy (h : Two w W sb rb rs ob qb qs s s) : Calls Try.prog 22 #[.pointer (some ⟨sb, 0, none⟩)] W fun e W' => e = .returned (.pointer (some ⟨W.heap.size, 0, none⟩)) ∧ ∃ vo qs', Thr w W' sb rb rs ob vo W.heap.size qb qs' s s := by
  obtain ⟨v, u, a, ha⟩ := h.a.bo
  obtain ⟨v2, u2, b, hb⟩ := h.b.bo
  refine (copy_any W sb v s a.a).mono ?_
  rintro e W' ⟨rfl, ⟨v', c, d⟩, hk⟩
  have hz := h.a.kp.size
  have hc : ∀ k ∈ rws W.heap.size v', W.heap.size ≤ k := fun k hk => by
    rcases mem_rws.1 hk with q | q
    · omega
    · exact d k q
  refine ⟨rfl, v2, rws W.heap.size v' ++ rws qb u2, ⟨⟨h.a.same hk, ⟨⟨v', u2, ⟨c, b.b.same hk, fun k h1 h2 => ?_⟩, rfl⟩, fun k h1 => ?_, h.a.kp.trans hk⟩, fun k h1 h2 => ?_⟩, b.a.same hk, fun k h1 h2 => ?_⟩⟩
  · have := hc k h1
    have := b.b.rlt k h2
    omega
  · rcases List.mem_append.1 h1 with q | q
    · have := hc k q
      omega
    · exact h.b.new k (by rw [hb]; exact List.mem_append.2 (.inr q))
  · rcases List.mem_append.1 h2 with q | q
    · have := hc k q
      have := h.a.bo.lt k h1
      omega
    · exact h.ap k h1 (by rw [hb]; exact List.mem_append.2 (.inr q))
  · rcases List.mem_append.1 h2 with q | q
    · have := hc k q
      have := b.a.rlt k h1
      omega
    · exact b.ap k h1 q
end
theorem beq_flip {α : Type} [BEq α] [LawfulBEq α] (x y : α) : (x == y) = (y == x) := by
  rw [Bool.eq_iff_iff, beq_iff_eq, beq_iff_eq]
  exact eq_comm
theorem alike_case (s t : Sv) (hp : s.per = t.per) (hm : s.most = t.most) :
    (s.left == t.left) = false ∧ sameB t s = false ∨ (s.left == t.left) = true ∧ (s.act == t.act) = false ∧ sameB t s = false ∨ (s.left == t.left) = true ∧ (s.act == t.act) = true ∧ (s.since == t.since) = false ∧ sameB t s = false ∨ (s.left == t.left) = true ∧ (s.act == t.act) = true ∧ (s.since == t.since) = true ∧ (s.used == t.used) = false ∧ sameB t s = false ∨ (s.left == t.left) = true ∧ (s.act == t.act) = true ∧ (s.since == t.since) = true ∧ (s.used == t.used) = true ∧ sameB t s = decide (s.pcs = t.pcs) := by
  have e1 : (t.left == s.left) = (s.left == t.left) := beq_flip _ _
  have e2 : (t.act == s.act) = (s.act == t.act) := beq_flip _ _
  have e3 : (t.since == s.since) = (s.since == t.since) := beq_flip _ _
  have e4 : (t.used == s.used) = (s.used == t.used) := beq_flip _ _
  have e5 : decide (t.pcs = s.pcs) = decide (s.pcs = t.pcs) := decide_eq_decide.2 eq_comm
  unfold sameB
  rw [hp, hm, e1, e2, e3, e4, e5]
  cases (s.left == t.left) <;> cases (s.act == t.act) <;> cases (s.since == t.since) <;> cases (s.used == t.used) <;> simp
set_option maxRecDepth 100000 in
set_option maxHeartbeats 8000000 in
theorem copies_walk (hat : AtSame) (w : World) (b p m : Int) (V V' : Value) (N M : Nat) (S S' : Nat → Sp) (hV : Sc2 w V N S) (hV' : Sc2 w V' M S') : Calls Try.prog 7 #[.int .i64 b, .int .i64 p, .int .i64 m, V, V'] w fun e w' => e = .returned (.bool true) ∧ Kp w w' [] := by
  obtain ⟨so, sc, rfl⟩ := hV.shape
  obtain ⟨so', sc', rfl⟩ := hV'.shape
  have HV := hid hV
  have HV' := hid hV'
  have HAT := hid hat
  clear hV hV' hat
  cases hn : mayN b p m with
  | false =>
    have cn := new_no w b p m hn
    clear hn
    go_enter Try.func7, Try.ntmps7
    go_wp2_with fail
    refine cn.mono ?_
    rintro e w1 ⟨rfl, rfl⟩
    clear cn
    go_wp2_with fail
    refine (known_any _).mono ?_
    rintro e w3 ⟨rfl, hk⟩
    have K3 := hid hk
    clear hk
    go_wp2
    go_ret
    exact ⟨rfl, K3.out⟩
  | true =>
    have HN := hid hn
    clear hn
    by_cases hN : (100 : Int) < N
    · go_enter Try.func7, Try.ntmps7
      go_wp2_with fail
      refine (kn_new w b p m HN.out).mono ?_
      rintro e w1 ⟨rfl, hl⟩
      have K2 := hid hl.kp
      clear hl
      go_wp2_with fail
      refine (known_any _).mono ?_
      rintro e w3 ⟨rfl, hk⟩
      have K3 := hid (K2.out.trans hk)
      clear hk
      go_wp2
      go_ret
      exact ⟨rfl, K3.out⟩
    · by_cases hM : (100 : Int) < M
      · go_enter Try.func7, Try.ntmps7
        go_wp2_with fail
        refine (kn_new w b p m HN.out).mono ?_
        rintro e w1 ⟨rfl, hl⟩
        have K2 := hid hl.kp
        clear hl
        go_wp2_with fail
        refine (known_any _).mono ?_
        rintro e w3 ⟨rfl, hk⟩
        have K3 := hid (K2.out.trans hk)
        clear hk
        go_wp2
        go_ret
        exact ⟨rfl, K3.out⟩
      · have hN2 : N ≤ 100 := by omega
        have hM2 : M ≤ 100 := by omega
        go_enter Try.func7, Try.ntmps7
        go_wp2_with fail
        refine (new_ok w b p m HN.out).mono ?_
        rintro e w1 ⟨rfl, hs1, hk1⟩
        have S1 := hid hs1
        have K1 := hid hk1
        clear hs1 hk1
        go_wp2_with fail
        refine (new_ok w1 b p m HN.out).mono ?_
        rintro e w2 ⟨rfl, hs2, hk2⟩
        have S2 := hid hs2
        have K2 := hid hk2
        clear hs2 hk2
        go_wp2_with fail
        refine (rnew_ok w2 b p m HN.out).mono ?_
        rintro e w3 ⟨rfl, hs3, hk3⟩
        have S3 := hid hs3
        have K3 := hid hk3
        clear hs3 hk3
        go_wp2_with fail
        refine (rnew_ok w3 b p m HN.out).mono ?_
        rintro e w4 ⟨rfl, hs4, hk4⟩
        have T0 := hid (show Two w w4 w.heap.size w2.heap.size [w.heap.size, w2.heap.size] w1.heap.size w3.heap.size [w1.heap.size, w3.heap.size] (newS b p m) (newS b p m) by
          have z1 := S1.out.c.lt
          have z2 := S2.out.c.lt
          have z3 := S3.out.c.lt
          have y1 := K1.out.size
          have y2 := K2.out.size
          have y3 := K3.out.size
          have kk := ((K1.out.trans K2.out).trans K3.out).trans hk4
          refine ⟨⟨⟨_, _, ⟨S1.out.same ((K2.out.trans K3.out).trans hk4), S3.out.same hk4, fun k h1 h2 => ?_⟩, rfl⟩, fun k h1 => ?_, kk⟩, ⟨⟨_, _, ⟨S2.out.same (K3.out.trans hk4), hs4, fun k h1 h2 => ?_⟩, rfl⟩, fun k h1 => ?_, kk⟩, fun k h1 h2 => ?_⟩
          · simp [Value.ownBlock] at h1 h2; omega
          · simp at h1; omega
          · simp [Value.ownBlock] at h1 h2; omega
          · simp at h1; omega
          · simp at h1 h2; omega)
        clear hs4 hk4 S1 S2 S3 K1 K2 K3
        generalize w.heap.size = sb at T0 ⊢
        generalize w1.heap.size = ob at T0 ⊢
        generalize w2.heap.size = rb at T0 ⊢
        generalize w3.heap.size = qb at T0 ⊢
        go_wp2_with fail
        go_loopw [17] (fun v wr => ∃ i : Nat, i ≤ N ∧ v = .int .i64 i ∧ Hid (∃ rs qs s, Two w wr sb rb rs ob qb qs s s ∧ s.per = p ∧ s.most = m)) (fun v _ => N - (intOf v).toNat)
        case atStart => exact ⟨0, by omega, rfl, _, _, _, T0.out, rfl, rfl⟩
        case round =>
          obtain ⟨i, hi, rfl, hT⟩ := hrel
          clear T0
          obtain ⟨rs, qs, s, hP, hpm⟩ := hT.out
          have HP := hid hP
          have HPM := hid hpm
          clear hT hP hpm
          by_cases hlt : i < N
          · have h1 : (i : Int) < N := by omega
            obtain ⟨xb, off, rfl, y0, y1⟩ := (HV.out.keep HP.out.a.kp).at hlt
            go_wp2_with fail
            refine (HP.out.left HAT.out (S i).k (S i).t).mono ?_
            rintro e W3 ⟨rfl, rs', hP2, -⟩
            have P3 := hid hP2
            clear hP2 HP y0 y1
            obtain ⟨xb2, off2, hx2, y0, y1⟩ := (HV.out.keep P3.out.a.kp).at hlt
            cases hx2
            go_wp2_with fail
            refine (P3.out.flip.left HAT.out (S i).k (S i).t).mono ?_
            rintro e W4 ⟨rfl, qs', hP4, -⟩
            have P4 := hid (show ∃ rs qs s, Two w W4 sb rb rs ob qb qs s s ∧ s.per = p ∧ s.most = m from ⟨_, _, _, hP4.flip, (step_pm s _ _).1.trans HPM.out.1, (step_pm s _ _).2.trans HPM.out.2⟩)
            clear hP4 P3 y0 y1
            go_wp2
            go_roundw
            case rel => exact ⟨i + 1, by omega, by simp, P4⟩
            case measure => simp [intOf]; omega
          · have h1 : ¬ (i : Int) < N := by omega
            go_wp2_with fail
            refine HP.out.copy.mono ?_
            rintro e W5 ⟨rfl, vo, qs', hT5⟩
            have T5 := hid hT5
            clear hT5 HP
            generalize wr.heap.size = cb at T5 ⊢
            obtain ⟨⟨v1, x1⟩, -, ⟨v3, x3⟩, -⟩ := T5.out.cs
            have X1 := hid x1
            have X3 := hid x3
            clear x1 x3
            go_wp2_with fail
            refine (same_any _ _ _ v1 v3 s s X1.out X3.out).mono ?_
            rintro e W6 ⟨rfl, n6, hW6⟩
            rw [same_self]
            have T6 := hid (show Thr w W6 sb rb rs ob vo cb qb qs' s s by rw [hW6]; exact T5.out.same (Kp.drewN _ _ _))
            have X1 := hid (show Sr W6 sb v1 s by rw [hW6]; exact X1.out.same (Kp.drewN _ _ _))
            clear hW6 T5 X3
            go_wp2_with fail
            refine (same_any _ _ _ v1 vo s s X1.out T6.out.o).mono ?_
            rintro e W7 ⟨rfl, n7, hW7⟩
            rw [same_self]
            have T7 := hid (show Thr w W7 sb rb rs ob vo cb qb qs' s s by rw [hW7]; exact T6.out.same (Kp.drewN _ _ _))
            clear hW7 T6 X1
            go_wp2_with fail
            go_loopw [19] (fun v wx => ∃ j : Nat, j ≤ M ∧ v = .int .i64 j ∧ Hid (∃ qs t, Thr w wx sb rb rs ob vo cb qb qs s t ∧ t.per = p ∧ t.most = m)) (fun v _ => M - (intOf v).toNat)
            case atStart => exact ⟨0, by omega, rfl, _, _, T7.out, HPM.out.1, HPM.out.2⟩
            case round =>
              obtain ⟨j, hj, rfl, hT⟩ := hrel
              clear T7
              obtain ⟨qs2, t, hP, hpm⟩ := hT.out
              have HP := hid hP
              have HPT := hid hpm
              clear hT hP hpm
              by_cases hjl : j < M
              · have h1 : (j : Int) < M := by omega
                obtain ⟨xb, off, rfl, y0, y1⟩ := (HV'.out.keep HP.out.two.a.kp).at hjl
                go_wp2_with fail
                refine (HP.out.step HAT.out (S' j).k (S' j).t).mono ?_
                rintro e W8 ⟨rfl, qs3, hP2⟩
                have P3 := hid (show ∃ qs t, Thr w W8 sb rb rs ob vo cb qb qs s t ∧ t.per = p ∧ t.most = m from ⟨_, _, hP2, (step_pm t _ _).1.trans HPT.out.1, (step_pm t _ _).2.trans HPT.out.2⟩)
                clear hP2 HP y0 y1
                go_wp2
                go_roundw
                case rel => exact ⟨j + 1, by omega, by simp, P3⟩
                case measure => simp [intOf]; omega
              · have h1 : ¬ (j : Int) < M := by omega
                obtain ⟨⟨v1, x1⟩, ⟨u1, x2⟩, ⟨v3, x3⟩, ⟨u3, x4⟩⟩ := HP.out.cs
                have hac := alike_case s t (HPM.out.1.trans HPT.out.1.symm) (HPM.out.2.trans HPT.out.2.symm)
                obtain ⟨-, -, c3, c4, c5, c6, c7⟩ := x2.c.c
                obtain ⟨-, -, d3, d4, d5, d6, d7⟩ := x4.c.c
                have CE := hid (fun n => pcs_any (wr.drewN n) 0 0 u1 u3 s.pcs t.pcs (x2.row.keep (Kp.drewN _ _ _)) (x4.row.keep (Kp.drewN _ _ _)) (by have := x2.ok.plen; omega))
                obtain ⟨ao1, cap1, hu1⟩ := x2.row.slice
                obtain ⟨ao2, cap2, hu2⟩ := x4.row.slice
                rw [hu1] at c7 CE
                rw [hu2] at d7 CE
                have X1 := hid x1
                have X3 := hid x3
                clear x1 x2 x3 x4 hu1 hu2
                generalize s.pcs.length = N1 at c7 CE
                generalize t.pcs.length = N2 at d7 CE
                obtain ⟨B, hB⟩ : ∃ B, decide (s.pcs = t.pcs) = B := ⟨_, rfl⟩
                rw [hB] at CE hac
                obtain ⟨SB, hSB⟩ : ∃ SB, sameB t s = SB := ⟨_, rfl⟩
                rw [hSB] at hac
                have HSB := hid hSB
                clear hB hSB
                generalize s.left = l1 at c3 hac
                generalize s.act = a1 at c4 hac
                generalize s.since = i1 at c5 hac
                generalize s.used = k1 at c6 hac
                generalize t.left = l2 at d3 hac
                generalize t.act = a2 at d4 hac
                generalize t.since = i2 at d5 hac
                generalize t.used = k2 at d6 hac
                rcases hac with ⟨e1, rfl⟩ | ⟨e1, e2, rfl⟩ | ⟨e1, e2, e3, rfl⟩ | ⟨e1, e2, e3, e4, rfl⟩ | ⟨e1, e2, e3, e4, rfl⟩
                case' inr.inr.inr.inr => have eB : (SB == SB) = true := by simp
                all_goals (
                  go_wp2_with fail
                  go_quiet (first | (go_at_call 24; exact Calls.quiet_of (CE.out _)) | fail)
                  clear c3 c4 c5 c6 c7 d3 d4 d5 d6 d7 CE
                  have kq := Kp.drewN wr nq []
                  have T9 := hid (HP.out.same kq)
                  have X1 := hid (X1.out.same kq)
                  have X3 := hid (X3.out.same kq)
                  clear kq HP
                  go_wp2_with fail
                  refine (same_any _ _ _ v1 vo s s X1.out T9.out.o).mono ?_
                  rintro e W9 ⟨rfl, n9, hW9⟩
                  rw [same_self]
                  have T9 := hid (show Thr w W9 sb rb rs ob vo cb qb qs2 s t by rw [hW9]; exact T9.out.same (Kp.drewN _ _ _))
                  have X1 := hid (show Sr W9 sb v1 s by rw [hW9]; exact X1.out.same (Kp.drewN _ _ _))
                  have X3 := hid (show Sr W9 cb v3 t by rw [hW9]; exact X3.out.same (Kp.drewN _ _ _))
                  clear hW9
                  go_wp2_with fail
                  refine (same_any _ _ _ v3 v1 t s X3.out X1.out).mono ?_
                  rintro e W10 ⟨rfl, n10, hW10⟩
                  rw [HSB.out]
                  have T10 := hid (show Thr w W10 sb rb rs ob vo cb qb qs2 s t by rw [hW10]; exact T9.out.same (Kp.drewN _ _ _))
                  clear hW10 T9 X1 X3
                  go_wp2_with fail
                  refine T10.out.two.a.stands.mono ?_
                  rintro e W11 ⟨rfl, hP11, -⟩
                  have K11 := hid hP11.kp
                  clear hP11 T10
                  go_wp2_with fail
                  refine (known_any _).mono ?_
                  rintro e W12 ⟨rfl, k12⟩
                  have K12 := hid (K11.out.trans k12)
                  clear k12 K11
                  go_wp2
                  go_ret
                  exact ⟨rfl, K12.out⟩)
end Go.Proofs.Ytojcmnanapeooaa
