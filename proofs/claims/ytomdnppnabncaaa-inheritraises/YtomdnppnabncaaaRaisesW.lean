/- InheritRaises' walk: more asked for makes nothing less; who stops waiting has what it had. -/
import Derived.Test.YtomdnppnabncaaaPl
namespace Go.Proofs.Ytomdnppnabncaaa
open Go.RowKit Go.Shelf
open Go.Lib hiding intOf

/-- There are such numbers. -/
theorem Way.ends {G : Gs} (hG : Gok G) : ∀ (m : Nat) (L : List Int), gap L ≤ m → Way G L → ∃ M, Eff G M := by
  intro m
  induction m with
  | zero =>
    intro L hm h
    refine ⟨L, h.eff fun t ht hw => ?_⟩
    by_cases q : L[t]! ≤ L[(G.w t).toNat]!
    · exact q
    · have := (h.raise hG ht hw (by omega)).2
      omega
  | succ m ih =>
    intro L hm h
    by_cases q : ∀ t, t < G.n → 0 ≤ G.w t → L[t]! ≤ L[(G.w t).toNat]!
    · exact ⟨L, h.eff q⟩
    · obtain ⟨t, q⟩ := Classical.not_forall.1 q
      simp only [Classical.not_imp] at q
      obtain ⟨ht, hw, q⟩ := q
      have r := h.raise hG ht hw (by omega)
      exact ih _ (by omega) r.1
theorem eff_ex {G : Gs} (hG : Gok G) : ∃ L, Eff G L :=
  Way.ends hG _ ((List.range G.n).map fun t => ownP G t) (Nat.le_refl _) (way_own (by simp) fun t ht => by simp [getElem!_pos, ht])
theorem eff_more {G H : Gs} (hG : Gok G) (hH : Gok H) {L M : List Int} (hL : Eff G L) (hM : Eff H M) (hn : H.n = G.n) (ho : ∀ t, t < G.n → ownP G t ≤ ownP H t) (hw : ∀ t, t < G.n → 0 ≤ G.w t → H.w t = G.w t) {t : Nat} (ht : t < G.n) : L[t]! ≤ M[t]! := by
  have hw' := hH.wt
  have hs := hM.sol
  rw [hn] at hw' hs
  exact more (l := fun t => L[t]!) (l' := fun t => M[t]!) hw' hs hL.att ho hw hG.wt ht
theorem more_ba {G : Gs} (hG : Gok G) {t : Nat} (x : Int) (ht : t < G.n) (hx : G.b t ≤ x) {L M : List Int} (hL : Eff G L) (hM : Eff (baG G t x) M) {i : Nat} (hi : i < G.n) : L[i]! ≤ M[i]! := by
  refine eff_more hG (ok_ba hG t x) hL hM (ba_n G t x) (fun j hj => ?_) (fun j hj q => ?_) hi
  · unfold baG
    split
    · simp only [ownP, upd, Int.toNat_natCast]
      split
      · rename_i e
        subst e
        omega
      · omega
    · exact Int.le_refl _
  · unfold baG; split <;> rfl
theorem more_ce {G : Gs} (hG : Gok G) {t : Nat} (x : Int) (ht : t < G.n) (hx : G.c t ≤ x) {L M : List Int} (hL : Eff G L) (hM : Eff (ceG G t x) M) {i : Nat} (hi : i < G.n) : L[i]! ≤ M[i]! := by
  refine eff_more hG (ok_ce hG t x) hL hM (ce_n G t x) (fun j hj => ?_) (fun j hj q => ?_) hi
  · unfold ceG
    split
    · simp only [ownP, upd, Int.toNat_natCast]
      split
      · rename_i e
        subst e
        omega
      · omega
    · exact Int.le_refl _
  · unfold ceG; split <;> rfl
theorem more_wa {G : Gs} (hG : Gok G) {t : Nat} (x : Int) (hx : G.w t = -1) {L M : List Int} (hL : Eff G L) (hM : Eff (waG G t x) M) {i : Nat} (hi : i < G.n) : L[i]! ≤ M[i]! := by
  refine eff_more hG (ok_wa hG t x) hL hM (wa_n G t x) (fun j hj => ?_) (fun j hj q => ?_) hi
  · unfold waG; split <;> exact Int.le_refl _
  · unfold waG
    split
    · simp only [upd, Int.toNat_natCast]
      split
      · rename_i e
        subst e
        omega
      · rfl
    · rfl
theorem own_wa (G : Gs) (t x : Int) : ownP (waG G t x) = ownP G := by unfold waG; split <;> rfl
/-- Who stops waiting has what it had. -/
theorem stops_wa {G : Gs} (hG : Gok G) {t : Nat} (ht : t < G.n) {L : List Int} (hL : Eff G L) {x : Int} (hx : OfV (waG G t (-1)) t x) : x = L[t]! := by
  obtain ⟨M, hM⟩ := eff_ex (ok_wa hG t (-1))
  have hn := wa_n G t (-1)
  have e := hx.1 ⟨by omega, by rw [hn]; omega⟩ M hM
  rw [Int.toNat_natCast] at e
  rw [e]
  have hwe : ∀ s, (waG G t (-1)).w s = if s = t then -1 else G.w s := by
    intro s
    unfold waG
    rw [if_pos ⟨⟨by omega, by omega⟩, ⟨by omega, by omega⟩⟩]
    simp only [upd, Int.toNat_natCast]
  refine Int.le_antisymm ?_ ?_
  · refine eff_more (ok_wa hG t (-1)) hG hM hL hn.symm (fun s hs => by rw [own_wa]; exact Int.le_refl _) (fun s hs q => ?_) (by rw [hn]; exact ht)
    rw [hwe] at q ⊢
    split at q
    · omega
    · rename_i e1
      rw [if_neg e1]
  · have hw' := (ok_wa hG t (-1)).wt
    have hs := hM.sol
    rw [hn] at hw' hs
    rw [own_wa] at hs
    exact stops (l := fun t => L[t]!) (l' := fun t => M[t]!) hL.att ht (fun s hs => by rw [hwe, if_neg hs]) hw' hs
section
variable {Gr : World → Nat → Gs → Prop}
set_option maxRecDepth 100000 in
set_option maxHeartbeats 4000000 in
theorem raises_no (P : Prg Gr) (kn : KnownOk) (w : World) (k : Int) (V : Value) (N : Nat) (S : Nat → Sp) (hV : Sc w V N S) (sk st sp : Int) (hk : ¬ (1 ≤ k ∧ k ≤ 16)) : Calls Try.prog 5 #[.int .i64 k, V, .agg #[.int .i64 sk, .int .i64 st, .int .i64 sp]] w fun e w' => e = .returned (.bool true) ∧ Kp w w' [] := by
  obtain ⟨so, sc, rfl⟩ := hV.shape
  have HB := hid (box3 w sk st sp)
  have ka := Kp.alloc w (.cells #[.int .i64 sk, .int .i64 st, .int .i64 sp] 32) []
  obtain ⟨W0, hW0⟩ : ∃ W0, w.alloc (.cells #[.int .i64 sk, .int .i64 st, .int .i64 sp] 32) = W0 := ⟨_, rfl⟩
  rw [hW0] at HB ka
  have HV := hid (hV.keep ka)
  have HK := hid ka
  obtain ⟨a, ha⟩ : ∃ a, w.heap.size = a := ⟨_, rfl⟩
  rw [ha] at HB
  have c1 := P.new_no W0 k hk
  have c2 := fun W => rnew_no W k hk
  clear hV hk ka
  go_enter Try.func5, Try.ntmps5
  go_wp2_with fail
  refine c1.mono ?_
  rintro e w1 ⟨rfl, k1⟩
  have K6 := hid (HK.out.trans k1)
  clear k1 c1
  go_wp2_with fail
  refine (c2 w1).mono ?_
  rintro e w2 ⟨rfl, hE⟩
  subst hE
  go_wp2_with fail
  refine (kn _).mono ?_
  rintro e W7 ⟨rfl, k7⟩
  have K7 := hid (K6.out.trans k7)
  clear k7 K6
  go_wp2
  go_ret
  exact ⟨rfl, K7.out⟩
set_option maxRecDepth 100000 in
set_option maxHeartbeats 8000000 in
theorem raises_ok (P : Prg Gr) (kn : KnownOk) (w : World) (n : Nat) (h1 : 1 ≤ n) (h2 : n ≤ 16) (V : Value) (N : Nat) (S : Nat → Sp) (hV : Sc w V N S) (sk st sp : Int) : Calls Try.prog 5 #[.int .i64 n, V, .agg #[.int .i64 sk, .int .i64 st, .int .i64 sp]] w fun e w' => e = .returned (.bool true) ∧ Kp w w' [] := by
  obtain ⟨so, sc, rfl⟩ := hV.shape
  have HB := hid (box3 w sk st sp)
  have ka := Kp.alloc w (.cells #[.int .i64 sk, .int .i64 st, .int .i64 sp] 32) []
  obtain ⟨W0, hW0⟩ : ∃ W0, w.alloc (.cells #[.int .i64 sk, .int .i64 st, .int .i64 sp] 32) = W0 := ⟨_, rfl⟩
  rw [hW0] at HB ka
  have HV := hid (hV.keep ka)
  have HK := hid ka
  obtain ⟨a, ha⟩ : ∃ a, w.heap.size = a := ⟨_, rfl⟩
  rw [ha] at HB
  have c1 := P.new_ok W0 n h1 h2
  have C2 := hid (fun W => rnew_ok W n h1 h2)
  clear hV ka
  go_enter Try.func5, Try.ntmps5
  go_wp2_with fail
  refine c1.mono ?_
  rintro e w1 ⟨⟨gb, rfl, hg0, hg⟩, k1⟩
  have H1 := hid (And.intro hg0 (And.intro hg k1))
  clear k1 hg hg0 c1
  go_wp2_with fail
  refine (C2.out w1).mono ?_
  rintro e w2 ⟨rfl, hr, k2⟩
  have D0 := hid (show Pl Gr W0 w2 gb w1.heap.size (newG n) ∧ (newG n).n = n from ⟨⟨P.still H1.out.2.1 k2, hr, H1.out.1, H1.out.2.2.size, H1.out.2.2.trans k2⟩, rfl⟩)
  obtain ⟨rb, hrb⟩ : ∃ rb, w1.heap.size = rb := ⟨_, rfl⟩
  rw [hrb] at D0
  have hb2 := (D0.out.1.kp.block a (lt_of_block HB.out) (by simp)).trans HB.out
  obtain ⟨q0, q1, q2⟩ := box3_cells hb2
  clear hr k2 H1 hb2
  by_cases hN : N ≤ 100
  · have hNI : ¬ (100 : Int) < N := by omega
    by_cases hs0 : st < 0
    · have K6 := hid (HK.out.trans D0.out.1.kp)
      clear D0
      go_wp2_with fail
      refine (kn _).mono ?_
      rintro e W7 ⟨rfl, k7⟩
      have K7 := hid (K6.out.trans k7)
      clear k7 K6
      go_wp2
      go_ret
      exact ⟨rfl, K7.out⟩
    by_cases hs1 : (n : Int) ≤ st
    · have K6 := hid (HK.out.trans D0.out.1.kp)
      clear D0
      go_wp2_with fail
      refine (kn _).mono ?_
      rintro e W7 ⟨rfl, k7⟩
      have K7 := hid (K6.out.trans k7)
      clear k7 K6
      go_wp2
      go_ret
      exact ⟨rfl, K7.out⟩
    have hs2 : ¬ (n : Int) ≤ st := hs1
    obtain ⟨t, rfl⟩ : ∃ t : Nat, st = t := ⟨st.toNat, by omega⟩
    have htn : t < n := by omega
    have htI : (t : Int) < n := by omega
    have hs3 : ¬ n ≤ t := by omega
    have hs4 : decide ((n : Int) ≤ (t : Int)) = false := by simp; omega
    go_wp2_with fail
    clear hrb hs0 hs1 hs2 q0 q1 q2 hs3 hs4
    go_loopw [10] (fun vi W => ∃ (i : Nat) (G : Gs), i ≤ N ∧ vi = .int .i64 i ∧ Hid (Pl Gr W0 W gb rb G ∧ G.n = n)) (fun vi _ => N - (intOf vi).toNat)
    case atStart => exact ⟨0, _, by omega, rfl, D0⟩
    case round =>
      obtain ⟨i, G, hi, rfl, hT⟩ := hrel
      clear D0
      by_cases hin : i < N
      · have hx : (i : Int) < N := by omega
        obtain ⟨sb, off, rfl, y0, y1, y2⟩ := (HV.out.keep hT.out.1.kp).at hin
        go_wp2_with fail
        refine (hT.out.1.step P (S i).k (S i).t (S i).p).mono ?_
        rintro e W3 ⟨rfl, hT2, -⟩
        have T2 := hid (And.intro hT2 ((step_n G (S i).k (S i).t (S i).p).trans hT.out.2))
        clear hT2 hT y0 y1 y2
        go_wp2
        go_roundw
        case rel => exact ⟨i + 1, _, by omega, by simp, T2⟩
        case measure => simp [intOf]; omega
      · have hx : ¬ (i : Int) < N := by omega
        have HT := hid hT.out.1
        have HN := hid hT.out.2
        have ca := P.all wr gb G HT.out.gr
        clear hT hin
        go_wp2_with fail
        refine ca.mono ?_
        rintro e W4 ⟨⟨v, rfl, L, hE, hL⟩, k4⟩
        obtain ⟨ao, cap, hv⟩ := hL.slice
        have hll : L.length = n := by rw [hE.len, HN.out]
        rw [hll] at hv
        subst hv
        obtain ⟨gl, hgl, -, -⟩ := hL.at (k := 0) (by omega) rfl
        subst hgl
        have E0 := hid (show Pl Gr W0 W4 gb rb G ∧ Ns W4 0 (.slice (some ⟨gl, 0, none⟩) n cap) L from ⟨HT.out.same P k4, hL.low (Nat.zero_le _)⟩)
        have HE := hid hE
        have HLL := hid hll
        have HGO := hid (P.ok HT.out.gr)
        have HNE := hid (show gl ≠ gb from by
          obtain ⟨c, hc⟩ := P.cells E0.out.1.gr
          obtain ⟨-, cur, hg⟩ := owns_block E0.out.2 (g := gl) rfl
          exact (block_ne hc hg (by decide)).symm)
        have hb4 := (E0.out.1.kp.block a (lt_of_block HB.out) (by simp)).trans HB.out
        obtain ⟨q0, q1, q2⟩ := box3_cells hb4
        have cb := E0.out.1.rr.b (t := t) (by omega)
        have cc := E0.out.1.rr.c (t := t) (by omega)
        have cw := E0.out.1.rr.wt (t := t) (by omega)
        have htG : t < G.n := by rw [HN.out]; exact htn
        obtain ⟨xb, hxb⟩ : ∃ x, G.b t = x := ⟨_, rfl⟩
        obtain ⟨xc, hxc⟩ : ∃ x, G.c t = x := ⟨_, rfl⟩
        obtain ⟨xw, hxw⟩ : ∃ x, G.w t = x := ⟨_, rfl⟩
        have HXX := hid (And.intro hxb (And.intro hxc hxw))
        have HTG := hid htG
        rw [hxb] at cb
        rw [hxc] at cc
        rw [hxw] at cw
        clear ca hE hL k4 hll HT hb4 hxb hxc hxw htG
        go_wp2_with fail
        by_cases k1 : sk = 1
        · subst k1
          have f1 : ((1 : Int) == 1) = true := rfl
          by_cases hq : xb ≤ sp
          · have HQ := hid hq
            have hd : decide (xb ≤ sp) = true := by simp [hq]
            go_quiet (fail)
            have KX := hid (Kp.drewN W4 nq [])
            obtain ⟨WX, hWX⟩ : ∃ WX, W4.drewN nq = WX := ⟨_, rfl⟩
            rw [hWX] at KX ⊢
            clear q0 q1 q2 cb cc cw
            have hbX := (KX.out.block a (lt_of_block (show W4.heap[a]? = some _ from (E0.out.1.kp.block a (lt_of_block HB.out) (by simp)).trans HB.out)) (by simp)).trans ((E0.out.1.kp.block a (lt_of_block HB.out) (by simp)).trans HB.out)
            obtain ⟨p0, p1, p2⟩ := box3_cells hbX
            have cb := (E0.out.1.rr.same KX.out).b (t := t) (by have := HTG.out; have := HN.out; omega)
            have cc := (E0.out.1.rr.same KX.out).c (t := t) (by have := HTG.out; have := HN.out; omega)
            have cw := (E0.out.1.rr.same KX.out).wt (t := t) (by have := HTG.out; have := HN.out; omega)
            rw [HXX.out.1] at cb
            rw [HXX.out.2.1] at cc
            rw [HXX.out.2.2] at cw
            clear hbX hWX
            go_wp2_with fail
            have cg := P.base WX gb G t sp (P.still E0.out.1.gr KX.out)
            obtain ⟨EV, hEV⟩ : ∃ EV, baE G t sp = EV := ⟨_, rfl⟩
            rw [hEV] at cg
            go_wp2_with fail
            refine cg.mono ?_
            rintro e W6 ⟨rfl, hg6, k6⟩
            have G6 := hid (show Gr W6 gb (baG G t sp) ∧ Ns W6 0 (.slice (some ⟨gl, 0, none⟩) n cap) L ∧ Kp w W6 [] from by
              have hkk : Kp W4 W6 [gb] := KX.out.nil.trans k6
              refine ⟨hg6, E0.out.2.kp hkk (by intro g hg; simp [Value.ownBlock] at hg; subst hg; simp; exact HNE.out), ?_⟩
              refine (HK.out.trans E0.out.1.kp).past hkk (by intro j hj hl; have := E0.out.1.g0; have := HK.out.size; simp at hj; omega))
            have ca := P.all W6 gb _ G6.out.1
            clear cg hEV hg6 k6
            go_wp2_with fail
            refine ca.mono ?_
            rintro e W8 ⟨⟨v, rfl, M, hM, hMs⟩, k8⟩
            obtain ⟨ao2, cap2, hv2⟩ := hMs.slice
            have hlm : M.length = n := by rw [hM.len, ba_n, HN.out]
            rw [hlm] at hv2
            subst hv2
            have HLM := hid hlm
            have HMM := hid (fun j (hj : j < G.n) => more_ba HGO.out (t := t) sp HTG.out (by rw [HXX.out.1]; exact HQ.out) HE.out hM hj)
            have E8 := hid (show Ns W8 0 (.slice (some ⟨gl, 0, none⟩) n cap) L ∧ Ns W8 0 (.slice ao2 n cap2) M ∧ Kp w W8 [] from ⟨G6.out.2.1.keep k8, hMs.low (Nat.zero_le _), G6.out.2.2.trans k8⟩)
            clear ca hM hMs k8 hlm G6
            go_wp2_with fail
            go_loopw [18] (fun vj W => ∃ (j : Nat), j ≤ n ∧ vj = .int .i64 j ∧ Hid (Ns W 0 (.slice (some ⟨gl, 0, none⟩) n cap) L ∧ Ns W 0 (.slice ao2 n cap2) M ∧ Kp w W [])) (fun vj _ => n - (intOf vj).toNat)
            case atStart => exact ⟨0, by omega, rfl, E8⟩
            case round =>
              obtain ⟨j, hj, rfl, hZ⟩ := hrel
              by_cases hjn : j < n
              · have hjI : (j : Int) < n := by omega
                have hjm := HMM.out j (by rw [HN.out]; exact hjn)
                obtain ⟨x1, hx1⟩ : ∃ x, L[j]! = x := ⟨_, rfl⟩
                obtain ⟨x2, hx2⟩ : ∃ x, M[j]! = x := ⟨_, rfl⟩
                obtain ⟨g1, e1, d1, -⟩ := hZ.out.1.at (k := j) (by have := HLL.out; omega) hx1
                obtain ⟨g2, e2, d2, -⟩ := hZ.out.2.1.at (k := j) (by have := HLM.out; omega) hx2
                simp only [Option.some.injEq, Addr.mk.injEq, and_true] at e1
                subst e1
                subst e2
                rw [hx1, hx2] at hjm
                have dd : decide (x2 < x1) = false := by simp; omega
                have Z2 := hid (fun nq => show Ns (wr.drewN nq) 0 (.slice (some ⟨gl, 0, none⟩) n cap) L ∧ Ns (wr.drewN nq) 0 (.slice (some ⟨g2, 0, none⟩) n cap2) M ∧ Kp w (wr.drewN nq) [] from ⟨hZ.out.1.keep (Kp.drewN _ _ _), hZ.out.2.1.keep (Kp.drewN _ _ _), hZ.out.2.2.trans (Kp.drewN _ _ _)⟩)
                clear hZ hjm hx1 hx2
                go_wp2_with fail
                go_quiet (fail)
                go_wp2_with fail
                go_roundw
                case rel => exact ⟨j + 1, by omega, by simp, hid (Z2.out _)⟩
                case measure => simp [intOf]; omega
              · have hjI : ¬ (j : Int) < n := by omega
                have K6 := hid hZ.out.2.2
                clear hZ
                go_wp2_with fail
                refine (kn _).mono ?_
                rintro e W7 ⟨rfl, k7⟩
                have K7 := hid (K6.out.trans k7)
                clear k7 K6
                go_wp2
                go_ret
                exact ⟨rfl, K7.out⟩
          · have hd : decide (xb ≤ sp) = false := by simp; omega
            go_quiet (fail)
            have KX := hid (Kp.drewN W4 nq [])
            obtain ⟨WX, hWX⟩ : ∃ WX, W4.drewN nq = WX := ⟨_, rfl⟩
            rw [hWX] at KX ⊢
            clear q0 q1 q2 cb cc cw
            have hbX := (KX.out.block a (lt_of_block (show W4.heap[a]? = some _ from (E0.out.1.kp.block a (lt_of_block HB.out) (by simp)).trans HB.out)) (by simp)).trans ((E0.out.1.kp.block a (lt_of_block HB.out) (by simp)).trans HB.out)
            obtain ⟨p0, p1, p2⟩ := box3_cells hbX
            have cb := (E0.out.1.rr.same KX.out).b (t := t) (by have := HTG.out; have := HN.out; omega)
            have cc := (E0.out.1.rr.same KX.out).c (t := t) (by have := HTG.out; have := HN.out; omega)
            have cw := (E0.out.1.rr.same KX.out).wt (t := t) (by have := HTG.out; have := HN.out; omega)
            rw [HXX.out.1] at cb
            rw [HXX.out.2.1] at cc
            rw [HXX.out.2.2] at cw
            clear hbX hWX
            go_wp2_with fail
            go_quiet (fail)
            have KX := hid (KX.out.trans (Kp.drewN WX nq []))
            obtain ⟨WX, hWX⟩ : ∃ WY, WX.drewN nq = WY := ⟨_, rfl⟩
            rw [hWX] at KX ⊢
            clear p0 p1 p2 cb cc cw
            have hbX := (KX.out.block a (lt_of_block (show W4.heap[a]? = some _ from (E0.out.1.kp.block a (lt_of_block HB.out) (by simp)).trans HB.out)) (by simp)).trans ((E0.out.1.kp.block a (lt_of_block HB.out) (by simp)).trans HB.out)
            obtain ⟨p0, p1, p2⟩ := box3_cells hbX
            have cb := (E0.out.1.rr.same KX.out).b (t := t) (by have := HTG.out; have := HN.out; omega)
            have cc := (E0.out.1.rr.same KX.out).c (t := t) (by have := HTG.out; have := HN.out; omega)
            have cw := (E0.out.1.rr.same KX.out).wt (t := t) (by have := HTG.out; have := HN.out; omega)
            rw [HXX.out.1] at cb
            rw [HXX.out.2.1] at cc
            rw [HXX.out.2.2] at cw
            clear hbX hWX
            go_wp2_with fail
            have cr := P.ring WX gb G t (P.still E0.out.1.gr KX.out)
            go_wp2_with fail
            refine cr.mono ?_
            rintro e W6 ⟨⟨v, b, rfl, R, -, -⟩, k6⟩
            have K6 := hid (KX.out.trans k6)
            have cg := P.waits W6 gb G t (-1) (P.still E0.out.1.gr K6.out)
            have eEV : waE G t (-1) = 0 := by
              have := HTG.out
              unfold waE
              rw [if_pos ⟨⟨by omega, by omega⟩, ⟨by omega, by omega⟩⟩]
            rw [eEV] at cg
            clear cr k6 eEV
            go_wp2_with fail
            refine cg.mono ?_
            rintro e W8 ⟨rfl, hg8, k8⟩
            have G8 := hid (show Gr W8 gb (waG G t (-1)) ∧ Ns W8 0 (.slice (some ⟨gl, 0, none⟩) n cap) L ∧ Kp w W8 [] from by
              have hkk : Kp W4 W8 [gb] := K6.out.nil.trans k8
              refine ⟨hg8, E0.out.2.kp hkk (by intro g hg; simp [Value.ownBlock] at hg; subst hg; simp; exact HNE.out), ?_⟩
              refine (HK.out.trans E0.out.1.kp).past hkk (by intro j hj hl; have := E0.out.1.g0; have := HK.out.size; simp at hj; omega))
            have co := P.of_ W8 gb _ t G8.out.1
            clear cg hg8 k8 K6
            go_wp2_with fail
            refine co.mono ?_
            rintro e W9 ⟨⟨x, rfl, hx⟩, k9⟩
            have hxl := stops_wa HGO.out HTG.out HE.out hx
            obtain ⟨g1, e1, d1, -⟩ := (G8.out.2.1.keep k9).at (k := t) (by have := HLL.out; omega) rfl
            simp only [Option.some.injEq, Addr.mk.injEq, and_true] at e1
            subst e1
            rw [← hxl] at d1
            have dd : (x == x) = true := by simp
            have dl : decide (x ≤ x) = true := by simp
            have K6 := hid (G8.out.2.2.trans k9)
            obtain ⟨BB, hBB⟩ : ∃ BB, decide (mayT (waG G t (-1)) t) = BB := ⟨_, rfl⟩
            rw [hBB]
            clear co hx k9 hxl hBB
            cases b with
            | true =>
              go_wp2_with fail
              refine (kn _).mono ?_
              rintro e W7 ⟨rfl, k7⟩
              have K7 := hid (K6.out.trans k7)
              clear k7 K6
              go_wp2
              go_ret
              exact ⟨rfl, K7.out⟩
            | false =>
              go_wp2_with fail
              refine (kn _).mono ?_
              rintro e W7 ⟨rfl, k7⟩
              have K7 := hid (K6.out.trans k7)
              clear k7 K6
              go_wp2
              go_ret
              exact ⟨rfl, K7.out⟩
        by_cases k2 : sk = 2
        · subst k2
          by_cases hq : xc ≤ sp
          · have HQ := hid hq
            have hd : decide (xc ≤ sp) = true := by simp [hq]
            go_quiet (fail)
            have KX := hid (Kp.drewN W4 nq [])
            obtain ⟨WX, hWX⟩ : ∃ WX, W4.drewN nq = WX := ⟨_, rfl⟩
            rw [hWX] at KX ⊢
            clear q0 q1 q2 cb cc cw
            have hbX := (KX.out.block a (lt_of_block (show W4.heap[a]? = some _ from (E0.out.1.kp.block a (lt_of_block HB.out) (by simp)).trans HB.out)) (by simp)).trans ((E0.out.1.kp.block a (lt_of_block HB.out) (by simp)).trans HB.out)
            obtain ⟨p0, p1, p2⟩ := box3_cells hbX
            have cb := (E0.out.1.rr.same KX.out).b (t := t) (by have := HTG.out; have := HN.out; omega)
            have cc := (E0.out.1.rr.same KX.out).c (t := t) (by have := HTG.out; have := HN.out; omega)
            have cw := (E0.out.1.rr.same KX.out).wt (t := t) (by have := HTG.out; have := HN.out; omega)
            rw [HXX.out.1] at cb
            rw [HXX.out.2.1] at cc
            rw [HXX.out.2.2] at cw
            clear hbX hWX
            go_wp2_with fail
            go_quiet (fail)
            have KX := hid (KX.out.trans (Kp.drewN WX nq []))
            obtain ⟨WX, hWX⟩ : ∃ WY, WX.drewN nq = WY := ⟨_, rfl⟩
            rw [hWX] at KX ⊢
            clear p0 p1 p2 cb cc cw
            have hbX := (KX.out.block a (lt_of_block (show W4.heap[a]? = some _ from (E0.out.1.kp.block a (lt_of_block HB.out) (by simp)).trans HB.out)) (by simp)).trans ((E0.out.1.kp.block a (lt_of_block HB.out) (by simp)).trans HB.out)
            obtain ⟨p0, p1, p2⟩ := box3_cells hbX
            have cb := (E0.out.1.rr.same KX.out).b (t := t) (by have := HTG.out; have := HN.out; omega)
            have cc := (E0.out.1.rr.same KX.out).c (t := t) (by have := HTG.out; have := HN.out; omega)
            have cw := (E0.out.1.rr.same KX.out).wt (t := t) (by have := HTG.out; have := HN.out; omega)
            rw [HXX.out.1] at cb
            rw [HXX.out.2.1] at cc
            rw [HXX.out.2.2] at cw
            clear hbX hWX
            go_wp2_with fail
            have cg := P.ceil WX gb G t sp (P.still E0.out.1.gr KX.out)
            obtain ⟨EV, hEV⟩ : ∃ EV, baE G t sp = EV := ⟨_, rfl⟩
            rw [hEV] at cg
            go_wp2_with fail
            refine cg.mono ?_
            rintro e W6 ⟨rfl, hg6, k6⟩
            have G6 := hid (show Gr W6 gb (ceG G t sp) ∧ Ns W6 0 (.slice (some ⟨gl, 0, none⟩) n cap) L ∧ Kp w W6 [] from by
              have hkk : Kp W4 W6 [gb] := KX.out.nil.trans k6
              refine ⟨hg6, E0.out.2.kp hkk (by intro g hg; simp [Value.ownBlock] at hg; subst hg; simp; exact HNE.out), ?_⟩
              refine (HK.out.trans E0.out.1.kp).past hkk (by intro j hj hl; have := E0.out.1.g0; have := HK.out.size; simp at hj; omega))
            have ca := P.all W6 gb _ G6.out.1
            clear cg hEV hg6 k6
            go_wp2_with fail
            refine ca.mono ?_
            rintro e W8 ⟨⟨v, rfl, M, hM, hMs⟩, k8⟩
            obtain ⟨ao2, cap2, hv2⟩ := hMs.slice
            have hlm : M.length = n := by rw [hM.len, ce_n, HN.out]
            rw [hlm] at hv2
            subst hv2
            have HLM := hid hlm
            have HMM := hid (fun j (hj : j < G.n) => more_ce HGO.out (t := t) sp HTG.out (by rw [HXX.out.2.1]; exact HQ.out) HE.out hM hj)
            have E8 := hid (show Ns W8 0 (.slice (some ⟨gl, 0, none⟩) n cap) L ∧ Ns W8 0 (.slice ao2 n cap2) M ∧ Kp w W8 [] from ⟨G6.out.2.1.keep k8, hMs.low (Nat.zero_le _), G6.out.2.2.trans k8⟩)
            clear ca hM hMs k8 hlm G6
            go_wp2_with fail
            go_loopw [18] (fun vj W => ∃ (j : Nat), j ≤ n ∧ vj = .int .i64 j ∧ Hid (Ns W 0 (.slice (some ⟨gl, 0, none⟩) n cap) L ∧ Ns W 0 (.slice ao2 n cap2) M ∧ Kp w W [])) (fun vj _ => n - (intOf vj).toNat)
            case atStart => exact ⟨0, by omega, rfl, E8⟩
            case round =>
              obtain ⟨j, hj, rfl, hZ⟩ := hrel
              by_cases hjn : j < n
              · have hjI : (j : Int) < n := by omega
                have hjm := HMM.out j (by rw [HN.out]; exact hjn)
                obtain ⟨x1, hx1⟩ : ∃ x, L[j]! = x := ⟨_, rfl⟩
                obtain ⟨x2, hx2⟩ : ∃ x, M[j]! = x := ⟨_, rfl⟩
                obtain ⟨g1, e1, d1, -⟩ := hZ.out.1.at (k := j) (by have := HLL.out; omega) hx1
                obtain ⟨g2, e2, d2, -⟩ := hZ.out.2.1.at (k := j) (by have := HLM.out; omega) hx2
                simp only [Option.some.injEq, Addr.mk.injEq, and_true] at e1
                subst e1
                subst e2
                rw [hx1, hx2] at hjm
                have dd : decide (x2 < x1) = false := by simp; omega
                have Z2 := hid (fun nq => show Ns (wr.drewN nq) 0 (.slice (some ⟨gl, 0, none⟩) n cap) L ∧ Ns (wr.drewN nq) 0 (.slice (some ⟨g2, 0, none⟩) n cap2) M ∧ Kp w (wr.drewN nq) [] from ⟨hZ.out.1.keep (Kp.drewN _ _ _), hZ.out.2.1.keep (Kp.drewN _ _ _), hZ.out.2.2.trans (Kp.drewN _ _ _)⟩)
                clear hZ hjm hx1 hx2
                go_wp2_with fail
                go_quiet (fail)
                go_wp2_with fail
                go_roundw
                case rel => exact ⟨j + 1, by omega, by simp, hid (Z2.out _)⟩
                case measure => simp [intOf]; omega
              · have hjI : ¬ (j : Int) < n := by omega
                have K6 := hid hZ.out.2.2
                clear hZ
                go_wp2_with fail
                refine (kn _).mono ?_
                rintro e W7 ⟨rfl, k7⟩
                have K7 := hid (K6.out.trans k7)
                clear k7 K6
                go_wp2
                go_ret
                exact ⟨rfl, K7.out⟩
          · have hd : decide (xc ≤ sp) = false := by simp; omega
            go_quiet (fail)
            have KX := hid (Kp.drewN W4 nq [])
            obtain ⟨WX, hWX⟩ : ∃ WX, W4.drewN nq = WX := ⟨_, rfl⟩
            rw [hWX] at KX ⊢
            clear q0 q1 q2 cb cc cw
            have hbX := (KX.out.block a (lt_of_block (show W4.heap[a]? = some _ from (E0.out.1.kp.block a (lt_of_block HB.out) (by simp)).trans HB.out)) (by simp)).trans ((E0.out.1.kp.block a (lt_of_block HB.out) (by simp)).trans HB.out)
            obtain ⟨p0, p1, p2⟩ := box3_cells hbX
            have cb := (E0.out.1.rr.same KX.out).b (t := t) (by have := HTG.out; have := HN.out; omega)
            have cc := (E0.out.1.rr.same KX.out).c (t := t) (by have := HTG.out; have := HN.out; omega)
            have cw := (E0.out.1.rr.same KX.out).wt (t := t) (by have := HTG.out; have := HN.out; omega)
            rw [HXX.out.1] at cb
            rw [HXX.out.2.1] at cc
            rw [HXX.out.2.2] at cw
            clear hbX hWX
            go_wp2_with fail
            go_quiet (fail)
            have KX := hid (KX.out.trans (Kp.drewN WX nq []))
            obtain ⟨WX, hWX⟩ : ∃ WY, WX.drewN nq = WY := ⟨_, rfl⟩
            rw [hWX] at KX ⊢
            clear p0 p1 p2 cb cc cw
            have hbX := (KX.out.block a (lt_of_block (show W4.heap[a]? = some _ from (E0.out.1.kp.block a (lt_of_block HB.out) (by simp)).trans HB.out)) (by simp)).trans ((E0.out.1.kp.block a (lt_of_block HB.out) (by simp)).trans HB.out)
            obtain ⟨p0, p1, p2⟩ := box3_cells hbX
            have cb := (E0.out.1.rr.same KX.out).b (t := t) (by have := HTG.out; have := HN.out; omega)
            have cc := (E0.out.1.rr.same KX.out).c (t := t) (by have := HTG.out; have := HN.out; omega)
            have cw := (E0.out.1.rr.same KX.out).wt (t := t) (by have := HTG.out; have := HN.out; omega)
            rw [HXX.out.1] at cb
            rw [HXX.out.2.1] at cc
            rw [HXX.out.2.2] at cw
            clear hbX hWX
            go_wp2_with fail
            have cr := P.ring WX gb G t (P.still E0.out.1.gr KX.out)
            go_wp2_with fail
            refine cr.mono ?_
            rintro e W6 ⟨⟨v, b, rfl, R, -, -⟩, k6⟩
            have K6 := hid (KX.out.trans k6)
            have cg := P.waits W6 gb G t (-1) (P.still E0.out.1.gr K6.out)
            have eEV : waE G t (-1) = 0 := by
              have := HTG.out
              unfold waE
              rw [if_pos ⟨⟨by omega, by omega⟩, ⟨by omega, by omega⟩⟩]
            rw [eEV] at cg
            clear cr k6 eEV
            go_wp2_with fail
            refine cg.mono ?_
            rintro e W8 ⟨rfl, hg8, k8⟩
            have G8 := hid (show Gr W8 gb (waG G t (-1)) ∧ Ns W8 0 (.slice (some ⟨gl, 0, none⟩) n cap) L ∧ Kp w W8 [] from by
              have hkk : Kp W4 W8 [gb] := K6.out.nil.trans k8
              refine ⟨hg8, E0.out.2.kp hkk (by intro g hg; simp [Value.ownBlock] at hg; subst hg; simp; exact HNE.out), ?_⟩
              refine (HK.out.trans E0.out.1.kp).past hkk (by intro j hj hl; have := E0.out.1.g0; have := HK.out.size; simp at hj; omega))
            have co := P.of_ W8 gb _ t G8.out.1
            clear cg hg8 k8 K6
            go_wp2_with fail
            refine co.mono ?_
            rintro e W9 ⟨⟨x, rfl, hx⟩, k9⟩
            have hxl := stops_wa HGO.out HTG.out HE.out hx
            obtain ⟨g1, e1, d1, -⟩ := (G8.out.2.1.keep k9).at (k := t) (by have := HLL.out; omega) rfl
            simp only [Option.some.injEq, Addr.mk.injEq, and_true] at e1
            subst e1
            rw [← hxl] at d1
            have dd : (x == x) = true := by simp
            have dl : decide (x ≤ x) = true := by simp
            have K6 := hid (G8.out.2.2.trans k9)
            obtain ⟨BB, hBB⟩ : ∃ BB, decide (mayT (waG G t (-1)) t) = BB := ⟨_, rfl⟩
            rw [hBB]
            clear co hx k9 hxl hBB
            cases b with
            | true =>
              go_wp2_with fail
              refine (kn _).mono ?_
              rintro e W7 ⟨rfl, k7⟩
              have K7 := hid (K6.out.trans k7)
              clear k7 K6
              go_wp2
              go_ret
              exact ⟨rfl, K7.out⟩
            | false =>
              go_wp2_with fail
              refine (kn _).mono ?_
              rintro e W7 ⟨rfl, k7⟩
              have K7 := hid (K6.out.trans k7)
              clear k7 K6
              go_wp2
              go_ret
              exact ⟨rfl, K7.out⟩
        by_cases k3 : sk = 3
        · subst k3
          by_cases hq : xw = -1
          · have HQ := hid hq
            have hd : (xw == -1) = true := by simp [hq]
            clear hq
            go_quiet (fail)
            have KX := hid (Kp.drewN W4 nq [])
            obtain ⟨WX, hWX⟩ : ∃ WX, W4.drewN nq = WX := ⟨_, rfl⟩
            rw [hWX] at KX ⊢
            clear q0 q1 q2 cb cc cw
            have hbX := (KX.out.block a (lt_of_block (show W4.heap[a]? = some _ from (E0.out.1.kp.block a (lt_of_block HB.out) (by simp)).trans HB.out)) (by simp)).trans ((E0.out.1.kp.block a (lt_of_block HB.out) (by simp)).trans HB.out)
            obtain ⟨p0, p1, p2⟩ := box3_cells hbX
            have cb := (E0.out.1.rr.same KX.out).b (t := t) (by have := HTG.out; have := HN.out; omega)
            have cc := (E0.out.1.rr.same KX.out).c (t := t) (by have := HTG.out; have := HN.out; omega)
            have cw := (E0.out.1.rr.same KX.out).wt (t := t) (by have := HTG.out; have := HN.out; omega)
            rw [HXX.out.1] at cb
            rw [HXX.out.2.1] at cc
            rw [HXX.out.2.2] at cw
            clear hbX hWX
            go_wp2_with fail
            go_quiet (fail)
            have KX := hid (KX.out.trans (Kp.drewN WX nq []))
            obtain ⟨WX, hWX⟩ : ∃ WY, WX.drewN nq = WY := ⟨_, rfl⟩
            rw [hWX] at KX ⊢
            clear p0 p1 p2 cb cc cw
            have hbX := (KX.out.block a (lt_of_block (show W4.heap[a]? = some _ from (E0.out.1.kp.block a (lt_of_block HB.out) (by simp)).trans HB.out)) (by simp)).trans ((E0.out.1.kp.block a (lt_of_block HB.out) (by simp)).trans HB.out)
            obtain ⟨p0, p1, p2⟩ := box3_cells hbX
            have cb := (E0.out.1.rr.same KX.out).b (t := t) (by have := HTG.out; have := HN.out; omega)
            have cc := (E0.out.1.rr.same KX.out).c (t := t) (by have := HTG.out; have := HN.out; omega)
            have cw := (E0.out.1.rr.same KX.out).wt (t := t) (by have := HTG.out; have := HN.out; omega)
            rw [HXX.out.1] at cb
            rw [HXX.out.2.1] at cc
            rw [HXX.out.2.2] at cw
            clear hbX hWX
            go_wp2_with fail
            have cg := P.waits WX gb G t sp (P.still E0.out.1.gr KX.out)
            obtain ⟨EV, hEV⟩ : ∃ EV, waE G t sp = EV := ⟨_, rfl⟩
            rw [hEV] at cg
            go_wp2_with fail
            refine cg.mono ?_
            rintro e W6 ⟨rfl, hg6, k6⟩
            have G6 := hid (show Gr W6 gb (waG G t sp) ∧ Ns W6 0 (.slice (some ⟨gl, 0, none⟩) n cap) L ∧ Kp w W6 [] from by
              have hkk : Kp W4 W6 [gb] := KX.out.nil.trans k6
              refine ⟨hg6, E0.out.2.kp hkk (by intro g hg; simp [Value.ownBlock] at hg; subst hg; simp; exact HNE.out), ?_⟩
              refine (HK.out.trans E0.out.1.kp).past hkk (by intro j hj hl; have := E0.out.1.g0; have := HK.out.size; simp at hj; omega))
            have ca := P.all W6 gb _ G6.out.1
            clear cg hEV hg6 k6
            go_wp2_with fail
            refine ca.mono ?_
            rintro e W8 ⟨⟨v, rfl, M, hM, hMs⟩, k8⟩
            obtain ⟨ao2, cap2, hv2⟩ := hMs.slice
            have hlm : M.length = n := by rw [hM.len, wa_n, HN.out]
            rw [hlm] at hv2
            subst hv2
            have HLM := hid hlm
            have HMM := hid (fun j (hj : j < G.n) => more_wa HGO.out (t := t) sp (by rw [HXX.out.2.2]; exact HQ.out) HE.out hM hj)
            have E8 := hid (show Ns W8 0 (.slice (some ⟨gl, 0, none⟩) n cap) L ∧ Ns W8 0 (.slice ao2 n cap2) M ∧ Kp w W8 [] from ⟨G6.out.2.1.keep k8, hMs.low (Nat.zero_le _), G6.out.2.2.trans k8⟩)
            clear ca hM hMs k8 hlm G6
            go_wp2_with fail
            go_loopw [18] (fun vj W => ∃ (j : Nat), j ≤ n ∧ vj = .int .i64 j ∧ Hid (Ns W 0 (.slice (some ⟨gl, 0, none⟩) n cap) L ∧ Ns W 0 (.slice ao2 n cap2) M ∧ Kp w W [])) (fun vj _ => n - (intOf vj).toNat)
            case atStart => exact ⟨0, by omega, rfl, E8⟩
            case round =>
              obtain ⟨j, hj, rfl, hZ⟩ := hrel
              by_cases hjn : j < n
              · have hjI : (j : Int) < n := by omega
                have hjm := HMM.out j (by rw [HN.out]; exact hjn)
                obtain ⟨x1, hx1⟩ : ∃ x, L[j]! = x := ⟨_, rfl⟩
                obtain ⟨x2, hx2⟩ : ∃ x, M[j]! = x := ⟨_, rfl⟩
                obtain ⟨g1, e1, d1, -⟩ := hZ.out.1.at (k := j) (by have := HLL.out; omega) hx1
                obtain ⟨g2, e2, d2, -⟩ := hZ.out.2.1.at (k := j) (by have := HLM.out; omega) hx2
                simp only [Option.some.injEq, Addr.mk.injEq, and_true] at e1
                subst e1
                subst e2
                rw [hx1, hx2] at hjm
                have dd : decide (x2 < x1) = false := by simp; omega
                have Z2 := hid (fun nq => show Ns (wr.drewN nq) 0 (.slice (some ⟨gl, 0, none⟩) n cap) L ∧ Ns (wr.drewN nq) 0 (.slice (some ⟨g2, 0, none⟩) n cap2) M ∧ Kp w (wr.drewN nq) [] from ⟨hZ.out.1.keep (Kp.drewN _ _ _), hZ.out.2.1.keep (Kp.drewN _ _ _), hZ.out.2.2.trans (Kp.drewN _ _ _)⟩)
                clear hZ hjm hx1 hx2
                go_wp2_with fail
                go_quiet (fail)
                go_wp2_with fail
                go_roundw
                case rel => exact ⟨j + 1, by omega, by simp, hid (Z2.out _)⟩
                case measure => simp [intOf]; omega
              · have hjI : ¬ (j : Int) < n := by omega
                have K6 := hid hZ.out.2.2
                clear hZ
                go_wp2_with fail
                refine (kn _).mono ?_
                rintro e W7 ⟨rfl, k7⟩
                have K7 := hid (K6.out.trans k7)
                clear k7 K6
                go_wp2
                go_ret
                exact ⟨rfl, K7.out⟩
          · have hd : (xw == -1) = false := by simp [hq]
            go_quiet (fail)
            have KX := hid (Kp.drewN W4 nq [])
            obtain ⟨WX, hWX⟩ : ∃ WX, W4.drewN nq = WX := ⟨_, rfl⟩
            rw [hWX] at KX ⊢
            clear q0 q1 q2 cb cc cw
            have hbX := (KX.out.block a (lt_of_block (show W4.heap[a]? = some _ from (E0.out.1.kp.block a (lt_of_block HB.out) (by simp)).trans HB.out)) (by simp)).trans ((E0.out.1.kp.block a (lt_of_block HB.out) (by simp)).trans HB.out)
            obtain ⟨p0, p1, p2⟩ := box3_cells hbX
            have cb := (E0.out.1.rr.same KX.out).b (t := t) (by have := HTG.out; have := HN.out; omega)
            have cc := (E0.out.1.rr.same KX.out).c (t := t) (by have := HTG.out; have := HN.out; omega)
            have cw := (E0.out.1.rr.same KX.out).wt (t := t) (by have := HTG.out; have := HN.out; omega)
            rw [HXX.out.1] at cb
            rw [HXX.out.2.1] at cc
            rw [HXX.out.2.2] at cw
            clear hbX hWX
            go_wp2_with fail
            go_quiet (fail)
            have KX := hid (KX.out.trans (Kp.drewN WX nq []))
            obtain ⟨WX, hWX⟩ : ∃ WY, WX.drewN nq = WY := ⟨_, rfl⟩
            rw [hWX] at KX ⊢
            clear p0 p1 p2 cb cc cw
            have hbX := (KX.out.block a (lt_of_block (show W4.heap[a]? = some _ from (E0.out.1.kp.block a (lt_of_block HB.out) (by simp)).trans HB.out)) (by simp)).trans ((E0.out.1.kp.block a (lt_of_block HB.out) (by simp)).trans HB.out)
            obtain ⟨p0, p1, p2⟩ := box3_cells hbX
            have cb := (E0.out.1.rr.same KX.out).b (t := t) (by have := HTG.out; have := HN.out; omega)
            have cc := (E0.out.1.rr.same KX.out).c (t := t) (by have := HTG.out; have := HN.out; omega)
            have cw := (E0.out.1.rr.same KX.out).wt (t := t) (by have := HTG.out; have := HN.out; omega)
            rw [HXX.out.1] at cb
            rw [HXX.out.2.1] at cc
            rw [HXX.out.2.2] at cw
            clear hbX hWX
            go_wp2_with fail
            have cr := P.ring WX gb G t (P.still E0.out.1.gr KX.out)
            go_wp2_with fail
            refine cr.mono ?_
            rintro e W6 ⟨⟨v, b, rfl, R, -, -⟩, k6⟩
            have K6 := hid (KX.out.trans k6)
            have cg := P.waits W6 gb G t (-1) (P.still E0.out.1.gr K6.out)
            have eEV : waE G t (-1) = 0 := by
              have := HTG.out
              unfold waE
              rw [if_pos ⟨⟨by omega, by omega⟩, ⟨by omega, by omega⟩⟩]
            rw [eEV] at cg
            clear cr k6 eEV
            go_wp2_with fail
            refine cg.mono ?_
            rintro e W8 ⟨rfl, hg8, k8⟩
            have G8 := hid (show Gr W8 gb (waG G t (-1)) ∧ Ns W8 0 (.slice (some ⟨gl, 0, none⟩) n cap) L ∧ Kp w W8 [] from by
              have hkk : Kp W4 W8 [gb] := K6.out.nil.trans k8
              refine ⟨hg8, E0.out.2.kp hkk (by intro g hg; simp [Value.ownBlock] at hg; subst hg; simp; exact HNE.out), ?_⟩
              refine (HK.out.trans E0.out.1.kp).past hkk (by intro j hj hl; have := E0.out.1.g0; have := HK.out.size; simp at hj; omega))
            have co := P.of_ W8 gb _ t G8.out.1
            clear cg hg8 k8 K6
            go_wp2_with fail
            refine co.mono ?_
            rintro e W9 ⟨⟨x, rfl, hx⟩, k9⟩
            have hxl := stops_wa HGO.out HTG.out HE.out hx
            obtain ⟨g1, e1, d1, -⟩ := (G8.out.2.1.keep k9).at (k := t) (by have := HLL.out; omega) rfl
            simp only [Option.some.injEq, Addr.mk.injEq, and_true] at e1
            subst e1
            rw [← hxl] at d1
            have dd : (x == x) = true := by simp
            have dl : decide (x ≤ x) = true := by simp
            have K6 := hid (G8.out.2.2.trans k9)
            obtain ⟨BB, hBB⟩ : ∃ BB, decide (mayT (waG G t (-1)) t) = BB := ⟨_, rfl⟩
            rw [hBB]
            clear co hx k9 hxl hBB
            cases b with
            | true =>
              go_wp2_with fail
              refine (kn _).mono ?_
              rintro e W7 ⟨rfl, k7⟩
              have K7 := hid (K6.out.trans k7)
              clear k7 K6
              go_wp2
              go_ret
              exact ⟨rfl, K7.out⟩
            | false =>
              go_wp2_with fail
              refine (kn _).mono ?_
              rintro e W7 ⟨rfl, k7⟩
              have K7 := hid (K6.out.trans k7)
              clear k7 K6
              go_wp2
              go_ret
              exact ⟨rfl, K7.out⟩
        have f1 : (sk == 1) = false := by simp [k1]
        have f2 : (sk == 2) = false := by simp [k2]
        have f3 : (sk == 3) = false := by simp [k3]
        clear k1 k2 k3
        go_quiet (fail)
        have KX := hid (Kp.drewN W4 nq [])
        obtain ⟨WX, hWX⟩ : ∃ WX, W4.drewN nq = WX := ⟨_, rfl⟩
        rw [hWX] at KX ⊢
        clear q0 q1 q2 cb cc cw
        have hbX := (KX.out.block a (lt_of_block (show W4.heap[a]? = some _ from (E0.out.1.kp.block a (lt_of_block HB.out) (by simp)).trans HB.out)) (by simp)).trans ((E0.out.1.kp.block a (lt_of_block HB.out) (by simp)).trans HB.out)
        obtain ⟨p0, p1, p2⟩ := box3_cells hbX
        have cb := (E0.out.1.rr.same KX.out).b (t := t) (by have := HTG.out; have := HN.out; omega)
        have cc := (E0.out.1.rr.same KX.out).c (t := t) (by have := HTG.out; have := HN.out; omega)
        have cw := (E0.out.1.rr.same KX.out).wt (t := t) (by have := HTG.out; have := HN.out; omega)
        rw [HXX.out.1] at cb
        rw [HXX.out.2.1] at cc
        rw [HXX.out.2.2] at cw
        clear hbX hWX
        go_wp2_with fail
        go_quiet (fail)
        have KX := hid (KX.out.trans (Kp.drewN WX nq []))
        obtain ⟨WX, hWX⟩ : ∃ WY, WX.drewN nq = WY := ⟨_, rfl⟩
        rw [hWX] at KX ⊢
        clear p0 p1 p2 cb cc cw
        have hbX := (KX.out.block a (lt_of_block (show W4.heap[a]? = some _ from (E0.out.1.kp.block a (lt_of_block HB.out) (by simp)).trans HB.out)) (by simp)).trans ((E0.out.1.kp.block a (lt_of_block HB.out) (by simp)).trans HB.out)
        obtain ⟨p0, p1, p2⟩ := box3_cells hbX
        have cb := (E0.out.1.rr.same KX.out).b (t := t) (by have := HTG.out; have := HN.out; omega)
        have cc := (E0.out.1.rr.same KX.out).c (t := t) (by have := HTG.out; have := HN.out; omega)
        have cw := (E0.out.1.rr.same KX.out).wt (t := t) (by have := HTG.out; have := HN.out; omega)
        rw [HXX.out.1] at cb
        rw [HXX.out.2.1] at cc
        rw [HXX.out.2.2] at cw
        clear hbX hWX
        go_wp2_with fail
        have cr := P.ring WX gb G t (P.still E0.out.1.gr KX.out)
        go_wp2_with fail
        refine cr.mono ?_
        rintro e W6 ⟨⟨v, b, rfl, R, -, -⟩, k6⟩
        have K6 := hid (KX.out.trans k6)
        have cg := P.waits W6 gb G t (-1) (P.still E0.out.1.gr K6.out)
        have eEV : waE G t (-1) = 0 := by
          have := HTG.out
          unfold waE
          rw [if_pos ⟨⟨by omega, by omega⟩, ⟨by omega, by omega⟩⟩]
        rw [eEV] at cg
        clear cr k6 eEV
        go_wp2_with fail
        refine cg.mono ?_
        rintro e W8 ⟨rfl, hg8, k8⟩
        have G8 := hid (show Gr W8 gb (waG G t (-1)) ∧ Ns W8 0 (.slice (some ⟨gl, 0, none⟩) n cap) L ∧ Kp w W8 [] from by
          have hkk : Kp W4 W8 [gb] := K6.out.nil.trans k8
          refine ⟨hg8, E0.out.2.kp hkk (by intro g hg; simp [Value.ownBlock] at hg; subst hg; simp; exact HNE.out), ?_⟩
          refine (HK.out.trans E0.out.1.kp).past hkk (by intro j hj hl; have := E0.out.1.g0; have := HK.out.size; simp at hj; omega))
        have co := P.of_ W8 gb _ t G8.out.1
        clear cg hg8 k8 K6
        go_wp2_with fail
        refine co.mono ?_
        rintro e W9 ⟨⟨x, rfl, hx⟩, k9⟩
        have hxl := stops_wa HGO.out HTG.out HE.out hx
        obtain ⟨g1, e1, d1, -⟩ := (G8.out.2.1.keep k9).at (k := t) (by have := HLL.out; omega) rfl
        simp only [Option.some.injEq, Addr.mk.injEq, and_true] at e1
        subst e1
        rw [← hxl] at d1
        have dd : (x == x) = true := by simp
        have dl : decide (x ≤ x) = true := by simp
        have K6 := hid (G8.out.2.2.trans k9)
        obtain ⟨BB, hBB⟩ : ∃ BB, decide (mayT (waG G t (-1)) t) = BB := ⟨_, rfl⟩
        rw [hBB]
        clear co hx k9 hxl hBB
        cases b with
        | true =>
          go_wp2_with fail
          refine (kn _).mono ?_
          rintro e W7 ⟨rfl, k7⟩
          have K7 := hid (K6.out.trans k7)
          clear k7 K6
          go_wp2
          go_ret
          exact ⟨rfl, K7.out⟩
        | false =>
          go_wp2_with fail
          refine (kn _).mono ?_
          rintro e W7 ⟨rfl, k7⟩
          have K7 := hid (K6.out.trans k7)
          clear k7 K6
          go_wp2
          go_ret
          exact ⟨rfl, K7.out⟩
  · have hNI : (100 : Int) < N := by omega
    have K6 := hid (HK.out.trans D0.out.1.kp)
    clear D0
    go_wp2_with fail
    refine (kn _).mono ?_
    rintro e W7 ⟨rfl, k7⟩
    have K7 := hid (K6.out.trans k7)
    clear k7 K6
    go_wp2
    go_ret
    exact ⟨rfl, K7.out⟩
theorem raises_walk (P : Prg Gr) (kn : KnownOk) (w : World) (k : Int) (V : Value) (N : Nat) (S : Nat → Sp) (hV : Sc w V N S) (sk st sp : Int) : Calls Try.prog 5 #[.int .i64 k, V, .agg #[.int .i64 sk, .int .i64 st, .int .i64 sp]] w fun e w' => e = .returned (.bool true) ∧ Kp w w' [] := by
  by_cases hk : 1 ≤ k ∧ k ≤ 16
  · obtain ⟨n, rfl⟩ : ∃ n : Nat, k = n := ⟨k.toNat, by omega⟩
    exact raises_ok P kn w n (by omega) (by omega) V N S hV sk st sp
  · exact raises_no P kn w k V N S hV sk st sp hk
end
end Go.Proofs.Ytomdnppnabncaaa
