/- The reference: Receive, where somebody waits to send. -/
import Derived.BigQuiet
import Derived.Deep.RegionHeldLaw
import Derived.Deep.RegionWith
import Derived.Deep.RegionLaw
import Derived.Test.YtllkopekfanfaaaRr
import Derived.Test.YtllkopekfanfaaaSnJ
import Derived.Test.YtllkopekfanfaaaRu
import Derived.Test.YtllkopekfanfaaaRcJ
namespace Go.Proofs.Ytllkopekfanfaaa
open Go.RowKit Go.Shelf Go.Lib Go.Sort Go.Maps
attribute [local go_sem] Oper.semAt_some

variable {w w' : World} {rb sb tb : Nat} {V : Value} {Rl : Ml} {g : Nat → Int × Int} {M : Qs} {B : Option Nat}
set_option maxRecDepth 100000 in
set_option maxHeartbeats 4000000 in
theorem rrec_three (h : Ri w rb sb tb V Rl g M) (t pr : Int) (hA : (mayT t && mayP pr) = true) (hW : wAny M t = false) (x1 x2 : Int) (Z : Ml) (hL : M.L = (x1, x2) :: Z) (hb : fstB M.s = true) (tn : Nat) (htn : fstT M.s = tn) (ht16 : tn < 16) (hmg : mayM (g tn).2 = true) (htie : ∀ u : Nat, u < 16 → hasP (takeL M.s) u = true → setF M.f tn none u = some (g u)) : Calls Try.prog 30 #[.pointer (some ⟨rb, 0, none⟩), .int .i64 t, .int .i64 pr] w fun e w' => e = .returned (.tuple #[passed true (x1, x2) tn, .int .i64 0]) ∧ Rto w w' rb sb tb V.ownBlock { M with L := putM Z (g tn), s := takeL M.s, f := setF M.f tn none } := by
  have k0 := Kp.alloc w (.cells #[.bool false, .int .i64 0, .int .i64 0, .int .i64 0] 45) []
  have p0 := hid (Bp.new1 w)
  have HA := hid (fun z => ask_any z rb t pr)
  have H := hid h
  have K0 := hid k0
  have hAE : askE t pr = 0 := by unfold askE; rw [hA]; rfl
  rw [hAE] at HA
  have HWT := hid (fun (z : World) (hk : Kp w z []) => rwaiting_any (h.same hk) t)
  rw [hW] at HWT
  generalize wSend M t = A at HWT
  have HO := hid (fun (z : World) (hk : Kp w z []) => rorderM_any z rb sb tb V Rl g M (h.same hk))
  have HLL := hid hL
  have HMG := hid hmg
  have HB0 := hid hb
  have HB1 := hid htn
  have HB2 := hid ht16
  have HTIE := hid htie
  rw [hL] at HO
  clear hA hAE hW hL hb htn ht16 hmg htie
  clear h k0
  obtain ⟨s, hs⟩ : ∃ s, w.heap.size = s := ⟨_, rfl⟩
  obtain ⟨W0, hW0⟩ : ∃ W0, w.alloc (.cells #[.bool false, .int .i64 0, .int .i64 0, .int .i64 0] 45) = W0 := ⟨_, rfl⟩
  go_enter Try.func30, Try.ntmps30
  go_wp2_with fail
  simp only [hW0, hs] at K0 p0 ⊢
  refine (HA.out _).mono ?_
  rintro e w1 ⟨rfl, hw⟩; obtain rfl := hw.symm
  go_wp2_with fail
  refine (HWT.out _ K0.out).mono ?_
  rintro e w1 ⟨rfl, hw⟩; obtain rfl := hw.symm
  go_wp2_with fail
  refine (HO.out _ K0.out).mono ?_
  rintro e w2 ⟨v, rfl, hm, hk⟩
  obtain ⟨av, cv, rfl⟩ := hm.slice
  have K2 := hid (K0.out.trans hk)
  have P2 := hid (p0.out.keep hk (by simp))
  have HLT := hid (show s < w2.heap.size from lt_of_block P2.out)
  obtain ⟨gv, rfl, v0, v1⟩ := hm.at (k := 0) (x := (x1, x2)) rfl
  rw [List.length_cons]
  have HMR := hid hm
  clear hm hk
  go_wp2_with fail
  have kb := Kp.alloc w2 (.cells #[.bool true, .int .i64 x1, .int .i64 x2, .int .i64 (-1)] 45) []
  have PO : Bp (w2.alloc (.cells #[.bool true, .int .i64 x1, .int .i64 x2, .int .i64 (-1)] 45)) w2.heap.size true x1 x2 (-1) := heap_alloc_new w2 _
  have K3 := hid (K2.out.trans kb)
  have P3 := hid (P2.out.keep kb (by simp))
  have PO := hid PO
  have M3 := hid (HMR.out.keep kb)
  have HKB := hid kb
  obtain ⟨W3, hW3⟩ : ∃ W3, w2.alloc (.cells #[.bool true, .int .i64 x1, .int .i64 x2, .int .i64 (-1)] 45) = W3 := ⟨_, rfl⟩
  obtain ⟨ob, hob⟩ : ∃ ob, w2.heap.size = ob := ⟨_, rfl⟩
  have HOB := hid (show s < ob by have := HLT.out; omega)
  have HOE := hid hob
  simp only [hW3, hob] at K3 P3 PO M3 kb ⊢
  have HK23 := hid kb
  clear kb v0 v1 hW3 hob HMR HKB
  have hmem : (x1, x2) ∈ Rl := by
    have h := H.out.ord
    rw [HLL.out] at h
    exact (ordM_mem H.out.msg).1 (by rw [h]; simp)
  have HME := hid hmem
  obtain ⟨N, hN⟩ : ∃ N, Rl.length = N := ⟨_, rfl⟩
  have HN := hid hN
  obtain ⟨NZ, hNZ⟩ : ∃ NZ, Z.length + 1 = NZ := ⟨_, rfl⟩
  have hNZI : ((Z.length : Nat) : Int) + 1 = (NZ : Int) := by omega
  have hNZ0 : 0 < NZ := by omega
  have h32 : N ≤ 32 := by rw [← hN]; exact H.out.len
  clear hmem hN
  simp only [hNZ, hNZI] at M3 ⊢
  clear hNZ hNZI
  go_loopw [13] (fun vi wr => ∃ k : Nat, k < N ∧ vi = .int .i64 k ∧ Hid ((∀ y ∈ Rl.take k, y.2 ≠ x2) ∧ Kp W3 wr [])) (fun vi _ => N - (intOf vi).toNat)
  case atStart => exact ⟨0, by have := HN.out; have := List.length_pos_of_mem HME.out; omega, rfl, hid ⟨by simp, Kp.refl _ _⟩⟩
  case round =>
    obtain ⟨k, hk, rfl, hR⟩ := hrel
    have hRI := H.out.same (K3.out.trans hR.out.2)
    have c1 := hRI.c1
    obtain ⟨ao, cap, hV⟩ := hRI.ms.slice
    have hms := hRI.ms
    rw [hV] at c1 hms
    rw [show Rl.length = N from HN.out] at c1 hms
    have hk1 : k < Rl.length := by have := HN.out; omega
    have hx0 := List.getElem?_eq_getElem hk1
    obtain ⟨y1, y2, hy⟩ : ∃ y1 y2, Rl[k] = (y1, y2) := ⟨Rl[k].1, Rl[k].2, rfl⟩
    rw [hy] at hx0
    obtain ⟨g1, rfl, e1, e2⟩ := hms.at hx0
    obtain ⟨gv', hgv, v0, v1⟩ := (M3.out.keep hR.out.2).at (k := 0) (x := (x1, x2)) rfl
    cases hgv
    have HY := hid hx0
    have HVV := hid hV
    clear hy hk1 hx0
    by_cases hq : y2 = x2
    · have hqb : (y2 != x2) = false := by simp [hq]
      have HQ := hid hq
      have HMS := hid hms
      clear hms hV hRI
      go_wp2_with fail
      go_region_held_law (fun W => W.cell? ⟨rb, 1, none⟩ = some (.slice (some ⟨g1, 0, none⟩) N cap) ∧ W.cell? ⟨g1, k * 2 + 1, none⟩ = some (.int .i64 y2) ∧ W.cell? ⟨gv, 1, none⟩ = some (.int .i64 x2)) (exact ⟨c1, e2, v1⟩) (fail)
      have HR3 := hid (hR.out.2.trans (Kp.drew wr []))
      have hkk : k ≤ cap ∧ k + 1 ≤ cap ∧ N ≤ cap := by have := HMS.out.le; omega
      clear c1 e1 e2 v0 v1 hq
      generalize wr.drew = y0 at HR3 ⊢
      have HXY := hid (show Ri y0 rb sb tb V Rl g M ∧ Kp w y0 [] from ⟨H.out.same (K3.out.trans HR3.out), K3.out.trans HR3.out⟩)
      have PY := hid (P3.out.keep HR3.out (by simp))
      have POY := hid (PO.out.keep HR3.out (by simp))
      have c1 := HXY.out.1.c1
      rw [HVV.out, HN.out] at c1
      have HMS2 := HXY.out.1.ms
      rw [HVV.out, HN.out] at HMS2
      have HMS2 := hid HMS2
      have hrl : rb < y0.heap.size := HXY.out.1.lt.1
      have HRH := hid HXY.out.1.hh
      have VF := hid (show Wm y0 (.slice (some ⟨g1, 0, none⟩) k cap) (Rl.take k) from HMS2.out.front (by have := HN.out; omega))
      have VB := hid (show ∀ o m c, m = N - (k + 1) → (cap ≠ k + 1 → o = (k + 1) * 2) → (cap = k + 1 → o = 0) → Wm y0 (.slice (some ⟨g1, o, none⟩) m c) (Rl.drop (k + 1)) from fun o m c hm h1 h2 => by
        subst hm
        by_cases q : cap = k + 1
        · rw [h2 q, show N - (k + 1) = 0 by omega, show Rl.drop (k + 1) = [] from List.drop_eq_nil_of_le (by have := HN.out; omega)]
          exact wm_empty y0 g1 0 c
        · rw [h1 q]
          exact HMS2.out.back (by have := HN.out; omega))
      have hwr : IntKind.i64.wrap ((k : Int) + 1) = (k : Int) + 1 := IntWalk.i64_in _ ⟨by omega, by omega⟩
      have hic1 : k + 1 ≤ cap := hkk.2.1
      have hic0 : (0 : Int) ≤ (k : Int) + 1 := by omega
      have hic2 : k ≤ cap := hkk.1
      have hic3 : (k : Int) ≤ cap := by omega
      have hiN1 : k + 1 ≤ N := by omega
      have hiN2 : (k : Int) + 1 ≤ N := by omega
      have HORD := hid (show ordM (Rl.take k ++ Rl.drop (k + 1)) = Z ∧ okM (Rl.take k ++ Rl.drop (k + 1)) from by
        have hsp : Rl = Rl.take k ++ (y1, y2) :: Rl.drop (k + 1) := by
          have hk1 := (List.getElem?_eq_some_iff.1 HY.out)
          obtain ⟨h1, h2⟩ := hk1
          rw [← h2, ← List.drop_eq_getElem_cons h1, List.take_append_drop]
        have hok := H.out.msg
        have hor := H.out.ord
        rw [HLL.out] at hor
        rw [hsp] at hok hor
        have := ordM_take hok hor HQ.out (hR.out.1)
        refine ⟨this.2, fun y hy => H.out.msg y ?_⟩
        rcases List.mem_append.1 hy with hy | hy
        · exact List.mem_of_mem_take hy
        · exact List.mem_of_mem_drop hy)
      have HLN := hid (show Rl.length ≤ 1000 by have := HN.out; omega)
      rcases (show cap = k + 1 ∨ k + 1 < cap by omega) with hq1 | hq1
      case' inl =>
        subst hq1
        have hq3 : (k : Int) ≤ (k : Int) + 1 := by omega
      case' inr => have hq2 : ¬ cap = k + 1 := by omega
      all_goals
        clear hR
        go_wp2_with fail
        go_region_law
          (first
            | (refine step_app1 (by rfl) _ _ (by rfl) 71 (by rfl) (y0 := y0) (l := Rl.take k) (by rfl) (by rfl) VF.out (Kp.drew _ _) (by rw [List.length_take]; have := HLN.out; omega) k (by rw [List.length_take]; have := HN.out; omega) ?_; intro a2 c2 z2 n2 k2 kb; have N2 := hid n2; have K2' := hid k2; have cc2 := (cellR1 ((k2.block rb hrl (by simp)).trans HRH.out)).trans (congrArg some HVV.out); rw [HN.out] at cc2; clear n2 k2 kb)
            | (refine step_app2L (by rfl) _ _ (by rfl) 79 (by rfl) (y0 := y0) (l := Rl.take k) (m := Rl.drop (k + 1)) (by rfl) N2.out (by rfl) ((VB.out _ _ _ (by omega) (by intros; omega) (by intros; omega)).keep K2'.out) K2'.out (by rw [List.length_take]; have := HLN.out; omega) (by rw [List.length_drop]; have := HLN.out; omega) (N - 1) (by rw [List.length_append, List.length_take, List.length_drop]; have := HN.out; omega) ?_; intro a3 c3 z3 n3 k3; have N3 := hid n3; have K3' := hid k3; have RB3 := (k3.block rb hrl (by simp)).trans HRH.out; have cc3 := (cellR1 RB3).trans (congrArg some HVV.out); rw [HN.out] at cc3; have ff3 := freeR RB3 1; clear n3 k3 RB3))
        all_goals (
          have hM := HXY.out.1.setl K3'.out N3.out HORD.out.1 HORD.out.2 (by rw [List.length_append, List.length_take, List.length_drop]; have := HN.out; omega)
          have hsn : s ∉ [rb, sb, tb] ∧ ob ∉ [rb, sb, tb] := ⟨fun hm => by have := H.out.lt; simp at hm; omega, fun hm => by have := H.out.lt; have := HOB.out; simp at hm; omega⟩
          have P4 := hid (PY.out.keep hM.2 hsn.1)
          have O4 := hid (POY.out.keep hM.2 hsn.2)
          have hvb : ∀ j, Value.ownBlock (.slice a3 (N - 1) c3) = some j → y0.heap.size ≤ j := fun j e => (owns_block N3.out e).1
          obtain ⟨z4, hz4⟩ : ∃ z4, z3.setCell ⟨rb, 1, none⟩ (.slice a3 (N - 1) c3) = z4 := ⟨_, rfl⟩
          simp only [hz4] at hM P4 O4 ⊢
          have c2 := hM.1.c2
          have HTK := hid (rtake_any z4 sb _ hM.1.rs hM.1.os)
          have HM := hid hM
          have HVB := hid hvb
          have HSN := hid hsn
          clear hM hsn hz4 hvb cc2 cc3 ff3 c1
          rw [HB0.out, HB1.out] at HTK
          have ht16 := HB2.out
          have ht16I : (tn : Int) < 16 := by omega
          go_wp2_with fail
          refine HTK.out.mono ?_
          rintro e z5 ⟨rfl, h5⟩
          have hX := HM.out.1.sets (f' := setF M.f tn none) h5 HM.out.1.os.take HTIE.out
          have P5 := hid (P4.out.keep hX.2 HSN.out.1)
          have O5 := hid (O4.out.keep hX.2 HSN.out.2)
          have HX := hid hX
          have c1 := hX.1.c1
          have mc := hX.1.mc ht16
          clear h5 hX
          go_wp2_with fail
          obtain ⟨mc0, mc1⟩ := mc
          have hrl5 : rb < z5.heap.size := HX.out.1.lt.1
          have HRH5 := hid HX.out.1.hh
          have HV5 := hid (show Mr z5 0 (.slice a3 (N - 1) c3) (Rl.take k ++ Rl.drop (k + 1)) ∧ (Rl.take k ++ Rl.drop (k + 1)).length ≤ 32 from ⟨HX.out.1.ms, HX.out.1.len⟩)
          have HNL := hid (show (Rl.take k ++ Rl.drop (k + 1) ++ [g tn]).length = N by simp only [List.length_append, List.length_take, List.length_drop, List.length_cons, List.length_nil]; have := HN.out; omega)
          obtain ⟨m1, m2, hmm⟩ : ∃ m1 m2, g tn = (m1, m2) := ⟨_, _, rfl⟩
          rw [hmm] at mc0 mc1 HNL
          have HMM := hid hmm
          clear hmm
          go_wp2_with fail
          go_region_law
            (refine step_app3 (by rfl) _ _ (by rfl) 103 (by rfl) (l := Rl.take k ++ Rl.drop (k + 1)) (m := (m1, m2)) (by rfl) ((HV5.out.1.keep (Kp.alloc _ _ _)).keep (Kp.drew _ _)) (by rfl) ((mr_one z5 m1 m2).keep (Kp.drew _ _)) (by have := HV5.out.2; omega) N HNL.out ?_; intro a6 c6 z6 n6 g6 l6; have N6 := hid (And.intro n6 (And.intro g6 l6)); have RB6 := (((Kp.ofGrown g6 (rows := (Value.slice a3 (N - 1) c3).ownBlock.toList) (fun g e => by simp [e])).block rb (by simp; omega) (fun hm => by simp only [Option.mem_toList] at hm; have := HVB.out _ hm; omega)).trans ((Below.heap_alloc _ _ _ hrl5).trans HRH5.out)); have cc6 := cellR1 RB6; have ff6 := freeR RB6 1; clear n6 g6 l6 RB6)
          all_goals (
            have K6 := hid (show Kp z5 z6 (Value.slice a3 (N - 1) c3).ownBlock.toList from (((Kp.alloc z5 _ []).trans (Kp.drew _ _)).nil).trans (Kp.ofGrown N6.out.2.1 (fun g e => by simp [e])))
            have hS := HX.out.1.setl2 (L' := putM Z (m1, m2)) K6.out N6.out.1 (fun j e => by
              rcases N6.out.2.2 with q | q
              · exact .inl (q.symm.trans e)
              · rw [q] at e
                cases e
                exact .inr (by simp)) (by rw [ordM_put HORD.out.2 (by have := HMG.out; rw [HMM.out] at this; exact this), HORD.out.1]) (HORD.out.2.snoc (by have := HMG.out; rw [HMM.out] at this; exact this)) (by rw [HNL.out]; exact h32)
            have hvl : ∀ j ∈ rb :: (Value.slice a3 (N - 1) c3).ownBlock.toList, j < w2.heap.size → j ∈ [rb, sb, tb] := fun j hj hl => by
              rcases List.mem_cons.1 hj with hj | hj
              · simp [hj]
              · simp only [Option.mem_toList] at hj
                have := HVB.out _ hj
                have := (HK23.out.trans HR3.out).size
                omega
            have HY6 := hid (show Ri (z6.setCell ⟨rb, 1, none⟩ (.slice a6 N c6)) rb sb tb (.slice a6 N c6) _ g _ ∧ Kp w2 (z6.setCell ⟨rb, 1, none⟩ (.slice a6 N c6)) [rb, sb, tb] from ⟨hS.1, ((((HK23.out.trans HR3.out).nil).trans HM.out.2).trans HX.out.2).past hS.2 hvl⟩)
            have hso : s ∉ rb :: (Value.slice a3 (N - 1) c3).ownBlock.toList := fun hj => by
              rcases List.mem_cons.1 hj with hj | hj
              · exact HSN.out.1 (by simp [hj])
              · simp only [Option.mem_toList] at hj
                have := HVB.out _ hj
                have := (HK23.out.trans HR3.out).size
                have := HLT.out
                omega
            have hoo : ob ∉ rb :: (Value.slice a3 (N - 1) c3).ownBlock.toList := fun hj => by
              rcases List.mem_cons.1 hj with hj | hj
              · exact HSN.out.2 (by simp [hj])
              · simp only [Option.mem_toList] at hj
                have := HVB.out _ hj
                have := lt_of_block POY.out
                omega
            have P7 := hid (P5.out.keep hS.2 hso)
            have O7 := O5.out.keep hS.2 hoo
            have HVB6 := hid (show ∀ j, Value.ownBlock (.slice a6 N c6) = some j → w2.heap.size ≤ j from fun j e => by
              have h1 := (HK23.out.trans HR3.out).size
              rcases N6.out.2.2 with q | q
              · have := HVB.out j (q.symm.trans e)
                omega
              · rw [q] at e
                cases e
                have h2 := HM.out.2.size
                have h3 := HX.out.2.size
                simp
                omega)
            obtain ⟨z7, hz7⟩ : ∃ z7, z6.setCell ⟨rb, 1, none⟩ (.slice a6 N c6) = z7 := ⟨_, rfl⟩
            simp only [hz7] at HY6 P7 O7 ⊢
            clear hS hvl hso hoo hz7 cc6 ff6 HRH5 hrl5 mc0 mc1 c1 c2
            have o0 := O7.c0
            have o1 := O7.c1
            have o2 := O7.c2
            have o3 := O7.c3
            have o4 := O7.fr
            have q0 := P7.out.c0
            have q1 := P7.out.c1
            have q2 := P7.out.c2
            have q3 := P7.out.c3
            have q4 := P7.out.fr
            have hne1 : s ≠ ob := by have := HOB.out; omega
            have hne2 : ob ≠ s := by have := HOB.out; omega
            have HO7 := hid O7
            clear O7
            have HO8 := hid (HO7.out.set3 (tn : Int))
            have P8 := hid (P7.out.keep (Kp.setCell z7 ⟨ob, 3, none⟩ (.int .i64 tn)) (fun hm => by have := HOB.out; simp at hm; omega))
            have HK8 := hid (HY6.out.2.past (Kp.setCell z7 ⟨ob, 3, none⟩ (.int .i64 tn)) (fun j hj hl => by have := HOE.out; simp at hj; omega))
            have HR8 := hid (HY6.out.1.keep (Kp.setCell z7 ⟨ob, 3, none⟩ (.int .i64 tn)) (fun k hk c t e => by simp only [List.mem_singleton] at hk; subst hk; rw [show z7.heap[_]? = _ from HO7.out] at e; simp at e; obtain ⟨-, rfl⟩ := e; decide) (fun k e hk => by
              simp only [List.mem_singleton] at hk
              subst hk
              obtain ⟨cur, hc⟩ := HY6.out.1.vb e
              rw [show z7.heap[_]? = _ from HO7.out] at hc
              simp at hc))
            have e0 := P8.out.c0
            have e1 := P8.out.c1
            have e2 := P8.out.c2
            have e3 := P8.out.c3
            have e4 := P8.out.fr
            go_wp2
            refine bodyPost_ret (results_cell_tmp rfl _ _ s #[.bool true, .int .i64 x1, .int .i64 x2, .int .i64 tn] (0, 0) rfl (P8.out.set true x1 x2 tn) (size45 _ _ _ _)) rfl ?_
            refine ⟨rfl, ?_⟩
            rw [HMM.out]
            exact fin_boxR H.out K2.out HR8.out.rq (fun j e => .inr (HVB6.out j e)) HK8.out (by omega) HLT.out (kp_set4 _ _ _ _ _ _) ⟨_, P8.out⟩))
    · have hqb : (y2 != x2) = true := by simp [hq]
      have hk1 : k + 1 < N := by
        refine Decidable.byContradiction fun hn => ?_
        have h1 : Rl.take (k + 1) = Rl := List.take_of_length_le (by have := HN.out; omega)
        have h2 := HME.out
        rw [← h1, take_nx HY.out] at h2
        rcases List.mem_append.1 h2 with h2 | h2
        · exact hR.out.1 _ h2 rfl
        · simp at h2
          exact hq h2.2.symm
      have R2 := hid (show (∀ y ∈ Rl.take (k + 1), y.2 ≠ x2) ∧ Kp W3 wr.drew [] from ⟨fun y hy => by
        rw [take_nx HY.out] at hy
        rcases List.mem_append.1 hy with hy | hy
        · exact hR.out.1 y hy
        · simp at hy
          subst hy
          exact hq, hR.out.2.trans (Kp.drew _ _)⟩)
      clear hq hms hV hRI hR
      go_wp2_with fail
      go_region_held_law (fun W => W.cell? ⟨rb, 1, none⟩ = some (.slice (some ⟨g1, 0, none⟩) N cap) ∧ W.cell? ⟨g1, k * 2 + 1, none⟩ = some (.int .i64 y2) ∧ W.cell? ⟨gv, 1, none⟩ = some (.int .i64 x2)) (exact ⟨c1, e2, v1⟩) (fail)
      go_wp2_with fail
      go_roundw
      case rel => exact ⟨k + 1, hk1, by simp, R2⟩
      case measure => simp [intOf]; omega
end Go.Proofs.Ytllkopekfanfaaa

/- What holds of each queue is kept. -/
namespace Go.Proofs.Ytllkopekfanfaaa
open Go.RowKit Go.Shelf Go.Lib Go.Sort Go.Maps
attribute [local go_sem] Oper.semAt_some

theorem has_nil (t : Int) : hasP [] t = false := rfl
theorem fst_no {L : List Dl} (h : okL L) (hb : fstB L = false) : L = [] := by
  unfold fstB at hb
  have h1 := ord_len h
  cases hz : ordL L with
  | nil => rw [hz] at h1; exact List.eq_nil_of_length_eq_zero h1.symm
  | cons x Z => rw [hz] at hb; simp at hb
theorem fst_nilB : fstB [] = false := by
  unfold fstB
  have h1 := ord_len okL.nil
  cases hz : ordL [] with
  | nil => rfl
  | cons x Z => rw [hz] at h1; simp at h1
theorem has_rng {L : List Dl} (h : okL L) {t : Int} (hp : hasP L t = true) : 0 ≤ t ∧ t < 16 := by
  obtain ⟨x, hx, rfl⟩ := mem_has.1 hp
  exact (h.rng x hx).1
theorem has_may {L : List Dl} (h : okL L) {t : Int} (hp : hasP L t = true) : mayT t = true := by
  have := has_rng h hp
  simp [mayT, this]
theorem has_put {L : List Dl} {t p : Int} (hm : (mayT t && mayP p) = true) (hn : hasP L t = false) (u : Int) : hasP (putL L t p) u = true ↔ u = t ∨ hasP L u = true := by
  refine ⟨has_putL, fun h => ?_⟩
  unfold putL
  rw [if_pos hm, hn]
  rcases h with rfl | h
  · simp [hasP]
  · obtain ⟨x, hx, rfl⟩ := mem_has.1 h
    exact mem_has.2 ⟨x, by simp [hx], rfl⟩
theorem has_take {L : List Dl} (hb : fstB L = true) (u : Int) : hasP (takeL L) u = true ↔ hasP L u = true ∧ u ≠ fstT L := by
  unfold takeL
  rw [if_pos hb]
  exact has_delP _ _ _
theorem has_lv {L : List Dl} {t : Int} (hm : mayT t = true) (u : Int) : hasP (lvL L t) u = true ↔ hasP L u = true ∧ u ≠ t := by
  unfold lvL
  rw [if_pos hm]
  exact has_delP _ _ _
theorem has_chg {L : List Dl} (t p u : Int) : hasP (chgL L t p) u = hasP L u := by
  unfold chgL
  split
  · split
    · rw [Bool.eq_iff_iff, mem_map_has, ch_keys, ← mem_map_has]
    · rfl
  · rfl
theorem bool_iff {a b : Bool} (h : a = true ↔ b = true) : a = b := Bool.eq_iff_iff.2 h
theorem not_has {L : List Dl} {u : Int} (h : ¬ hasP L u = true) : hasP L u = false := by simpa using h
theorem Qok.new {n : Int} (h1 : 1 ≤ n) (h2 : n ≤ 32) : Qok (newQ n) := ⟨h1, h2, by simp [newQ]; omega, okM.nil, okL.nil, okL.nil, fun t h => by simp [newQ, hasP] at h, fun h => rfl, fun h => rfl, fun t => rfl, fun t m h => by simp [newQ] at h⟩
theorem sendE_zero {M : Qs} {t p : Int} {m : Int × Int} (h : sendE M t p m = 0) : (mayT t && mayP p) = true ∧ mayM m.2 = true ∧ wAny M t = false := by
  unfold sendE refE at h
  split at h
  · rename_i h1
    split at h
    · omega
    · rename_i h2
      simp at h1
      simp [h1]
      simpa using h2
  · omega
theorem recE_zero {M : Qs} {t p : Int} (h : recE M t p = 0) : (mayT t && mayP p) = true ∧ wAny M t = false := by
  unfold recE refE at h
  split at h
  · rename_i h1
    split at h
    · omega
    · rename_i h2
      simp at h1
      simp [h1]
      simpa using h2
  · omega
theorem okM.put {L : Ml} (h : okM L) {m : Int × Int} (hm : mayM m.2 = true) : okM (putM L m) := fun x hx => by
  simp [mayM] at hm
  rcases putM_mem.1 hx with rfl | hx
  · exact hm
  · exact h x hx
theorem set_some {F : MF} {t u : Int} {v : Option (Int × Int)} : (setF F t v u) = if u = t then v else F u := rfl
theorem Qok.send {M : Qs} (h : Qok M) {t p : Int} {m : Int × Int} (hE : sendE M t p m = 0) : Qok (sendM M t p m) := by
  obtain ⟨ha, hm, hw⟩ := sendE_zero hE
  simp only [wAny, Bool.or_eq_false_iff] at hw
  unfold sendM
  split
  · rename_i hb
    have hL : M.L = [] := Classical.byContradiction fun hn => by rw [h.noR hn, fst_nilB] at hb; cases hb
    exact ⟨h.lo, h.hi, h.len, h.msg, h.s, h.r.take, fun u hu => not_has fun hx => (by have := ((has_take hb u).1 hx).1; rw [h.ap u hu] at this; cases this), fun hn => absurd hL hn, h.noS, h.fs, h.fm⟩
  · rename_i hb
    have hr := fst_no h.r (by simpa using hb)
    split
    · rename_i hf
      have hl : (M.L.length : Int) = M.n := by simpa [Qs.full] using hf
      refine ⟨h.lo, h.hi, h.len, h.msg, h.s.put _ _, h.r, fun u hu => (by show hasP M.r u = false; rw [hr]; rfl), fun _ => hr, fun hx => ?_, fun u => ?_, fun u x hx => ?_⟩
      · simp only at hx
        omega
      · show (setF M.f t (some m) u).isSome = hasP (putL M.s t p) u
        rw [set_some]
        refine bool_iff ?_
        rw [has_put ha hw.1]
        split
        · simp_all
        · rw [h.fs u]
          simp_all
      · simp only [set_some] at hx
        split at hx
        · cases hx
          exact hm
        · exact h.fm u x hx
    · rename_i hf
      have hl : (M.L.length : Int) ≠ M.n := by simpa [Qs.full] using hf
      have h1 := h.len
      exact ⟨h.lo, h.hi, by simp only [putM_len]; omega, h.msg.put hm, h.s, h.r, h.ap, fun _ => hr, fun _ => h.noS (by omega), h.fs, h.fm⟩
theorem Qok.recv {M : Qs} (h : Qok M) {t p : Int} (hE : recE M t p = 0) : Qok (recM M t p) := by
  obtain ⟨ha, hw⟩ := recE_zero hE
  simp only [wAny, Bool.or_eq_false_iff] at hw
  unfold recM
  cases hL : M.L with
  | nil =>
    have hs : M.s = [] := h.noS (by rw [hL]; have := h.lo; simp; omega)
    dsimp only
    exact ⟨h.lo, h.hi, by have := h.lo; simp; omega, okM.nil, h.s, h.r.put _ _, fun u hu => (by simp only [hs] at hu; cases hu), fun hn => absurd rfl hn, fun _ => hs, h.fs, h.fm⟩
  | cons x Z =>
    have hr : M.r = [] := h.noR (by rw [hL]; simp)
    have hk : okM Z := fun y hy => h.msg y (by rw [hL]; simp [hy])
    have h1 := h.len
    rw [hL] at h1
    simp only [List.length_cons] at h1
    unfold letM
    dsimp only
    split
    · rename_i hb
      have hi := fst_in h.s hb
      have hq := h.fs (fstT M.s)
      rw [hi.2] at hq
      obtain ⟨m, hm⟩ := Option.isSome_iff_exists.1 hq
      rw [hm]
      refine ⟨h.lo, h.hi, by simp only [putM_len]; omega, hk.put (h.fm _ _ hm), h.s.take, h.r, fun u hu => (by show hasP M.r u = false; rw [hr]; rfl), fun _ => hr, fun hx => ?_, fun u => ?_, fun u y hx => ?_⟩
      · simp only [putM_len, Option.getD_some] at hx
        have := h.noS (by rw [hL]; simp; omega)
        rw [this, fst_nilB] at hb
        cases hb
      · show (setF M.f (fstT M.s) none u).isSome = hasP (takeL M.s) u
        rw [set_some]
        refine bool_iff ?_
        rw [has_take hb]
        split
        · simp_all
        · rw [h.fs u]
          simp_all
      · simp only [set_some] at hx
        split at hx
        · cases hx
        · exact h.fm u y hx
    · rename_i hb
      have hs := fst_no h.s (by simpa using hb)
      exact ⟨h.lo, h.hi, by simp only; omega, hk, h.s, h.r, h.ap, fun _ => hr, fun _ => hs, h.fs, h.fm⟩
theorem Qok.le {M : Qs} (h : Qok M) (t : Int) : Qok (leM M t) := by
  unfold leM
  by_cases hm : hasP M.s t = true
  · have hT := has_may h.s hm
    rw [if_pos hm, if_pos (by rw [lvE_eq hT, if_pos hm])]
    refine ⟨h.lo, h.hi, h.len, h.msg, h.s.lv _, h.r, fun u hu => h.ap u (lvL_off hu), h.noR, fun hx => ?_, fun u => ?_, fun u y hx => ?_⟩
    · have := h.noS hx
      rw [this] at hm
      cases hm
    · show (setF M.f t none u).isSome = hasP (lvL M.s t) u
      rw [set_some]
      refine bool_iff ?_
      rw [has_lv hT]
      split
      · simp_all
      · rw [h.fs u]
        simp_all
    · simp only [set_some] at hx
      split at hx
      · cases hx
      · exact h.fm u y hx
  · rw [if_neg hm]
    have hn := not_has hm
    have hf : (if lvE M.r t = 0 then setF M.f t none else M.f) = M.f := by
      split
      · funext u
        rw [set_some]
        split
        · rename_i e
          subst e
          have := h.fs u
          rw [hn] at this
          simp at this
          exact this.symm
        · rfl
      · rfl
    rw [hf]
    exact ⟨h.lo, h.hi, h.len, h.msg, h.s, h.r.lv _, fun u hu => not_has fun hx => (by have := lvL_off hx; rw [h.ap u hu] at this; cases this), fun hx => by show lvL M.r t = []; rw [h.noR hx]; unfold lvL; split <;> rfl, h.noS, h.fs, h.fm⟩
theorem Qok.ch {M : Qs} (h : Qok M) (t p : Int) : Qok (chM M t p) := by
  unfold chM
  split
  · rename_i hm
    exact ⟨h.lo, h.hi, h.len, h.msg, h.s.chg _ _, h.r, fun u hu => h.ap u (chgL_off hu), h.noR, fun hx => (by have := h.noS hx; rw [this] at hm; cases hm), fun u => (h.fs u).trans (has_chg t p u).symm, h.fm⟩
  · exact ⟨h.lo, h.hi, h.len, h.msg, h.s, h.r.chg _ _, fun u hu => not_has fun hx => (by have := chgL_off hx; rw [h.ap u hu] at this; cases this), fun hx => by show chgL M.r t p = []; rw [h.noR hx, chgL_same rfl], h.noS, h.fs, h.fm⟩
end Go.Proofs.Ytllkopekfanfaaa

/- The reference: Send and Receive, whole. -/
namespace Go.Proofs.Ytllkopekfanfaaa
open Go.RowKit Go.Shelf Go.Lib Go.Sort Go.Maps
attribute [local go_sem] Oper.semAt_some

variable {w w' : World} {rb sb tb : Nat} {V : Value} {Rl : Ml} {g : Nat → Int × Int} {M : Qs} {B : Option Nat}
theorem Ri.llen (h : Ri w rb sb tb V Rl g M) : M.L.length = Rl.length := by rw [← h.ord]; exact ordM_len h.msg
theorem rsend_any (h : Rq w rb sb tb B M) (ok : Qok M) (t pr : Int) (m : Int × Int) : Calls Try.prog 29 #[.pointer (some ⟨rb, 0, none⟩), .int .i64 t, .int .i64 pr, .agg #[.int .i64 m.1, .int .i64 m.2]] w fun e w' => e = .returned (.tuple #[sendVV M t pr m, .int .i64 (sendE M t pr m)]) ∧ Rto w w' rb sb tb B (sendMM M t pr m) := by
  obtain ⟨V, Rl, g, rfl, hi⟩ := h
  obtain ⟨m1, m2⟩ := m
  unfold sendVV sendMM
  by_cases hE : sendE M t pr (m1, m2) = 0
  · obtain ⟨ha, hm, hw⟩ := sendE_zero hE
    rw [if_pos hE, if_pos hE, hE]
    unfold sendV sendM
    cases hb : fstB M.r with
    | true => exact rsend_one hi t pr m1 m2 ha hm hw hb
    | false =>
      have hl := hi.llen
      have h1 := ok.len
      by_cases hf : M.full = true
      · rw [hf]
        have := rsend_three hi t pr m1 m2 ha hm hw hb (by simp [Qs.full] at hf; omega)
        simpa using this
      · have hf' : M.full = false := by simpa using hf
        rw [hf']
        have := rsend_two hi t pr m1 m2 ha hm hw hb (by simp [Qs.full] at hf; omega) ok.hi
        simpa using this
  · rw [if_neg hE, if_neg hE]
    unfold sendE refE at hE ⊢
    cases ha : (mayT t && mayP pr) with
    | false =>
      have e : ((mayP pr && mayM m2) && mayT t) = false := by
        simp only [Bool.and_eq_false_iff] at ha ⊢
        rcases ha with ha | ha <;> simp [ha]
      simp only [e]
      exact rsend_b1 hi t pr m1 m2 ha
    | true =>
      cases hm : mayM m2 with
      | false =>
        simp only [Bool.and_false, Bool.false_and]
        exact rsend_b2 hi t pr m1 m2 ha hm
      | true =>
        simp only [Bool.and_eq_true] at ha
        simp only [hm, ha.1, ha.2, Bool.and_self, if_true] at hE ⊢
        have hw : wAny M t = true := by simpa using hE
        rw [hw]
        exact rsend_b3 hi t pr m1 m2 (by simp [ha]) hm hw
theorem rrec_any (h : Rq w rb sb tb B M) (ok : Qok M) (t pr : Int) : Calls Try.prog 30 #[.pointer (some ⟨rb, 0, none⟩), .int .i64 t, .int .i64 pr] w fun e w' => e = .returned (.tuple #[recVV M t pr, .int .i64 (recE M t pr)]) ∧ Rto w w' rb sb tb B (recMM M t pr) := by
  obtain ⟨V, Rl, g, rfl, hi⟩ := h
  unfold recVV recMM
  by_cases hE : recE M t pr = 0
  · obtain ⟨ha, hw⟩ := recE_zero hE
    rw [if_pos hE, if_pos hE, hE]
    unfold recV recM
    cases hL : M.L with
    | nil =>
      have := rrec_one hi t pr ha hw hL
      rw [hL] at this
      exact this
    | cons x Z =>
      obtain ⟨x1, x2⟩ := x
      unfold letM letT
      dsimp only
      cases hb : fstB M.s with
      | false =>
        have := rrec_two hi t pr ha hw x1 x2 Z hL hb
        simpa [letM, hb] using this
      | true =>
        have hin := fst_in ok.s hb
        obtain ⟨tn, htn⟩ : ∃ tn : Nat, fstT M.s = tn := ⟨(fstT M.s).toNat, by omega⟩
        have ht := hi.tie tn (by omega) (by rw [← htn]; exact hin.2)
        have := rrec_three hi t pr ha hw x1 x2 Z hL hb tn htn (by omega) (ok.fm _ _ ht) (fun u hu hp => by
          have hq := (has_take hb u).1 hp
          rw [set_some, if_neg (by rw [← htn]; exact hq.2)]
          exact hi.tie u hu hq.1)
        rw [htn, ht]
        simpa using this
  · rw [if_neg hE, if_neg hE]
    unfold recE refE at hE ⊢
    cases ha : (mayT t && mayP pr) with
    | false =>
      rw [Bool.and_comm] at ha
      simp only [ha]
      exact rrec_b1 hi t pr (by rw [Bool.and_comm]; exact ha)
    | true =>
      have ha' := ha
      rw [Bool.and_comm] at ha
      simp only [ha, if_true] at hE ⊢
      have hw : wAny M t = true := by simpa using hE
      rw [hw]
      exact rrec_b2 hi t pr ha' hw
theorem rleave_q (h : Rq w rb sb tb B M) (t : Int) : Calls Try.prog 31 #[.pointer (some ⟨rb, 0, none⟩), .int .i64 t] w fun e w' => e = .returned (.int .i64 (leE M t)) ∧ Rto w w' rb sb tb B (leM M t) := by
  obtain ⟨V, Rl, g, rfl, hi⟩ := h
  exact rleave_any hi t
theorem rchange_q (h : Rq w rb sb tb B M) (t pr : Int) : Calls Try.prog 32 #[.pointer (some ⟨rb, 0, none⟩), .int .i64 t, .int .i64 pr] w fun e w' => e = .returned (.int .i64 (chE M t pr)) ∧ Rto w w' rb sb tb B (chM M t pr) := by
  obtain ⟨V, Rl, g, rfl, hi⟩ := h
  exact rchange_any hi t pr
end Go.Proofs.Ytllkopekfanfaaa
