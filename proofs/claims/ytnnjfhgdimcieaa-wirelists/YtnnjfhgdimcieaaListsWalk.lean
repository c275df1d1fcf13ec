/- The walk of metronomelaw01.WireLists. -/
import Derived.Test.YtnnjfhgdimcieaaPairRows
namespace Go.Proofs.Ytnnjfhgdimcieaa
open Go.RowKit
set_option linter.unusedVariables false
set_option linter.unusedSimpArgs false

theorem own_someP {w : World} {base n M k : Nat} {v : Value} {xs : List Value} (h : w.ownsRow base 59 2 v n xs) (hM : M = n) (hk : k + 1 = n) : ∃ g cap, v = .slice (some ⟨g, 0, none⟩) M cap ∧ base ≤ g ∧ g < w.heap.size ∧ (k : Int) ≤ (cap : Int) ∧ (k : Int) + 1 ≤ (cap : Int) := by
  rcases h.2 with ⟨-, h0⟩ | ⟨g, cap, cur, hv, hb, hg, hnc, hcm, hcs, ht⟩
  · omega
  · exact ⟨g, cap, by rw [hv, hM], hb, lt_of_block hg, by omega, by omega⟩

theorem up_append (a b : List (Nat × Nat)) : up (a ++ b) = up a ++ up b := by simp [up]
theorem getD_front {a b : List (Nat × Nat)} {i : Nat} (hi : i < a.length) : (a ++ b).getD i (0, 0) = a.getD i (0, 0) := by
  rw [List.getD_eq_getElem?_getD, List.getElem?_append_left hi, ← List.getD_eq_getElem?_getD]
theorem Ps.front {w : World} {ao : Option Addr} {n M cap : Nat} {a b : List (Nat × Nat)} (h : Ps w (.slice ao M cap) (a ++ b)) (hn : n = a.length) (hb : 0 < b.length) : Ps w (.slice ao n cap) a := by
  obtain ⟨ao', cap', hv, hl, hnil, hc⟩ := h
  simp only [Value.slice.injEq] at hv
  obtain ⟨rfl, rfl, rfl⟩ := hv
  simp only [List.length_append] at hl hc
  refine ⟨ao, cap, by rw [hn], by omega, hnil, fun h0 => ?_⟩
  obtain ⟨b', off, rfl, hcell⟩ := hc (by omega)
  refine ⟨b', off, rfl, fun i hi => ?_⟩
  have := hcell i (by omega)
  rw [getD_front hi] at this
  exact this
theorem Ps.next {w : World} {g n M cap : Nat} {a : List (Nat × Nat)} {p : Nat × Nat} (h : Ps w (.slice (some ⟨g, 0, none⟩) M cap) (a ++ [p])) (hn : n = a.length) : w.cell? ⟨g, n * 2, none⟩ = some (.int .u64 (p.1 : Int)) ∧ w.cell? ⟨g, n * 2 + 1, none⟩ = some (.int .u64 (p.2 : Int)) := by
  obtain ⟨b, off, hao, -, -, c0, c1⟩ := h.at (i := n) (by simp; omega)
  cases hao
  have e : (a ++ [p]).getD n (0, 0) = p := by rw [hn]; simp
  rw [e] at c0 c1
  simp only [Nat.zero_add] at c0 c1
  exact ⟨c0, c1⟩
theorem two_at {w w' : World} {b i : Nat} {x y : Value} (h : w.cell? ⟨b, i, none⟩ = some x ∧ w.cell? ⟨b, i + 1, none⟩ = some y) (hg : w.grownBy w' none) : w'.cell? ⟨b, i, none⟩ = some x ∧ w'.cell? ⟨b, i + 1, none⟩ = some y := ⟨cell_grown hg h.1 (by simp), cell_grown hg h.2 (by simp)⟩
theorem numI (n : Nat) : (n : Int) * 2 = ((n * 2 : Nat) : Int) := by omega

set_option maxRecDepth 100000 in
set_option maxHeartbeats 4000000 in
theorem lists_walk (w : World) (V : Value) (ps : List (Nat × Nat)) (cut : Int) (hV : Ps w V ps) (hp : ∀ p ∈ ps, Pr p) (hn : ps.length ≤ 8796093021952) (hc0 : -9223372036854775808 ≤ cut) (hc1 : cut ≤ 9223372036854775807) :
    Calls Try.prog 6 #[V, .int .i64 cut] w fun e w' => e = .returned (.bool true) ∧ w.grownBy w' none := by
  obtain ⟨i0, hi, hz0, hz1, hz2⟩ := info_parts Try.info59
  have hgd := fun (w : World) (x y : Operand) (xs ys : Array Value) => run_eqGuard_agg (P := Try.prog) w .neq 59 x y xs ys (by kernel_rfl)
  have harr := arr_neq
  obtain ⟨ao, cap, rfl⟩ := hV.shape
  have HV := hid hV
  have HP := hid hp
  obtain ⟨n, hN⟩ : ∃ n, n = ps.length := ⟨_, rfl⟩
  rw [← hN] at HV hn ⊢
  have HN := hid hN
  have hnI : (n : Int) ≤ 8796093021952 := by omega
  obtain ⟨M, hM⟩ : ∃ M, M = 0 + ps.length + 1 := ⟨_, rfl⟩
  have HM0 := hid hM
  have HMN := hid (show M = n + 1 by omega)
  clear hV hp hN hM
  go_enter Try.func6, Try.ntmps6
  go_wp2_with (first
    | (at_builtin; refine wpList_append_pairs rfl _ _ rfl w.heap.size _ 0 [] rfl (World.ownsRow_nil _ _ _ _) _ ps rfl HV.out (by have := HN.out; omega) (Nat.le_refl _) ?_; intro v5 w5 hown5 hg5)
    | (at_builtin; refine wpList_append_own _ rfl _ _ 58 rfl w.heap.size 59 i0 (.agg #[.int .u64 0, .int .u64 0]) 2 16 Try.underlying58 hi hz0 hz1 hz2 rfl (by decide) _ _ _ rfl (hown5.alloc _) ⟨w5.heap.size, 0, none⟩ 1 1 [.int .u64 7, .int .u64 71] rfl rfl (cell_two_new _ _ _ _) (two_one _ _) (by have := HN.out; unfold maxLen; omega) (by have := HN.out; omega) (Nat.le_trans hg5.size (by simp)) ?_; intro v6 w6 hown6 hg6 hiff6; clear hiff6; obtain ⟨g, cap6, rfl, hgl, hglt, hcI, hcJ⟩ := own_someP hown6 HM0.out (k := n) (by have := HN.out; omega)))
  have hO6 : w6.ownsRow w.heap.size 59 2 (.slice (some ⟨g, 0, none⟩) M cap6) M (up (ps ++ [(7, 71)])) := by
    have h := hown6
    rw [← HM0.out] at h
    rw [up_append]
    simpa [up] using h
  have HPM := hid (Ps.of_owns hO6 (by rw [HM0.out]; simp))
  have HPH := hid (HPM.out.front HN.out (by simp))
  have HG6 := hid (show w.grownBy w6 none from grown_onto (grownBy_trans hg5 (World.grownBy_alloc _ _ none)) (hown5.alloc _) hg6)
  clear hown5 hown6 hg5 hg6 hO6 hi hz0 hz1 hz2
  refine (put_any w6 _ ps HPH.out HP.out (by have := HN.out; omega)).mono ?_
  rintro e w7 ⟨v7, rfl, hown7, hg7⟩
  obtain ⟨F, hF⟩ : ∃ F, F = formL ps := ⟨_, rfl⟩
  rw [← hF] at hown7
  have HF := hid hF
  obtain ⟨L, hL⟩ : ∃ L, L = F.length := ⟨_, rfl⟩
  rw [← hL] at hown7
  have HL := hid hL
  obtain ⟨ao7, cp7, rfl⟩ := owns_shape hown7
  have HO7 := hid hown7
  have HG7 := hid hg7
  have HPM7 := hid (HPM.out.grown hg7 (by simp))
  obtain ⟨c0, c1⟩ := HPM7.out.next HN.out
  dsimp only at c0 c1
  have hnM : (n : Int) < (M : Int) := by have := HMN.out; omega
  clear hF hL hown7 hg7
  go_wp2_with (go_at_call 23; go_in)
  refine (rnumber_any n w7 (by omega)).mono ?_
  rintro e w8 ⟨v8, rfl, hown8, hg8⟩
  obtain ⟨ao8, cp8, rfl⟩ := owns_shape hown8
  have HO8 := hid hown8
  have HG8 := hid hg8
  have HV7 := hid (HV.out.grown (grownBy_trans HG6.out HG7.out) (by simp))
  have HGW := hid (grownBy_trans HG6.out HG7.out)
  clear hown8 hg8 c0 c1 HPM HPH HG6 HG7
  go_wp2_with fail
  go_loopw [8, 9] (fun lv i wr => ∃ (k m : Nat) (ao' : Option Addr) (cp : Nat), k ≤ n ∧ i = .int .i64 k ∧ lv = .slice ao' m cp ∧ Hid (wr.ownsRow w7.heap.size 5 1 (.slice ao' m cp) m (ub (num n ++ flat (ps.take k)))) ∧ Hid (w7.grownBy wr none))
    (fun _ i _ => n - (intOf i).toNat)
  case atStart => exact ⟨0, (num n).length, ao8, cp8, Nat.zero_le _, rfl, rfl, hid (by have := HO8.out; simpa [flat] using this), HG8.out⟩
  case round =>
    obtain ⟨k, m, ao', cp, hk, rfl, rfl, hO, hG⟩ := hrel
    by_cases hlt : k < n
    · have hlt' : (k : Int) < (n : Int) := by omega
      obtain ⟨b, off, rfl, -, hncap, u0, u1⟩ := HV7.out.at (i := k) (by rw [← HN.out]; exact hlt)
      obtain ⟨b', off', hbo, -, -, y0, y1⟩ := HPM7.out.at (i := k) (by have := HN.out; simp; omega)
      cases hbo
      rw [getD_front (by rw [← HN.out]; exact hlt)] at y0 y1
      obtain ⟨p, hpd⟩ : ∃ p, p = ps.getD k (0, 0) := ⟨_, rfl⟩
      rw [← hpd] at u0 u1 y0 y1
      have HPD := hid hpd
      have HPR := hid (show Pr p by rw [hpd]; exact HP.out _ (by rw [List.getD_eq_getElem?_getD, List.getElem?_eq_getElem (by rw [← HN.out]; exact hlt)]; simp))
      clear hpd
      simp only [Nat.zero_add] at y0 y1
      have HST := hid (And.intro u0 u1)
      have u0 := cell_grown hG.out u0 (by simp)
      have u1 := cell_grown hG.out u1 (by simp)
      have y0 := cell_grown hG.out y0 (by simp)
      have y1 := cell_grown hG.out y1 (by simp)
      have hkM : (k : Int) < (M : Int) := by omega
      have hml : m ≤ 10 + 20 * k := by
        have h1 := hO.out.1
        have h2 := num_len n
        have h3 := flat_len (ps.take k)
        have h4 : (ps.take k).length ≤ k := by simp; omega
        simp at h1
        omega
      have HML := hid hml
      clear hml
      go_wp2_with fail
      go_quiet (fail)
      obtain ⟨W, hW⟩ : ∃ W, W = wr.drewN nq := ⟨_, rfl⟩
      rw [← hW]
      have HOW := hid (show W.ownsRow w7.heap.size 5 1 (.slice ao' m cp) m (ub (num n ++ flat (ps.take k))) by rw [hW]; exact owns_grown hO.out (grownBy_drewN _ _))
      have HGV := hid (show w7.grownBy W none by rw [hW]; exact grownBy_trans hG.out (grownBy_drewN _ _))
      have HSW := HGV.out.size
      have hst := two_at HST.out HGV.out
      have HL1 := hid (num_len p.1)
      have HL2 := hid (num_len p.2)
      clear hW hO hG u0 u1 y0 y1
      go_wp2_with fail
      go_region_held_law (fun w' => w'.cell? ⟨b, off + k * 2, none⟩ = some (.int .u64 (p.1 : Int)) ∧ w'.cell? ⟨b, off + k * 2 + 1, none⟩ = some (.int .u64 (p.2 : Int)))
        (first
          | exact two_at HST.out (grown_onto (grownBy_trans (grown_onto (grownBy_trans HGV.out (grownBy_trans (grownBy_drew _ none) hy3)) (owns_grown HOW.out (grownBy_trans (grownBy_drew _ none) hy3)) hy4) hy5) (owns_grown ho4 hy5) hy6)
          | exact two_at HST.out (grownBy_trans (grown_onto (grownBy_trans HGV.out (grownBy_trans (grownBy_drew _ none) hy3)) (owns_grown HOW.out (grownBy_trans (grownBy_drew _ none) hy3)) hy4) hy5)
          | exact two_at HST.out (grown_onto (grownBy_trans HGV.out (grownBy_trans (grownBy_drew _ none) hy3)) (owns_grown HOW.out (grownBy_trans (grownBy_drew _ none) hy3)) hy4)
          | exact two_at HST.out (grownBy_trans HGV.out (grownBy_trans (grownBy_drew _ none) hy3))
          | exact two_at HST.out (grownBy_trans HGV.out (grownBy_drew _ none)))
        (first
          | (refine step_append_big (by rfl) _ _ (by rfl) 81 (by rfl) w7.heap.size _ (m + (num p.1).length) (ub (num n ++ flat (ps.take k)) ++ ub (num p.1)) (by rfl) (owns_grown ho4 hy5) _ (num p.2) (by rfl) (Bs.of_owns ho5) (by have := HL1.out; have := HL2.out; have := HML.out; omega) (by have a1 := hy3.size; have a2 := hy4.size; have a3 := hy5.size; simp at a1; omega) ?_; intro v6' y6 ho6 hy6)
          | (refine step_append_big (by rfl) _ _ (by rfl) 74 (by rfl) w7.heap.size _ m (ub (num n ++ flat (ps.take k))) (by rfl) (owns_grown HOW.out (grownBy_trans (grownBy_drew _ none) hy3)) _ (num p.1) (by rfl) (Bs.of_owns ho3) (by have := HL1.out; have := HML.out; omega) (by have a1 := hy3.size; simp at a1; omega) ?_; intro v4' y4 ho4 hy4; obtain ⟨ao4, cp4, rfl⟩ := owns_shape ho4)
          | (go_at_call 12; have _hh := hy4; refine (rnumber_any p.2 _ HPR.out.2).mono ?_; rintro e y5 ⟨v5', rfl, ho5, hy5⟩; obtain ⟨ao5, cp5, rfl⟩ := owns_shape ho5)
          | (go_at_call 12; refine (rnumber_any p.1 _ HPR.out.1).mono ?_; rintro e y3 ⟨v3', rfl, ho3, hy3⟩; obtain ⟨ao3, cp3, rfl⟩ := owns_shape ho3))
      have HG6 := hid (grown_onto (grownBy_trans (grown_onto (grownBy_trans HGV.out (grownBy_trans (grownBy_drew _ none) hy3)) (owns_grown HOW.out (grownBy_trans (grownBy_drew _ none) hy3)) hy4) hy5) (owns_grown ho4 hy5) hy6)
      obtain ⟨ao6, cp6, rfl⟩ := owns_shape ho6
      have HO6 := hid ho6
      clear ho3 hy3 ho4 hy4 ho5 hy5 ho6 hy6 hst
      go_wp2
      go_roundw
      case rel =>
        refine ⟨k + 1, m + (num p.1).length + (num p.2).length, ao6, cp6, by omega, by go_num, rfl, hid ?_, HG6.out⟩
        have h := HO6.out
        rw [take_flat (by rw [← HN.out]; exact hlt), ← HPD.out, ← List.append_assoc]
        have e : ub (num n ++ flat (ps.take k) ++ formP p) = ub (num n ++ flat (ps.take k)) ++ ub (num p.1) ++ ub (num p.2) := by simp [ub, formP]
        rw [e]
        exact h
      case measure => simp [intOf]; omega
    · have hlt' : ¬ (k : Int) < (n : Int) := by omega
      have HE := hid (show k = n by omega)
      have e : num n ++ flat (ps.take k) = F := by
        rw [HF.out, HE.out]
        have e2 := HN.out
        rw [e2, List.take_length]
        rfl
      have hm : m = L := by
        have hl := hO.out.1
        rw [e] at hl
        rw [HL.out]
        simpa using hl.symm
      subst hm
      have HO' := hid (show wr.ownsRow w7.heap.size 5 1 (.slice ao' m cp) m (ub F) by have := hO.out; rwa [e] at this)
      have HB7 := hid (show Bs wr (.slice ao7 m cp7) F from Bs.of_owns (by have := owns_grown HO7.out hG.out; rw [← HL.out]; exact this))
      have HBW := hid (show Bs wr (.slice ao' m cp) F from Bs.of_owns (by have := HO'.out; rw [← HL.out]; exact this))
      have HGR := hid (grownBy_trans HGW.out hG.out)
      have HVR := hid (HV7.out.grown hG.out (by simp))
      have hLm : m ≤ 10 + 20 * n := by
        have h1 := HL.out
        have h2 := num_len n
        have h3 := flat_len ps
        have h4 := HN.out
        have h5 : F.length = (num ps.length).length + (flat ps).length := by rw [HF.out]; simp [formL]
        rw [← h4] at h5 h3
        omega
      have HLM := hid hLm
      clear hLm hO hG e hk HO7 HO8 HG8 HV7 HPM7 HE
      go_wp2_with fail
      refine (open_big wr _ F HB7.out (by have := HLM.out; have := HL.out; omega)).mono ?_
      rintro e w9 ⟨rb, v9, rfl, hr9, hrb, hv9, hg9⟩
      have HR9 := hid hr9
      have HX9 := hid (And.intro hrb hv9)
      have HG9 := hid hg9
      have hcv1 := conv_bs (HB7.out.grown hg9)
      have hcv2 := conv_bs (HBW.out.grown hg9)
      clear hr9 hrb hv9 hg9
      have HTF := hid (fun (h : 0 < n) => show rptake ((n : Int) - 1) F = .error 3 by rw [HF.out, HN.out]; exact rptake_fewer (by have := HN.out; omega) (by have := HN.out; omega))
      have HTA := hid (show rptake (n : Int) F = .ok (ps, []) by rw [HF.out, HN.out]; exact rptake_all HP.out (by have := HN.out; omega))
      have HTC := hid (fun (c : Nat) (h : c < m) => show rptake (n : Int) (F.take c) = .error 4 by rw [HF.out, HN.out]; exact rptake_cut HP.out (by have := HN.out; omega) (by rw [← HF.out, ← HL.out]; exact h))
      have HBY := hid (show Byt F by rw [HF.out]; exact byt_formL HP.out (by have := HN.out; omega))
      have HLF := hid (show F.length ≤ 200000000000000 by have := HLM.out; have := HL.out; omega)
      have hmI : (m : Int) ≤ 200000000000000 := by have := HLM.out; omega
      have hmm : ((m : Int) != (m : Int)) = false := by simp
      have hnn : ((n : Int) != (n : Int)) = false := by simp
      have hcases : n = 0 ∨ 0 < n := by omega
      rcases hcases with hn0 | hpos
      case' inl =>
        have q0 : ¬ (0 : Int) < (n : Int) := by omega
        clear hn0
        obtain ⟨w10', hw10⟩ : ∃ w10', w10' = w9 := ⟨_, rfl⟩
        have HR10 := hid (show Rd w10' rb v9 F by rw [hw10]; exact HR9.out)
        have HG10 := hid (show wr.grownBy w10' none by rw [hw10]; exact HG9.out)
        go_wp2_with fail
        rw [← hw10]
        clear hw10
      case' inr =>
        have q0 : (0 : Int) < (n : Int) := by omega
        go_wp2_with fail
        refine (takeP_any w9 rb v9 F _ HR9.out HBY.out HLF.out (by omega)).mono ?_
        rintro e w10 ⟨hg10, htk⟩
        rw [HTF.out hpos] at htk
        obtain ⟨rfl, hr10⟩ := htk
        have HR10 := hid hr10
        have HG10 := hid (grown_past HG9.out hg10 HX9.out.1)
        clear hr10 hg10 hpos
        go_wp2_with (go_at_call 23; go_in)
        refine (left_any w10 rb v9 F HR10.out).mono ?_
        rintro e w10' ⟨rfl, hw⟩
        subst hw
        rw [← HL.out]
        go_wp2_with fail
      all_goals
        clear hcv1 hcv2 HR9 HG9
        refine (takeP_any w10' rb v9 F _ HR10.out HBY.out HLF.out (by omega)).mono ?_
        rintro e w11 ⟨hg11, htk⟩
        rw [HTA.out] at htk
        obtain ⟨⟨v11, rfl, hown11⟩, v2, hr11, -⟩ := htk
        have HPB := hid (Ps.of_owns hown11 rfl)
        obtain ⟨ao11, cp11, hv11⟩ : ∃ ao cp, v11 = .slice ao n cp := by rw [HN.out]; exact HPB.out.shape
        subst hv11
        have HR11 := hid hr11
        have HG11 := hid (grown_past HG10.out hg11 HX9.out.1)
        clear hr11 hg11 hown11
        go_wp2_with (go_at_call 23; go_in)
        refine (left_any w11 rb v2 [] HR11.out).mono ?_
        rintro e w11' ⟨rfl, hw⟩
        subst hw
        simp only [List.length_nil]
        have hz : ((0 : Int) != 0) = false := by decide
        go_wp2_with fail
        have HV11 := hid (HV.out.grown (grownBy_trans HGR.out HG11.out) (by simp))
        go_loopw [15] (fun i w2 => ∃ (k : Nat), k ≤ n ∧ i = .int .i64 k ∧ Hid (w11'.grownBy w2 none))
          (fun i _ => n - (intOf i).toNat)
        case atStart => exact ⟨0, Nat.zero_le _, rfl, World.grownBy.refl _ _⟩
        case round =>
          obtain ⟨k, hk, rfl, hG⟩ := hrel
          by_cases hlt : k < n
          · have hlt' : (k : Int) < (n : Int) := by omega
            obtain ⟨b, off, rfl, -, hncap, u0, u1⟩ := HV11.out.at (i := k) (by rw [← HN.out]; exact hlt)
            obtain ⟨b', off', rfl, -, hncap', y0, y1⟩ := HPB.out.at (i := k) (by rw [← HN.out]; exact hlt)
            obtain ⟨p, hpd⟩ : ∃ p, p = ps.getD k (0, 0) := ⟨_, rfl⟩
            rw [← hpd] at u0 u1 y0 y1
            clear hpd
            have u0 := cell_grown hG.out u0 (by simp)
            have u1 := cell_grown hG.out u1 (by simp)
            have y0 := cell_grown hG.out y0 (by simp)
            have y1 := cell_grown hG.out y1 (by simp)
            go_wp2_with fail
            go_quiet (fail)
            go_wp2
            go_roundw
            case rel => exact ⟨k + 1, by omega, by go_num, grownBy_trans hG.out (grownBy_drewN _ _)⟩
            case measure => simp [intOf]; omega
          · have hlt' : ¬ (k : Int) < (n : Int) := by omega
            have HGE := hid (grownBy_trans (grownBy_trans HGR.out HG11.out) hG.out)
            have HBE := hid (HB7.out.grown (grownBy_trans HG11.out hG.out))
            clear hG
            rcases (show cut < 0 ∨ (0 ≤ cut ∧ (m : Int) ≤ cut) ∨ (0 ≤ cut ∧ cut < (m : Int)) by omega) with hq | ⟨hq, hq2⟩ | ⟨hq, hq2⟩
            · go_wp2_with fail
              refine (known_any _).mono ?_
              rintro e w12 ⟨rfl, hg12⟩
              have HG12 := hid (grownBy_trans HGE.out hg12)
              clear hg12
              go_wp2
              go_ret
              exact ⟨rfl, HG12.out⟩
            · go_wp2_with fail
              refine (known_any _).mono ?_
              rintro e w12 ⟨rfl, hg12⟩
              have HG12 := hid (grownBy_trans HGE.out hg12)
              clear hg12
              go_wp2
              go_ret
              exact ⟨rfl, HG12.out⟩
            · obtain ⟨c, rfl⟩ : ∃ c : Nat, cut = c := ⟨cut.toNat, by omega⟩
              have HBC := hid (show Bs _ (.slice ao7 c cp7) (F.take c) from bs_take (l := F) (n := c) (by have := HBE.out; rw [HL.out] at this; exact this) (by have := HL.out; omega))
              have hccap : (c : Int) ≤ (cp7 : Int) := by
                obtain ⟨ao', cap', hv, hl, -⟩ := HBE.out
                simp only [Value.slice.injEq] at hv
                have := HL.out
                omega
              have HCL := hid (show c < m by omega)
              have HTL := hid (show (F.take c).length = c by have := HL.out; simp; omega)
              go_wp2_with fail
              refine (open_big _ _ _ HBC.out (by have := HTL.out; omega)).mono ?_
              rintro e w12 ⟨rb2, v12, rfl, hr12, hrb12, hv12, hg12⟩
              have HR12 := hid hr12
              have HRB := hid hrb12
              have HG12 := hid hg12
              clear hr12 hrb12 hv12 hg12
              go_wp2_with fail
              refine (takeP_any w12 rb2 v12 _ _ HR12.out (fun x hx => HBY.out x (List.mem_of_mem_take hx)) (by have := HTL.out; omega) (by omega)).mono ?_
              rintro e w13 ⟨hg13, htk⟩
              rw [HTC.out c HCL.out] at htk
              obtain ⟨rfl, hr13⟩ := htk
              have HR13 := hid hr13
              have HG13 := hid (grownBy_trans HGE.out (grown_past HG12.out hg13 HRB.out))
              clear hr13 hg13
              have hcc : ((c : Int) == (c : Int)) = true := by simp
              go_wp2_with (go_at_call 23; go_in)
              refine (left_any w13 rb2 v12 _ HR13.out).mono ?_
              rintro e w13' ⟨rfl, hw⟩
              subst hw
              rw [HTL.out]
              go_wp2_with fail
              refine (known_any _).mono ?_
              rintro e w14 ⟨rfl, hg14⟩
              have HG14 := hid (grownBy_trans HG13.out hg14)
              clear hg14
              go_wp2
              go_ret
              exact ⟨rfl, HG14.out⟩
end Go.Proofs.Ytnnjfhgdimcieaa
