/- The reference: Set. -/
import Derived.Test.YtoaceeddcnijoaaRcan
namespace Go.Proofs.Ytoaceeddcnijoaa
open Go.RowKit Go.Shelf Go.Lib Go.Sort
set_option linter.unusedSimpArgs false

theorem rcan_any (w : World) (rb : Nat) (L : List Dl) (id : Int) (h : Rf w rb L) (hw : Lw L) : Calls Try.prog 22 #[.pointer (some ⟨rb, 0, none⟩), .int .i64 id] w fun e w' => e = .returned (.int .i64 (canE id L)) ∧ Rf w' rb (canL id L) ∧ Kp w w' [rb] := by
  unfold canE canL
  by_cases hm : mayI id = true
  · rw [if_pos hm, if_pos hm]; exact rcan_ok w rb L id h hw hm
  · rw [if_neg hm, if_neg hm]
    refine (rcan_no w rb id (by simpa using hm)).mono ?_
    rintro e w' ⟨rfl, rfl⟩
    exact ⟨rfl, h, Kp.refl _ _⟩

theorem ins_cut {x : Dl} {M : List Dl} (hM : Asc M) {k : Nat} (hk : k ≤ M.length) (h1 : ∀ y ∈ M.take k, y.2 ≤ x.2) (h2 : k = M.length ∨ x.2 < M[k]!.2) : ins x M = M.take k ++ x :: M.drop k := by
  have hs : St (M ++ [x]) (M.take k ++ x :: M.drop k) := by
    have := st_back (y := x) (x1 := M.take k) (x2 := M.drop k) (by rw [List.take_append_drop]; exact hM) h1 (by
      intro q hq
      rcases h2 with e | e
      · rw [e, List.drop_length] at hq; cases hq
      · by_cases hk2 : k < M.length
        · have hd : M.drop k = M[k]! :: M.drop (k + 1) := by
            rw [List.drop_eq_getElem_cons hk2]
            congr 1
            exact (getElem!_pos M k hk2).symm
          have ha : Asc (M.drop k) := by
            have := hM
            rw [← List.take_append_drop k M] at this
            exact this.right
          rw [hd] at hq ha
          rcases List.mem_cons.1 hq with rfl | hq
          · exact e
          · have := (List.pairwise_cons.1 ha).1 q hq
            omega
        · rw [List.drop_eq_nil_of_le (by omega)] at hq; cases hq)
    rw [List.take_append_drop] at this
    exact this
  exact (st_ins hM x).unique hs

set_option maxRecDepth 100000 in
theorem rset_no (w : World) (rb : Nat) (id at1 : Int) (h : (mayI id && mayT at1) = false) : Calls Try.prog 21 #[.pointer (some ⟨rb, 0, none⟩), .int .i64 id, .int .i64 at1] w fun e w' => e = .returned (.int .i64 2) ∧ w' = w := by
  have hh : id < 0 ∨ 64 ≤ id ∨ at1 < 0 ∨ 1099511627776 < at1 := by
    unfold mayI mayT at h
    by_cases h0 : 0 ≤ id <;> by_cases h1 : id < 64 <;> by_cases h2 : 0 ≤ at1 <;> by_cases h3 : at1 ≤ 1099511627776 <;> simp [h0, h1, h2, h3] at h <;> omega
  clear h
  by_cases h1 : id < 0
  · clear hh
    go_enter Try.func21, Try.ntmps21
    go_wp2
    go_ret
    exact ⟨rfl, rfl⟩
  by_cases h2 : 64 ≤ id
  · clear hh
    go_enter Try.func21, Try.ntmps21
    go_wp2
    go_ret
    exact ⟨rfl, rfl⟩
  by_cases h3 : at1 < 0
  · clear hh
    go_enter Try.func21, Try.ntmps21
    go_wp2
    go_ret
    exact ⟨rfl, rfl⟩
  have h4 : 1099511627776 < at1 := by omega
  clear hh
  go_enter Try.func21, Try.ntmps21
  go_wp2
  go_ret
  exact ⟨rfl, rfl⟩

set_option maxRecDepth 100000 in
set_option maxHeartbeats 2000000 in
theorem rset_ok (w : World) (rb : Nat) (L : List Dl) (id at1 : Int) (h : Rf w rb L) (hw : Lw L) (hm : (mayI id && mayT at1) = true) : Calls Try.prog 21 #[.pointer (some ⟨rb, 0, none⟩), .int .i64 id, .int .i64 at1] w fun e w' => e = .returned (.int .i64 0) ∧ Rf w' rb (ins (id, at1) (rid id L)) ∧ Kp w w' [rb] := by
  have hok := okD_of hm
  obtain ⟨⟨a0, a1⟩, a2, a3⟩ := hok
  simp only at a0 a1 a2 a3
  have hmi : mayI id = true := by simp only [Bool.and_eq_true] at hm; exact hm.1
  have HC := hid (rcan_ok w rb L id h hw hmi)
  have HLw := hid (hw.rest (fun x => x.1 == id))
  obtain ⟨M, hM⟩ : ∃ M, rid id L = M := ⟨_, rfl⟩
  obtain ⟨E9, hE9⟩ : ∃ E : Int, (if L.any (fun x => x.1 == id) then 0 else 6) = E := ⟨_, rfl⟩
  rw [show rest (fun x => x.1 == id) L = M from hM] at HLw
  rw [hM, hE9] at HC
  rw [hM]
  clear h hw hm hmi hM hE9
  go_enter Try.func21, Try.ntmps21
  go_wp2_with fail
  refine HC.out.mono ?_
  rintro e w1 ⟨rfl, hR1, hK1⟩
  clear HC
  have HR := hid hR1
  have HK1 := hid hK1
  obtain ⟨v, hb, hO⟩ := hR1
  obtain ⟨ao, cap, rfl⟩ := hO.slice
  obtain ⟨N, hN⟩ : ∃ N, M.length = N := ⟨_, rfl⟩
  rw [hN] at hb hO
  have hl : N ≤ 64 := by rw [← hN]; exact HLw.out.len
  have cc := cell_one hb
  have HO := hid hO
  have HN := hid hN
  have HB := hid hb
  clear hb hO hN hK1
  go_wp2_with fail
  go_loopw [7] (fun vk wr => ∃ k : Nat, k ≤ N ∧ vk = .int .i64 k ∧ wr = w1 ∧ Hid (∀ y ∈ M.take k, y.2 ≤ at1)) (fun vk _ => N - (intOf vk).toNat)
  case atStart => exact ⟨0, by omega, rfl, rfl, hid (by simp)⟩
  case round =>
    obtain ⟨k, hk, rfl, hwr, hno⟩ := hrel
    subst hwr
    by_cases hgo : k < N ∧ M[k]!.2 ≤ at1
    · obtain ⟨hlt, hle⟩ := hgo
      have hltI : (k : Int) < N := by omega
      have hil : k < M.length := by have := HN.out; omega
      obtain ⟨g, rfl, d1, d2⟩ := HO.out.at hil
      obtain ⟨x, hx⟩ : ∃ x, M[k]! = x := ⟨_, rfl⟩
      rw [hx] at d1 d2 hle
      have hno' := hid (show ∀ y ∈ M.take (k + 1), y.2 ≤ at1 by
        rw [take_dl hil, hx]
        intro d hd
        rcases List.mem_append.1 hd with q | q
        · exact hno.out d q
        · rw [List.mem_singleton.1 q]; exact hle)
      clear hno hx hil
      go_wp2
      go_roundw
      case rel => exact ⟨k + 1, by omega, by simp, trivial, hno'⟩
      case measure => simp [intOf]; omega
    · have INS := hid (ins_cut (x := (id, at1)) HLw.out.asc (k := k) (by have := HN.out; omega) hno.out (by have := HN.out; simp only; omega))
      have hwlt := lt_of_block HB.out
      cases ao with
      | none =>
        obtain ⟨hMn, rfl, rfl⟩ := HO.out.none_of
        obtain rfl : k = 0 := by omega
        have VF := hid (show Vi wr (.slice none 0 0) (M.take 0) by rw [List.take_zero]; exact vi_nil wr)
        have VB := hid (show ∀ W, Vi W (.slice none 0 0) (M.drop 0) by intro W; rw [hMn]; exact vi_nil W)
        clear hMn hno hgo
        go_wp2_with (first
          | (have _hh := N3; refine wpList_joinO rfl _ _ rfl wr.heap.size (.slice ao3 n3 cp3) _ (M.take 0 ++ [(id, at1)]) (M.drop 0) rfl N3.out rfl (VB.out w3) (by have := HN.out; simp only [List.length_append, List.length_take, List.length_cons, List.length_nil, List.length_drop]; omega) (by have := HN.out; simp only [List.length_append, List.length_take, List.length_cons, List.length_nil, List.length_drop]; omega) K3.out.size ?_; intro v4 w4 hN4 hG4; obtain ⟨ao4, cp4, hv4⟩ := hN4.slice; obtain ⟨n4, hn4⟩ : ∃ n4, (M.take 0 ++ [(id, at1)] ++ M.drop 0).length = n4 := ⟨_, rfl⟩; rw [hn4] at hv4; subst hv4; have K4 := hid (K3.out.past (Kp.ofGrown (rows := (Value.slice ao3 n3 cp3).ownBlock.toList) hG4 (by intro g hg; simp [hg])) (by intro k hk hl; simp at hk; have := (owns_block N3.out hk).1; omega)); have N4 := hid hN4; have ff4 : w4.frozen? ⟨rb, 0, none⟩ = false := free_one ((K4.out.block rb hwlt (by simp)).trans HB.out); have cc4 := K4.out.cell cc (by simp); clear hN4 hG4 hn4 _hh)
          | (have _hh := N2; refine wpList_joinO rfl _ _ rfl wr.heap.size (.slice ao2 n2 cp2) _ (M.take 0) [(id, at1)] rfl (N2.out.keep (Kp.alloc w2 (.cells #[.int .i64 id, .int .i64 at1] 45) [])) rfl (vi_one w2 id at1) (by have := HN.out; simp only [List.length_append, List.length_take, List.length_cons, List.length_nil, List.length_drop]; omega) (by simp) (by have := K2.out.size; simp; omega) ?_; intro v3 w3 hN3 hG3; obtain ⟨ao3, cp3, hv3⟩ := hN3.slice; obtain ⟨n3, hn3⟩ : ∃ n3, (M.take 0 ++ [(id, at1)]).length = n3 := ⟨_, rfl⟩; rw [hn3] at hv3; subst hv3; have K3 := hid ((K2.out.trans (Kp.alloc w2 (.cells #[.int .i64 id, .int .i64 at1] 45) [])).past (Kp.ofGrown (rows := (Value.slice ao2 n2 cp2).ownBlock.toList) hG3 (by intro g hg; simp [hg])) (by intro k hk hl; simp at hk; have := (owns_block N2.out hk).1; omega)); have N3 := hid hN3; have cc3 := K3.out.cell cc (by simp); clear hN3 hG3 hn3 _hh)
          | (refine wpList_joinO rfl _ _ rfl wr.heap.size (.slice none 0 0) _ [] (M.take 0) rfl (Or.nil _ _) rfl VF.out (by simp) (by have := HN.out; simp only [List.length_append, List.length_take, List.length_cons, List.length_nil, List.length_drop]; omega) (Nat.le_refl _) ?_; intro v2 w2 hN2 hG2; rw [List.nil_append] at hN2; obtain ⟨ao2, cp2, hv2⟩ := hN2.slice; obtain ⟨n2, hn2⟩ : ∃ n2, (M.take 0).length = n2 := ⟨_, rfl⟩; rw [hn2] at hv2; subst hv2; have K2 := hid (Kp.ofGrown (rows := []) hG2 (by intro g hg; simp [Value.ownBlock] at hg)); have N2 := hid hN2; have cc2 := K2.out.cell cc (by simp); clear hN2 hG2 hn2))
        have HS := hid (HR.out.set K4.out (N4.out.low (Nat.zero_le _)))
        go_ret
        refine ⟨rfl, ?_, HK1.out.trans HS.out.2⟩
        rw [INS.out]
        have := HS.out.1
        rw [List.append_assoc] at this
        exact this
      | some ad =>
        obtain ⟨g, rfl⟩ := HO.out.some_of
        have hcap : N ≤ cap := by have h1 := HO.out.cells; have h2 := HN.out; omega
        have hic : k ≤ cap := by omega
        have VF := hid (HO.out.front (k := k) (by have := HN.out; omega))
        have VB := hid (show ∀ (W : World), Kp wr W [] → ∀ o m c, m = N - k → (cap ≠ k → o = k * 2) → (cap = k → o = 0) → Vi W (.slice (some ⟨g, o, none⟩) m c) (M.drop k) from fun W hk o m c hm h1 h2 => by
          subst hm
          by_cases q : cap = k
          · rw [h2 q, show N - k = 0 by omega, show M.drop k = [] from List.drop_eq_nil_of_le (by have := HN.out; omega)]
            exact vi_empty W g 0 c
          · rw [h1 q]
            exact (HO.out.keep hk).back (by have := HN.out; omega))
        by_cases hkN : k < N
        case' pos =>
          have hltI : (k : Int) < N := by omega
          have hil : k < M.length := by have := HN.out; omega
          obtain ⟨g', hg', d1, d2⟩ := HO.out.at hil
          obtain rfl : g = g' := by simpa using hg'
          have hgt : ¬ M[k]!.2 ≤ at1 := fun q => hgo ⟨hkN, q⟩
          obtain ⟨x, hx⟩ : ∃ x, M[k]! = x := ⟨_, rfl⟩
          rw [hx] at d1 d2 hgt
          have hck : ¬ cap = k := by omega
          clear hgo hg' hx hil hno
        case' neg =>
          obtain rfl : k = N := by omega
          have hltI : ¬ (k : Int) < k := by omega
          clear hgo hno
          rcases (show cap = k ∨ k < cap by omega) with hq1 | hq1
          case' inl =>
            have hq1 := hq1.symm
            subst hq1
          case' inr => have hck : ¬ cap = k := by omega
        all_goals
          go_wp2_with (first
          | (have _hh := N3; refine wpList_joinO rfl _ _ rfl wr.heap.size (.slice ao3 n3 cp3) _ (M.take k ++ [(id, at1)]) (M.drop k) rfl N3.out rfl (VB.out w3 K3.out _ _ _ (by omega) (by intros; omega) (by intros; omega)) (by have := HN.out; simp only [List.length_append, List.length_take, List.length_cons, List.length_nil, List.length_drop]; omega) (by have := HN.out; simp only [List.length_append, List.length_take, List.length_cons, List.length_nil, List.length_drop]; omega) K3.out.size ?_; intro v4 w4 hN4 hG4; obtain ⟨ao4, cp4, hv4⟩ := hN4.slice; obtain ⟨n4, hn4⟩ : ∃ n4, (M.take k ++ [(id, at1)] ++ M.drop k).length = n4 := ⟨_, rfl⟩; rw [hn4] at hv4; subst hv4; have K4 := hid (K3.out.past (Kp.ofGrown (rows := (Value.slice ao3 n3 cp3).ownBlock.toList) hG4 (by intro g hg; simp [hg])) (by intro k hk hl; simp at hk; have := (owns_block N3.out hk).1; omega)); have N4 := hid hN4; have ff4 : w4.frozen? ⟨rb, 0, none⟩ = false := free_one ((K4.out.block rb hwlt (by simp)).trans HB.out); have cc4 := K4.out.cell cc (by simp); clear hN4 hG4 hn4 _hh)
          | (have _hh := N2; refine wpList_joinO rfl _ _ rfl wr.heap.size (.slice ao2 n2 cp2) _ (M.take k) [(id, at1)] rfl (N2.out.keep (Kp.alloc w2 (.cells #[.int .i64 id, .int .i64 at1] 45) [])) rfl (vi_one w2 id at1) (by have := HN.out; simp only [List.length_append, List.length_take, List.length_cons, List.length_nil, List.length_drop]; omega) (by simp) (by have := K2.out.size; simp; omega) ?_; intro v3 w3 hN3 hG3; obtain ⟨ao3, cp3, hv3⟩ := hN3.slice; obtain ⟨n3, hn3⟩ : ∃ n3, (M.take k ++ [(id, at1)]).length = n3 := ⟨_, rfl⟩; rw [hn3] at hv3; subst hv3; have K3 := hid ((K2.out.trans (Kp.alloc w2 (.cells #[.int .i64 id, .int .i64 at1] 45) [])).past (Kp.ofGrown (rows := (Value.slice ao2 n2 cp2).ownBlock.toList) hG3 (by intro g hg; simp [hg])) (by intro k hk hl; simp at hk; have := (owns_block N2.out hk).1; omega)); have N3 := hid hN3; have cc3 := K3.out.cell cc (by simp); clear hN3 hG3 hn3 _hh)
          | (refine wpList_joinO rfl _ _ rfl wr.heap.size (.slice none 0 0) _ [] (M.take k) rfl (Or.nil _ _) rfl VF.out (by simp) (by have := HN.out; simp only [List.length_append, List.length_take, List.length_cons, List.length_nil, List.length_drop]; omega) (Nat.le_refl _) ?_; intro v2 w2 hN2 hG2; rw [List.nil_append] at hN2; obtain ⟨ao2, cp2, hv2⟩ := hN2.slice; obtain ⟨n2, hn2⟩ : ∃ n2, (M.take k).length = n2 := ⟨_, rfl⟩; rw [hn2] at hv2; subst hv2; have K2 := hid (Kp.ofGrown (rows := []) hG2 (by intro g hg; simp [Value.ownBlock] at hg)); have N2 := hid hN2; have cc2 := K2.out.cell cc (by simp); clear hN2 hG2 hn2))
          have HS := hid (HR.out.set K4.out (N4.out.low (Nat.zero_le _)))
          go_ret
          refine ⟨rfl, ?_, HK1.out.trans HS.out.2⟩
          rw [INS.out]
          have := HS.out.1
          rw [List.append_assoc] at this
          exact this
end Go.Proofs.Ytoaceeddcnijoaa
