/- The reference: Cancel. -/
import Derived.Test.YtoaceeddcnijoaaRef
import Derived.Deep.RegionLaw
namespace Go.Proofs.Ytoaceeddcnijoaa
open Go.RowKit Go.Shelf Go.Lib Go.Sort

theorem rid_none {id : Int} {L : List Dl} (h : ∀ d ∈ L, (d.1 == id) = false) : rid id L = L := rest_none fun x hx => h x hx
theorem split_at {L : List Dl} {i : Nat} (hi : i < L.length) : L = L.take i ++ (L[i]! :: L.drop (i + 1)) := by
  have h1 := take_dl hi
  have h2 := List.take_append_drop (i + 1) L
  rw [h1] at h2
  simpa using h2.symm
theorem rid_at {id : Int} {L : List Dl} (h : Lw L) {i : Nat} (hi : i < L.length) (hx : (L[i]!.1 == id) = true) : rid id L = L.take i ++ L.drop (i + 1) := by
  have e := split_at hi
  have hn := h.once
  rw [e, List.map_append, List.map_cons] at hn
  have hx' : L[i]!.1 = id := by simpa using hx
  obtain ⟨-, h2, h3⟩ := List.nodup_append.1 hn
  have h4 := (List.nodup_cons.1 h2).1
  have a1 : rid id (L.take i) = L.take i := rid_none fun d hd => by
    have := h3 d.1 (List.mem_map.2 ⟨d, hd, rfl⟩) L[i]!.1 (by simp)
    simp only [beq_eq_false_iff_ne, ne_eq]
    rw [← hx']
    exact this
  have a2 : rid id (L.drop (i + 1)) = L.drop (i + 1) := rid_none fun d hd => by
    simp only [beq_eq_false_iff_ne, ne_eq]
    rintro q
    refine h4 (List.mem_map.2 ⟨d, hd, ?_⟩)
    rw [q, hx']
  conv => lhs; rw [e]
  unfold rid rest at *
  rw [List.filter_append, List.filter_cons, a1, a2, if_neg (by simp only [hx]; decide)]

set_option maxRecDepth 100000 in
theorem rcan_no (w : World) (rb : Nat) (id : Int) (h : mayI id = false) : Calls Try.prog 22 #[.pointer (some ⟨rb, 0, none⟩), .int .i64 id] w fun e w' => e = .returned (.int .i64 2) ∧ w' = w := by
  have hh : id < 0 ∨ 64 ≤ id := by
    unfold mayI at h
    by_cases h0 : 0 ≤ id
    · right
      simp [h0] at h
      omega
    · left; omega
  clear h
  by_cases h1 : id < 0
  · clear hh
    go_enter Try.func22, Try.ntmps22
    go_wp2
    go_ret
    exact ⟨rfl, rfl⟩
  · have h2 : 64 ≤ id := by omega
    clear hh
    go_enter Try.func22, Try.ntmps22
    go_wp2
    go_ret
    exact ⟨rfl, rfl⟩

set_option maxRecDepth 100000 in
set_option maxHeartbeats 1000000 in
theorem rcan_ok (w : World) (rb : Nat) (L : List Dl) (id : Int) (h : Rf w rb L) (hw : Lw L) (hm : mayI id = true) : Calls Try.prog 22 #[.pointer (some ⟨rb, 0, none⟩), .int .i64 id] w fun e w' => e = .returned (.int .i64 (if L.any (fun x => x.1 == id) then 0 else 6)) ∧ Rf w' rb (rid id L) ∧ Kp w w' [rb] := by
  have HR := hid h
  have HW := hid hw
  have hl := hw.len
  obtain ⟨v, hb, hO⟩ := h
  obtain ⟨ao, cap, rfl⟩ := hO.slice
  obtain ⟨N, hN⟩ : ∃ N, L.length = N := ⟨_, rfl⟩
  rw [hN] at hb hO hl
  obtain ⟨E, hE⟩ : ∃ E : Int, (if L.any (fun x => x.1 == id) then 0 else 6) = E := ⟨_, rfl⟩
  rw [hE]
  have cc := cell_one hb
  have ff := free_one hb
  have HO := hid hO
  have HN := hid hN
  have HE := hid hE
  have HB := hid hb
  have hid1 : 0 ≤ id ∧ id < 64 := by unfold mayI at hm; simpa using hm
  obtain ⟨hi0, hi1⟩ := hid1
  clear hb hO hN hE hm hw
  go_enter Try.func22, Try.ntmps22
  go_wp2_with fail
  go_loopw [5] (fun vi wr => ∃ i : Nat, i ≤ N ∧ vi = .int .i64 i ∧ wr = w ∧ Hid (∀ d ∈ L.take i, (d.1 == id) = false)) (fun vi _ => N - (intOf vi).toNat)
  case atStart => exact ⟨0, by omega, rfl, rfl, hid (by simp)⟩
  case round =>
    obtain ⟨i, hi, rfl, hwr, hno⟩ := hrel
    subst hwr
    by_cases hlt : i < N
    · have hltI : (i : Int) < N := by omega
      have hil : i < L.length := by have := HN.out; omega
      obtain ⟨g, rfl, d1, d2⟩ := HO.out.at hil
      obtain ⟨x, hx⟩ : ∃ x, L[i]! = x := ⟨_, rfl⟩
      rw [hx] at d1 d2
      cases hq : (x.1 == id) with
      | true =>
        have R := hid (rid_at HW.out hil (by rw [hx]; exact hq))
        have E0 := hid (show E = 0 by
          rw [← HE.out, if_pos]
          rw [List.any_eq_true]
          refine ⟨x, ?_, hq⟩
          rw [← hx, getElem!_pos L i hil]
          exact List.getElem_mem hil)
        have hcap : N ≤ cap := by have h1 := HO.out.cells; have h2 := HN.out; omega
        have hic : i ≤ cap := by omega
        have hic1 : i + 1 ≤ cap := by omega
        have VF := hid (HO.out.front (k := i) (by omega))
        have hwlt := lt_of_block HB.out
        clear hx hil hno
        have VB := hid (show ∀ (W : World), Kp wr W [] → ∀ o m c, m = N - (i + 1) → (cap ≠ i + 1 → o = (i + 1) * 2) → (cap = i + 1 → o = 0) → Vi W (.slice (some ⟨g, o, none⟩) m c) (L.drop (i + 1)) from fun W hk o m c hm h1 h2 => by
          subst hm
          by_cases q : cap = i + 1
          · rw [h2 q, show N - (i + 1) = 0 by omega, show L.drop (i + 1) = [] from List.drop_eq_nil_of_le (by have := HN.out; omega)]
            exact vi_empty W g 0 c
          · rw [h1 q]
            exact (HO.out.keep hk).back (by have := HN.out; omega))
        rcases (show cap = i + 1 ∨ i + 1 < cap by omega) with hq1 | hq1
        case' inl => subst hq1
        case' inr => have hq2 : ¬ cap = i + 1 := by omega
        all_goals
          go_wp2_with (first
            | (have _hh := N2; refine wpList_joinO rfl _ _ rfl wr.heap.size (.slice ao2 n2 cp2) _ (L.take i) (L.drop (i + 1)) rfl N2.out rfl (VB.out w2 K2.out _ _ _ (by omega) (by intros; omega) (by intros; omega)) (by rw [List.length_take]; have := HN.out; omega) (by rw [List.length_drop]; have := HN.out; omega) K2.out.size ?_; intro v3 w3 hN3 hG3; obtain ⟨ao3, cp3, hv3⟩ := hN3.slice; obtain ⟨n3, hn3⟩ : ∃ n3, (L.take i ++ L.drop (i + 1)).length = n3 := ⟨_, rfl⟩; rw [hn3] at hv3; subst hv3; have K3 := hid (K2.out.past (Kp.ofGrown (rows := (Value.slice ao2 n2 cp2).ownBlock.toList) hG3 (by intro g hg; simp [hg])) (by intro k hk hl; simp at hk; have := (owns_block N2.out hk).1; omega)); have N3 := hid hN3; have ff3 : w3.frozen? ⟨rb, 0, none⟩ = false := free_one ((K3.out.block rb hwlt (by simp)).trans HB.out); have cc3 := K3.out.cell cc (by simp); clear hN3 hG3 hn3 _hh)
            | (refine wpList_joinO rfl _ _ rfl wr.heap.size (.slice none 0 0) _ [] (L.take i) rfl (Or.nil _ _) rfl VF.out (by simp) (by rw [List.length_take]; have := HN.out; omega) (Nat.le_refl _) ?_; intro v2 w2 hN2 hG2; rw [List.nil_append] at hN2; obtain ⟨ao2, cp2, hv2⟩ := hN2.slice; obtain ⟨n2, hn2⟩ : ∃ n2, (L.take i).length = n2 := ⟨_, rfl⟩; rw [hn2] at hv2; subst hv2; have K2 := hid (Kp.ofGrown (rows := []) hG2 (by intro g hg; simp [Value.ownBlock] at hg)); have N2 := hid hN2; have cc2 := K2.out.cell cc (by simp); have ff2 : w2.frozen? ⟨rb, 0, none⟩ = false := free_one ((K2.out.block rb hwlt (by simp)).trans HB.out); clear hN2 hG2 hn2))
          have HS := hid (HR.out.set K3.out (N3.out.low (Nat.zero_le _)))
          go_ret
          exact ⟨by rw [E0.out]; rfl, by rw [R.out]; exact HS.out.1, HS.out.2⟩
      | false =>
        have hno' := hid (show ∀ d ∈ L.take (i + 1), (d.1 == id) = false by
          rw [take_dl hil, hx]
          intro d hd
          rcases List.mem_append.1 hd with q | q
          · exact hno.out d q
          · rw [List.mem_singleton.1 q]; exact hq)
        clear hno hx hil
        go_wp2
        go_roundw
        case rel => exact ⟨i + 1, by omega, by simp, trivial, hno'⟩
        case measure => simp [intOf]; omega
    · have hltI : ¬ (i : Int) < N := by omega
      have hall := hno.out
      rw [List.take_of_length_le (by have := HN.out; omega)] at hall
      have E6 := hid (show E = 6 by
        rw [← HE.out, if_neg]
        rw [List.any_eq_true]
        rintro ⟨x, hx, hq⟩
        rw [hall x hx] at hq
        cases hq)
      have R := hid (rid_none hall)
      clear hno hall
      go_wp2
      go_ret
      exact ⟨by rw [E6.out]; rfl, by rw [R.out]; exact HR.out, Kp.refl _ _⟩
end Go.Proofs.Ytoaceeddcnijoaa
