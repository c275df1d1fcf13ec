/- The reference: Put, Change, Leave. -/
import Derived.Test.YtllkopekfanfaaaRef
namespace Go.Proofs.Ytllkopekfanfaaa
open Go.RowKit Go.Shelf Go.Lib Go.Sort Go.Maps

/-- What a call leaves of the reference's list. -/
def Rt (w w' : World) (rb : Nat) (L : List Dl) : Prop := Rf w' rb L ∧ Kp w w' [rb]
theorem Rt.same {w : World} {rb : Nat} {L : List Dl} (h : Rf w rb L) : Rt w w rb L := ⟨h, Kp.refl _ _⟩
set_option maxRecDepth 100000 in
set_option maxHeartbeats 1000000 in
theorem rput_any (w : World) (rb : Nat) (L : List Dl) (t p : Int) (h : Rf w rb L) (hok : okL L) :
    Calls Try.prog 61 #[.pointer (some ⟨rb, 0, none⟩), .int .i64 t, .int .i64 p] w fun e w' => e = .returned (.int .i64 (putE L t p)) ∧ Rt w w' rb (putL L t p) := by
  have H := hid h
  have HM := hid (fun w1 => rmay_any w1 t p)
  have HF := hid (find_any w rb L t h (by have := hok.len; omega))
  have hlen := hok.len
  unfold putE putL
  generalize (mayT t && mayP p) = M at HM ⊢
  clear h hok
  cases M with
  | false =>
    simp only [Bool.false_eq_true, if_false]
    go_enter Try.func61, Try.ntmps61
    go_wp2_with (go_at_call 83; refine (HM.out _).mono ?_; rintro e w1 ⟨rfl, rfl⟩)
    go_ret
    exact ⟨rfl, Rt.same H.out⟩
  | true =>
    simp only [if_true]
    cases hB : hasP L t with
    | true =>
      have HB := hid hB
      clear hB
      simp only [if_true]
      go_enter Try.func61, Try.ntmps61
      go_wp2_with (go_at_call 83; refine (HM.out _).mono ?_; rintro e w1 ⟨rfl, rfl⟩)
      refine HF.out.mono ?_
      rintro e w1 ⟨r, rfl, hF, rfl⟩
      have hr : ¬ r < 0 := by have := hF.neg; rw [HB.out] at this; simpa using this
      have hr2 : 0 ≤ r := by omega
      clear hF
      go_wp2
      go_ret
      exact ⟨rfl, Rt.same H.out⟩
    | false =>
      have HB := hid hB
      clear hB
      obtain ⟨v, hb, hd⟩ := H.out
      obtain ⟨ao, cap, rfl⟩ := hd.slice
      obtain ⟨N, hN⟩ : ∃ N, L.length = N := ⟨_, rfl⟩
      rw [hN] at hb hlen
      have HD := hid hd
      rw [hN] at HD
      have HN := hid hN
      have cc := cell_one hb
      have HBL := hid hb
      have hlt := lt_of_block hb
      clear hb hd hN
      simp only [Bool.false_eq_true, if_false]
      go_enter Try.func61, Try.ntmps61
      go_wp2_with (go_at_call 83; refine (HM.out _).mono ?_; rintro e w1 ⟨rfl, rfl⟩)
      refine HF.out.mono ?_
      rintro e w1 ⟨r, rfl, hF, rfl⟩
      have hr : r < 0 := by have := hF.neg; rw [HB.out] at this; simpa using this
      have hr2 : ¬ 0 ≤ r := by omega
      clear hF
      go_wp2_with (first
        | (have _hh := N2; refine wpList_joinD rfl _ _ rfl w1.heap.size w2.heap.size (.slice ao2 n2 cp2) _ L [(t, p)] rfl (N2.out.keep (Kp.alloc w2 (.cells #[.int .i64 t, .int .i64 p] 103) [])) rfl (Dr.one w2 t p) (by have := HN.out; omega) (by simp) (by have := K2.out.size; simp; omega) ?_; intro v3 w3 hN3 hG3; obtain ⟨ao3, cp3, hv3⟩ := hN3.slice; obtain ⟨n3, hn3⟩ : ∃ n3, (L ++ [(t, p)]).length = n3 := ⟨_, rfl⟩; rw [hn3] at hv3; subst hv3; have K3 := hid (grown_kp (N2.out.keep (Kp.alloc w2 (.cells #[.int .i64 t, .int .i64 p] 103) [])) hG3 (K2.out.trans (Kp.alloc _ _ _)) (Nat.le_refl _)); have N3 := hid hN3; have ff3 : w3.frozen? ⟨rb, 0, none⟩ = false := free_one ((K3.out.block rb hlt (by simp)).trans HBL.out); have cc3 := K3.out.cell cc (by simp); clear hN3 hG3 hn3 _hh)
        | (refine wpList_joinD rfl _ _ rfl w1.heap.size 0 (.slice none 0 0) _ [] L rfl (Dr.nil _ _) rfl HD.out (by simp) (by have := HN.out; omega) (Nat.le_refl _) ?_; intro v2 w2 hN2 hG2; rw [List.nil_append] at hN2; obtain ⟨ao2, cp2, hv2⟩ := hN2.slice; obtain ⟨n2, hn2⟩ : ∃ n2, L.length = n2 := ⟨_, rfl⟩; rw [hn2] at hv2; subst hv2; have K2 := hid (Kp.ofGrown (rows := []) hG2 (by intro g hg; simp [Value.ownBlock] at hg)); have N2 := hid hN2; clear hN2 hG2 hn2))
      have HS := hid (H.out.set K3.out (N3.out.low (Nat.zero_le _)))
      go_ret
      exact ⟨rfl, HS.out⟩
/-- A row, changed at one place. -/
theorem ch_at {L : List Dl} (h : okL L) {i : Nat} (hi : i < L.length) {t p : Int} (e : L[i]!.1 = t) : chL L t p = L.set i (t, p) := by
  unfold chL
  apply List.ext_getElem?
  intro j
  rw [List.getElem?_map, List.getElem?_set]
  by_cases hj : j < L.length
  · rw [List.getElem?_eq_getElem hj]
    by_cases q : i = j
    · subst q
      rw [getElem!_pos L i hi] at e
      simp [e, hi]
    · rw [if_neg q]
      have hne : L[j].1 ≠ t := by
        intro e2
        rw [getElem!_pos L i hi] at e
        have hn := h.one
        have h1 : (L.map (·.1))[i]'(by simpa using hi) = (L.map (·.1))[j]'(by simpa using hj) := by simp [e, e2]
        rcases Nat.lt_or_gt_of_ne q with q | q
        · exact (List.pairwise_iff_getElem.1 hn) i j (by simpa using hi) (by simpa using hj) q h1
        · exact (List.pairwise_iff_getElem.1 hn) j i (by simpa using hj) (by simpa using hi) q h1.symm
      simp [hne]
  · rw [List.getElem?_eq_none (by omega)]
    by_cases q : i = j
    · omega
    · rw [if_neg q]; rfl
/-- A row's parts, written out. -/
theorem Dr.open {w : World} {base g m cap : Nat} {l : List Dl} (h : Dr w base (.slice (some ⟨g, 0, none⟩) m cap) l) : ∃ cur, m = l.length ∧ base ≤ g ∧ w.heap[g]? = some (.cells cur 103 (0, 0)) ∧ l.length ≤ cap ∧ cap ≤ maxLen ∧ cur.size = cap * 2 ∧ cur.toList.take (l.length * 2) = dcells l := by
  rcases h.2 with ⟨hv, -⟩ | ⟨g', cap', cur, hv, hb, h2, h3, h4, h5, h6⟩
  · cases hv
  · simp only [Value.slice.injEq, Option.some.injEq, Addr.mk.injEq] at hv
    obtain ⟨⟨rfl, -⟩, rfl, rfl⟩ := hv
    exact ⟨cur, rfl, hb, h2, h3, h4, h5, h6⟩
theorem Dr.make {w : World} {base g cap : Nat} {l : List Dl} {cur : Array Value} (hb : base ≤ g) (h2 : w.heap[g]? = some (.cells cur 103 (0, 0))) (h3 : l.length ≤ cap) (h4 : cap ≤ maxLen) (h5 : cur.size = cap * 2) (h6 : cur.toList.take (l.length * 2) = dcells l) : Dr w base (.slice (some ⟨g, 0, none⟩) l.length cap) l :=
  ⟨dcells_length l, .inr ⟨g, cap, cur, rfl, hb, h2, h3, h4, h5, h6⟩⟩
theorem dcells_set1 : ∀ (l : List Dl) (i : Nat) (x2 : Int), i < l.length → (dcells l).set (i * 2 + 1) (.int .i64 x2) = dcells (l.set i (l[i]!.1, x2))
  | [], _, _, h => by simp at h
  | y :: r, 0, x2, _ => rfl
  | y :: r, i + 1, x2, h => by
    have ih := dcells_set1 r i x2 (by simpa using h)
    have e : dcells (y :: r) = .int .i64 y.1 :: .int .i64 y.2 :: dcells r := rfl
    have e2 : dcells ((y :: r).set (i + 1) ((y :: r)[i + 1]!.1, x2)) = .int .i64 y.1 :: .int .i64 y.2 :: dcells (r.set i (r[i]!.1, x2)) := by simp [dcells, encD]
    rw [e, e2, ← ih, show (i + 1) * 2 + 1 = i * 2 + 1 + 1 + 1 by omega]
    rfl
theorem Dr.put1 {w : World} {base g m cap : Nat} {l : List Dl} (h : Dr w base (.slice (some ⟨g, 0, none⟩) m cap) l) {i : Nat} (hi : i < l.length) {x1 : Int} (hx : l[i]!.1 = x1) (x2 : Int) : Dr (w.setCell ⟨g, i * 2 + 1, none⟩ (.int .i64 x2)) base (.slice (some ⟨g, 0, none⟩) m cap) (l.set i (x1, x2)) := by
  obtain ⟨cur, rfl, hb, h2, h3, h4, h5, h6⟩ := h.open
  have e2 := heap_setCell_same w g (i * 2 + 1) _ _ (.int .i64 x2) h2
  have e3 : l.length = (l.set i (x1, x2)).length := by simp
  have := Dr.make (l := l.set i (x1, x2)) hb e2 (by rw [← e3]; exact h3) h4 (by simp [h5]) (by
    rw [← e3, ← hx, ← dcells_set1 l i x2 hi, ← h6]
    simp only [Array.toList_setIfInBounds, List.take_set])
  rw [← e3] at this
  exact this
set_option maxRecDepth 100000 in
set_option maxHeartbeats 1000000 in
theorem rchg_any (w : World) (rb : Nat) (L : List Dl) (t p : Int) (h : Rf w rb L) (hok : okL L) :
    Calls Try.prog 63 #[.pointer (some ⟨rb, 0, none⟩), .int .i64 t, .int .i64 p] w fun e w' => e = .returned (.int .i64 (chgE L t p)) ∧ Rt w w' rb (chgL L t p) := by
  have H := hid h
  have HM := hid (fun w1 => rmay_any w1 t p)
  have HF := hid (find_any w rb L t h (by have := hok.len; omega))
  have HC := hid (fun i hi e => ch_at (i := i) (t := t) (p := p) hok hi e)
  have hlen := hok.len
  unfold chgE chgL
  generalize (mayT t && mayP p) = M at HM ⊢
  clear h hok
  cases M with
  | false =>
    simp only [Bool.false_eq_true, if_false]
    go_enter Try.func63, Try.ntmps63
    go_wp2_with (go_at_call 83; refine (HM.out _).mono ?_; rintro e w1 ⟨rfl, rfl⟩)
    go_ret
    exact ⟨rfl, Rt.same H.out⟩
  | true =>
    simp only [if_true]
    cases hB : hasP L t with
    | false =>
      have HB := hid hB
      clear hB
      simp only [Bool.false_eq_true, if_false]
      go_enter Try.func63, Try.ntmps63
      go_wp2_with (go_at_call 83; refine (HM.out _).mono ?_; rintro e w1 ⟨rfl, rfl⟩)
      refine HF.out.mono ?_
      rintro e w1 ⟨r, rfl, hF, rfl⟩
      have hr : r < 0 := by have := hF.neg; rw [HB.out] at this; simpa using this
      clear hF
      go_wp2
      go_ret
      exact ⟨rfl, Rt.same H.out⟩
    | true =>
      have HB := hid hB
      clear hB
      obtain ⟨v, hb, hd⟩ := H.out
      obtain ⟨ao, cap, rfl⟩ := hd.slice
      obtain ⟨N, hN⟩ : ∃ N, L.length = N := ⟨_, rfl⟩
      rw [hN] at hb hlen
      have HD := hid hd
      rw [hN] at HD
      have HN := hid hN
      have cc := cell_one hb
      have HBL := hid hb
      have hlt := lt_of_block hb
      clear hb hd hN
      simp only [if_true]
      go_enter Try.func63, Try.ntmps63
      go_wp2_with (go_at_call 83; refine (HM.out _).mono ?_; rintro e w1 ⟨rfl, rfl⟩)
      refine HF.out.mono ?_
      rintro e w1 ⟨r, rfl, hF, rfl⟩
      have hF2 : ∃ i : Nat, r = i ∧ i < L.length ∧ L[i]!.1 = t := by
        rcases hF with ⟨-, e⟩ | e
        · rw [HB.out] at e; cases e
        · exact e
      obtain ⟨i, rfl, hil, hit⟩ := hF2
      have hiN : (i : Int) < N := by have := HN.out; omega
      have hi0 : ¬ (i : Int) < 0 := by omega
      have HI := hid (And.intro hil hit)
      clear hF hil hit
      go_wp2_with (refine wpList_joinD rfl _ _ rfl w1.heap.size 0 (.slice none 0 0) (.slice ao N cap) [] L rfl (Dr.nil _ _) rfl HD.out (by simp) (by have := HN.out; omega) (Nat.le_refl _) ?_; intro v2 w2 hN2 hG2; rw [List.nil_append] at hN2; obtain ⟨ao2, cp2, hv2⟩ := hN2.slice; rw [HN.out] at hv2; subst hv2; obtain ⟨x1, x2, hx⟩ : ∃ x1 x2, L[i]! = (x1, x2) := ⟨L[i]!.1, L[i]!.2, rfl⟩; obtain ⟨g, hao, c1, c2, f1, f2⟩ := hN2.at HI.out.1 hx; subst hao; have K2 := hid (Kp.ofGrown (rows := []) hG2 (by intro g hg; cases hg)); have N2 := hid hN2; have hgb := (owns_block hN2 (g := g) rfl).1; have N3 := hid (N2.out.put1 HI.out.1 HI.out.2 p); have K3 := hid (show Kp w1 (w2.setCell ⟨g, i * 2 + 1, none⟩ (.int .i64 p)) [] from K2.out.past (Kp.setCell _ _ _) (by intro k hk hl; simp at hk; omega)); have ff3 : w2.frozen? ⟨rb, 0, none⟩ = false := free_one ((K2.out.block rb hlt (by simp)).trans HBL.out); have cc3 : w2.cell? ⟨rb, 0, none⟩ = _ := K2.out.cell cc (by simp); have hne : g ≠ rb := (by omega); have hne2 : rb ≠ g := (by omega); clear hN2 hG2 hx)
      have HS := hid (H.out.set K3.out (N3.out.low (Nat.zero_le _)))
      go_ret
      exact ⟨rfl, by rw [HC.out i HI.out.1 HI.out.2]; exact HS.out⟩
theorem del_at {L : List Dl} (h : okL L) {i : Nat} (hi : i < L.length) {t : Int} (e : L[i]!.1 = t) : delP L t = L.take i ++ L.drop (i + 1) := by
  have hs : L = L.take i ++ L[i]! :: L.drop (i + 1) := part_at hi
  have hn := h.one
  rw [hs, List.map_append, List.map_cons, List.nodup_append] at hn
  obtain ⟨-, h2, h3⟩ := hn
  rw [List.nodup_cons] at h2
  unfold delP
  conv => lhs; rw [hs]
  rw [List.filter_append, List.filter_cons_of_neg (by rw [e]; simp)]
  congr 1
  · rw [List.filter_eq_self.2]
    intro x hx
    have := h3 x.1 (List.mem_map.2 ⟨x, hx, rfl⟩) L[i]!.1 (by simp)
    rw [e] at this
    simp [this]
  · rw [List.filter_eq_self.2]
    intro x hx
    simp
    rintro e2
    exact h2.1 (List.mem_map.2 ⟨x, hx, by rw [e2, e]⟩)
set_option maxRecDepth 100000 in
set_option maxHeartbeats 2000000 in
theorem rlv_any (w : World) (rb : Nat) (L : List Dl) (t : Int) (h : Rf w rb L) (hok : okL L) :
    Calls Try.prog 62 #[.pointer (some ⟨rb, 0, none⟩), .int .i64 t] w fun e w' => e = .returned (.int .i64 (lvE L t)) ∧ Rt w w' rb (lvL L t) := by
  have H := hid h
  have HM := hid (fun w1 => rmay_any w1 t 1)
  have HF := hid (find_any w rb L t h (by have := hok.len; omega))
  have HC := hid (fun i hi e => del_at (i := i) (t := t) hok hi e)
  have HC0 := hid (fun e => del_none (L := L) (t := t) e)
  have hlen := hok.len
  unfold lvE lvL
  rw [show mayP 1 = true from rfl, Bool.and_true] at HM
  generalize mayT t = M at HM ⊢
  clear h hok
  cases M with
  | false =>
    simp only [Bool.false_eq_true, if_false]
    go_enter Try.func62, Try.ntmps62
    go_wp2_with (go_at_call 83; refine (HM.out _).mono ?_; rintro e w1 ⟨rfl, rfl⟩)
    go_ret
    exact ⟨rfl, Rt.same H.out⟩
  | true =>
    simp only [if_true]
    cases hB : hasP L t with
    | false =>
      have HB := hid hB
      rw [HC0.out hB]
      clear hB
      simp only [Bool.false_eq_true, if_false]
      go_enter Try.func62, Try.ntmps62
      go_wp2_with (go_at_call 83; refine (HM.out _).mono ?_; rintro e w1 ⟨rfl, rfl⟩)
      refine HF.out.mono ?_
      rintro e w1 ⟨r, rfl, hF, rfl⟩
      have hr : r < 0 := by have := hF.neg; rw [HB.out] at this; simpa using this
      clear hF
      go_wp2
      go_ret
      exact ⟨rfl, Rt.same H.out⟩
    | true =>
      have HB := hid hB
      clear hB
      obtain ⟨v, hb, hd⟩ := H.out
      obtain ⟨ao, cap, rfl⟩ := hd.slice
      obtain ⟨N, hN⟩ : ∃ N, L.length = N := ⟨_, rfl⟩
      rw [hN] at hb hlen
      have HD := hid hd
      rw [hN] at HD
      have HN := hid hN
      have cc := cell_one hb
      have HBL := hid hb
      have hlt := lt_of_block hb
      clear hb hd hN
      simp only [if_true]
      go_enter Try.func62, Try.ntmps62
      go_wp2_with (go_at_call 83; refine (HM.out _).mono ?_; rintro e w1 ⟨rfl, rfl⟩)
      refine HF.out.mono ?_
      rintro e w1 ⟨r, rfl, hF, rfl⟩
      have hF2 : ∃ i : Nat, r = i ∧ i < L.length ∧ L[i]!.1 = t := by
        rcases hF with ⟨-, e⟩ | e
        · rw [HB.out] at e; cases e
        · exact e
      obtain ⟨i, rfl, hil, hit⟩ := hF2
      have hiN : (i : Int) < N := by have := HN.out; omega
      have hi0 : ¬ (i : Int) < 0 := by omega
      obtain ⟨x1, x2, hx⟩ : ∃ x1 x2, L[i]! = (x1, x2) := ⟨L[i]!.1, L[i]!.2, rfl⟩
      obtain ⟨g, rfl, -⟩ := HD.out.at hil hx
      obtain ⟨cur, -, -, -, hNc, -⟩ := HD.out.open
      have hic : i < cap := by omega
      have hNc2 : N ≤ cap := by have := HN.out; omega
      have HI := hid (And.intro hil hit)
      clear hF hil hit hx hNc
      have VF := hid (fun (W : World) (hk : Kp w1 W []) => (HD.out.keep hk).front (k := i) (by have := HI.out.1; omega))
      have VB := hid (show ∀ (W : World), Kp w1 W [] → ∀ o m c, m = N - (i + 1) → (cap ≠ i + 1 → o = (i + 1) * 2) → (cap = i + 1 → o = 0) → Vi W (.slice (some ⟨g, o, none⟩) m c) (L.drop (i + 1)) from fun W hk o m c hm h1 h2 => by
        subst hm
        by_cases q : cap = i + 1
        · rw [h2 q, show N - (i + 1) = 0 by omega, show L.drop (i + 1) = [] from List.drop_eq_nil_of_le (by have := HN.out; omega)]
          exact vi_empty W g 0 c
        · rw [h1 q]
          exact (HD.out.keep hk).back (by have := HN.out; omega))
      have CK := hid (show ∀ W, Kp w1 W [] → W.cell? ⟨rb, 0, none⟩ = some (.slice (some ⟨g, 0, none⟩) N cap) from fun W hk => hk.cell cc (by simp))
      have FK := hid (show ∀ W, Kp w1 W [] → W.frozen? ⟨rb, 0, none⟩ = false from fun W hk => free_one ((hk.block rb hlt (by simp)).trans HBL.out))
      have hwr : IntKind.i64.wrap ((i : Int) + 1) = (i : Int) + 1 := IntWalk.i64_in _ ⟨by omega, by omega⟩
      have hic1 : i + 1 ≤ cap := by omega
      have hic0 : (0 : Int) ≤ (i : Int) + 1 := by omega
      have hic2 : i ≤ cap := by omega
      have hic3 : (i : Int) ≤ cap := by omega
      have hiN1 : i + 1 ≤ N := by omega
      rcases (show cap = i + 1 ∨ i + 1 < cap by omega) with hq1 | hq1
      case' inl =>
        subst hq1
        have hq3 : (i : Int) ≤ (i : Int) + 1 := by omega
      case' inr => have hq2 : ¬ cap = i + 1 := by omega
      all_goals
        have hiN2 : (i : Int) + 1 ≤ N := by omega
        go_wp2_with fail
        go_region_law
          (first
            | (have _hh := N2; refine step_joinO (by rfl) _ _ (by rfl) 31 (by rfl) w1.heap.size (.slice ao2 n2 cp2) _ (L.take i) (L.drop (i + 1)) (by rfl) N2.out (by rfl) (VB.out _ K2.out _ _ _ (by omega) (by intros; omega) (by intros; omega)) (by rw [List.length_take]; omega) (by rw [List.length_drop]; have := HN.out; omega) K2.out.size ?_; intro v3 w3 hN3 hG3; obtain ⟨ao3, cp3, hv3⟩ := hN3.slice; obtain ⟨n3, hn3⟩ : ∃ n3, (L.take i ++ L.drop (i + 1)).length = n3 := ⟨_, rfl⟩; rw [hn3] at hv3; subst hv3; have K3 := hid (grown_kp N2.out hG3 K2.out (Nat.le_refl _)); have N3 := hid hN3; have ff3 := FK.out _ K3.out; have cc3 := CK.out _ K3.out; clear hN3 hG3 hn3 _hh)
            | (refine step_joinO (by rfl) _ _ (by rfl) 23 (by rfl) w1.heap.size (.slice none 0 0) _ [] (L.take i) (by rfl) (Dr.nil _ _) (by rfl) (VF.out _ (Kp.drew _ _)) (by simp) (by rw [List.length_take]; omega) (Nat.le_refl _) ?_; intro v2 w2 hN2 hG2; rw [List.nil_append] at hN2; obtain ⟨ao2, cp2, hv2⟩ := hN2.slice; obtain ⟨n2, hn2⟩ : ∃ n2, (L.take i).length = n2 := ⟨_, rfl⟩; rw [hn2] at hv2; subst hv2; have K2 := hid ((Kp.drew w1 []).trans (Kp.ofGrown (rows := []) hG2 (by intro g hg; cases hg))); have N2 := hid hN2; have cc2 := CK.out _ K2.out; clear hN2 hG2 hn2))
        all_goals have HS := hid (H.out.set K3.out (N3.out.low (Nat.zero_le _)))
        all_goals go_wp2
        all_goals go_ret
        all_goals exact ⟨rfl, by rw [HC.out i HI.out.1 HI.out.2]; exact HS.out⟩
end Go.Proofs.Ytllkopekfanfaaa
