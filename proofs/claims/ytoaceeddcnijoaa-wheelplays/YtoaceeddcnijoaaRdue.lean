/- The reference: Due. -/
import Derived.Test.YtoaceeddcnijoaaRset
namespace Go.Proofs.Ytoaceeddcnijoaa
open Go.RowKit Go.Shelf Go.Lib Go.Sort

theorem rset_any (w : World) (rb : Nat) (L : List Dl) (id at1 : Int) (h : Rf w rb L) (hw : Lw L) : Calls Try.prog 21 #[.pointer (some ⟨rb, 0, none⟩), .int .i64 id, .int .i64 at1] w fun e w' => e = .returned (.int .i64 (setE id at1)) ∧ Rf w' rb (setL id at1 L) ∧ Kp w w' [rb] := by
  unfold setE setL
  by_cases hm : (mayI id && mayT at1) = true
  · rw [if_pos hm, if_pos hm]; exact rset_ok w rb L id at1 h hw hm
  · rw [if_neg hm, if_neg hm]
    refine (rset_no w rb id at1 (by simpa using hm)).mono ?_
    rintro e w' ⟨rfl, rfl⟩
    exact ⟨rfl, h, Kp.refl _ _⟩

theorem due_cut {L : List Dl} (h : Asc L) {now : Int} {j : Nat} (hj : j ≤ L.length) (h1 : ∀ y ∈ L.take j, y.2 ≤ now) (h2 : j = L.length ∨ now < L[j]!.2) : dueO now L = (L.take j).map (·.1) ∧ dueL now L = L.drop j := by
  have hgt : ∀ q ∈ L.drop j, now < q.2 := by
    intro q hq
    rcases h2 with e | e
    · rw [e, List.drop_length] at hq; cases hq
    · by_cases hk2 : j < L.length
      · have hd : L.drop j = L[j]! :: L.drop (j + 1) := by
          rw [List.drop_eq_getElem_cons hk2]
          congr 1
          exact (getElem!_pos L j hk2).symm
        have ha : Asc (L.drop j) := by
          have := h
          rw [← List.take_append_drop j L] at this
          exact this.right
        rw [hd] at hq ha
        rcases List.mem_cons.1 hq with rfl | hq
        · exact e
        · have := (List.pairwise_cons.1 ha).1 q hq
          omega
      · rw [List.drop_eq_nil_of_le (by omega)] at hq; cases hq
  have f1 : (L.take j).filter (fun x => decide (x.2 ≤ now)) = L.take j := List.filter_eq_self.2 fun x hx => by simpa using h1 x hx
  have f2 : (L.drop j).filter (fun x => decide (x.2 ≤ now)) = [] := List.filter_eq_nil_iff.2 fun x hx => by have := hgt x hx; simp; omega
  have g1 : (L.take j).filter (fun x => !decide (x.2 ≤ now)) = [] := List.filter_eq_nil_iff.2 fun x hx => by simpa using h1 x hx
  have g2 : (L.drop j).filter (fun x => !decide (x.2 ≤ now)) = L.drop j := List.filter_eq_self.2 fun x hx => by have := hgt x hx; simp; omega
  constructor
  · unfold dueO
    conv => lhs; rw [← List.take_append_drop j L]
    rw [List.filter_append, f1, f2, List.append_nil]
  · unfold dueL rest
    conv => lhs; rw [← List.take_append_drop j L]
    rw [List.filter_append, g1, g2, List.nil_append]

set_option maxRecDepth 100000 in
set_option maxHeartbeats 2000000 in
theorem rdue_any (w : World) (rb : Nat) (L : List Dl) (now : Int) (h : Rf w rb L) (hw : Lw L) : Calls Try.prog 23 #[.pointer (some ⟨rb, 0, none⟩), .int .i64 now] w fun e w' => ∃ v, e = .returned v ∧ Ns w' w.heap.size v (dueO now L) ∧ Rf w' rb (dueL now L) ∧ Kp w w' [rb] := by
  have HR := hid h
  have HW := hid hw
  have hl := hw.len
  have hrb := h.lt
  obtain ⟨N, hN⟩ : ∃ N, L.length = N := ⟨_, rfl⟩
  rw [hN] at hl
  have HN := hid hN
  clear h hw hN
  go_enter Try.func23, Try.ntmps23
  go_wp2_with fail
  go_loopw [5] (fun vo wr => ∃ (j m cap : Nat) (ao : Option Addr), j ≤ N ∧ m = j ∧ vo = .slice ao m cap ∧ Hid (Ns wr w.heap.size (.slice ao m cap) ((L.take j).map (·.1)) ∧ Rf wr rb (L.drop j) ∧ Kp w wr [rb] ∧ ∀ y ∈ L.take j, y.2 ≤ now)) (fun vo _ => N - (match vo with | .slice _ m _ => m | _ => 0))
  case atStart => exact ⟨0, 0, 0, none, by omega, rfl, rfl, hid ⟨by simpa using Ns.nil _ _, by simpa using HR.out, Kp.refl _ _, by simp⟩⟩
  case round =>
    obtain ⟨j, m, cap, ao, hj, rfl, rfl, hI⟩ := hrel
    obtain ⟨hNs, hRf, hK, hle⟩ := hI.out
    have NS := hid hNs
    have RF := hid hRf
    have KK := hid hK
    have LE := hid hle
    obtain ⟨v, hb, hO⟩ := hRf
    obtain ⟨bo, bc, rfl⟩ := hO.slice
    obtain ⟨R, hR⟩ : ∃ R, (L.drop m).length = R := ⟨_, rfl⟩
    rw [hR] at hb hO
    have cc := cell_one hb
    have ff := free_one hb
    have HO := hid hO
    have HB := hid hb
    have HRl := hid (show R = N - m by rw [← hR, List.length_drop]; have := HN.out; omega)
    clear hI hNs hK hle hb hO hR
    by_cases hgo : m < N ∧ L[m]!.2 ≤ now
    · obtain ⟨hlt, hle⟩ := hgo
      have hil : 0 < (L.drop m).length := by rw [List.length_drop]; have := HN.out; omega
      have hR0 : 0 < R := by have := HRl.out; omega
      have hR0I : (0 : Int) < R := by omega
      obtain ⟨g, rfl, d1, d2⟩ := HO.out.at hil
      obtain ⟨x, hx⟩ : ∃ x, L[m]! = x := ⟨_, rfl⟩
      have hx0 : (L.drop m)[0]! = x := by
        rw [← hx, getElem!_pos (L.drop m) 0 hil, getElem!_pos L m (by have := HN.out; omega)]
        simp
      rw [hx0] at d1 d2
      simp only [Nat.zero_mul, Nat.zero_add] at d1 d2
      rw [hx] at hle
      have hcap : R ≤ bc := by have h1 := HO.out.cells; have h2 := h1.1; omega
      have hwlt := lt_of_block HB.out
      have TK := hid (show L.take (m + 1) = L.take m ++ [x] by rw [take_dl (by have := HN.out; omega), hx])
      clear hx hx0 hil
      have hb1 : R = 1 ∧ bc = 1 ∨ ¬ bc = 1 := by omega
      have VB := hid (show ∀ (W : World) (rws : List Nat), Kp wr W rws → (∀ k ∈ rws, ∃ c t, wr.heap[k]? = some (.cells c t (0, 0)) ∧ t ≠ 29 ∧ t ≠ 45) → ∀ o m' c, m' = R - 1 → (bc ≠ 1 → o = 2) → (bc = 1 → o = 0) → Vi W (.slice (some ⟨g, o, none⟩) m' c) (L.drop (m + 1)) from fun W rws hk hr o m' c hm h1 h2 => by
        subst hm
        have hRl := HRl.out
        have hdd : L.drop (m + 1) = (L.drop m).drop 1 := by rw [List.drop_drop]
        by_cases q : bc = 1
        · rw [h2 q, show R - 1 = 0 by omega, show L.drop (m + 1) = [] from List.drop_eq_nil_of_le (by have := HN.out; omega)]
          exact vi_empty W g 0 c
        · rw [h1 q, hdd]
          exact (HO.out.off hk hr).back (k := 1) (by rw [List.length_drop]; have := HN.out; omega))
      have GR := hid (show ∀ (W : World), (wr.alloc (.cells #[.int .i64 x.1] 3)).grownBy W (Value.slice ao m cap).ownBlock → Kp wr W (Value.slice ao m cap).ownBlock.toList ∧ ∀ k ∈ (Value.slice ao m cap).ownBlock.toList, ∃ c t, wr.heap[k]? = some (.cells c t (0, 0)) ∧ t ≠ 29 ∧ t ≠ 45 from fun W hG => by
        refine ⟨(Kp.alloc wr _ _).trans (Kp.ofGrown hG (by intro g hg; simp [hg])), fun k hk => ?_⟩
        obtain ⟨-, cur, hcur⟩ := owns_block NS.out (by simpa using hk)
        exact ⟨cur, 3, hcur, by decide, by decide⟩)
      have hsz := KK.out.size
      rcases hb1 with ⟨q1, q2⟩ | hck
      case' inl => subst q1 q2
      all_goals
        go_wp2_with (first
          | (have _hh := K2; refine wpList_joinO rfl _ _ rfl w2.heap.size (.slice none 0 0) _ [] (L.drop (m + 1)) rfl (Or.nil _ _) rfl (VB.out w2 _ K2.out.1 K2.out.2 _ _ _ (by omega) (by intros; omega) (by intros; omega)) (by simp) (by have := HN.out; rw [List.length_drop]; omega) (Nat.le_refl _) ?_; intro v3 w3 hN3 hG3; rw [List.nil_append] at hN3; obtain ⟨ao3, cp3, hv3⟩ := hN3.slice; obtain ⟨n3, hn3⟩ : ∃ n3, (L.drop (m + 1)).length = n3 := ⟨_, rfl⟩; rw [hn3] at hv3; subst hv3; have K3 := hid (Kp.ofGrown (rows := []) hG3 (by intro g hg; simp [Value.ownBlock] at hg)); have N3 := hid hN3; have ff3 : w3.frozen? ⟨rb, 0, none⟩ = false := (by obtain ⟨v0, hv0, -⟩ := (RF2.out.keep K3.out); exact free_one hv0); have cc3 := K3.out.cell cc2 (by simp); clear hN3 hG3 hn3 _hh)
          | (refine wpList_pushI rfl (.tmp 23) (.tmp 31) rfl w.heap.size (.slice ao m cap) ((L.take m).map (·.1)) x.1 wr.heap.size rfl (NS.out.keep (Kp.alloc wr (.cells #[.int .i64 x.1] 3) [])) rfl (cell_one (heap_alloc_new wr (.cells #[.int .i64 x.1] 3))) (by rw [List.length_map, List.length_take]; omega) (by simp; omega) ?_; intro v2 w2 hN2 hG2; obtain ⟨ao2, cp2, hv2⟩ := hN2.slice; rw [show ((L.take m).map (·.1) ++ [x.1]).length = m + 1 by have := HN.out; simp only [List.length_append, List.length_map, List.length_take, List.length_cons, List.length_nil]; omega] at hv2; subst hv2; have K2 := hid (GR.out w2 hG2); have N2 := hid hN2; have RF2 := hid (RF.out.off K2.out.1 K2.out.2); have cc2 : w2.cell? ⟨rb, 0, none⟩ = some _ := K2.out.1.cell cc (fun hm => by obtain ⟨c, t, hc, ht, -⟩ := K2.out.2 rb hm; exact block_ne HB.out hc (fun e => ht e.symm) rfl); clear hN2 hG2))
        have HS := hid (RF2.out.set K3.out (N3.out.low (Nat.zero_le _)))
        have KW := hid (show Kp w (w3.setCell ⟨rb, 0, none⟩ (.slice ao3 n3 cp3)) [rb] from (KK.out.past K2.out.1 (by intro k hk hl; simp at hk; have := (owns_block NS.out hk).1; omega)).trans HS.out.2)
        have NW := hid (show Ns (w3.setCell ⟨rb, 0, none⟩ (.slice ao3 n3 cp3)) w.heap.size (.slice ao2 (m + 1) cp2) ((L.take (m + 1)).map (·.1)) by
          rw [TK.out, List.map_append]
          refine owns_kp N2.out HS.out.2 fun gg hgg => ?_
          have := (owns_block N2.out hgg).1
          simp; omega)
        have LE2 := hid (show ∀ y ∈ L.take (m + 1), y.2 ≤ now by
          rw [TK.out]
          intro y hy
          rcases List.mem_append.1 hy with q | q
          · exact LE.out y q
          · rw [List.mem_singleton.1 q]; exact hle)
        go_roundw
        case rel => exact ⟨m + 1, m + 1, cp2, ao2, by omega, rfl, rfl, hid ⟨NW.out, HS.out.1, KW.out, LE2.out⟩⟩
        case measure => simp; omega
    · have CUT := hid (due_cut HW.out.asc (by have := HN.out; omega) LE.out (by have := HN.out; omega))
      by_cases hlt : m < N
      case' pos =>
        have hil : 0 < (L.drop m).length := by rw [List.length_drop]; have := HN.out; omega
        have hR0 : 0 < R := by have := HRl.out; omega
        have hR0I : (0 : Int) < R := by omega
        obtain ⟨g, rfl, d1, d2⟩ := HO.out.at hil
        obtain ⟨x, hx⟩ : ∃ x, L[m]! = x := ⟨_, rfl⟩
        have hx0 : (L.drop m)[0]! = x := by
          rw [← hx, getElem!_pos (L.drop m) 0 hil, getElem!_pos L m (by have := HN.out; omega)]
          simp
        rw [hx0] at d1 d2
        simp only [Nat.zero_mul, Nat.zero_add] at d1 d2
        have hgt : ¬ x.2 ≤ now := fun q => hgo ⟨hlt, by rw [hx]; exact q⟩
        clear hx hx0 hil hgo
      case' neg =>
        have hR0 : R = 0 := by have := HRl.out; omega
        subst hR0
        clear hgo
      all_goals
        go_wp2
        go_ret
        exact ⟨_, rfl, by rw [CUT.out.1]; exact NS.out, by rw [CUT.out.2]; exact RF.out, KK.out⟩
end Go.Proofs.Ytoaceeddcnijoaa
