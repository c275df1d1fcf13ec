/- The reference's Send. -/
import Derived.Test.YtoenipaccnpihaaRn
import Derived.Test.YtoenipaccnpihaaSq
namespace Go.Proofs.Ytoenipaccnpihaa
open Go.RowKit Go.Shelf Go.Sort Go.Maps
open Go.Lib hiding intOf
attribute [local go_sem] Oper.semAt_some

theorem Rst.first {w w1 w2 : World} {rb T S : Nat} {M : Nat → Nat} {L : El} {Q : List Nat} (h : Rst w1 w2 rb Q T S M L) (hk : Kp w w1 []) : Rst w w2 rb Q T S M L := by
  obtain ⟨Q', s, n, k⟩ := h
  exact ⟨Q', s, fun j hj => (n j hj).imp id (fun q => Nat.le_trans hk.size q), hk.nil.trans k⟩
set_option maxRecDepth 100000 in
theorem rsend_arg (w : World) (rb : Nat) (Q : List Nat) (T S : Nat) (M : Nat → Nat) (L : El) (t n v : Int) (h : Rm w rb Q T S M L) (ha : (inT T t && maySig n) = false) : Calls Try.prog 25 #[.pointer (some ⟨rb, 0, none⟩), .int .i64 t, .int .i64 n, .int .i64 v] w fun e w' => e = .returned (.int .i64 2) ∧ w' = w := by
  obtain ⟨V, -, hc, -⟩ := h
  have K := rin_any w rb T S M V t hc
  clear hc
  cases ht : inT T t with
  | false =>
    rw [ht] at K
    have K := hid K
    clear ht ha
    go_enter Try.func25, Try.ntmps25
    go_wp2_with fail
    refine K.out.mono ?_
    rintro e w1 ⟨rfl, hw⟩; obtain rfl := hw.symm
    go_wp2
    go_ret
    exact ⟨rfl, rfl⟩
  | true =>
    rw [ht] at K ha
    rw [Bool.true_and] at ha
    have K := hid K
    by_cases h1 : n < 1
    · clear ht ha
      go_enter Try.func25, Try.ntmps25
      go_wp2_with fail
      refine K.out.mono ?_
      rintro e w1 ⟨rfl, hw⟩; obtain rfl := hw.symm
      go_wp2
      go_ret
      exact ⟨rfl, rfl⟩
    · have h2 : 31 < n := by simp [maySig] at ha; omega
      clear ht ha
      go_enter Try.func25, Try.ntmps25
      go_wp2_with fail
      refine K.out.mono ?_
      rintro e w1 ⟨rfl, hw⟩; obtain rfl := hw.symm
      go_wp2
      go_ret
      exact ⟨rfl, rfl⟩
set_option maxRecDepth 100000 in
theorem rsend_has (w : World) (rb : Nat) (Q : List Nat) (T S : Nat) (M : Nat → Nat) (L : El) (t n : Nat) (v : Int) (h : Rm w rb Q T S M L) (ht : t < T) (hok : Ok T S L) (hl : L.length ≤ 600) (h1 : 1 ≤ n) (h15 : n < 16) (hq : q L t n ≠ []) : Calls Try.prog 25 #[.pointer (some ⟨rb, 0, none⟩), .int .i64 t, .int .i64 n, .int .i64 v] w fun e w' => e = .returned (.int .i64 0) ∧ w' = w := by
  obtain ⟨V, hQ, hc, he⟩ := id h
  have K := rin_any w rb T S M V t hc
  rw [inT_nat, decide_eq_true ht] at K
  have K := hid K
  have HP := hid (rpending_yes w rb Q T S M L t h ht hok hl)
  have HB := hid (rbit_any w n (by omega))
  have HU := hid (rused_any w rb Q T S M L h hl)
  have c1 := hc.slt
  have c18 := hc.row
  have f18 := hc.free 18
  have hb : bits .and .u32 ((pend L t : Nat) : Int) (2 ^ n) = ((pend L t &&& 2 ^ n : Nat) : Int) := by
    rw [pow_cast]
    exact and_bits (hok.pend t) (bit_lt (k := n) (by omega))
  have hb2 := and_two (pend L t) n
  rw [pend_bit] at hb2
  have n1 : ¬ ((n : Int) < 1) := by omega
  have n2 : ¬ (31 < (n : Int)) := by omega
  have n3 : (n : Int) ≤ 31 := by omega
  rw [show decide (q L t n ≠ []) = true by simp [hq]] at hb2
  have n4 : (n : Int) < 16 := by omega
  generalize pend L t &&& 2 ^ n = z at hb hb2
  generalize pend L t = x at hb HP
  clear h hc he hok hq ht h1 h15 c1 c18 f18
  go_enter Try.func25, Try.ntmps25
  go_wp2_with fail
  refine K.out.mono ?_
  rintro e w1 ⟨rfl, hw⟩; obtain rfl := hw.symm
  go_wp2_with fail
  refine HP.out.mono ?_
  rintro e w1 ⟨rfl, hw⟩; obtain rfl := hw.symm
  go_wp2_with fail
  refine HB.out.mono ?_
  rintro e w1 ⟨rfl, hw⟩; obtain rfl := hw.symm
  go_wp2
  go_ret
  exact ⟨rfl, rfl⟩
set_option maxRecDepth 100000 in
set_option maxHeartbeats 1000000 in
theorem rsend_plain (w : World) (rb : Nat) (Q : List Nat) (T S : Nat) (M : Nat → Nat) (L : El) (t n : Nat) (v : Int) (h : Rm w rb Q T S M L) (ht : t < T) (hok : Ok T S L) (hl : L.length ≤ 600) (h1 : 1 ≤ n) (h15 : n < 16) (hq : q L t n = []) : Calls Try.prog 25 #[.pointer (some ⟨rb, 0, none⟩), .int .i64 t, .int .i64 n, .int .i64 v] w fun e w' => e = .returned (.int .i64 0) ∧ Rst w w' rb Q T S M (L ++ [(t, n, 0)]) := by
  obtain ⟨V, hQ, hc, he⟩ := id h
  have K := rin_any w rb T S M V t hc
  rw [inT_nat, decide_eq_true ht] at K
  have K := hid K
  have HP := hid (rpending_yes w rb Q T S M L t h ht hok hl)
  have HB := hid (rbit_any w n (by omega))
  have HU := hid (rused_any w rb Q T S M L h hl)
  have c1 := hc.slt
  have c18 := hc.row
  have f18 := hc.free 18
  have hb : bits .and .u32 ((pend L t : Nat) : Int) (2 ^ n) = ((pend L t &&& 2 ^ n : Nat) : Int) := by
    rw [pow_cast]
    exact and_bits (hok.pend t) (bit_lt (k := n) (by omega))
  have hb2 := and_two (pend L t) n
  rw [pend_bit] at hb2
  have n1 : ¬ ((n : Int) < 1) := by omega
  have n2 : ¬ (31 < (n : Int)) := by omega
  have n3 : (n : Int) ≤ 31 := by omega
  rw [show decide (q L t n ≠ []) = false by simp [hq]] at hb2
  have n4 : (n : Int) < 16 := by omega
  generalize pend L t &&& 2 ^ n = z at hb hb2
  generalize pend L t = x at hb HP
  have HM := hid h
  have HC := hid (fun (z : World) (hz : Kp w z []) => (hc.keep hz (by simp)).row)
  have HF := hid (fun (z : World) (hz : Kp w z []) => (hc.keep hz (by simp)).free 18)
  have E0 := hid he
  have HL := hid hl
  clear h hc he hok hq ht h1 h15 c1
  go_enter Try.func25, Try.ntmps25
  go_wp2_with fail
  refine K.out.mono ?_
  rintro e w1 ⟨rfl, hw⟩; obtain rfl := hw.symm
  go_wp2_with fail
  refine HP.out.mono ?_
  rintro e w1 ⟨rfl, hw⟩; obtain rfl := hw.symm
  go_wp2_with fail
  refine HB.out.mono ?_
  rintro e w1 ⟨rfl, hw⟩; obtain rfl := hw.symm
  go_wp2_with (first
    | (refine wpList_joinE rfl (.const (.slice none 0 0)) _ rfl w.heap.size (.slice none 0 0) _ [] L rfl (Er.nil _ _) rfl (E0.out.vi) (by simp) (by have := HL.out; omega) (Nat.le_refl _) ?_; intro v2 w2 hN2 hG2; rw [List.nil_append] at hN2; obtain ⟨ao2, cp2, hv2⟩ := hN2.slice; obtain ⟨N2, hn2⟩ : ∃ N2, L.length = N2 := ⟨_, rfl⟩; rw [hn2] at hv2; subst hv2; have K2 := hid (Kp.ofGrown (rows := []) hG2 (by intro g hg; cases hg)); have E2 := hid hN2; clear hN2 hG2 hn2)
    | (refine wpList_joinE rfl _ _ rfl w.heap.size (.slice ao2 N2 cp2) _ L [(t, n, 0)] rfl (E2.out.keep (Kp.alloc _ _ _)) rfl (vi_one w2 t n 0) (by have := HL.out; omega) (by simp) (by have := K2.out.size; simp; omega) ?_; intro v3 w3 hN3 hG3; obtain ⟨ao3, cp3, hv3⟩ := hN3.slice; obtain ⟨N3, hn3⟩ : ∃ N3, (L ++ [(t, n, 0)]).length = N3 := ⟨_, rfl⟩; rw [hn3] at hv3; subst hv3; have K3 := hid (grown_er (E2.out.keep (Kp.alloc _ _ _)) hG3 (K2.out.trans (Kp.alloc _ _ _)) (Nat.le_refl _)); have E3 := hid hN3; have d18 := HC.out _ K3.out; have g18 := HF.out _ K3.out; clear hN3 hG3 hn3)
    | fail)
  have HS := hid (HM.out.set K3.out E3.out (Nat.le_refl _))
  try go_wp2
  go_ret
  exact ⟨rfl, HS.out⟩
set_option maxRecDepth 100000 in
set_option maxHeartbeats 1000000 in
theorem rsend_full (w : World) (rb : Nat) (Q : List Nat) (T S : Nat) (M : Nat → Nat) (L : El) (t n : Nat) (v : Int) (h : Rm w rb Q T S M L) (ht : t < T) (hok : Ok T S L) (hl : L.length ≤ 600) (h1 : 16 ≤ n) (h31 : n ≤ 31) (hu : used L = S) : Calls Try.prog 25 #[.pointer (some ⟨rb, 0, none⟩), .int .i64 t, .int .i64 n, .int .i64 v] w fun e w' => e = .returned (.int .i64 5) ∧ Kp w w' [] := by
  obtain ⟨V, hQ, hc, he⟩ := id h
  have K := rin_any w rb T S M V t hc
  rw [inT_nat, decide_eq_true ht] at K
  have K := hid K
  have HP := hid (rpending_yes w rb Q T S M L t h ht hok hl)
  have HB := hid (rbit_any w n (by omega))
  have HU := hid (rused_any w rb Q T S M L h hl)
  have c1 := hc.slt
  have c18 := hc.row
  have f18 := hc.free 18
  have hb : bits .and .u32 ((pend L t : Nat) : Int) (2 ^ n) = ((pend L t &&& 2 ^ n : Nat) : Int) := by
    rw [pow_cast]
    exact and_bits (hok.pend t) (bit_lt (k := n) (by omega))
  have hb2 := and_two (pend L t) n
  rw [pend_bit] at hb2
  have n1 : ¬ ((n : Int) < 1) := by omega
  have n2 : ¬ (31 < (n : Int)) := by omega
  have n3 : (n : Int) ≤ 31 := by omega
  have n4 : ¬ (n : Int) < 16 := by omega
  have HUD := rused_any w.drew rb Q T S M L (h.same (Kp.drew _ _)) hl
  rw [hu] at HUD
  have HUD := hid HUD
  have hge : (S : Int) ≤ S := Int.le_refl _
  clear h hc he hok ht h1 h31 hb hb2 hu c18 f18 HU
  go_enter Try.func25, Try.ntmps25
  go_wp2_with fail
  refine K.out.mono ?_
  rintro e w1 ⟨rfl, hw⟩; obtain rfl := hw.symm
  go_wp2_with fail
  go_region_held_law (fun w1 => w1.cell? ⟨rb, 1, none⟩ = some (.int .i64 (S : Nat)))
    (first | exact c1)
    (first | (go_at_call 31; refine (HUD.out).mono ?_; rintro e wr ⟨rfl, hw⟩; obtain rfl := hw.symm) | fail)
  go_wp2
  go_ret
  exact ⟨rfl, Kp.drew _ _⟩
end Go.Proofs.Ytoenipaccnpihaa
