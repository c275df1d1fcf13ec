/- The reference's Send, of a signal that queues. -/
import Derived.Test.YtoenipaccnpihaaRs
namespace Go.Proofs.Ytoenipaccnpihaa
open Go.RowKit Go.Shelf Go.Sort Go.Maps
open Go.Lib hiding intOf
attribute [local go_sem] Oper.semAt_some

set_option maxRecDepth 100000 in
set_option maxHeartbeats 1000000 in
theorem rsend_queue (w : World) (rb : Nat) (Q : List Nat) (T S : Nat) (M : Nat → Nat) (L : El) (t n : Nat) (v : Int) (h : Rm w rb Q T S M L) (ht : t < T) (hok : Ok T S L) (hl : L.length ≤ 600) (h1 : 16 ≤ n) (h31 : n ≤ 31) (hu : used L < S) : Calls Try.prog 25 #[.pointer (some ⟨rb, 0, none⟩), .int .i64 t, .int .i64 n, .int .i64 v] w fun e w' => e = .returned (.int .i64 0) ∧ Rst w w' rb Q T S M (L ++ [(t, n, v)]) := by
  obtain ⟨V, hQ, hc, he⟩ := id h
  have K := rin_any w rb T S M V t hc
  rw [inT_nat, decide_eq_true ht] at K
  have K := hid K
  have HP := hid (rpending_yes w rb Q T S M L t h ht hok hl)
  have HB := hid (rbit_any w n (by omega))
  have HU := hid (rused_any w rb Q T S M L h hl)
  have c1 := hc.slt
  have c18 := hc.row
  have f18 := hc.free 18
  have hb : bits .and .u32 ((pend L t : Nat) : Int) (2 ^ n) = ((pend L t &&& 2 ^ n : Nat) : Int) := by
    rw [pow_cast]
    exact and_bits (hok.pend t) (bit_lt (k := n) (by omega))
  have hb2 := and_two (pend L t) n
  rw [pend_bit] at hb2
  have n1 : ¬ ((n : Int) < 1) := by omega
  have n2 : ¬ (31 < (n : Int)) := by omega
  have n3 : (n : Int) ≤ 31 := by omega
  have n4 : ¬ (n : Int) < 16 := by omega
  have HUD := hid (rused_any w.drew rb Q T S M L (h.same (Kp.drew _ _)) hl)
  have hge : ¬ S ≤ used L := by omega
  have hMD := h.same (Kp.drew w [])
  have HM := hid hMD
  have HC := hid (fun (z : World) (hz : Kp w.drew z []) => (hc.keep ((Kp.drew w []).trans hz) (by simp)).row)
  have HF := hid (fun (z : World) (hz : Kp w.drew z []) => (hc.keep ((Kp.drew w []).trans hz) (by simp)).free 18)
  have E0 := hid (he.keep (Kp.drew w []))
  have HL := hid hl
  generalize used L = u at HUD hge
  clear h hc he hok ht h1 h31 hb hb2 hu HU hMD
  go_enter Try.func25, Try.ntmps25
  go_wp2_with fail
  refine K.out.mono ?_
  rintro e w1 ⟨rfl, hw⟩; obtain rfl := hw.symm
  go_wp2_with fail
  go_region_held_law (fun w1 => w1.cell? ⟨rb, 1, none⟩ = some (.int .i64 (S : Nat)))
    (first | exact c1)
    (first | (go_at_call 31; refine (HUD.out).mono ?_; rintro e wr ⟨rfl, hw⟩; obtain rfl := hw.symm) | fail)
  have k0 := hid (Kp.drew w [])
  clear c1 c18 f18 HUD
  generalize hW1 : w.drew = W1 at *
  clear hW1
  have c18 := HC.out W1 (Kp.refl _ _)
  have f18 := HF.out W1 (Kp.refl _ _)
  go_wp2_with (first
    | (refine wpList_joinE rfl (.const (.slice none 0 0)) _ rfl W1.heap.size (.slice none 0 0) _ [] L rfl (Er.nil _ _) rfl (E0.out.vi) (by simp) (by have := HL.out; omega) (Nat.le_refl _) ?_; intro v2 w2 hN2 hG2; rw [List.nil_append] at hN2; obtain ⟨ao2, cp2, hv2⟩ := hN2.slice; obtain ⟨N2, hn2⟩ : ∃ N2, L.length = N2 := ⟨_, rfl⟩; rw [hn2] at hv2; subst hv2; have K2 := hid (Kp.ofGrown (rows := []) hG2 (by intro g hg; cases hg)); have E2 := hid hN2; clear hN2 hG2 hn2)
    | (refine wpList_joinE rfl _ _ rfl W1.heap.size (.slice ao2 N2 cp2) _ L [(t, n, v)] rfl (E2.out.keep (Kp.alloc _ _ _)) rfl (vi_one w2 t n v) (by have := HL.out; omega) (by simp) (by have := K2.out.size; simp; omega) ?_; intro v3 w3 hN3 hG3; obtain ⟨ao3, cp3, hv3⟩ := hN3.slice; obtain ⟨N3, hn3⟩ : ∃ N3, (L ++ [(t, n, v)]).length = N3 := ⟨_, rfl⟩; rw [hn3] at hv3; subst hv3; have K3 := hid (grown_er (E2.out.keep (Kp.alloc _ _ _)) hG3 (K2.out.trans (Kp.alloc _ _ _)) (Nat.le_refl _)); have E3 := hid hN3; have d18 := HC.out _ K3.out; have g18 := HF.out _ K3.out; clear hN3 hG3 hn3)
    | fail)
  have HS := hid (HM.out.set K3.out E3.out (Nat.le_refl _))
  have HS2 := hid (HS.out.first k0.out)
  try go_wp2
  go_ret
  exact ⟨rfl, HS2.out⟩
/-- Send, whatever it is given. -/
theorem rsend_any (w : World) (rb : Nat) (Q : List Nat) (T S : Nat) (M : Nat → Nat) (L : El) (t n v : Int) (h : Rm w rb Q T S M L) (hok : Ok T S L) (hl : L.length ≤ 600) : Calls Try.prog 25 #[.pointer (some ⟨rb, 0, none⟩), .int .i64 t, .int .i64 n, .int .i64 v] w fun e w' => e = .returned (.int .i64 (sendE T S L t n)) ∧ Rst w w' rb Q T S M (sendL T S L t n v) := by
  unfold sendE sendL
  cases ha : inT T t && maySig n with
  | false =>
    rw [if_neg (by simp), if_neg (by simp)]
    refine (rsend_arg w rb Q T S M L t n v h ha).mono ?_
    rintro e w' ⟨rfl, rfl⟩
    exact ⟨rfl, Rst.stay h (Kp.refl _ _)⟩
  | true =>
    rw [if_pos rfl, if_pos rfl]
    simp only [Bool.and_eq_true] at ha
    obtain ⟨k, rfl, hk⟩ := inT_yes ha.1
    obtain ⟨m, rfl, h1, h31⟩ := maySig_yes ha.2
    rw [Int.toNat_natCast, Int.toNat_natCast]
    by_cases h16 : 15 < m
    · have h16i : (15 : Int) < m := by omega
      rw [if_pos h16i]
      by_cases hu : used L = S
      · rw [if_pos ⟨h16i, hu⟩, if_pos hu]
        refine (rsend_full w rb Q T S M L k m v h hk hok hl (by omega) h31 hu).mono ?_
        rintro e w' ⟨rfl, hk⟩
        exact ⟨rfl, Rst.stay h hk⟩
      · rw [if_neg (fun e => hu e.2), if_neg hu]
        exact rsend_queue w rb Q T S M L k m v h hk hok hl (by omega) h31 (by have := hok.few; omega)
    · have h16i : ¬ (15 : Int) < m := by omega
      rw [if_neg (fun e => h16i e.1), if_neg h16i]
      by_cases hq : q L k m = []
      · rw [if_pos hq]
        exact rsend_plain w rb Q T S M L k m v h hk hok hl h1 (by omega) hq
      · rw [if_neg hq]
        refine (rsend_has w rb Q T S M L k m v h hk hok hl h1 (by omega) hq).mono ?_
        rintro e w' ⟨rfl, rfl⟩
        exact ⟨rfl, Rst.stay h (Kp.refl _ _)⟩
/-- What holds behind Send. -/
theorem Ok.sendL {T S : Nat} {L : El} (h : Ok T S L) (t n v : Int) : Ok T S (sendL T S L t n v) := by
  unfold Ytoenipaccnpihaa.sendL
  cases ha : inT T t && maySig n with
  | false => rw [if_neg (by simp)]; exact h
  | true =>
    rw [if_pos rfl]
    simp only [Bool.and_eq_true] at ha
    obtain ⟨k, rfl, hk⟩ := inT_yes ha.1
    obtain ⟨m, rfl, h1, h31⟩ := maySig_yes ha.2
    rw [Int.toNat_natCast, Int.toNat_natCast]
    have := h.few
    split
    · split
      · exact h
      · exact h.send hk h1 h31 (by omega) (fun _ => by omega)
    · split
      · rename_i hq
        exact h.send hk h1 h31 (fun _ => ⟨hq, rfl⟩) (by omega)
      · exact h
end Go.Proofs.Ytoenipaccnpihaa
