/- The reference: goes, may, Runs, New. -/
import Derived.Test.YtclbphnelfacfaaRf
namespace Go.Proofs.Ytclbphnelfacfaa
open Go.RowKit Go.Shelf

section
variable {w w' : World} {qb q : Nat} {L : Ls} {P : Nat → Nat} {B : Nat → Bool} {E : Nat → Int}
/-- Taken out of its sequence. -/
def cutL (L : Ls) (p T : Nat) : Ls := updL L p ((L p).filter (fun x => decide (x ≠ T)))
theorem cutL_len (h : ∀ p, (L p).length ≤ 16) (p T r : Nat) : (cutL L p T r).length ≤ 16 := by
  unfold cutL
  by_cases e : r = p
  · rw [e, updL_same]
    exact Nat.le_trans (List.length_filter_le _ _) (h _)
  · rw [updL_ne _ _ e]
    exact h r
set_option maxRecDepth 100000 in
set_option maxHeartbeats 2000000 in
theorem rgoes_ok (h : Rx w qb q L P B E) {T p R : Nat} (ht : T < 16) (hp : P T = p) (hp2 : p < 32) (hR : R < 32) (hl : ∀ p, (L p).length ≤ 16) (b : Bool) : Calls Try.prog 62 #[.pointer (some ⟨qb, 0, none⟩), .int .i64 T, .int .i64 R, .bool b] w fun e w' => (∃ v, e = .returned v) ∧ Rx w' qb q (updL (cutL L p T) R (if b then T :: cutL L p T R else cutL L p T R ++ [T])) (updA P T R) B E ∧ Kp w w' [qb] := by
  have ct := rtake_ok h ht hp hp2 (by have := hl p; omega)
  have ht0 : (0 : Int) ≤ (T : Int) := by omega
  have ht1 : (T : Int) < 16 := by omega
  have hR0 : (0 : Int) ≤ (R : Int) := by omega
  have hR1 : (R : Int) < 32 := by omega
  have hlc := cutL_len hl p T R
  clear h hl hp
  cases b with
  | true =>
    go_enter Try.func62, Try.ntmps62
    go_wp2_with fail
    refine ct.mono ?_
    rintro e w1 ⟨⟨v, rfl⟩, hX, hK⟩
    have hX : Rx w1 qb q (cutL L p T) P B E := hX
    have c1 := hX.prio ht
    have f1 := hX.free (33 + T)
    have hX1 := hX.setPrio ht R
    obtain ⟨V, cF, hN⟩ := hX1.seq hR
    obtain ⟨ao, cap, rfl⟩ := hN.slice
    have H1 := hid hX1
    have HN := hid hN
    have K1 := hid (hK.trans (Kp.setCell w1 ⟨qb, 33 + T, none⟩ (.int .i64 (R : Nat))))
    have CK := hid (fun (w2 : World) (hk : Kp (w1.setCell ⟨qb, 33 + T, none⟩ (.int .i64 (R : Nat))) w2 []) => show w2.cell? ⟨qb, 1 + R, none⟩ = some (.slice ao (cutL L p T R).length cap) ∧ w2.frozen? ⟨qb, 1 + R, none⟩ = false from ⟨hk.cell cF (by simp), (hX1.keep hk).free _⟩)
    clear hX hX1 hK ct hN
    go_wp2_with (first
      | (refine wpList_push rfl (.tmp 19) (.tmp 21) rfl _ (.slice none 0 0) [] T rfl (Ns.nil _ _) (by show Value.slice (some ⟨w1.heap.size, 0, none⟩) 1 1 = Value.slice (some ⟨(w1.setCell _ _).heap.size, 0, none⟩) 1 1; simp) (by simp) (Nat.le_refl _) ?_; intro v2 w2 hN2 hG2; obtain ⟨ao2, cp2, hv2⟩ := hN2.slice; simp only [List.nil_append, List.length_cons, List.length_nil, Nat.zero_add] at hv2; subst hv2; have K2 := hid (grown_kp (Ns.nil _ _) hG2 (Kp.refl _ _) (Nat.le_refl _)); have N2 := hid hN2; clear hN2 hG2; obtain ⟨c2, f2⟩ := CK.out _ K2.out)
      | (refine wpList_join rfl (.tmp 23) (.tmp 29) rfl _ 0 (.slice ao2 1 cp2) (.slice ao (cutL L p T R).length cap) [T] (cutL L p T R) rfl N2.out rfl (HN.out.keep K2.out) (by simp) (by omega) K2.out.size ?_; intro v3 w3 hN3 hG3; obtain ⟨ao3, cp3, hv3⟩ := hN3.slice; simp only [List.length_append, List.length_cons, List.length_nil, Nat.zero_add] at hv3; subst hv3; have K3 := hid (grown_over N2.out hG3 K2.out (Nat.le_refl _)); have N3 := hid hN3; clear hN3 hG3; obtain ⟨c3, f3⟩ := CK.out _ K3.out))
    have HS := hid (H1.out.setSeq K3.out hR (N3.out.low (Nat.zero_le _)))
    go_end0
    exact ⟨⟨_, rfl⟩, HS.out.1, K1.out.trans HS.out.2⟩
  | false =>
    go_enter Try.func62, Try.ntmps62
    go_wp2_with fail
    refine ct.mono ?_
    rintro e w1 ⟨⟨v, rfl⟩, hX, hK⟩
    have hX : Rx w1 qb q (cutL L p T) P B E := hX
    have c1 := hX.prio ht
    have f1 := hX.free (33 + T)
    have hX1 := hX.setPrio ht R
    obtain ⟨V, cF, hN⟩ := hX1.seq hR
    obtain ⟨ao, cap, rfl⟩ := hN.slice
    have H1 := hid hX1
    have HN := hid hN
    have K1 := hid (hK.trans (Kp.setCell w1 ⟨qb, 33 + T, none⟩ (.int .i64 (R : Nat))))
    have CK := hid (fun (w2 : World) (hk : Kp (w1.setCell ⟨qb, 33 + T, none⟩ (.int .i64 (R : Nat))) w2 []) => show w2.cell? ⟨qb, 1 + R, none⟩ = some (.slice ao (cutL L p T R).length cap) ∧ w2.frozen? ⟨qb, 1 + R, none⟩ = false from ⟨hk.cell cF (by simp), (hX1.keep hk).free _⟩)
    clear hX hX1 hK ct hN
    go_wp2_with (first
      | (have _hh := K2; refine wpList_push rfl (.tmp 39) (.tmp 41) rfl _ (.slice ao2 (cutL L p T R).length cp2) (cutL L p T R) T rfl N2.out rfl (by omega) K2.out.size ?_; intro v3 w3 hN3 hG3; obtain ⟨ao3, cp3, hv3⟩ := hN3.slice; simp only [List.length_append, List.length_cons, List.length_nil, Nat.zero_add] at hv3; subst hv3; have K3 := hid (grown_kp N2.out hG3 K2.out (Nat.le_refl _)); have N3 := hid hN3; clear hN3 hG3; obtain ⟨c3, f3⟩ := CK.out _ K3.out)
      | (refine wpList_join rfl (.tmp 31) (.tmp 37) rfl _ 0 (.slice none 0 0) (.slice ao (cutL L p T R).length cap) [] (cutL L p T R) rfl (Ns.nil _ _) rfl HN.out (by simp) (by omega) (Nat.le_refl _) ?_; intro v2 w2 hN2 hG2; rw [List.nil_append] at hN2; obtain ⟨ao2, cp2, hv2⟩ := hN2.slice; subst hv2; have K2 := hid (grown_over (Ns.nil _ _) hG2 (Kp.refl _ _) (Nat.le_refl _)); have N2 := hid hN2; clear hN2 hG2; obtain ⟨c2, f2⟩ := CK.out _ K2.out))
    have HS := hid (H1.out.setSeq K3.out hR (N3.out.low (Nat.zero_le _)))
    go_end0
    exact ⟨⟨_, rfl⟩, HS.out.1, K1.out.trans HS.out.2⟩
end
end Go.Proofs.Ytclbphnelfacfaa
