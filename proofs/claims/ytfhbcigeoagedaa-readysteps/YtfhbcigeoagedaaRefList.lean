/- The reference: List. -/
import Derived.Test.YtfhbcigeoagedaaRefAll
namespace Go.Proofs.Ytfhbcigeoagedaa
open Go.RowKit Go.Shelf

set_option maxRecDepth 100000 in
set_option maxHeartbeats 1000000 in
theorem rlist_any (w : World) (qb : Nat) (L : Ls) (p : Int) (h : Rq w qb L) (hl : ∀ p, (L p).length ≤ 1000) : Calls Try.prog 28 #[.pointer (some ⟨qb, 0, none⟩), .int .i64 p] w fun e w' => (∃ V, e = .returned V ∧ Ns w' w.heap.size V (seqI L p)) ∧ Kp w w' [] := by
  by_cases h1 : p < 1
  · rw [show seqI L p = [] by unfold seqI; rw [if_neg (by omega)]]
    clear h hl
    go_enter Try.func28, Try.ntmps28
    go_wp2
    go_ret
    exact ⟨⟨_, rfl, Ns.nil _ _⟩, Kp.refl _ _⟩
  by_cases h2 : 31 < p
  · rw [show seqI L p = [] by unfold seqI; rw [if_neg (by omega)]]
    clear h hl
    go_enter Try.func28, Try.ntmps28
    go_wp2
    go_ret
    exact ⟨⟨_, rfl, Ns.nil _ _⟩, Kp.refl _ _⟩
  obtain ⟨P, rfl⟩ : ∃ P : Nat, p = P := ⟨p.toNat, by omega⟩
  rw [show seqI L (P : Int) = L P by unfold seqI; rw [if_pos (by omega), Int.toNat_natCast]]
  obtain ⟨F, hF, hN⟩ := h
  have hNk := hN P (by omega)
  obtain ⟨ao, cap, hv⟩ := hNk.slice
  have cF := Rq.cell hF P (by omega)
  rw [hv] at cF hNk
  have HN := hid hNk
  have hlk := hl P
  have hP32 : P < 32 := by omega
  have hP32' : (P : Int) < 32 := by omega
  clear hF hN hNk hv hl
  go_enter Try.func28, Try.ntmps28
  go_wp2_with (refine wpList_join rfl _ (.tmp 20) rfl w.heap.size 0 (.slice none 0 0) (.slice ao (L P).length cap) [] (L P) rfl (Ns.nil _ _) rfl HN.out (by simp) (by omega) (Nat.le_refl _) ?_; intro v2 w2 hN2 hG2; rw [List.nil_append] at hN2; obtain ⟨ao2, cp2, rfl⟩ := hN2.slice; have N2 := hid hN2; have K2 := hid (show Kp w w2 [] from Kp.ofGrown hG2 (by intro g hg; simp [Value.ownBlock] at hg)); clear hN2 hG2)
  go_ret
  exact ⟨⟨_, rfl, N2.out⟩, K2.out⟩
end Go.Proofs.Ytfhbcigeoagedaa
