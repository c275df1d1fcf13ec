/- The reference: may, Runs, New. -/
import Derived.Test.YtclbphnelfacfaaRg
namespace Go.Proofs.Ytclbphnelfacfaa
open Go.RowKit Go.Shelf

section
variable {w w' : World} {qb q : Nat} {L : Ls} {P : Nat → Nat} {B : Nat → Bool} {E : Nat → Int}
set_option maxRecDepth 100000 in
theorem rmayx_no (_h : Rx w qb q L P B E) (t p : Int) (hn : ¬ ((0 ≤ t ∧ t < 16) ∧ (1 ≤ p ∧ p ≤ 31))) : Calls Try.prog 64 #[.pointer (some ⟨qb, 0, none⟩), .int .i64 t, .int .i64 p] w fun e w' => e = .returned (.int .i64 2) ∧ w' = w := by
  have cm := rmay_any w t p
  rw [show decide ((0 ≤ t ∧ t < 16) ∧ (1 ≤ p ∧ p ≤ 31)) = false from decide_eq_false hn] at cm
  clear hn
  go_enter Try.func64, Try.ntmps64
  go_wp2_with (go_at_call 22; refine cm.mono ?_; rintro e w' ⟨rfl, rfl⟩)
  go_ret
  exact ⟨rfl, rfl⟩
set_option maxRecDepth 100000 in
theorem rmayx_ok (h : Rx w qb q L P B E) {T : Nat} (ht : T < 16) (p : Int) (hp : 1 ≤ p ∧ p ≤ 31) : Calls Try.prog 64 #[.pointer (some ⟨qb, 0, none⟩), .int .i64 T, .int .i64 p] w fun e w' => e = .returned (.int .i64 (if P T = 0 then 6 else 0)) ∧ w' = w := by
  have cm := rmay_any w T p
  rw [show decide ((0 ≤ (T : Int) ∧ (T : Int) < 16) ∧ (1 ≤ p ∧ p ≤ 31)) = true from decide_eq_true ⟨⟨by omega, by omega⟩, hp⟩] at cm
  have cP := h.prio ht
  have ht0 : (0 : Int) ≤ (T : Int) := by omega
  have ht1 : (T : Int) < 16 := by omega
  clear h hp
  by_cases h0 : P T = 0
  · rw [if_pos h0]
    rw [h0] at cP
    clear h0
    go_enter Try.func64, Try.ntmps64
    go_wp2_with (go_at_call 22; refine cm.mono ?_; rintro e w' ⟨rfl, rfl⟩)
    go_ret
    exact ⟨rfl, rfl⟩
  · rw [if_neg h0]
    have hn : (((P T : Nat) : Int) == 0) = false := by simp; omega
    obtain ⟨n, hPn⟩ : ∃ n, P T = n := ⟨_, rfl⟩
    rw [hPn] at cP hn
    clear h0 hPn
    go_enter Try.func64, Try.ntmps64
    go_wp2_with (go_at_call 22; refine cm.mono ?_; rintro e w' ⟨rfl, rfl⟩)
    go_ret
    exact ⟨rfl, rfl⟩
theorem fst_of {L : Ls} {p t : Nat} {l : List Nat} (h1 : 1 ≤ p) (h2 : p ≤ 31) (hL : L p = t :: l) (hg : ∀ p', p < p' → p' ≤ 31 → L p' = []) : fstV L = t ∧ fstB L = true := by
  have e := seqs_head (k := 31) h1 h2 hL hg
  unfold fstV fstB
  rw [e]
  exact ⟨rfl, rfl⟩
theorem fst_no {L : Ls} (h : ∀ p, 1 ≤ p → p ≤ 31 → L p = []) : fstV L = 0 ∧ fstB L = false := by
  unfold fstV fstB
  rw [seqs_none h]
  exact ⟨rfl, rfl⟩
set_option maxRecDepth 100000 in
set_option maxHeartbeats 2000000 in
theorem rruns_ok (h : Rx w qb q L P B E) (hl : ∀ p, (L p).length ≤ 16) : Calls Try.prog 41 #[.pointer (some ⟨qb, 0, none⟩)] w fun e w' => e = .returned (.tuple #[.int .i64 (fstV L : Nat), .bool (fstB L)]) ∧ Kp w w' [] := by
  have H := hid h
  clear h
  go_enter Try.func41, Try.ntmps41
  go_wp2_with fail
  go_loopw [4] (fun v wr => ∃ k : Nat, k ≤ 31 ∧ v = .int .i64 k ∧ Hid (Kp w wr []) ∧ Hid (∀ p', k < p' → p' ≤ 31 → L p' = [])) (fun v _ => (intOf v).toNat)
  case atStart => exact ⟨31, by omega, rfl, Kp.refl _ _, fun p' h1 h2 => by omega⟩
  case round =>
    obtain ⟨k, hk, rfl, hK, hG⟩ := hrel
    by_cases hk0 : 0 < k
    · have hkI : (0 : Int) < k := by omega
      have hk32 : (k : Int) < 32 := by omega
      obtain ⟨V, cF, hN⟩ := (H.out.keep hK.out).seq (p := k) (by omega)
      obtain ⟨ao, cap, rfl⟩ := hN.slice
      have hlk := hl k
      cases hL : L k with
      | nil =>
        rw [hL] at cF
        simp only [List.length_nil] at cF
        have HG2 := hid (show ∀ p', k - 1 < p' → p' ≤ 31 → L p' = [] from fun p' h1 h2 => by
          by_cases e : p' = k
          · rw [e, hL]
          · exact hG.out p' (by omega) h2)
        clear hN hL hG hlk
        go_wp2
        go_roundw
        case rel => exact ⟨k - 1, by omega, by simp; omega, hK, HG2⟩
        case measure => simp [intOf]; omega
      | cons t l =>
        rw [hL] at cF hN
        obtain ⟨g, rfl, -, -, cx⟩ := hN.at (k := 0) (x := t) rfl
        have HF := hid (fst_of (by omega) hk hL hG.out)
        simp only [List.length_cons] at cF
        obtain ⟨n, hn⟩ : ∃ n, l.length + 1 = n := ⟨_, rfl⟩
        rw [hn] at cF
        have hpos : (0 : Int) < (n : Int) := by omega
        have hnn : 0 < n := by omega
        have hnz : ¬ n = 0 := by omega
        clear hn
        clear hN hL hG hlk
        go_wp2
        go_ret2
        exact ⟨by rw [HF.out.1, HF.out.2]; rfl, hK.out⟩
    · have hkI : ¬ (0 : Int) < k := by omega
      have HF := hid (fst_no (L := L) fun p h1 h2 => hG.out p (by omega) h2)
      go_wp2
      go_ret2
      exact ⟨by rw [HF.out.1, HF.out.2]; rfl, hK.out⟩
end
set_option maxRecDepth 100000 in
theorem rnew_no (w : World) (k : Int) (hk : ¬ (1 ≤ k ∧ k ≤ 100)) : Calls Try.prog 10 #[.int .i64 k] w fun e w' => e = .returned (.pointer none) ∧ w' = w := by
  by_cases h1 : k < 1
  · clear hk
    go_enter Try.func10, Try.ntmps10
    go_wp2
    go_ret
    exact ⟨rfl, rfl⟩
  · have h2 : 100 < k := by omega
    clear hk
    go_enter Try.func10, Try.ntmps10
    go_wp2
    go_ret
    exact ⟨rfl, rfl⟩
set_option maxRecDepth 100000 in
theorem rnew_ok (w : World) (k : Nat) (h1 : 1 ≤ k) (h2 : k ≤ 100) : Calls Try.prog 10 #[.int .i64 k] w fun e w' => e = .returned (.pointer (some ⟨w.heap.size, 0, none⟩)) ∧ Rx w' w.heap.size k L0 (fun _ => 0) (fun _ => false) (fun _ => 0) ∧ Kp w w' [] := by
  have q1 : ¬ (k : Int) < 1 := by omega
  have q2 : ¬ (100 : Int) < (k : Int) := by omega
  go_enter Try.func10, Try.ntmps10
  go_wp2
  go_ret
  exact ⟨rfl, ⟨fun _ => .slice none 0 0, (heap_alloc_new w _).trans (by kernel_rfl), fun p _ => Ns.nil _ _⟩, Kp.alloc w _ []⟩
end Go.Proofs.Ytclbphnelfacfaa
