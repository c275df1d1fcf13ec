/- First. -/
import Derived.Test.YtclbphnelfacfaaOut
import Derived.Test.YtclbphnelfacfaaShelf
import Derived.Lib.BitFns
namespace Go.Proofs.Ytclbphnelfacfaa
open Go.RowKit Go.Shelf

theorem aux_zero (f : Nat) : Lib.bitLenAux f 0 = 0 := by cases f <;> simp [Lib.bitLenAux]
theorem aux_lg : ∀ (f x : Nat), x ≠ 0 → x < 2 ^ f → Lib.bitLenAux f x = Nat.log2 x + 1
  | 0, x, h0, h => by simp at h; omega
  | f + 1, x, h0, h => by
    rw [Lib.bitLenAux, if_neg h0, Nat.log2_def]
    by_cases h2 : 2 ≤ x
    · rw [if_pos h2, aux_lg f (x / 2) (by omega) (by rw [Nat.pow_succ] at h; omega)]; omega
    · rw [if_neg h2, show x / 2 = 0 by omega, aux_zero]
theorem lg_eq (x : Nat) (h0 : x ≠ 0) (h : x < 18446744073709551616) : Lib.bitLen x = Nat.log2 x + 1 := aux_lg 64 x h0 h

set_option maxRecDepth 100000 in
theorem first_no (w : World) (rb : Nat) (c : Nat → Nat) (s : Nat) (h : Rr w rb c 0 s) (h1 : c 32 ≠ 0) : Calls Try.prog 46 #[.pointer (some ⟨rb, 0, none⟩)] w fun e w' => e = .returned (.tuple #[.int .i64 0, .bool false]) ∧ w' = w := by
  have cz := zero_ok w rb c 0 s h h1
  have cu := h.used
  clear h
  go_enter Try.func46, Try.ntmps46
  go_wp2_with (go_at_call 71; refine cz.mono ?_; rintro e w' ⟨rfl, rfl⟩)
  go_ret2
  exact ⟨rfl, rfl⟩
set_option maxRecDepth 100000 in
theorem first_yes (w : World) (rb : Nat) (c : Nat → Nat) (u s t : Nat) (h : Rr w rb c u s) (h1 : c 32 ≠ 0) (hs : s ≤ 900000) (hu : u ≠ 0) (hu32 : u < 2 ^ 32) (ht : c u.log2 = 32 + t) (htt : t < 16) (hl : u.log2 ≤ 31) :
    Calls Try.prog 46 #[.pointer (some ⟨rb, 0, none⟩)] w fun e w' => e = .returned (.tuple #[.int .i64 t, .bool true]) ∧ Rr w' rb c u (s + 1) ∧ Kp w w' [rb] := by
  have cz := zero_ok w rb c u s h h1
  have cu := h.used
  have hn : ((u : Int) == 0) = false := by simp; omega
  have cb := Try.len32 u w (by omega) (by omega)
  rw [Int.toNat_natCast, lg_eq u hu (by omega)] at cb
  have cl := lookN_ok w rb c u s u.log2 h (by omega) (by omega)
  rw [ht] at cl
  obtain ⟨g, hg⟩ : ∃ g, u.log2 = g := ⟨_, rfl⟩
  rw [hg] at cb cl hl
  clear h hu hu32 ht hg
  go_enter Try.func46, Try.ntmps46
  go_wp2_with (first | (go_at_call 71; refine cz.mono ?_; rintro e w' ⟨rfl, rfl⟩) | (go_at_call 72; refine cb.mono ?_; rintro e w' ⟨rfl, rfl⟩) | (go_at_call 67; refine cl.mono ?_; rintro e w1 ⟨rfl, hR, hK⟩))
  go_ret2
  refine ⟨?_, hR, hK⟩
  congr 3
  simp
  omega
end Go.Proofs.Ytclbphnelfacfaa
