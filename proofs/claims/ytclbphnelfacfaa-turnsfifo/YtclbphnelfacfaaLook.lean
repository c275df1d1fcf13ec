/- New, isZero, mayBe.., look, join, Prio, Steps. -/
import Derived.Test.YtclbphnelfacfaaBase
import Derived.WalkMore
import Derived.WalkSpells
import Derived.Deep.QuietTactic
import Derived.Deep.RegionHeldLaw
namespace Go.Proofs.Ytclbphnelfacfaa
open Go.RowKit

theorem Kp.drewN (w : World) (n : Nat) (rows : List Nat) : Kp w (w.drewN n) rows := ⟨rfl, rfl, rfl, Nat.le_refl _, fun _ _ _ => rfl⟩

set_option maxRecDepth 100000 in
theorem zero_ok (w : World) (rb : Nat) (c : Nat → Nat) (u s : Nat) (h : Rr w rb c u s) (h1 : c 32 ≠ 0) : Calls Try.prog 71 #[.pointer (some ⟨rb, 0, none⟩)] w fun e w' => e = .returned (.bool false) ∧ w' = w := by
  have c0 := h.link 32 (by decide)
  have hn : (((c 32 : Nat) : Int) == 0) = false := by simp; omega
  clear h
  go_enter Try.func71, Try.ntmps71
  go_wp2
  go_ret
  exact ⟨rfl, rfl⟩

set_option maxRecDepth 100000 in
theorem mayP_any (w : World) (p : Int) : Calls Try.prog 68 #[.int .i64 p] w fun e w' => e = .returned (.bool (decide (1 ≤ p ∧ p ≤ 31))) ∧ w' = w := by
  by_cases h1 : 1 ≤ p
  · by_cases h2 : p ≤ 31
    · rw [show decide (1 ≤ p ∧ p ≤ 31) = true by simp [h1, h2]]
      go_enter Try.func68, Try.ntmps68
      go_wp2
      go_ret
      exact ⟨rfl, rfl⟩
    · rw [show decide (1 ≤ p ∧ p ≤ 31) = false by simp [h2]]
      go_enter Try.func68, Try.ntmps68
      go_wp2
      go_ret
      exact ⟨rfl, rfl⟩
  · rw [show decide (1 ≤ p ∧ p ≤ 31) = false by simp [h1]]
    go_enter Try.func68, Try.ntmps68
    go_wp2
    go_ret
    exact ⟨rfl, rfl⟩
set_option maxRecDepth 100000 in
theorem mayT_any (w : World) (t : Int) : Calls Try.prog 73 #[.int .i64 t] w fun e w' => e = .returned (.bool (decide (0 ≤ t ∧ t < 16))) ∧ w' = w := by
  by_cases h1 : 0 ≤ t
  · by_cases h2 : t < 16
    · rw [show decide (0 ≤ t ∧ t < 16) = true by simp [h1, h2]]
      go_enter Try.func73, Try.ntmps73
      go_wp2
      go_ret
      exact ⟨rfl, rfl⟩
    · rw [show decide (0 ≤ t ∧ t < 16) = false by simp [h2]]
      go_enter Try.func73, Try.ntmps73
      go_wp2
      go_ret
      exact ⟨rfl, rfl⟩
  · rw [show decide (0 ≤ t ∧ t < 16) = false by simp [h1]]
    go_enter Try.func73, Try.ntmps73
    go_wp2
    go_ret
    exact ⟨rfl, rfl⟩

theorem Rr.step1 {w : World} {rb : Nat} {c : Nat → Nat} {u s : Nat} (h : Rr w rb c u s) : Rr (w.setCell ⟨rb, 113, none⟩ (.int .i64 ((s : Int) + 1))) rb c u (s + 1) := by
  have := h.setSteps (s + 1)
  rwa [show ((s + 1 : Nat) : Int) = (s : Int) + 1 by simp] at this
theorem Rr.step2 {w : World} {rb : Nat} {c : Nat → Nat} {u s : Nat} (h : Rr w rb c u s) : Rr (w.setCell ⟨rb, 113, none⟩ (.int .i64 ((s : Int) + 2))) rb c u (s + 2) := by
  have := h.setSteps (s + 2)
  rwa [show ((s + 2 : Nat) : Int) = (s : Int) + 2 by simp] at this

set_option maxRecDepth 100000 in
theorem lookN_ok (w : World) (rb : Nat) (c : Nat → Nat) (u s x : Nat) (h : Rr w rb c u s) (hs : s ≤ 1000000) (hx : x < 48) : Calls Try.prog 67 #[.pointer (some ⟨rb, 0, none⟩), .pointer (some ⟨rb, 0, none⟩), .int .i64 (x : Nat)] w fun e w' => e = .returned (.int .i64 (c x : Nat)) ∧ Rr w' rb c u (s + 1) ∧ Kp w w' [rb] := by
  have cs := h.steps
  have fs := h.free 113
  have cx := h.link x (by omega)
  have H := hid h.step1
  clear h
  go_enter Try.func67, Try.ntmps67
  go_wp2
  go_ret
  exact ⟨rfl, H.out, Kp.setCell _ _ _⟩
set_option maxRecDepth 100000 in
theorem lookP_ok (w : World) (rb : Nat) (c : Nat → Nat) (u s x : Nat) (h : Rr w rb c u s) (hs : s ≤ 1000000) (hx : x < 48) : Calls Try.prog 67 #[.pointer (some ⟨rb, 0, none⟩), .pointer (some ⟨rb, 48, none⟩), .int .i64 (x : Nat)] w fun e w' => e = .returned (.int .i64 (c (48 + x) : Nat)) ∧ Rr w' rb c u (s + 1) ∧ Kp w w' [rb] := by
  have cs := h.steps
  have fs := h.free 113
  have cx := h.link (48 + x) (by omega)
  have H := hid h.step1
  clear h
  go_enter Try.func67, Try.ntmps67
  go_wp2
  go_ret
  exact ⟨rfl, H.out, Kp.setCell _ _ _⟩

set_option maxRecDepth 100000 in
theorem join_ok (w : World) (rb : Nat) (c : Nat → Nat) (u s b a : Nat) (h : Rr w rb c u s) (hs : s ≤ 1000000) (hb : b < 48) (ha : a < 48) : Calls Try.prog 75 #[.pointer (some ⟨rb, 0, none⟩), .int .i64 (b : Nat), .int .i64 (a : Nat)] w fun e w' => (∃ v, e = .returned v) ∧ Rr w' rb (upd (upd c b a) (48 + a) b) u (s + 2) ∧ Kp w w' [rb] := by
  have cs := h.steps
  have fs := h.free 113
  have f1 := h.free b
  have f2 := h.free (48 + a)
  have cb := h.link b (by omega)
  have ca := h.link (48 + a) (by omega)
  have H := hid (((h.step2).setLink b a (by omega)).setLink (48 + a) b (by omega))
  clear h
  go_enter Try.func75, Try.ntmps75
  go_wp2
  go_region
  go_end0
  exact ⟨⟨_, rfl⟩, H.out, (((Kp.setCell w ⟨rb, 113, none⟩ _).trans (Kp.setCell _ ⟨rb, b, none⟩ _)).trans (Kp.setCell _ ⟨rb, 48 + a, none⟩ _)).trans (Kp.drew _ _)⟩

/-- Does the thread stand in it, and where? -/
def prB (c : Nat → Nat) (t : Int) : Bool := decide (0 ≤ t ∧ t < 16) && decide (c (96 + t.toNat) ≠ 0)
def prV (c : Nat → Nat) (t : Int) : Nat := if prB c t then c (96 + t.toNat) else 0
set_option maxRecDepth 100000 in
theorem prio_any (w : World) (rb : Nat) (c : Nat → Nat) (u s : Nat) (t : Int) (h : Rr w rb c u s) (h1 : c 32 ≠ 0) : Calls Try.prog 50 #[.pointer (some ⟨rb, 0, none⟩), .int .i64 t] w fun e w' => e = .returned (.tuple #[.int .i64 (prV c t : Nat), .bool (prB c t)]) ∧ w' = w := by
  have cz := zero_ok w rb c u s h h1
  have cm := mayT_any w t
  by_cases ht : 0 ≤ t ∧ t < 16
  · obtain ⟨k, rfl⟩ : ∃ k : Nat, t = k := ⟨t.toNat, by omega⟩
    have hk : k < 16 := by omega
    have ck := h.link (96 + k) (by omega)
    rw [show decide (0 ≤ (k : Int) ∧ (k : Int) < 16) = true by simp [ht.2]] at cm
    by_cases h0 : c (96 + k) = 0
    · have e1 : prB c k = false := by simp [prB, h0]
      rw [show prV c k = 0 by simp [prV, e1], e1]
      rw [h0] at ck
      clear h ht e1
      go_enter Try.func50, Try.ntmps50
      go_wp2_with (first | (go_at_call 71; refine cz.mono ?_; rintro e w' ⟨rfl, rfl⟩) | (go_at_call 73; refine cm.mono ?_; rintro e w' ⟨rfl, rfl⟩))
      go_ret2
      exact ⟨rfl, rfl⟩
    · have e1 : prB c k = true := by simp [prB, h0]; omega
      have hn : (((c (96 + k) : Nat) : Int) == 0) = false := by simp; omega
      rw [show prV c k = c (96 + k) by simp [prV, e1], e1]
      clear h ht e1
      go_enter Try.func50, Try.ntmps50
      go_wp2_with (first | (go_at_call 71; refine cz.mono ?_; rintro e w' ⟨rfl, rfl⟩) | (go_at_call 73; refine cm.mono ?_; rintro e w' ⟨rfl, rfl⟩))
      go_ret2
      exact ⟨rfl, rfl⟩
  · have e1 : prB c t = false := by simp only [prB, ht, decide_false, Bool.false_and]
    rw [show prV c t = 0 by simp [prV, e1], e1]
    rw [show decide (0 ≤ t ∧ t < 16) = false by simp only [ht, decide_false]] at cm
    clear h ht e1
    go_enter Try.func50, Try.ntmps50
    go_wp2_with (first | (go_at_call 71; refine cz.mono ?_; rintro e w' ⟨rfl, rfl⟩) | (go_at_call 73; refine cm.mono ?_; rintro e w' ⟨rfl, rfl⟩))
    go_ret2
    exact ⟨rfl, rfl⟩
end Go.Proofs.Ytclbphnelfacfaa
