/- Remove, First. -/
import Derived.Test.YtclbphnelfacfaaPut
namespace Go.Proofs.Ytclbphnelfacfaa
open Go.RowKit Go.Shelf

set_option maxRecDepth 100000 in
theorem remove_arg (w : World) (rb : Nat) (c : Nat → Nat) (u s : Nat) (t : Int) (h : Rr w rb c u s) (h1 : c 32 ≠ 0) (ht : ¬ (0 ≤ t ∧ t < 16)) :
    Calls Try.prog 53 #[.pointer (some ⟨rb, 0, none⟩), .int .i64 t] w fun e w' => e = .returned (.int .i64 2) ∧ w' = w := by
  have cz := zero_ok w rb c u s h h1
  have ct := mayT_any w t
  rw [show decide (0 ≤ t ∧ t < 16) = false by simp only [ht, decide_false]] at ct
  clear h ht
  go_enter Try.func53, Try.ntmps53
  go_wp2_with (first | (go_at_call 71; refine cz.mono ?_; rintro e w' ⟨rfl, rfl⟩) | (go_at_call 73; refine ct.mono ?_; rintro e w' ⟨rfl, rfl⟩))
  go_ret
  exact ⟨rfl, rfl⟩
set_option maxRecDepth 100000 in
theorem remove_none (w : World) (rb : Nat) (c : Nat → Nat) (u s t : Nat) (h : Rr w rb c u s) (h1 : c 32 ≠ 0) (ht : t < 16) (h0 : c (96 + t) = 0) :
    Calls Try.prog 53 #[.pointer (some ⟨rb, 0, none⟩), .int .i64 t] w fun e w' => e = .returned (.int .i64 6) ∧ w' = w := by
  have cz := zero_ok w rb c u s h h1
  have ct := mayT_any w t
  have cp := prio_any w rb c u s t h h1
  rw [show decide (0 ≤ (t : Int) ∧ (t : Int) < 16) = true by simp; omega] at ct
  have e1 : prB c t = false := by simp [prB, h0]
  rw [show prV c t = 0 by simp [prV, e1], e1] at cp
  clear h e1
  go_enter Try.func53, Try.ntmps53
  go_wp2_with (first | (go_at_call 71; refine cz.mono ?_; rintro e w' ⟨rfl, rfl⟩) | (go_at_call 73; refine ct.mono ?_; rintro e w' ⟨rfl, rfl⟩) | (go_at_call 50; refine cp.mono ?_; rintro e w' ⟨rfl, rfl⟩))
  go_ret
  exact ⟨rfl, rfl⟩

set_option maxRecDepth 100000 in
set_option maxHeartbeats 1000000 in
theorem remove_ok (w : World) (rb : Nat) (c : Nat → Nat) (u s t p a b : Nat) (h : Rr w rb c u s) (h1 : c 32 ≠ 0) (hs : s ≤ 900000) (ht : t < 16) (hp : c (96 + t) = p) (hp1 : 1 ≤ p) (hp2 : p ≤ 31) (hb : c (48 + (32 + t)) = b) (hb48 : b < 48) (ha : c (32 + t) = a) (ha48 : a < 48) (hu : u < 2 ^ 32) :
    Calls Try.prog 53 #[.pointer (some ⟨rb, 0, none⟩), .int .i64 t] w fun e w' => e = .returned (.int .i64 0) ∧ Rr w' rb (upd (del c b (32 + t) a) (96 + t) 0) (if b = a then noBit u p else u) (s + 6) ∧ Kp w w' [rb] := by
  have cz := zero_ok w rb c u s h h1
  have ct := mayT_any w t
  have cp := prio_any w rb c u s t h h1
  rw [show decide (0 ≤ (t : Int) ∧ (t : Int) < 16) = true by simp; omega] at ct
  have e1 : prB c t = true := by simp [prB]; omega
  rw [show prV c t = p by simp [prV, e1, hp], e1] at cp
  have HU := hid hu
  have R0 := hid h
  clear h hu e1
  go_enter Try.func53, Try.ntmps53
  go_wp2_with (first | (go_at_call 71; refine cz.mono ?_; rintro e w' ⟨rfl, rfl⟩) | (go_at_call 73; refine ct.mono ?_; rintro e w' ⟨rfl, rfl⟩) | (go_at_call 50; refine cp.mono ?_; rintro e w' ⟨rfl, rfl⟩))
  clear cz ct cp
  have cl := lookP_ok (World.drew w') rb c u s (32 + t) R0.out (by omega) (by omega)
  rw [hb, show ((32 + t : Nat) : Int) = 32 + (t : Int) by simp] at cl
  go_region_held_law (fun _ => True) (trivial)
    (first
      | (go_at_call 67; have _hh := hK1; refine cl2.mono ?_; rintro e w2 ⟨rfl, hR2, hK2⟩)
      | (go_at_call 67; refine cl.mono ?_; rintro e w1 ⟨rfl, hR1, hK1⟩; have cl2 := lookN_ok w1 rb c u (s + 1) (32 + t) hR1 (by omega) (by omega); rw [ha, show ((32 + t : Nat) : Int) = 32 + (t : Int) by simp] at cl2))
  have R2 := hid hR2
  have K2 := hid (((Kp.drew w' _).trans hK1).trans hK2)
  clear cl cl2 hR1 hK1 hR2 hK2 R0
  have cj := join_ok w2 rb c u (s + 1 + 1) b a R2.out (by omega) hb48 ha48
  go_wp2_with fail
  refine cj.mono ?_
  rintro e w3 ⟨⟨v3, rfl⟩, hR3, hK3⟩
  have R3 := hid hR3
  have K3 := hid (K2.out.trans hK3)
  clear hR3 hK3 cj R2 K2
  have cj := join_ok w3 rb _ u (s + 1 + 1 + 2) (32 + t) (32 + t) R3.out (by omega) (by omega) (by omega)
  rw [show ((32 + t : Nat) : Int) = 32 + (t : Int) by simp] at cj
  go_wp2_with fail
  refine cj.mono ?_
  rintro e w4 ⟨⟨v4, rfl⟩, hR4, hK4⟩
  have R4 := hid hR4
  have K4 := hid (K3.out.trans hK4)
  clear hR4 hK4 cj R3 K3
  have c5 := R4.out.link (96 + t) (by omega)
  have f5 := R4.out.free (96 + t)
  have cu := R4.out.used
  have fu := R4.out.free 112
  have hw := shl_bit (k := p) (by omega)
  have ho := not_bit (u := u) (k := p) HU.out (by omega)
  by_cases hba : b = a
  · have hba' : ((b : Int) == (a : Int)) = true := by simp [hba]
    have HB := hid hba
    clear hba
    go_wp2
    go_region
    go_wp2
    go_ret
    exact ⟨rfl, by have hh := HB.out; have rr := (R4.out.setLink (96 + t) 0 (by omega)).setUsed (noBit u p); first | exact rr | (rw [if_pos hh]; exact rr) | (subst hh; exact rr), (K4.out.trans ((Kp.setCell w4 ⟨rb, 96 + t, none⟩ _).trans (Kp.setCell _ ⟨rb, 112, none⟩ _))).trans (Kp.drew _ _)⟩
  · have hba' : ((b : Int) == (a : Int)) = false := by simp; omega
    have HB := hid hba
    clear hba
    go_wp2
    go_ret
    exact ⟨rfl, by have hh := HB.out; have rr := R4.out.setLink (96 + t) 0 (by omega); first | exact rr | (rw [if_neg hh]; exact rr), K4.out.trans (Kp.setCell w4 ⟨rb, 96 + t, none⟩ _)⟩
end Go.Proofs.Ytclbphnelfacfaa
