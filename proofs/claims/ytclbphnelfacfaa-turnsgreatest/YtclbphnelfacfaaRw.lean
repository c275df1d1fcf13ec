/- The reference: Move, Lift, Tick. -/
import Derived.Test.YtclbphnelfacfaaRv
namespace Go.Proofs.Ytclbphnelfacfaa
open Go.RowKit Go.Shelf

section
variable {w w' : World} {qb q : Nat} {L : Ls} {S : Sh}
set_option maxRecDepth 100000 in
set_option maxHeartbeats 2000000 in
theorem Rt.move (h : Rt w qb q L S) (hok : okL L) (t p : Int) : Calls Try.prog 39 #[.pointer (some ⟨qb, 0, none⟩), .int .i64 t, .int .i64 p] w fun e w' => e = .returned (.int .i64 (mvE L t p)) ∧ Rt w' qb q (moL L t p) (S) ∧ Kp w w' [qb] := by
  unfold moL
  by_cases hp : 1 ≤ p ∧ p ≤ 31
  case neg =>
    have e0 : mvE L t p = 2 := by unfold mvE; rw [if_neg hp]
    rw [e0]
    simp only [show ¬ ((2 : Int) = 0) by decide, if_false]
    have cm := rmayx_no h t p (fun hh => hp hh.2)
    have H := hid h
    clear h hp e0
    go_enter Try.func39, Try.ntmps39
    go_wp2_with (go_at_call 64; refine cm.mono ?_; rintro e w' ⟨rfl, rfl⟩)
    go_ret
    exact ⟨rfl, H.out, Kp.refl _ _⟩
  have e0 : mvE L t p = remE L t := by unfold mvE; rw [if_pos hp]
  rw [e0]
  rcases rem_cases L t with ⟨ha, e1, e2⟩ | ⟨T, rfl, t1, ⟨h0, e1, e2⟩ | ⟨h0, e1, e2⟩⟩
  · rw [e1]
    simp only [show ¬ ((2 : Int) = 0) by decide, if_false]
    have cm := rmayx_no h t p (fun hh => ha hh.1)
    have H := hid h
    clear h ha e1 e2
    go_enter Try.func39, Try.ntmps39
    go_wp2_with (go_at_call 64; refine cm.mono ?_; rintro e w' ⟨rfl, rfl⟩)
    go_ret
    exact ⟨rfl, H.out, Kp.refl _ _⟩
  · rw [e1]
    simp only [show ¬ ((6 : Int) = 0) by decide, if_false]
    have cm := rmayx_ok h t1 p hp
    rw [if_pos h0] at cm
    have H := hid h
    clear h h0 e1 e2
    go_enter Try.func39, Try.ntmps39
    go_wp2_with (go_at_call 64; refine cm.mono ?_; rintro e w' ⟨rfl, rfl⟩)
    go_ret
    exact ⟨rfl, H.out, Kp.refl _ _⟩
  · rw [e1]
    simp only [if_true]
    have cm := rmayx_ok h t1 p hp
    rw [if_neg h0] at cm
    have ht0 : (0 : Int) ≤ (T : Int) := by omega
    have ht1 : (T : Int) < 16 := by omega
    have n1 : 1 ≤ prN L T 31 := by omega
    have n2 := prN_le L T 31
    have cP := Rx.prio h t1
    obtain ⟨R, rfl⟩ : ∃ R : Nat, p = R := ⟨p.toNat, by omega⟩
    rw [prI_nat]
    have cg := fun b => rt_goes (R := R) h hok t1 (by omega) (by omega) b
    obtain ⟨n, hn⟩ : ∃ n, prN L T 31 = n := ⟨_, rfl⟩
    rw [hn] at cP ⊢
    have H := hid h
    clear h h0 e1 e2 hn n1 n2 e0
    unfold moveTo
    by_cases heq : R = n
    · subst heq
      have hI : ((R : Int) != (R : Int)) = false := by simp
      rw [if_neg (by omega), if_neg (by omega)]
      clear cg
      go_enter Try.func39, Try.ntmps39
      go_wp2_with (go_at_call 64; refine cm.mono ?_; rintro e w' ⟨rfl, rfl⟩)
      go_ret
      exact ⟨rfl, H.out, Kp.refl _ _⟩
    have hI : ((R : Int) != (n : Int)) = true := by simp; omega
    by_cases hgt : n < R
    · rw [if_pos (by omega)]
      have HD := hid (show decide (R < n) = false from decide_eq_false (by omega))
      clear heq hgt
      have cg := cg (decide (R < n))
      go_enter Try.func39, Try.ntmps39
      go_wp2_with (go_at_call 64; refine cm.mono ?_; rintro e w' ⟨rfl, rfl⟩)
      refine cg.mono ?_
      rintro e w1 ⟨⟨v, rfl⟩, hX, hK⟩
      rw [HD.out] at hX
      have H1 := hid hX
      have K1 := hid hK
      clear hX hK cg
      go_wp2
      go_ret
      exact ⟨rfl, H1.out, K1.out⟩
    · rw [if_neg (by omega), if_pos (by omega)]
      have HD := hid (show decide (R < n) = true from decide_eq_true (by omega))
      clear heq hgt
      have cg := cg (decide (R < n))
      go_enter Try.func39, Try.ntmps39
      go_wp2_with (go_at_call 64; refine cm.mono ?_; rintro e w' ⟨rfl, rfl⟩)
      refine cg.mono ?_
      rintro e w1 ⟨⟨v, rfl⟩, hX, hK⟩
      rw [HD.out] at hX
      have H1 := hid hX
      have K1 := hid hK
      clear hX hK cg
      go_wp2
      go_ret
      exact ⟨rfl, H1.out, K1.out⟩
set_option maxRecDepth 100000 in
set_option maxHeartbeats 2000000 in
theorem Rt.lift (h : Rt w qb q L S) (hok : okL L) (t p : Int) : Calls Try.prog 40 #[.pointer (some ⟨qb, 0, none⟩), .int .i64 t, .int .i64 p] w fun e w' => e = .returned (.int .i64 (mvE L t p)) ∧ Rt w' qb q (liL L t p) (S) ∧ Kp w w' [qb] := by
  unfold liL
  by_cases hp : 1 ≤ p ∧ p ≤ 31
  case neg =>
    have e0 : mvE L t p = 2 := by unfold mvE; rw [if_neg hp]
    rw [e0]
    simp only [show ¬ ((2 : Int) = 0) by decide, if_false]
    have cm := rmayx_no h t p (fun hh => hp hh.2)
    have H := hid h
    clear h hp e0
    go_enter Try.func40, Try.ntmps40
    go_wp2_with (go_at_call 64; refine cm.mono ?_; rintro e w' ⟨rfl, rfl⟩)
    go_ret
    exact ⟨rfl, H.out, Kp.refl _ _⟩
  have e0 : mvE L t p = remE L t := by unfold mvE; rw [if_pos hp]
  rw [e0]
  rcases rem_cases L t with ⟨ha, e1, e2⟩ | ⟨T, rfl, t1, ⟨h0, e1, e2⟩ | ⟨h0, e1, e2⟩⟩
  · rw [e1]
    simp only [show ¬ ((2 : Int) = 0) by decide, if_false]
    have cm := rmayx_no h t p (fun hh => ha hh.1)
    have H := hid h
    clear h ha e1 e2
    go_enter Try.func40, Try.ntmps40
    go_wp2_with (go_at_call 64; refine cm.mono ?_; rintro e w' ⟨rfl, rfl⟩)
    go_ret
    exact ⟨rfl, H.out, Kp.refl _ _⟩
  · rw [e1]
    simp only [show ¬ ((6 : Int) = 0) by decide, if_false]
    have cm := rmayx_ok h t1 p hp
    rw [if_pos h0] at cm
    have H := hid h
    clear h h0 e1 e2
    go_enter Try.func40, Try.ntmps40
    go_wp2_with (go_at_call 64; refine cm.mono ?_; rintro e w' ⟨rfl, rfl⟩)
    go_ret
    exact ⟨rfl, H.out, Kp.refl _ _⟩
  · rw [e1]
    simp only [if_true]
    have cm := rmayx_ok h t1 p hp
    rw [if_neg h0] at cm
    have ht0 : (0 : Int) ≤ (T : Int) := by omega
    have ht1 : (T : Int) < 16 := by omega
    have n1 : 1 ≤ prN L T 31 := by omega
    have n2 := prN_le L T 31
    have cP := Rx.prio h t1
    obtain ⟨R, rfl⟩ : ∃ R : Nat, p = R := ⟨p.toNat, by omega⟩
    rw [prI_nat]
    have cg := fun b => rt_goes (R := R) h hok t1 (by omega) (by omega) b
    obtain ⟨n, hn⟩ : ∃ n, prN L T 31 = n := ⟨_, rfl⟩
    rw [hn] at cP ⊢
    have H := hid h
    clear h h0 e1 e2 hn n1 n2 e0
    unfold liftTo
    by_cases heq : R = n
    · subst heq
      have hI : ((R : Int) != (R : Int)) = false := by simp
      rw [if_neg (by simp)]
      clear cg
      go_enter Try.func40, Try.ntmps40
      go_wp2_with (go_at_call 64; refine cm.mono ?_; rintro e w' ⟨rfl, rfl⟩)
      go_ret
      exact ⟨rfl, H.out, Kp.refl _ _⟩
    have hI : ((R : Int) != (n : Int)) = true := by simp; omega
    rw [if_pos (by omega)]
    clear heq
    have cg := cg true
    go_enter Try.func40, Try.ntmps40
    go_wp2_with (go_at_call 64; refine cm.mono ?_; rintro e w' ⟨rfl, rfl⟩)
    refine cg.mono ?_
    rintro e w1 ⟨⟨v, rfl⟩, hX, hK⟩
    have H1 := hid hX
    have K1 := hid hK
    clear hX hK cg
    go_wp2
    go_ret
    exact ⟨rfl, H1.out, K1.out⟩
theorem rx_goes {B : Nat → Bool} {E : Nat → Int} (h : Rx w qb q L (fun t => prN L t 31) B E) (hok : okL L) {T R : Nat} (ht : T < 16) (r1 : 1 ≤ R) (r2 : R ≤ 31) (b : Bool) : Calls Try.prog 62 #[.pointer (some ⟨qb, 0, none⟩), .int .i64 T, .int .i64 R, .bool b] w fun e w' => (∃ v, e = .returned v) ∧ Rx w' qb q (goL b L T R) (fun t => prN (goL b L T R) t 31) B E ∧ Kp w w' [qb] := by
  refine (rgoes_ok h ht rfl (by have := prN_le L T 31; omega) (by omega) hok.len b).mono ?_
  rintro e w' ⟨hv, hX, hk⟩
  refine ⟨hv, ?_, hk⟩
  rw [go_eq hok ht r1 r2 b]
  refine Rx.congr hX (fun t _ => ?_) (fun _ _ => rfl) (fun _ _ => rfl)
  rw [← go_eq hok ht r1 r2 b, go_pr hok ht r1 r2 b]
  rfl
theorem fst_in (hok : okL L) (hb : fstB L = true) : fstV L < 16 ∧ prN L (fstV L) 31 ≠ 0 := by
  unfold fstB at hb
  cases e : (seqs L 31).head? with
  | none => rw [e] at hb; cases hb
  | some x =>
    obtain ⟨p, t⟩ := x
    have hv : fstV L = t := by unfold fstV; rw [e]; rfl
    have hm : (p, t) ∈ seqs L 31 := List.mem_of_mem_head? e
    obtain ⟨h1, h2, h3⟩ := seqs_mem hm
    rw [hv, hok.pr h3]
    exact ⟨(hok.thr p t h3).1, by omega⟩
theorem updA_two {α : Type} (f : Nat → α) (t : Nat) (a b : α) : updA (updA f t a) t b = updA f t b := by
  funext x
  unfold updA
  split <;> rfl
end
end Go.Proofs.Ytclbphnelfacfaa
