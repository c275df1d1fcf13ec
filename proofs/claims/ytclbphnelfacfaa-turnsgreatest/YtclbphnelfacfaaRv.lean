/- The reference: Add, Leave, Yield, Put, Move, Lift. -/
import Derived.Test.YtclbphnelfacfaaRm
namespace Go.Proofs.Ytclbphnelfacfaa
open Go.RowKit Go.Shelf

theorem prN_le (L : Ls) (t : Nat) : ∀ k, prN L t k ≤ k
  | 0 => Nat.le_refl _
  | k + 1 => by
    have := prN_le L t k
    rw [prN]
    repeat' split
    all_goals omega
/-- The reference holds the sequences L and the shares S. -/
def Rt (w : World) (qb q : Nat) (L : Ls) (S : Sh) : Prop := Rx w qb q L (fun t => prN L t 31) (fun t => (S t).1) (fun t => ((S t).2 : Nat))
section
variable {w w' : World} {qb q : Nat} {L : Ls} {S : Sh}
theorem Rt.keep (h : Rt w qb q L S) (hk : Kp w w' []) : Rt w' qb q L S := Rx.keep h hk
theorem rt_goes (h : Rt w qb q L S) (hok : okL L) {T R : Nat} (ht : T < 16) (r1 : 1 ≤ R) (r2 : R ≤ 31) (b : Bool) : Calls Try.prog 62 #[.pointer (some ⟨qb, 0, none⟩), .int .i64 T, .int .i64 R, .bool b] w fun e w' => (∃ v, e = .returned v) ∧ Rt w' qb q (goL b L T R) S ∧ Kp w w' [qb] := by
  refine (rgoes_ok h ht rfl (by have := prN_le L T 31; omega) (by omega) hok.len b).mono ?_
  rintro e w' ⟨hv, hX, hk⟩
  refine ⟨hv, ?_, hk⟩
  unfold Rt
  rw [go_eq hok ht r1 r2 b]
  refine Rx.congr hX (fun t _ => ?_) (fun _ _ => rfl) (fun _ _ => rfl)
  rw [← go_eq hok ht r1 r2 b, go_pr hok ht r1 r2 b]
  rfl
theorem rt_fill {P : Nat → Nat} {B : Nat → Bool} {E : Nat → Int} {T : Nat} {r : Bool} {n : Nat} (h : Rx w qb q L P (updA B T r) (updA E T (n : Int))) (hP : ∀ t, t < 16 → P t = prN L t 31) (hB : ∀ t, B t = (S t).1) (hE : ∀ t, E t = ((S t).2 : Nat)) : Rt w qb q L (updS S T (r, n)) := by
  refine Rx.congr h hP (fun t _ => ?_) (fun t _ => ?_)
  · unfold updA updS
    by_cases e : t = T
    · rw [if_pos e, if_pos e]
    · rw [if_neg e, if_neg e]
      exact hB t
  · unfold updA updS
    by_cases e : t = T
    · rw [if_pos e, if_pos e]
    · rw [if_neg e, if_neg e]
      exact hE t
set_option maxRecDepth 100000 in
set_option maxHeartbeats 2000000 in
theorem Rt.add (h : Rt w qb q L S) (hok : okL L) (t p : Int) (r : Bool) : Calls Try.prog 34 #[.pointer (some ⟨qb, 0, none⟩), .int .i64 t, .int .i64 p, .bool r] w fun e w' => e = .returned (.int .i64 (putE L p t)) ∧ Rt w' qb q (putL false L p t) (addS q S L t p r) ∧ Kp w w' [qb] := by
  have cm := rmay_any w t p
  unfold addS
  rcases put_cases false L p t with ⟨ha, e1, e2⟩ | ⟨P, T, rfl, rfl, p1, p2, t1, ⟨h0, e1, e2⟩ | ⟨h0, e1, -⟩⟩
  · rw [e1, e2, if_neg (by decide)]
    rw [show decide ((0 ≤ t ∧ t < 16) ∧ (1 ≤ p ∧ p ≤ 31)) = false from decide_eq_false (fun hh => ha ⟨hh.2, hh.1⟩)] at cm
    have H := hid h
    clear h ha e1 e2
    go_enter Try.func34, Try.ntmps34
    go_wp2_with (go_at_call 22; refine cm.mono ?_; rintro e w' ⟨rfl, rfl⟩)
    go_ret
    exact ⟨rfl, H.out, Kp.refl _ _⟩
  · rw [e1, e2, if_neg (by decide)]
    rw [show decide ((0 ≤ (T : Int) ∧ (T : Int) < 16) ∧ (1 ≤ (P : Int) ∧ (P : Int) ≤ 31)) = true from decide_eq_true ⟨⟨by omega, by omega⟩, by omega, by omega⟩] at cm
    have cP := Rx.prio h t1
    have H := hid h
    have ht0 : (0 : Int) ≤ (T : Int) := by omega
    have ht1 : (T : Int) < 16 := by omega
    obtain ⟨n, hn⟩ : ∃ n, prN L T 31 = n := ⟨_, rfl⟩
    rw [hn] at cP h0
    have hn0 : (0 : Int) < (n : Int) := by omega
    clear h e1 e2 hn
    go_enter Try.func34, Try.ntmps34
    go_wp2_with (go_at_call 22; refine cm.mono ?_; rintro e w' ⟨rfl, rfl⟩)
    go_ret
    exact ⟨rfl, H.out, Kp.refl _ _⟩
  · obtain ⟨-, eg⟩ := add_go hok t1 p1 p2 h0
    rw [e1, eg, if_pos rfl, Int.toNat_natCast]
    rw [show decide ((0 ≤ (T : Int) ∧ (T : Int) < 16) ∧ (1 ≤ (P : Int) ∧ (P : Int) ≤ 31)) = true from decide_eq_true ⟨⟨by omega, by omega⟩, by omega, by omega⟩] at cm
    have cP := Rx.prio h t1
    rw [h0] at cP
    have cg := rt_goes h hok t1 p1 p2 false
    have ht0 : (0 : Int) ≤ (T : Int) := by omega
    have ht1 : (T : Int) < 16 := by omega
    clear h e1 eg h0
    go_enter Try.func34, Try.ntmps34
    go_wp2_with (go_at_call 22; refine cm.mono ?_; rintro e w' ⟨rfl, rfl⟩)
    refine cg.mono ?_
    rintro e w1 ⟨⟨v, rfl⟩, hX, hK⟩
    have c1 := Rx.robin hX t1
    have f1 := Rx.free hX (49 + T)
    have h2 := Rx.setRobin hX t1 r
    have c2 := h2.left t1
    have c3 := h2.quantum
    have f2 := h2.free (65 + T)
    have H3 := hid (h2.setLeft t1 (q : Nat))
    have K3 := hid (hK.trans ((Kp.setCell w1 ⟨qb, 49 + T, none⟩ (.bool r)).trans (Kp.setCell _ ⟨qb, 65 + T, none⟩ (.int .i64 (q : Nat)))))
    clear hX hK h2 cg
    go_wp2_with fail
    go_region
    go_wp2
    go_ret
    exact ⟨rfl, Rt.keep (rt_fill H3.out (fun _ _ => rfl) (fun _ => rfl) (fun _ => rfl)) (Kp.drew _ _), K3.out.trans (Kp.drew _ _)⟩
set_option maxRecDepth 100000 in
set_option maxHeartbeats 2000000 in
theorem Rt.leave (h : Rt w qb q L S) (hok : okL L) (t : Int) : Calls Try.prog 35 #[.pointer (some ⟨qb, 0, none⟩), .int .i64 t] w fun e w' => e = .returned (.int .i64 (remE L t)) ∧ Rt w' qb q (remL L t) (lvS S L t) ∧ Kp w w' [qb] := by
  have cm := rmay_any w t 1
  unfold lvS
  rcases rem_cases L t with ⟨ha, e1, e2⟩ | ⟨T, rfl, t1, ⟨h0, e1, e2⟩ | ⟨h0, e1, -⟩⟩
  · rw [e1, e2, if_neg (by decide)]
    rw [show decide ((0 ≤ t ∧ t < 16) ∧ (1 ≤ (1 : Int) ∧ (1 : Int) ≤ 31)) = false from decide_eq_false (fun hh => ha hh.1)] at cm
    have H := hid h
    clear h ha e1 e2
    go_enter Try.func35, Try.ntmps35
    go_wp2_with (go_at_call 22; refine cm.mono ?_; rintro e w' ⟨rfl, rfl⟩)
    go_ret
    exact ⟨rfl, H.out, Kp.refl _ _⟩
  · rw [e1, e2, if_neg (by decide)]
    rw [show decide ((0 ≤ (T : Int) ∧ (T : Int) < 16) ∧ (1 ≤ (1 : Int) ∧ (1 : Int) ≤ 31)) = true from decide_eq_true ⟨⟨by omega, by omega⟩, by decide, by decide⟩] at cm
    have cP := Rx.prio h t1
    rw [h0] at cP
    have H := hid h
    have ht0 : (0 : Int) ≤ (T : Int) := by omega
    have ht1 : (T : Int) < 16 := by omega
    clear h e1 e2 h0
    go_enter Try.func35, Try.ntmps35
    go_wp2_with (go_at_call 22; refine cm.mono ?_; rintro e w' ⟨rfl, rfl⟩)
    go_ret
    exact ⟨rfl, H.out, Kp.refl _ _⟩
  · rw [e1, rem_cut hok t1, if_pos rfl, Int.toNat_natCast]
    rw [show decide ((0 ≤ (T : Int) ∧ (T : Int) < 16) ∧ (1 ≤ (1 : Int) ∧ (1 : Int) ≤ 31)) = true from decide_eq_true ⟨⟨by omega, by omega⟩, by decide, by decide⟩] at cm
    have cP := Rx.prio h t1
    have cg := rtake_ok h t1 rfl (by have := prN_le L T 31; omega) (by have := hok.len (prN L T 31); omega)
    have HP := hid (cut_pr hok T)
    have ht0 : (0 : Int) ≤ (T : Int) := by omega
    have ht1 : (T : Int) < 16 := by omega
    obtain ⟨M, hM⟩ : ∃ M, updL L (prN L T 31) ((L (prN L T 31)).filter (fun x => decide (x ≠ T))) = M := ⟨_, rfl⟩
    rw [hM] at cg HP ⊢
    obtain ⟨n, hn⟩ : ∃ n, prN L T 31 = n := ⟨_, rfl⟩
    rw [hn] at cP h0
    have hn0 : ((n : Int) == 0) = false := by simp; omega
    clear h e1 hn hM
    go_enter Try.func35, Try.ntmps35
    go_wp2_with (go_at_call 22; refine cm.mono ?_; rintro e w' ⟨rfl, rfl⟩)
    refine cg.mono ?_
    rintro e w1 ⟨⟨v, rfl⟩, hX, hK⟩
    have c0 := Rx.prio hX t1
    have f0 := Rx.free hX (33 + T)
    have h1 : Rx (w1.setCell ⟨qb, 33 + T, none⟩ (.int .i64 0)) qb q M _ _ _ := Rx.setPrio hX t1 0
    have c1 := h1.robin t1
    have f1 := h1.free (49 + T)
    have h2 := h1.setRobin t1 false
    have c2 := h2.left t1
    have f2 := h2.free (65 + T)
    have H3 := hid (h2.setLeft t1 0)
    have K3 := hid (hK.trans (((Kp.setCell w1 ⟨qb, 33 + T, none⟩ (.int .i64 0)).trans (Kp.setCell _ ⟨qb, 49 + T, none⟩ (.bool false))).trans (Kp.setCell _ ⟨qb, 65 + T, none⟩ (.int .i64 0))))
    clear hX hK h1 h2 cg
    go_wp2
    go_ret
    refine ⟨rfl, rt_fill (n := 0) H3.out (fun t _ => ?_) (fun _ => rfl) (fun _ => rfl), K3.out⟩
    rw [HP.out t]
    rfl
set_option maxRecDepth 100000 in
set_option maxHeartbeats 2000000 in
theorem Rt.yield (h : Rt w qb q L S) (hok : okL L) (t : Int) : Calls Try.prog 36 #[.pointer (some ⟨qb, 0, none⟩), .int .i64 t] w fun e w' => e = .returned (.int .i64 (remE L t)) ∧ Rt w' qb q (yiL L t) (S) ∧ Kp w w' [qb] := by
  unfold yiL
  rcases rem_cases L t with ⟨ha, e1, e2⟩ | ⟨T, rfl, t1, ⟨h0, e1, e2⟩ | ⟨h0, e1, e2⟩⟩
  · rw [e1]
    simp only [show ¬ ((2 : Int) = 0) by decide, if_false]
    have cm := rmayx_no h t 1 (fun hh => ha hh.1)
    have H := hid h
    clear h ha e1 e2
    go_enter Try.func36, Try.ntmps36
    go_wp2_with (go_at_call 64; refine cm.mono ?_; rintro e w' ⟨rfl, rfl⟩)
    go_ret
    exact ⟨rfl, H.out, Kp.refl _ _⟩
  · rw [e1]
    simp only [show ¬ ((6 : Int) = 0) by decide, if_false]
    have cm := rmayx_ok h t1 1 (by decide)
    rw [if_pos h0] at cm
    have H := hid h
    clear h h0 e1 e2
    go_enter Try.func36, Try.ntmps36
    go_wp2_with (go_at_call 64; refine cm.mono ?_; rintro e w' ⟨rfl, rfl⟩)
    go_ret
    exact ⟨rfl, H.out, Kp.refl _ _⟩
  · rw [e1]
    simp only [if_true]
    have cm := rmayx_ok h t1 1 (by decide)
    rw [if_neg h0] at cm
    have ht0 : (0 : Int) ≤ (T : Int) := by omega
    have ht1 : (T : Int) < 16 := by omega
    have n1 : 1 ≤ prN L T 31 := by omega
    have n2 := prN_le L T 31
    have cP := Rx.prio h t1
    rw [prI_nat]
    have cg := rt_goes h hok t1 n1 n2 false
    obtain ⟨n, hn⟩ : ∃ n, prN L T 31 = n := ⟨_, rfl⟩
    rw [hn] at cP cg ⊢
    clear h h0 e1 e2 hn n1 n2
    go_enter Try.func36, Try.ntmps36
    go_wp2_with (go_at_call 64; refine cm.mono ?_; rintro e w' ⟨rfl, rfl⟩)
    refine cg.mono ?_
    rintro e w1 ⟨⟨v, rfl⟩, hX, hK⟩
    have H1 := hid hX
    have K1 := hid hK
    clear hX hK cg
    go_wp2
    go_ret
    exact ⟨rfl, H1.out, K1.out⟩
set_option maxRecDepth 100000 in
set_option maxHeartbeats 2000000 in
theorem Rt.put (h : Rt w qb q L S) (hok : okL L) (t p : Int) (r : Bool) : Calls Try.prog 38 #[.pointer (some ⟨qb, 0, none⟩), .int .i64 t, .int .i64 p, .bool r] w fun e w' => e = .returned (.int .i64 (mvE L t p)) ∧ Rt w' qb q (puL L t p) (puS q S L t p r) ∧ Kp w w' [qb] := by
  unfold puL puS
  by_cases hp : 1 ≤ p ∧ p ≤ 31
  case neg =>
    have e0 : mvE L t p = 2 := by unfold mvE; rw [if_neg hp]
    rw [e0]
    simp only [show ¬ ((2 : Int) = 0) by decide, if_false]
    have cm := rmayx_no h t p (fun hh => hp hh.2)
    have H := hid h
    clear h hp e0
    go_enter Try.func38, Try.ntmps38
    go_wp2_with (go_at_call 64; refine cm.mono ?_; rintro e w' ⟨rfl, rfl⟩)
    go_ret
    exact ⟨rfl, H.out, Kp.refl _ _⟩
  have e0 : mvE L t p = remE L t := by unfold mvE; rw [if_pos hp]
  rw [e0]
  rcases rem_cases L t with ⟨ha, e1, e2⟩ | ⟨T, rfl, t1, ⟨h0, e1, e2⟩ | ⟨h0, e1, e2⟩⟩
  · rw [e1]
    simp only [show ¬ ((2 : Int) = 0) by decide, if_false]
    have cm := rmayx_no h t p (fun hh => ha hh.1)
    have H := hid h
    clear h ha e1 e2
    go_enter Try.func38, Try.ntmps38
    go_wp2_with (go_at_call 64; refine cm.mono ?_; rintro e w' ⟨rfl, rfl⟩)
    go_ret
    exact ⟨rfl, H.out, Kp.refl _ _⟩
  · rw [e1]
    simp only [show ¬ ((6 : Int) = 0) by decide, if_false]
    have cm := rmayx_ok h t1 p hp
    rw [if_pos h0] at cm
    have H := hid h
    clear h h0 e1 e2
    go_enter Try.func38, Try.ntmps38
    go_wp2_with (go_at_call 64; refine cm.mono ?_; rintro e w' ⟨rfl, rfl⟩)
    go_ret
    exact ⟨rfl, H.out, Kp.refl _ _⟩
  · rw [e1]
    simp only [if_true]
    have cm := rmayx_ok h t1 p hp
    rw [if_neg h0] at cm
    have ht0 : (0 : Int) ≤ (T : Int) := by omega
    have ht1 : (T : Int) < 16 := by omega
    have n1 : 1 ≤ prN L T 31 := by omega
    have n2 := prN_le L T 31
    have cP := Rx.prio h t1
    obtain ⟨R, rfl⟩ : ∃ R : Nat, p = R := ⟨p.toNat, by omega⟩
    rw [Int.toNat_natCast]
    have cg := rt_goes (R := R) h hok t1 (by omega) (by omega) false
    clear h h0 e1 e2 n1 n2 cP e0
    go_enter Try.func38, Try.ntmps38
    go_wp2_with (go_at_call 64; refine cm.mono ?_; rintro e w' ⟨rfl, rfl⟩)
    refine cg.mono ?_
    rintro e w1 ⟨⟨v, rfl⟩, hX, hK⟩
    have c1 := Rx.robin hX t1
    have f1 := Rx.free hX (49 + T)
    have h2 := Rx.setRobin hX t1 r
    have c2 := h2.left t1
    have c3 := h2.quantum
    have f2 := h2.free (65 + T)
    have H3 := hid (h2.setLeft t1 (q : Nat))
    have K3 := hid (hK.trans ((Kp.setCell w1 ⟨qb, 49 + T, none⟩ (.bool r)).trans (Kp.setCell _ ⟨qb, 65 + T, none⟩ (.int .i64 (q : Nat)))))
    clear hX hK h2 cg
    go_wp2_with fail
    go_region
    go_wp2
    go_ret
    exact ⟨rfl, Rt.keep (rt_fill H3.out (fun _ _ => rfl) (fun _ => rfl) (fun _ => rfl)) (Kp.drew _ _), K3.out.trans (Kp.drew _ _)⟩
end
end Go.Proofs.Ytclbphnelfacfaa
