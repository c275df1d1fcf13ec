/- TurnsPlay's walk. -/
import Derived.Test.YtclbphnelfacfaaStands
namespace Go.Proofs.Ytclbphnelfacfaa
open Go.RowKit Go.Shelf

/-- Both, made behind w. -/
def Pl (w W : World) (xb rb qb q : Nat) (S : Sh) (L : Ls) (m : Nat) : Prop := Kn w W xb rb q S L m ∧ Rt W qb q L S ∧ w.heap.size ≤ qb
section
variable {w W : World} {xb rb qb q m : Nat} {S : Sh} {L : Ls}
theorem Pl.step (h : Pl w W xb rb qb q S L m) (hm : m ≤ 870000) (k t p : Int) (r : Bool) : Calls Try.prog 12 #[.pointer (some ⟨xb, 0, none⟩), .pointer (some ⟨qb, 0, none⟩), .agg #[.int .i64 k, .int .i64 t, .int .i64 p, .bool r]] W fun e W' => e = .returned (.bool true) ∧ Pl w W' xb rb qb q (stS q L S k t p r) (stL L S k t p) (m + 20) ∧ Kp W W' [xb, rb, qb] := by
  obtain ⟨h1, h2, h3⟩ := h
  obtain ⟨s, hs, hT⟩ := h1.tn
  refine (does_any k t p r hT h2 (by omega)).mono ?_
  rintro e W' ⟨rfl, ⟨s', l1, hT'⟩, hR, hk⟩
  refine ⟨rfl, ⟨⟨⟨s', by omega, hT'⟩, h1.kp.past hk (fun x hx hl => ?_), h1.g1, h1.g2⟩, hR, h3⟩, hk⟩
  have := h1.g1
  have := h1.g2
  simp at hx
  omega
theorem Pl.stands (h : Pl w W xb rb qb q S L m) (hm : m ≤ 870000) : Calls Try.prog 13 #[.pointer (some ⟨xb, 0, none⟩), .pointer (some ⟨qb, 0, none⟩)] W fun e W' => e = .returned (.bool true) ∧ Pl w W' xb rb qb q S L (m + 1) := by
  obtain ⟨h1, h2, h3⟩ := h
  obtain ⟨s, hs, hT⟩ := h1.tn
  refine (stands_any hT h2 (by omega)).mono ?_
  rintro e W' ⟨rfl, ⟨s', l1, hT'⟩, hk⟩
  refine ⟨rfl, ⟨⟨s', by omega, hT'⟩, h1.kp.past hk (fun x hx hl => ?_), h1.g1, h1.g2⟩, h2.over hT hk, h3⟩
  have := h1.g1
  have := h1.g2
  simp at hx
  omega
theorem Pl.more (h : Pl w W xb rb qb q S L m) {k : Nat} (hk : m ≤ k) : Pl w W xb rb qb q S L k := ⟨h.1.more hk, h.2⟩
theorem Pl.kp (h : Pl w W xb rb qb q S L m) : Kp w W [] := h.1.kp
end
theorem rt_zero {w : World} {qb q : Nat} (h : Rx w qb q L0 (fun _ => 0) (fun _ => false) (fun _ => 0)) : Rt w qb q L0 S0 :=
  Rx.congr h (fun t _ => (prN_none (L := L0) (fun p _ _ hp => by cases hp)).symm) (fun _ _ => rfl) (fun _ _ => rfl)
/-- Both are made. -/
theorem pl_new (w W : World) (xb rb : Nat) (k m : Nat) (h1 : 1 ≤ k) (h2 : k ≤ 100) (h : Kn w W xb rb k S0 L0 m) : Calls Try.prog 10 #[.int .i64 k] W fun e w' => ∃ qb, e = .returned (.pointer (some ⟨qb, 0, none⟩)) ∧ Pl w w' xb rb qb k S0 L0 m ∧ W.heap.size ≤ qb ∧ Kp W w' [] := by
  refine (rnew_ok W k h1 h2).mono ?_
  rintro e w' ⟨rfl, hR, hk⟩
  exact ⟨_, rfl, ⟨h.same hk, rt_zero hR, h.kp.size⟩, Nat.le_refl _, hk⟩
set_option maxRecDepth 100000 in
set_option maxHeartbeats 4000000 in
theorem play_walk (w : World) (q : Int) (V : Value) (N : Nat) (S : Nat → Sp) (hV : Sc w V N S) : Calls Try.prog 3 #[.int .i64 q, V] w fun e w' => e = .returned (.bool true) ∧ Kp w w' [] := by
  obtain ⟨so, sc, rfl⟩ := hV.shape
  have HV := hid hV
  clear hV
  by_cases hq : 1 ≤ q ∧ q ≤ 100
  · obtain ⟨q', rfl⟩ : ∃ n : Nat, q = n := ⟨q.toNat, by omega⟩
    have q1 : 1 ≤ q' := by omega
    have q2 : q' ≤ 100 := by omega
    clear hq
    by_cases hN : (200 : Int) < N
    · go_enter Try.func3, Try.ntmps3
      go_wp2_with fail
      refine (kn_new w w (Kp.refl _ _) q' q1 q2).mono ?_
      rintro e w1 ⟨xb, rb, rfl, hl⟩
      have H1 := hid hl
      clear hl
      go_wp2_with fail
      refine (pl_new w _ xb rb q' 0 q1 q2 H1.out).mono ?_
      rintro e w2 ⟨qb, rfl, hP, -, -⟩
      have K2 := hid hP.kp
      clear hP H1
      go_wp2_with fail
      refine (known_any _).mono ?_
      rintro e w3 ⟨rfl, hk⟩
      have K3 := hid (K2.out.trans hk)
      clear hk
      go_wp2
      go_ret
      exact ⟨rfl, K3.out⟩
    · have hN2 : N ≤ 200 := by omega
      go_enter Try.func3, Try.ntmps3
      go_wp2_with fail
      refine (kn_new w w (Kp.refl _ _) q' q1 q2).mono ?_
      rintro e w1 ⟨xb, rb, rfl, hl⟩
      have H1 := hid hl
      clear hl
      go_wp2_with fail
      refine (pl_new w _ xb rb q' 0 q1 q2 H1.out).mono ?_
      rintro e w2 ⟨qb, rfl, hP, -, -⟩
      have P2 := hid hP
      clear hP H1
      go_wp2_with fail
      go_loopw [8] (fun v wr => ∃ i : Nat, i ≤ N ∧ v = .int .i64 i ∧ Hid (∃ T L, Pl w wr xb rb qb q' T L (i * 30))) (fun v _ => N - (intOf v).toNat)
      case atStart => exact ⟨0, by omega, rfl, _, _, P2.out⟩
      case round =>
        obtain ⟨i, hi, rfl, hT⟩ := hrel
        clear P2
        obtain ⟨T, L, hP⟩ := hT.out
        have HP := hid hP
        clear hT hP
        by_cases hlt : i < N
        · have h1 : (i : Int) < N := by omega
          obtain ⟨sb, off, rfl, y0, y1, y2, y3⟩ := (HV.out.keep HP.out.kp).at hlt
          go_wp2_with fail
          refine (HP.out.step (by omega) (S i).k (S i).t (S i).p (S i).r).mono ?_
          rintro e W3 ⟨rfl, hP2, -⟩
          have P3 := hid hP2
          clear hP2 HP y0 y1 y2 y3
          go_wp2_with fail
          refine (P3.out.stands (by omega)).mono ?_
          rintro e W4 ⟨rfl, hP4⟩
          have P4 := hid (hP4.more (show i * 30 + 20 + 1 ≤ (i + 1) * 30 by omega))
          clear hP4 P3
          go_wp2
          go_roundw
          case rel => exact ⟨i + 1, by omega, by simp, _, _, P4.out⟩
          case measure => simp [intOf]; omega
        · have h1 : ¬ (i : Int) < N := by omega
          have K6 := hid HP.out.kp
          clear HP
          go_wp2_with fail
          refine (known_any _).mono ?_
          rintro e W7 ⟨rfl, k7⟩
          have K7 := hid (K6.out.trans k7)
          clear k7 K6
          go_wp2
          go_ret
          exact ⟨rfl, K7.out⟩
  · have cn := tnew_no w q hq
    have cr := rnew_no w q hq
    clear hq
    go_enter Try.func3, Try.ntmps3
    go_wp2_with fail
    refine cn.mono ?_
    rintro e w1 ⟨rfl, rfl⟩
    go_wp2_with fail
    refine cr.mono ?_
    rintro e w2 ⟨rfl, rfl⟩
    clear cn cr
    go_wp2_with fail
    refine (known_any _).mono ?_
    rintro e w3 ⟨rfl, hk⟩
    have K3 := hid hk
    clear hk
    go_wp2
    go_ret
    exact ⟨rfl, K3.out⟩
end Go.Proofs.Ytclbphnelfacfaa
