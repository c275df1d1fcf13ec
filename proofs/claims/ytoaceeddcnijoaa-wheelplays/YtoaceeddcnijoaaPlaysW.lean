/- WheelPlays' walk, out of stands. -/
import Derived.Test.YtoaceeddcnijoaaDoes
import Derived.Test.YtoaceeddcnijoaaArgs
namespace Go.Proofs.Ytoaceeddcnijoaa
open Go.RowKit Go.Shelf Go.Lib Go.Sort

/-- What stands says. -/
def StandsOk : Prop := ∀ (w : World) (wb rb : Nat) (F : Nat → Value) (L : List Dl) (id leave : Int), Wl w wb F L → Rf w rb L →
    Calls Try.prog 10 #[.pointer (some ⟨wb, 0, none⟩), .pointer (some ⟨rb, 0, none⟩), .int .i64 id, .int .i64 leave] w fun e w' => e = .returned (.bool true) ∧ Kp w w' []
/-- A wheel and a reference that tell the same, both made behind w. -/
structure Pr (w W : World) (wb rb : Nat) (F : Nat → Value) (L : List Dl) : Prop where
  wl : Wl W wb F L
  rf : Rf W rb L
  fr : ∀ k ∈ rb :: rows F wb, w.heap.size ≤ k
section
variable {w W W' : World} {wb rb : Nat} {F : Nat → Value} {L : List Dl}
theorem Pr.keep (h : Pr w W wb rb F L) (hk : Kp W W' []) : Pr w W' wb rb F L := ⟨h.wl.same hk, h.rf.keep hk, h.fr⟩
theorem Pr.step (h : Pr w W wb rb F L) (hkp : Kp w W []) {L' : List Dl} (hd : Did W W' wb rb F L') : ∃ F', Pr w W' wb rb F' L' ∧ Kp w W' [] ∧ Kp W W' (rb :: rows F wb) ∧ Nr F' F W.heap.size := by
  obtain ⟨F', h1, h2, h3, h4⟩ := hd
  refine ⟨F', ⟨h1, h2, fun k hk => ?_⟩, hkp.past h3 (fun k hk hl => by have := h.fr k hk; omega), h3, h4⟩
  rcases List.mem_cons.1 hk with rfl | hk
  · exact h.fr k (by simp)
  · rcases h4.rows hk with q | q
    · exact h.fr k (by simp [q])
    · have := hkp.size; omega
end
theorem rf_new (w : World) : Rf (w.alloc (.cells #[.slice none 0 0] 29)) w.heap.size [] := ⟨_, heap_alloc_new w _, Or.nil _ _⟩

set_option maxRecDepth 100000 in
set_option maxHeartbeats 1000000 in
theorem plays_much (w : World) (so : Option Addr) (N sc : Nat) (id leave : Int) (hN : (200 : Int) < N) :
    Calls Try.prog 3 #[.slice so N sc, .int .i64 id, .int .i64 leave] w fun e w' => e = .returned (.bool true) ∧ Kp w w' [] := by
  go_enter Try.func3, Try.ntmps3
  go_wp2_with fail
  refine (known_any _).mono ?_
  rintro e w2 ⟨rfl, k2⟩
  have K2 := hid k2
  clear k2
  go_wp2
  go_ret
  exact ⟨rfl, K2.out⟩

set_option maxRecDepth 100000 in
set_option maxHeartbeats 2000000 in
theorem plays_good (hst : StandsOk) (w : World) (so : Option Addr) (N sc : Nat) (S : Nat → Sp) (hV : Sc w (.slice so N sc) N S) (id leave : Int) (hN : N ≤ 200) :
    Calls Try.prog 3 #[.slice so N sc, .int .i64 id, .int .i64 leave] w fun e w' => e = .returned (.bool true) ∧ Kp w w' [] := by
  have hNI : ¬ (200 : Int) < N := by omega
  have HV := hid hV
  have HST := hid hst
  clear hV hst
  go_enter Try.func3, Try.ntmps3
  go_wp2_with fail
  refine (wnew w).mono ?_
  rintro e w1 ⟨rfl, hw, hk⟩
  have P0 := hid (show Pr w (w1.alloc (.cells #[.slice none 0 0] 29)) w.heap.size w1.heap.size (fun _ => .slice none 0 0) [] by
    refine ⟨hw.same (Kp.alloc _ _ _), rf_new w1, fun k hk' => ?_⟩
    rw [rows_new] at hk'
    have := hk.size
    simp at hk'
    omega)
  have K0 := hid (hk.trans (Kp.alloc w1 (.cells #[.slice none 0 0] 29) []))
  clear hw hk
  obtain ⟨W2, hW2⟩ : ∃ W2, w1.alloc (.cells #[.slice none 0 0] 29) = W2 := ⟨_, rfl⟩
  rw [hW2] at P0 K0
  obtain ⟨wb, hwb⟩ : ∃ wb, w.heap.size = wb := ⟨_, rfl⟩
  obtain ⟨rb, hrb⟩ : ∃ rb, w1.heap.size = rb := ⟨_, rfl⟩
  have P1 : Hid (Pr w W2 wb rb (fun _ => .slice none 0 0) []) := hid (by rw [← hwb, ← hrb]; exact P0.out)
  rw [hwb]
  clear P0 hwb
  go_wp2_with fail
  try simp only [hW2, hrb]
  clear hW2 hrb
  go_loopw [9] (fun vi W => ∃ i : Nat, i ≤ N ∧ vi = .int .i64 i ∧ Hid (∃ F L, Pr w W wb rb F L ∧ Kp w W [])) (fun vi _ => N - (intOf vi).toNat)
  case atStart => exact ⟨0, by omega, rfl, hid ⟨_, _, P1.out, K0.out⟩⟩
  case round =>
    obtain ⟨i, hi, rfl, hI⟩ := hrel
    obtain ⟨F, L, hP, hK⟩ := hI.out
    have PP := hid hP
    have KK := hid hK
    clear hI hP hK P1 K0
    by_cases hlt : i < N
    · have hltI : (i : Int) < N := by omega
      obtain ⟨sb, off, rfl, y0, y1, y2, -⟩ := (HV.out.keep KK.out).at hlt
      go_wp2_with fail
      refine (does_any wr wb rb F L (S i).k (S i).c (S i).n PP.out.wl PP.out.rf).mono ?_
      rintro e W3 ⟨rfl, hd⟩
      obtain ⟨F1, hP1, hK1, -, -⟩ := PP.out.step KK.out hd
      have P3 := hid hP1
      have K3 := hid hK1
      clear hd hP1 hK1 PP KK y0 y1 y2
      go_wp2_with fail
      refine (HST.out W3 wb rb F1 _ id leave P3.out.wl P3.out.rf).mono ?_
      rintro e W4 ⟨rfl, k4⟩
      have P4 := hid (P3.out.keep k4)
      have K4 := hid (K3.out.trans k4)
      clear k4 P3 K3
      go_wp2
      go_roundw
      case rel => exact ⟨i + 1, by omega, by simp, hid ⟨_, _, P4.out, K4.out⟩⟩
      case measure => simp [intOf]; omega
    · have hltI : ¬ (i : Int) < N := by omega
      clear PP
      go_wp2_with fail
      refine (known_any _).mono ?_
      rintro e W7 ⟨rfl, k7⟩
      have K7 := hid (KK.out.trans k7)
      clear k7
      go_wp2
      go_ret
      exact ⟨rfl, K7.out⟩
end Go.Proofs.Ytoaceeddcnijoaa
