/- InheritPlays' walk. -/
import Derived.Test.YtomdnppnabncaaaPl
namespace Go.Proofs.Ytomdnppnabncaaa
open Go.RowKit Go.Shelf
open Go.Lib hiding intOf

section
variable {Gr : World → Nat → Gs → Prop}
set_option maxRecDepth 100000 in
set_option maxHeartbeats 4000000 in
theorem plays_no (P : Prg Gr) (kn : KnownOk) (w : World) (k : Int) (V : Value) (N : Nat) (S : Nat → Sp) (hV : Sc w V N S) (leave : Int) (hk : ¬ (1 ≤ k ∧ k ≤ 16)) : Calls Try.prog 3 #[.int .i64 k, V, .int .i64 leave] w fun e w' => e = .returned (.bool true) ∧ Kp w w' [] := by
  obtain ⟨so, sc, rfl⟩ := hV.shape
  have c1 := P.new_no w k hk
  have c2 := fun W => rnew_no W k hk
  clear hV hk
  go_enter Try.func3, Try.ntmps3
  go_wp2_with fail
  refine c1.mono ?_
  rintro e w1 ⟨rfl, k1⟩
  have K1 := hid k1
  clear k1 c1
  go_wp2_with fail
  refine (c2 w1).mono ?_
  rintro e w2 ⟨rfl, hE⟩
  subst hE
  go_wp2_with fail
  refine (kn _).mono ?_
  rintro e w3 ⟨rfl, k3⟩
  have K3 := hid (K1.out.trans k3)
  clear k3 K1
  go_wp2
  go_ret
  exact ⟨rfl, K3.out⟩
set_option maxRecDepth 100000 in
set_option maxHeartbeats 4000000 in
theorem plays_ok (P : Prg Gr) (kn : KnownOk) (st : StandsOk Gr) (w : World) (n : Nat) (h1 : 1 ≤ n) (h2 : n ≤ 16) (V : Value) (N : Nat) (S : Nat → Sp) (hV : Sc w V N S) (leave : Int) : Calls Try.prog 3 #[.int .i64 n, V, .int .i64 leave] w fun e w' => e = .returned (.bool true) ∧ Kp w w' [] := by
  obtain ⟨so, sc, rfl⟩ := hV.shape
  have HV := hid hV
  have c1 := P.new_ok w n h1 h2
  have C2 := hid (fun W => rnew_ok W n h1 h2)
  clear hV
  go_enter Try.func3, Try.ntmps3
  go_wp2_with fail
  refine c1.mono ?_
  rintro e w1 ⟨⟨gb, rfl, hg0, hg⟩, k1⟩
  have H1 := hid (And.intro hg0 (And.intro hg k1))
  clear k1 hg hg0 c1
  go_wp2_with fail
  refine (C2.out w1).mono ?_
  rintro e w2 ⟨rfl, hr, k2⟩
  have D0 := hid (show Pl Gr w w2 gb w1.heap.size (newG n) from ⟨P.still H1.out.2.1 k2, hr, H1.out.1, H1.out.2.2.size, H1.out.2.2.trans k2⟩)
  obtain ⟨rb, hrb⟩ : ∃ rb, w1.heap.size = rb := ⟨_, rfl⟩
  rw [hrb] at D0
  clear hr k2 H1
  by_cases hN : N ≤ 200
  · have hNI : ¬ (200 : Int) < N := by omega
    go_wp2_with fail
    clear hrb
    go_loopw [10] (fun vi W => ∃ (i : Nat) (G : Gs), i ≤ N ∧ vi = .int .i64 i ∧ Hid (Pl Gr w W gb rb G)) (fun vi _ => N - (intOf vi).toNat)
    case atStart => exact ⟨0, _, by omega, rfl, D0⟩
    case round =>
      obtain ⟨i, G, hi, rfl, hT⟩ := hrel
      clear D0
      by_cases hin : i < N
      · have hx : (i : Int) < N := by omega
        obtain ⟨sb, off, rfl, y0, y1, y2⟩ := (HV.out.keep hT.out.kp).at hin
        go_wp2_with fail
        refine (hT.out.step P (S i).k (S i).t (S i).p).mono ?_
        rintro e W3 ⟨rfl, hT2, -⟩
        have T2 := hid hT2
        clear hT2 hT y0 y1 y2
        go_wp2_with fail
        refine (T2.out.looks P st leave).mono ?_
        rintro e W4 ⟨rfl, hT3⟩
        have T3 := hid hT3
        clear hT3 T2
        go_wp2
        go_roundw
        case rel => exact ⟨i + 1, _, by omega, by simp, T3⟩
        case measure => simp [intOf]; omega
      · have hx : ¬ (i : Int) < N := by omega
        have K6 := hid hT.out.kp
        clear hT hin
        go_wp2_with fail
        refine (kn _).mono ?_
        rintro e W7 ⟨rfl, k7⟩
        have K7 := hid (K6.out.trans k7)
        clear k7 K6
        go_wp2
        go_ret
        exact ⟨rfl, K7.out⟩
  · have hNI : (200 : Int) < N := by omega
    have K6 := hid D0.out.kp
    clear D0
    go_wp2_with fail
    refine (kn _).mono ?_
    rintro e W7 ⟨rfl, k7⟩
    have K7 := hid (K6.out.trans k7)
    clear k7 K6
    go_wp2
    go_ret
    exact ⟨rfl, K7.out⟩
theorem plays_walk (P : Prg Gr) (kn : KnownOk) (st : StandsOk Gr) (w : World) (k : Int) (V : Value) (N : Nat) (S : Nat → Sp) (hV : Sc w V N S) (leave : Int) : Calls Try.prog 3 #[.int .i64 k, V, .int .i64 leave] w fun e w' => e = .returned (.bool true) ∧ Kp w w' [] := by
  by_cases hk : 1 ≤ k ∧ k ≤ 16
  · obtain ⟨n, rfl⟩ : ∃ n : Nat, k = n := ⟨k.toNat, by omega⟩
    exact plays_ok P kn st w n (by omega) (by omega) V N S hV leave
  · exact plays_no P kn w k V N S hV leave hk
end
end Go.Proofs.Ytomdnppnabncaaa
