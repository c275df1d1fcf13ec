/- ReadySteps: the walk, out of what stands says. -/
import Derived.Test.YtfhbcigeoagedaaFirstW
namespace Go.Proofs.Ytfhbcigeoagedaa
open Go.RowKit Go.Shelf

/-- What the law's function stands answers. -/
def StandsOk : Prop := ∀ (w : World) (rb qb s : Nat) (L : Ls) (leave : Int), Rd w rb L s → Rq w qb L → s ≤ 9000 →
  Calls Try.prog 9 #[.pointer (some ⟨rb, 0, none⟩), .pointer (some ⟨qb, 0, none⟩), .int .i64 leave] w fun e w' => e = .returned (.bool true) ∧ (∃ s', s' ≤ s + 1 ∧ Rd w' rb L s') ∧ Rq w' qb L ∧ Kp w w' [rb]

set_option maxRecDepth 100000 in
set_option maxHeartbeats 8000000 in
theorem steps_walk (hst : StandsOk) (w : World) (V : Value) (N : Nat) (S : Nat → St) (hV : Sc w V N S) (leave : Int) : Calls Try.prog 3 #[V, .int .i64 leave] w fun e w' => e = .returned (.bool true) ∧ Kp w w' [] := by
  obtain ⟨ao, cap, rfl⟩ := hV.shape
  have HV := hid hV
  have HS := hid hst
  clear hV hst
  go_enter Try.func3, Try.ntmps3
  go_wp2_with fail
  refine (new_rd w).mono ?_
  rintro e w1 ⟨rfl, hR1, hK1⟩
  have z29 := (zero_of_info info29).1
  have b29 := built29
  have T0 := hid (show Tw w (w1.alloc (.cells (vcl noV 32 0).toArray 29)) w.heap.size w1.heap.size 0 (fun _ => []) from ⟨hR1.keep (Kp.alloc w1 _ []) (by simp), rq_new w1, hK1.trans (Kp.alloc w1 _ []), Nat.le_refl _, hK1.size⟩)
  obtain ⟨rb0, hrb⟩ : ∃ rb, w.heap.size = rb := ⟨_, rfl⟩
  obtain ⟨qb, hqb⟩ : ∃ qb, w1.heap.size = qb := ⟨_, rfl⟩
  rw [hrb, hqb] at T0
  rw [hrb]
  clear hR1 hK1
  go_wp2
  try rw [hqb]
  clear hrb hqb z29 b29
  go_loopw [5, 6, 7] (fun v v4 vi wr => ∃ (rb i s : Nat) (L : Ls), i ≤ N ∧ i ≤ 200 ∧ s ≤ 9 * i ∧ v = .pointer (some ⟨rb, 0, none⟩) ∧ v4 = .pointer (some ⟨qb, 0, none⟩) ∧ vi = .int .i64 i ∧ Hid (Tw w wr rb qb s L)) (fun _ _ vi _ => 200 - (intOf vi).toNat)
  case atStart => exact ⟨rb0, 0, 0, _, Nat.zero_le _, by decide, Nat.le_refl _, rfl, rfl, rfl, T0⟩
  case round =>
    obtain ⟨rb, i, s, L, hi, hi2, hs, rfl, rfl, rfl, hT⟩ := hrel
    by_cases hgo : i < N ∧ i < 200
    · have g1 : (i : Int) < (N : Int) := by omega
      have g2 : (i : Int) < 200 := by omega
      obtain ⟨b, off, rfl, c0, c1, c2⟩ := (HV.out.keep hT.out.kp).at hgo.1
      clear hgo
      go_wp2_with fail
      refine (do_any wr rb qb s L _ _ _ hT.out.rd hT.out.rq (by omega)).mono ?_
      intro e w2 hd
      obtain ⟨rb2, L2, s2, rfl, hs2, hT2⟩ := hT.out.did hd
      have T2 := hid hT2
      clear hd hT2 c0 c1 c2 hT
      go_wp2_with fail
      refine (HS.out w2 rb2 qb s2 L2 leave T2.out.rd T2.out.rq (by omega)).mono ?_
      rintro e w3 ⟨rfl, ⟨s3, hs3, hR3⟩, hQ3, hK3⟩
      have T3 := hid (show Tw w w3 rb2 qb s3 L2 from ⟨hR3, hQ3, Rd.past T2.out.kp hK3 T2.out.lr, T2.out.lr, T2.out.lq⟩)
      clear hR3 hQ3 hK3 T2
      go_wp2
      go_roundw
      case rel => exact ⟨rb2, i + 1, s3, L2, by omega, by omega, by omega, rfl, rfl, by simp, T3⟩
      case measure => simp [intOf]; omega
    · have K := hid hT.out.kp
      clear hT
      by_cases g1 : i < N
      · have g4 : (i : Int) < (N : Int) := by omega
        have g5 : ¬ (i : Int) < 200 := by omega
        clear hgo g1
        go_wp2_with fail
        refine (known_any wr).mono ?_
        rintro e w2 ⟨rfl, k2⟩
        have K2 := hid (K.out.trans k2)
        clear k2
        go_wp2
        go_ret
        exact ⟨rfl, K2.out⟩
      · have g4 : ¬ (i : Int) < (N : Int) := by omega
        clear hgo g1
        go_wp2_with fail
        refine (known_any wr).mono ?_
        rintro e w2 ⟨rfl, k2⟩
        have K2 := hid (K.out.trans k2)
        clear k2
        go_wp2
        go_ret
        exact ⟨rfl, K2.out⟩
end Go.Proofs.Ytfhbcigeoagedaa
