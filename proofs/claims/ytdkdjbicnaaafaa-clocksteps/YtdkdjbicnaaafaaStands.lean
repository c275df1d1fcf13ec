/- stands. -/
import Derived.Test.YtdkdjbicnaaafaaDo
import Derived.Deep.RegionHeldLaw
namespace Go.Proofs.Ytdkdjbicnaaafaa
open Go.RowKit

set_option maxRecDepth 100000 in
set_option maxHeartbeats 1000000 in
theorem stands_any (w : World) (b c : Nat) (x y : Int) (k cl n : Int) (h : Bo w b c x y) (hn : i64 n) : Calls Try.prog 12 #[.pointer (some ⟨b, 0, none⟩), .pointer (some ⟨c, 0, none⟩), .agg #[.int .i64 k, .int .i64 cl, .int .i64 n]] w fun e w' => e = .returned (.bool true) ∧ Kp w w' [] := by
  obtain ⟨W0, hW0⟩ : ∃ W0, w.alloc (.cells #[.int .i64 k, .int .i64 cl, .int .i64 n] 35) = W0 := ⟨_, rfl⟩
  obtain ⟨c0, c1, c2⟩ := cell3 w (.int .i64 k) (.int .i64 cl) (.int .i64 n)
  have kk : Kp w W0 [] := by rw [← hW0]; exact Kp.alloc _ _ _
  have H := hid (h.keep kk (by simp) (by simp))
  have K0 := hid kk
  rw [hW0] at c0 c1 c2
  have HN := hid hn
  clear h hn kk
  go_enter Try.func12, Try.ntmps12
  go_wp2_with fail
  go_loopw [7] (fun vk wr => ∃ i : Int, -1 ≤ i ∧ i ≤ 3 ∧ vk = .int .i64 i ∧ wr = W0) (fun vk _ => (3 - intOf vk).toNat)
  case atStart => exact ⟨-1, by decide, by decide, rfl, rfl⟩
  case round =>
    obtain ⟨i, hi1, hi2, rfl, hwr⟩ := hrel
    subst hwr
    by_cases hlt : i ≤ 2
    · go_wp2_with fail
      refine (now_any _ b x y i H.out.ck).mono ?_
      rintro e w1 ⟨rfl, rfl⟩
      go_wp2_with fail
      refine (rnow_any _ c x y i H.out.rk).mono ?_
      rintro e w1 ⟨rfl, rfl⟩
      obtain ⟨v, hv⟩ : ∃ v, nowV x y i = v := ⟨_, rfl⟩
      obtain ⟨u, hu⟩ : ∃ u, nowE i = u := ⟨_, rfl⟩
      rw [hv, hu]
      clear hv hu
      have q1 : (v != v) = false := by simp
      have q2 : (u != u) = false := by simp
      go_wp2_with (go_at_call 9; go_in)
      go_roundw
      case rel => exact ⟨i + 1, by omega, by omega, by simp, trivial⟩
      case measure => simp [intOf]; omega
    · go_wp2_with fail
      refine (in_any _ b x y cl n H.out.ck H.out.mx H.out.my HN.out).mono ?_
      rintro e w1 ⟨rfl, rfl⟩
      go_wp2_with fail
      refine (rin_any _ c x y cl n H.out.rk H.out.mx H.out.my).mono ?_
      rintro e w1 ⟨rfl, rfl⟩
      obtain ⟨v, hv⟩ : ∃ v, inV x y cl n = v := ⟨_, rfl⟩
      obtain ⟨u, hu⟩ : ∃ u, inE cl n = u := ⟨_, rfl⟩
      rw [hv, hu]
      clear hv hu
      go_wp2_with fail
      refine (left_any _ b x y cl n H.out.ck H.out.mx H.out.my HN.out).mono ?_
      rintro e w1 ⟨rfl, rfl⟩
      go_wp2_with fail
      refine (rleft_any _ c x y cl n H.out.rk H.out.mx H.out.my).mono ?_
      rintro e w1 ⟨rfl, rfl⟩
      obtain ⟨v2, hv⟩ : ∃ v2, leftV x y cl n = v2 := ⟨_, rfl⟩
      obtain ⟨u2, hu⟩ : ∃ u2, nowE cl = u2 := ⟨_, rfl⟩
      rw [hv, hu]
      clear hv hu
      have q1 : (v == v) = true := by simp
      have q2 : (u == u) = true := by simp
      have q3 : (v2 == v2) = true := by simp
      have q4 : (u2 == u2) = true := by simp
      go_wp2_with fail
      have CC := hid (show w1.drew.cell? ⟨w.heap.size, 1, none⟩ = some (.int .i64 cl) ∧ w1.drew.cell? ⟨w.heap.size, 2, none⟩ = some (.int .i64 n) from ⟨(Kp.drew w1 []).cell c1 (by simp), (Kp.drew w1 []).cell c2 (by simp)⟩)
      have cd := due_any w1.drew b x y cl n (H.out.ck.keep (Kp.drew _ []) (by simp))
      have ce := rdue_any w1.drew c x y cl n (H.out.rk.keep (Kp.drew _ []) (by simp))
      obtain ⟨d, hd⟩ : ∃ d, dueB x y cl n = d := ⟨_, rfl⟩
      rw [hd] at cd ce
      clear hd
      have q5 : (d == d) = true := by simp
      go_region_held_law (fun w2 => w2.cell? ⟨w.heap.size, 1, none⟩ = some (.int .i64 cl) ∧ w2.cell? ⟨w.heap.size, 2, none⟩ = some (.int .i64 n))
        (with_reducible exact CC.out)
        (first
          | (go_at_call 9; refine (num_any _ _).mono ?_; rintro e z3 ⟨rfl, rfl⟩)
          | (go_at_call 18; refine cd.mono ?_; rintro e z1 ⟨rfl, rfl⟩)
          | (go_at_call 29; refine ce.mono ?_; rintro e z1 ⟨rfl, rfl⟩) | fail)
      go_wp2
      go_ret
      exact ⟨rfl, K0.out.trans (Kp.drew _ _)⟩
end Go.Proofs.Ytdkdjbicnaaafaa
