/- wire.Number and the reference's Number write the digits to the base 128. -/
import Derived.Test.YtnnjfhgdimcieaaBase
namespace Go.Proofs.Ytnnjfhgdimcieaa
open Go.RowKit

set_option maxRecDepth 100000 in
set_option maxHeartbeats 400000 in
theorem number_any (n : Nat) (w : World) (hn : n < 18446744073709551616) :
    Calls Try.prog 9 #[.int .u64 n] w fun e w' => ∃ v, e = .returned v ∧ w'.ownsRow w.heap.size 5 1 v (num n).length (ub (num n)) ∧ w.grownBy w' none := by
  obtain ⟨i0, hi, hz0, hz1, hz2⟩ := info_parts Try.info5
  have Hn : Hid (n < 18446744073709551616) := hn
  clear hn
  go_enter Try.func9, Try.ntmps9
  go_wp2
  go_loopw [0, 3] (fun m v wr => ∃ (k : Nat) (pre : List Int) (f : Nat), m = .int .u64 k ∧ wr.ownsRow w.heap.size 5 1 v pre.length (ub pre) ∧ Hid (pre ++ digs f k = num n) ∧ pre.length + f = 9 ∧ Hid (k < 128 ^ (f + 1)) ∧ w.grownBy wr none)
    (fun m _ _ => (intOf m).toNat)
  case atStart => exact ⟨n, [], 9, rfl, World.ownsRow_nil _ _ _ _, rfl, rfl, Nat.lt_trans Hn.out (by decide), World.grownBy.refl _ _⟩
  case round =>
    obtain ⟨k, pre, f, rfl, hown, hpre, hlen, hk, hg⟩ := hrel
    have hgs := hg.size
    by_cases hc : 128 ≤ k
    · have hc' : (128 : Int) ≤ (k : Int) := by omega
      go_wp2_with (at_builtin; refine wpList_append_own _ rfl _ _ 23 rfl w.heap.size 5 i0 (.int .u8 0) 1 1 Try.underlying23 hi hz0 hz1 hz2 rfl (by decide) _ _ _ rfl (hown.alloc _) ⟨wr.heap.size, 0, none⟩ 1 1 [.int .u8 ((k : Int) % 128 + 128)] rfl rfl (cell_one_new _ _ _) (one_one _ _) (by unfold maxLen; omega) (by omega) (by simp; omega) ?_)
      intro v' w1 hown' hgrow _
      obtain ⟨g, rfl, hpre', hlen', hk'⟩ := digs_step hc hk.out hpre.out hlen
      have hg' := grown_step hg hown hgrow
      have Hp := hid hpre'
      have Hk := hid hk'
      clear hown hpre' hk' hpre hk hlen hg hgrow
      go_wp2
      go_roundw
      case rel => exact ⟨k / 128, _, g, by go_num, by simpa [ub] using hown', Hp.out, hlen', Hk.out, hg'⟩
      case measure => simp [intOf]; omega
    · have hc' : (k : Int) < 128 := by omega
      go_wp2_with (at_builtin; refine wpList_append_own _ rfl _ _ 23 rfl w.heap.size 5 i0 (.int .u8 0) 1 1 Try.underlying23 hi hz0 hz1 hz2 rfl (by decide) _ _ _ rfl (hown.alloc _) ⟨wr.heap.size, 0, none⟩ 1 1 [.int .u8 (k : Int)] rfl rfl (cell_one_new _ _ _) (one_one _ _) (by unfold maxLen; omega) (by omega) (by simp; omega) ?_)
      intro v' w1 hown' hgrow _
      have hg' := grown_step hg hown hgrow
      have hl := digs_last hc hpre.out
      have Hl := hid hl
      clear hown hg hgrow hl
      go_wp2
      go_ret
      exact ⟨_, rfl, by rw [← Hl.out]; simpa [ub] using hown', hg'⟩
set_option maxRecDepth 100000 in
set_option maxHeartbeats 400000 in
theorem rnumber_any (n : Nat) (w : World) (hn : n < 18446744073709551616) :
    Calls Try.prog 12 #[.int .u64 n] w fun e w' => ∃ v, e = .returned v ∧ w'.ownsRow w.heap.size 5 1 v (num n).length (ub (num n)) ∧ w.grownBy w' none := by
  obtain ⟨i0, hi, hz0, hz1, hz2⟩ := info_parts Try.info5
  have Hn : Hid (n < 18446744073709551616) := hn
  clear hn
  go_enter Try.func12, Try.ntmps12
  go_wp2
  go_loopw [0, 3] (fun m v wr => ∃ (k : Nat) (pre : List Int) (f : Nat), m = .int .u64 k ∧ wr.ownsRow w.heap.size 5 1 v pre.length (ub pre) ∧ Hid (pre ++ digs f k = num n) ∧ pre.length + f = 9 ∧ Hid (k < 128 ^ (f + 1)) ∧ w.grownBy wr none ∧ Hid ((k : Int) ≤ 18446744073709551615))
    (fun m _ _ => (intOf m).toNat)
  case atStart => exact ⟨n, [], 9, rfl, World.ownsRow_nil _ _ _ _, rfl, rfl, Nat.lt_trans Hn.out (by decide), World.grownBy.refl _ _, by have := Hn.out; show (n : Int) ≤ 18446744073709551615; omega⟩
  case round =>
    obtain ⟨k, pre, f, rfl, hown, hpre, hlen, hk, hg, hb⟩ := hrel
    have hkb : (k : Int) / 128 ≤ 18446744073709551615 := by have := hb.out; omega
    have hgs := hg.size
    by_cases hc : 128 ≤ k
    · have hc' : (128 : Int) ≤ (k : Int) := by omega
      go_wp2_with (at_builtin; refine wpList_append_own _ rfl _ _ 23 rfl w.heap.size 5 i0 (.int .u8 0) 1 1 Try.underlying23 hi hz0 hz1 hz2 rfl (by decide) _ _ _ rfl (hown.alloc _) ⟨wr.heap.size, 0, none⟩ 1 1 [.int .u8 ((k : Int) % 128 + 128)] rfl rfl (cell_one_new _ _ _) (one_one _ _) (by unfold maxLen; omega) (by omega) (by simp; omega) ?_)
      intro v' w1 hown' hgrow _
      obtain ⟨g, rfl, hpre', hlen', hk'⟩ := digs_step hc hk.out hpre.out hlen
      have hg' := grown_step hg hown hgrow
      have Hp := hid hpre'
      have Hk := hid hk'
      clear hown hpre' hk' hpre hk hlen hg hgrow
      go_wp2
      go_roundw
      case rel => exact ⟨k / 128, _, g, by go_num, by simpa [ub] using hown', Hp.out, hlen', Hk.out, hg', by show ((k / 128 : Nat) : Int) ≤ 18446744073709551615; omega⟩
      case measure => simp [intOf]; omega
    · have hc' : (k : Int) < 128 := by omega
      go_wp2_with (at_builtin; refine wpList_append_own _ rfl _ _ 23 rfl w.heap.size 5 i0 (.int .u8 0) 1 1 Try.underlying23 hi hz0 hz1 hz2 rfl (by decide) _ _ _ rfl (hown.alloc _) ⟨wr.heap.size, 0, none⟩ 1 1 [.int .u8 (k : Int)] rfl rfl (cell_one_new _ _ _) (one_one _ _) (by unfold maxLen; omega) (by omega) (by simp; omega) ?_)
      intro v' w1 hown' hgrow _
      have hg' := grown_step hg hown hgrow
      have hl := digs_last hc hpre.out
      have Hl := hid hl
      clear hown hg hgrow hl
      go_wp2
      go_ret
      exact ⟨_, rfl, by rw [← Hl.out]; simpa [ub] using hown', hg'⟩
end Go.Proofs.Ytnnjfhgdimcieaa
