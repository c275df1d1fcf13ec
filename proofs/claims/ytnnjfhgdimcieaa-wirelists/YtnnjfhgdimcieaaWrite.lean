/- wire.Bytes and the reference Bytes and Signed write the forms. -/
import Derived.Test.YtnnjfhgdimcieaaJoin
namespace Go.Proofs.Ytnnjfhgdimcieaa
open Go.RowKit

/-- The form of bytes. -/
def byt (l : List Int) : List Int := num l.length ++ l

theorem Bs.grown {w w' : World} {v : Value} {l : List Int} (h : Bs w v l) (hg : w.grownBy w' none) : Bs w' v l := by
  by_cases hl : l = []
  · subst hl
    obtain ⟨ao, cap, rfl, a, b, c⟩ := h
    exact ⟨ao, cap, rfl, a, b, fun h => absurd rfl h⟩
  · exact h.keep fun k hk => hg.block k (h.lt hl k hk) (by simp)

theorem ls_two {w : World} {v1 v2 : Value} {l1 l2 : List Int} (h1 : Bs w v1 l1) (h2 : Bs w v2 l2) :
    Ls (w.alloc (.cells #[v1, v2] 23)) (.slice (some ⟨w.heap.size, 0, none⟩) 2 2) [l1, l2] := by
  have hn := heap_alloc_new w (.cells #[v1, v2] 23)
  refine ⟨_, _, [v1, v2], rfl, rfl, by simp, fun _ => ⟨_, 0, rfl, fun i hi => ?_⟩, fun i hi => ?_⟩
  · match i, hi with
    | 0, _ => exact cell_two0 hn
    | 1, _ => exact cell_two1 hn
  · match i, hi with
    | 0, _ => exact h1.grown (World.grownBy_alloc _ _ _)
    | 1, _ => exact h2.grown (World.grownBy_alloc _ _ _)

theorem num_le (n : Nat) : (num n).length ≤ 10 := digs_le 9 n

set_option maxRecDepth 100000 in
set_option maxHeartbeats 400000 in
theorem bytes_any (w : World) (v : Value) (l : List Int) (h : Bs w v l) (hm : l.length ≤ 140737488355318) :
    Calls Try.prog 8 #[v] w fun e w' => ∃ v', e = .returned v' ∧ w'.ownsRow w.heap.size 5 1 v' (byt l).length (ub (byt l)) ∧ w.grownBy w' none := by
  have H := hid h
  have HM := hid hm
  obtain ⟨F, hF⟩ : ∃ F, F = byt l := ⟨_, rfl⟩
  rw [← hF]
  have HF := hid hF
  obtain ⟨ao, cap, rfl, -, -, -⟩ := h
  have hlen : (l.length : Int) ≤ 140737488355318 := by omega
  clear hm hF
  go_enter Try.func8, Try.ntmps8
  go_wp2_with fail
  refine (number_any l.length w (by omega)).mono ?_
  rintro e w1 ⟨v1, rfl, hown, hg⟩
  obtain ⟨ao1, cap1, rfl⟩ := owns_shape hown
  have HL := hid (ls_two (Bs.of_owns hown) (H.out.grown hg))
  have HG := hid hg
  clear hown hg
  go_wp2_with fail
  refine (join_any _ _ _ HL.out (by have := num_le l.length; have := HM.out; simp; omega) (by simp)).mono ?_
  rintro e w2 ⟨v', rfl, hown, hg2⟩
  have HO := hid hown
  have HG2 := hid hg2
  clear hown hg2
  go_wp2
  go_ret
  have := HO.out
  simp only [List.flatten_cons, List.flatten_nil, List.append_nil] at this
  refine ⟨_, rfl, ?_, grownBy_trans (grownBy_trans HG.out (World.grownBy_alloc _ _ _)) HG2.out⟩
  rw [HF.out]
  exact owns_base this (by have := HG.out.size; simp; omega)

set_option maxRecDepth 100000 in
set_option maxHeartbeats 400000 in
theorem rbytes_any (w : World) (v : Value) (l : List Int) (h : Bs w v l) (hm : l.length ≤ 140737488355318) :
    Calls Try.prog 11 #[v] w fun e w' => ∃ v', e = .returned v' ∧ w'.ownsRow w.heap.size 5 1 v' (byt l).length (ub (byt l)) ∧ w.grownBy w' none := by
  obtain ⟨i0, hi, hz0, hz1, hz2⟩ := info_parts Try.info5
  have H := hid h
  have HM := hid hm
  obtain ⟨F, hF⟩ : ∃ F, F = byt l := ⟨_, rfl⟩
  rw [← hF]
  have HF := hid hF
  obtain ⟨ao, cap, rfl, hl, hn, -⟩ := h
  have hlen : (l.length : Int) ≤ 140737488355318 := by omega
  clear hm hF
  go_enter Try.func11, Try.ntmps11
  go_wp2_with fail
  refine (rnumber_any l.length w (by omega)).mono ?_
  rintro e w1 ⟨v1, rfl, hown, hg⟩
  have HB := hid (H.out.grown hg)
  cases ao with
  | none =>
    obtain rfl : cap = 0 := hn rfl
    have hl0 : l = [] := List.eq_nil_of_length_eq_zero (by omega)
    subst hl0
    simp only [List.length_nil]
    go_wp2_with (at_builtin; refine wpList_append_own_none rfl _ _ 23 rfl w.heap.size 5 i0 1 Try.underlying23 hi _ _ _ rfl hown rfl ?_)
    go_ret
    exact ⟨_, rfl, by rw [HF.out]; simpa [byt] using hown, hg⟩
  | some a =>
    have hnl := num_le l.length
    go_wp2_with (at_builtin; refine wpList_append_own _ rfl _ _ 23 rfl w.heap.size 5 i0 (.int .u8 0) 1 1 Try.underlying23 hi hz0 hz1 hz2 rfl (by decide) _ _ _ rfl hown a l.length cap (ub l) rfl (by simp [ub]) (HB.out.cells rfl fun _ _ => rfl) (ub_one l) (by have := HM.out; unfold maxLen; omega) (by have := HM.out; omega) hg.size ?_)
    intro v' w2 hown' hgrow _
    have hg' := hid (grown_same hg hown hgrow)
    have HO := hid hown'
    clear hown hg hgrow hown'
    go_wp2
    go_ret
    exact ⟨_, rfl, by rw [HF.out]; simpa [byt, ub] using HO.out, hg'.out⟩

set_option maxRecDepth 100000 in
theorem rsigned_any (n : Int) (w : World) (h0 : -9223372036854775808 ≤ n) (h1 : n ≤ 9223372036854775807) :
    Calls Try.prog 14 #[.int .i64 n] w fun e w' => ∃ v, e = .returned v ∧ w'.ownsRow w.heap.size 5 1 v (num (fold n)).length (ub (num (fold n))) ∧ w.grownBy w' none := by
  obtain ⟨k, hk⟩ : ∃ k, k = fold n := ⟨_, rfl⟩
  rw [← hk]
  have hk' : k < 18446744073709551616 := by rw [hk]; unfold fold; split <;> omega
  by_cases hn : n < 0
  · have hke : (k : Int) = -2 * n - 1 := by rw [hk]; unfold fold; rw [if_pos hn]; omega
    have HK := hid hke
    have HK' := hid hk'
    clear hk hk' hke
    go_enter Try.func14, Try.ntmps14
    go_wp2_with (go_at_call 37; go_in)
    rw [show 2 * -(n + 1) + 1 = (k : Int) by rw [HK.out]; omega]
    refine (rnumber_any k w HK'.out).mono ?_
    rintro e w1 ⟨v, rfl, hown, hg⟩
    have HO := hid hown
    have HG := hid hg
    clear hown hg
    go_wp2
    go_ret
    exact ⟨_, rfl, HO.out, HG.out⟩
  · have hke : (k : Int) = n * 2 := by rw [hk]; unfold fold; rw [if_neg hn]; omega
    have HK := hid hke
    have HK' := hid hk'
    clear hk hk' hke
    go_enter Try.func14, Try.ntmps14
    go_wp2_with (go_at_call 37; go_in)
    rw [show 2 * n = (k : Int) by rw [HK.out]; omega]
    refine (rnumber_any k w HK'.out).mono ?_
    rintro e w1 ⟨v, rfl, hown, hg⟩
    have HO := hid hown
    have HG := hid hg
    clear hown hg
    go_wp2
    go_ret
    exact ⟨_, rfl, HO.out, HG.out⟩
end Go.Proofs.Ytnnjfhgdimcieaa
