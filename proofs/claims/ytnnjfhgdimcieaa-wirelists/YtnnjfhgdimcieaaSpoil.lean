/- metronomelaw01.spoil writes the row of what it is handed, and new ones, alone. -/
import Derived.Test.YtnnjfhgdimcieaaSigns
namespace Go.Proofs.Ytnnjfhgdimcieaa
open Go.RowKit

/-- Written is the row of v alone, or rows that are new. -/
def Mine (w : World) (v v' : Value) : Prop := v'.ownBlock = v.ownBlock ∨ ∀ k, v'.ownBlock = some k → w.heap.size ≤ k

theorem grown_mine {w wr w1 : World} {v v' : Value} (hg : w.grownBy wr v.ownBlock) (hm : Mine w v v') (hgrow : wr.grownBy w1 v'.ownBlock) : w.grownBy w1 v.ownBlock := by
  refine ⟨hgrow.os.trans hg.os, hgrow.tape.trans hg.tape, hgrow.output.trans hg.output, Nat.le_trans hg.size hgrow.size, fun k hk hr => ?_⟩
  have h1 := hg.size
  rw [hgrow.block k (by omega) (fun e => ?_), hg.block k hk hr]
  rcases hm with h | h
  · exact hr (e.trans h)
  · have := h k e.symm
    omega

theorem mine_next {w wr : World} {v v' v'' : Value} {row : Option Nat} (hm : Mine w v v') (hg : w.grownBy wr row) (h : v''.ownBlock = v'.ownBlock ∨ v''.ownBlock = some (wr.heap.size + 1)) : Mine w v v'' := by
  rcases h with h | h
  · rcases hm with hm | hm
    · exact .inl (h.trans hm)
    · exact .inr fun k hk => hm k (h.symm.trans hk)
  · refine .inr fun k hk => ?_
    rw [h] at hk
    cases hk
    have := hg.size
    omega

set_option maxRecDepth 100000 in
set_option maxHeartbeats 1000000 in
theorem spoil_any (w : World) (v : Value) (base n : Nat) (xs : List Value) (h : w.ownsRow base 5 1 v n xs) (hn : n ≤ 140737488355319) (hb : base ≤ w.heap.size) :
    Calls Try.prog 17 #[v] w fun e w' => e = .returned (.tuple #[]) ∧ w.grownBy w' v.ownBlock := by
  obtain ⟨i0, hi, hz0, hz1, hz2⟩ := info_parts Try.info5
  obtain ⟨ao, cap, rfl⟩ := owns_shape h
  obtain ⟨O, hO⟩ : ∃ O, O = (Value.slice ao n cap).ownBlock := ⟨_, rfl⟩
  have HO := hid hO
  rw [← hO]
  have H := hid h
  have hnI : (n : Int) ≤ 140737488355319 := by omega
  clear h hO
  go_enter Try.func17, Try.ntmps17
  go_wp2
  go_loopw [2] (fun i wr => ∃ k : Nat, k ≤ n ∧ i = .int .i64 k ∧ Hid (∃ ys, wr.ownsRow base 5 1 (.slice ao n cap) n ys) ∧ Hid (w.grownBy wr O))
    (fun i _ => n - (intOf i).toNat)
  case atStart => exact ⟨0, Nat.zero_le _, rfl, ⟨xs, H.out⟩, World.grownBy.refl _ _⟩
  case round =>
    obtain ⟨k, hk, rfl, hown, hg⟩ := hrel
    by_cases hlt : k < n
    · obtain ⟨ys, hys⟩ := hown.out
      have hlt' : (k : Int) < (n : Int) := by omega
      rcases hys.2 with ⟨hv, hn0⟩ | ⟨g, cap', cur, hv, hbg, hgg, hnc, hcm, hcs, htake⟩
      · omega
      · simp only [Value.slice.injEq, true_and] at hv
        obtain ⟨rfl, rfl⟩ := hv
        have hcl := hys.cellAt k (by omega)
        have hyl : k < ys.length := by have := hys.1; omega
        rw [List.getElem?_eq_getElem hyl] at hcl
        have hfr := hys.frozenAt k
        have hst := hys.stored k (.int .u8 90)
        have HS1 := hid hst.1
        have HS2 := hid hst.2
        clear hst hys hgg htake hcs hcm hown
        go_wp2
        go_roundw
        case rel => exact ⟨k + 1, by omega, by go_num, ⟨_, HS1.out⟩, grownBy_trans hg.out (by rw [HO.out]; exact HS2.out)⟩
        case measure => simp [intOf]; omega
    · have hlt' : ¬ (k : Int) < (n : Int) := by omega
      go_wp2
      go_loopw [0, 3] (fun b i wr' => ∃ (j : Nat), j ≤ 9 ∧ i = .int .i64 j ∧ Hid (∃ ys, wr'.ownsRow base 5 1 b (n + j) ys) ∧ Hid (Mine w (.slice ao n cap) b) ∧ Hid (w.grownBy wr' O))
        (fun _ i _ => 9 - (intOf i).toNat)
      case atStart => exact ⟨0, by omega, rfl, hown.out, .inl rfl, hg.out⟩
      case round =>
        obtain ⟨j, hj, rfl, hown2, hmine, hg2⟩ := hrel
        by_cases hj9 : j < 9
        · have hj9' : (j : Int) < 9 := by omega
          obtain ⟨ys, hys⟩ := hown2.out
          clear hown hg hown2
          go_wp2_with (at_builtin; refine wpList_append_own_at _ rfl _ _ 23 rfl base 5 i0 (.int .u8 0) 1 1 Try.underlying23 hi hz0 hz1 hz2 rfl (by decide) _ _ _ rfl (hys.alloc _) ⟨_, 0, none⟩ 1 1 [.int .u8 91] rfl rfl (cell_one_new _ _ _) (one_one _ _) (by unfold maxLen; omega) (by omega) (by have := hg2.out.size; simp; omega) ?_)
          intro v' w1 hown' hgrow _ hat
          have hg3 := hid (grown_mine (v := .slice ao n cap) (by rw [← HO.out]; exact grownBy_trans hg2.out (grownBy_mono (World.grownBy_alloc _ _ none))) hmine.out hgrow)
          have hm3 := hid (mine_next hmine.out hg2.out hat)
          have HO' := hid hown'
          clear hown' hgrow hat hys hg2 hmine
          go_wp2
          go_roundw
          case rel => exact ⟨j + 1, by omega, by go_num, ⟨_, HO'.out⟩, hm3.out, by rw [HO.out]; exact hg3.out⟩
          case measure => simp [intOf]; omega
        · have hj9' : ¬ (j : Int) < 9 := by omega
          go_wp2
          go_end0
          exact ⟨rfl, hg2.out⟩
end Go.Proofs.Ytnnjfhgdimcieaa
