/- New. -/
import Derived.Test.YtclbphnelfacfaaLook
namespace Go.Proofs.Ytclbphnelfacfaa
open Go.RowKit

def cz : Nat → Nat := fun _ => 0
/-- The first k rings are laid. -/
def cn (k : Nat) : Nat → Nat := fun x => if x < k then x else if 48 ≤ x ∧ x < 48 + k then x - 48 else 0
theorem cn_step (k : Nat) (hk : k < 48) : upd (upd (cn k) k k) (48 + k) k = cn (k + 1) := by
  funext x
  unfold upd cn
  repeat' split
  all_goals omega
theorem cn_zero : cn 0 = cz := by
  funext x
  unfold cn cz
  rw [if_neg (by omega), if_neg (by omega)]
theorem cn_full : cn 48 = c0 := by
  funext x
  unfold cn c0
  repeat' split
  all_goals omega
theorem info58 : (Try.prog.info? 80).map (fun i => (i.zero, i.size)) = some (some (.agg (rcs cz 0 0)), 114) := by kernel_rfl
theorem rcs_size (c : Nat → Nat) (u s : Nat) : (rcs c u s).size = 114 := by simp [rcs, rcl, icl_length]
theorem size58 (c : Nat → Nat) (u s : Nat) : (Try.prog.info? 80).map (·.size) = some (rcs c u s).size := by
  rw [(zero_of_info info58).2, rcs_size]
theorem one58 (c : Nat → Nat) (u s : Nat) : (rcs c u s).all (·.oneCell') = true := all_oneCell_toArray (fun v hv => by
  unfold rcl at hv
  rcases List.mem_append.1 hv with hv | hv
  · exact icl_one c 112 0 v hv
  · simp at hv
    rcases hv with rfl | rfl <;> rfl)
theorem built58 : Try.prog.built 80 [] = some (rcs cz 0 0) := by kernel_rfl
theorem wpList_build58 {ops : Array Oper} {rest : List Oper} {op : Oper} {a : Act} {w : World} {Q : Exit → Act → World → Prop} (hg : op.guard = none) (ho : op.op = .build 80 #[])
    (h : wpList Try.prog ops Q rest (a.put op.dst (.agg (rcs cz 0 0))) w) : wpList Try.prog ops Q (op :: rest) a w := by
  refine wpList_build hg 80 #[] ho ?_ ?_
  · simp [built58]
  · simpa [built58] using h

set_option maxRecDepth 100000 in
set_option maxHeartbeats 1000000 in
theorem new_ok (w : World) : Calls Try.prog 33 #[] w fun e w' => e = .returned (.pointer (some ⟨w.heap.size, 0, none⟩)) ∧ Rr w' w.heap.size c0 0 0 ∧ Kp w w' [] := by
  go_enter Try.func33, Try.ntmps33
  go_wp2_with (first | (refine wpList_build58 rfl rfl ?_))
  have R0 := hid (show Rr (w.alloc (.cells (rcs cz 0 0) 80)) w.heap.size (cn 0) 0 0 by rw [cn_zero]; exact heap_alloc_new w _)
  have K0 := hid (Kp.alloc w (.cells (rcs cz 0 0) 80) [])
  obtain ⟨rb, hrb⟩ : ∃ rb, rb = w.heap.size := ⟨_, rfl⟩
  rw [← hrb] at R0 ⊢
  have HB := hid hrb
  clear hrb
  go_loopw [5] (fun i wr => ∃ k : Nat, k ≤ 48 ∧ i = .int .i64 k ∧ Hid (Rr wr rb (cn k) 0 0) ∧ Hid (Kp w wr []))
    (fun i _ => 48 - (intOf i).toNat)
  case atStart => exact ⟨0, Nat.zero_le _, rfl, R0, K0⟩
  case round =>
    obtain ⟨k, hk, rfl, hR, hK⟩ := hrel
    by_cases hlt : k < 48
    · have f1 := hR.out.free k
      have f2 := hR.out.free (48 + k)
      have cb := hR.out.link k (by omega)
      have ca := hR.out.link (48 + k) (by omega)
      go_wp2
      go_region
      go_wp2
      go_roundw
      case rel =>
        refine ⟨k + 1, by omega, by simp, ?_, ?_⟩
        · have := (hR.out.setLink k k (by omega)).setLink (48 + k) k (by omega)
          rw [cn_step k hlt] at this
          exact this
        · exact (hK.out.past (((Kp.setCell wr ⟨rb, k, none⟩ _).trans (Kp.setCell _ ⟨rb, 48 + k, none⟩ _)).trans (Kp.drew _ _)) (by intro x hx hl; simp at hx; have := HB.out; omega))
      case measure => simp [intOf]; omega
    · have hk48 : k = 48 := by omega
      subst hk48
      go_wp2
      go_ret
      refine ⟨by rw [← HB.out]; rfl, ?_, hK.out⟩
      rw [← cn_full, ← HB.out]; exact hR.out
end Go.Proofs.Ytclbphnelfacfaa
