/- arena.New: an arena of noughts, or none. -/
import Derived.Test.YtihlejphjdelfaaBase
namespace Go.Proofs.Ytihlejphjdelfaa
open Go.RowKit

/-- A size that may be. -/
def Good (n : Int) : Prop := 256 ≤ n ∧ n ≤ 65536 ∧ n % 8 = 0

set_option maxRecDepth 100000 in
theorem new_no (w : World) (n : Int) (h : ¬ Good n) : Calls Try.prog 7 #[.int .i64 n] w fun e w' => e = .returned (.tuple #[.pointer none, .int .i64 2]) ∧ w' = w := by
  unfold Good at h
  by_cases h1 : n < 256
  · clear h
    go_enter Try.func7, Try.ntmps7
    go_wp2
    go_ret2
    exact ⟨rfl, rfl⟩
  · by_cases h2 : 65536 < n
    · clear h
      go_enter Try.func7, Try.ntmps7
      go_wp2
      go_ret2
      exact ⟨rfl, rfl⟩
    · have h4 : (n % 8 != 0) = true := by simp [bne]; omega
      clear h
      go_enter Try.func7, Try.ntmps7
      go_wp2
      go_ret2
      exact ⟨rfl, rfl⟩

theorem ar_made {w w1 : World} {n : Nat} (hown : w1.ownsRow w.heap.size 5 1 (.slice (some ⟨w.heap.size, 0, none⟩) n n) n (madeCells (Value.int .u8 0).cells (n * 1)).toList) :
    Ar (w1.alloc (.cells #[.slice (some ⟨w.heap.size, 0, none⟩) n n, .int .i64 0] 56)) w1.heap.size w.heap.size n (fun _ => 0) 0 := by
  have e : (madeCells (Value.int .u8 0).cells (n * 1)).toList = List.replicate n (.int .u8 0) := by
    rw [Nat.mul_one]; exact toList_madeCells_one _ _
  rw [e] at hown
  rcases hown.2 with ⟨hc, -⟩ | ⟨g, cap, cur, hv, hb, hg, hnc, hcm, hcs, htake⟩
  · simp at hc
  · simp only [Value.slice.injEq, Option.some.injEq, Addr.mk.injEq, and_true, true_and] at hv
    obtain ⟨rfl, rfl⟩ := hv
    have hlt := lt_of_block hg
    refine ⟨n, cur, heap_alloc_new w1 _, (Below.heap_alloc w1 _ _ hlt).trans hg, Nat.le_refl _, by omega, hcm, fun i hi => ⟨?_, Int.le_refl 0, (by show (0 : Int) < 256; decide)⟩⟩
    have : (cur.toList.take (n * 1))[i]? = some (.int .u8 0) := by rw [htake]; simp [hi]
    rw [List.getElem?_take_of_lt (by omega)] at this
    simpa using this

set_option maxRecDepth 100000 in
theorem new_ok (w : World) (n : Nat) (h : Good n) : Calls Try.prog 7 #[.int .i64 n] w fun e w' => ∃ rb mb, e = .returned (.tuple #[.pointer (some ⟨rb, 0, none⟩), .int .i64 0]) ∧ Ar w' rb mb n (fun _ => 0) 0 ∧ w.heap.size ≤ rb ∧ w.heap.size ≤ mb ∧ Kp w w' [] := by
  obtain ⟨i0, hi, hz0, hz1, hz2⟩ := info_parts Try.info5
  unfold Good at h
  have h4 : ((n : Int) % 8 != 0) = false := by rw [h.2.2]; rfl
  have h1 : (256 : Int) ≤ n := h.1
  have h2 : (n : Int) ≤ 65536 := h.2.1
  clear h
  go_enter Try.func7, Try.ntmps7
  go_wp2_with (refine wpList_make_full _ rfl _ _ 36 rfl w.heap.size 5 i0 (.int .u8 0) 1 Try.underlying36 hi hz0 hz1 .i64 .i64 n n n rfl rfl rfl rfl (by rw [hz2]; omega) (by unfold maxLen; omega) (Nat.le_refl _) ?_; intro w1 hown hg)
  go_ret2
  exact ⟨_, _, rfl, ar_made hown, hg.size, Nat.le_refl _, (Kp.grown hg).trans (Kp.alloc _ _ _)⟩
end Go.Proofs.Ytihlejphjdelfaa
