/- New. -/
import Derived.Test.YtoenipaccnpihaaCy
namespace Go.Proofs.Ytoenipaccnpihaa
open Go.RowKit Go.Shelf Go.Sort Go.Maps
open Go.Lib hiding intOf
attribute [local go_sem] Oper.semAt_some

set_option maxRecDepth 100000 in
theorem new_no (w : World) (k n : Int) (h : ¬ ((1 ≤ k ∧ k ≤ 16) ∧ 1 ≤ n ∧ n ≤ 32)) : Calls Try.prog 7 #[.int .i64 k, .int .i64 n] w fun e w' => e = .returned (.tuple #[.pointer none, .int .i64 2]) ∧ Kp w w' [] := by
  by_cases h1 : k < 1
  · clear h
    go_enter Try.func7, Try.ntmps7
    go_wp2
    go_ret2
    exact ⟨rfl, Kp.refl _ _⟩
  · by_cases h2 : 16 < k
    · clear h
      go_enter Try.func7, Try.ntmps7
      go_wp2
      go_ret2
      exact ⟨rfl, Kp.refl _ _⟩
    · by_cases h3 : n < 1
      · clear h
        go_enter Try.func7, Try.ntmps7
        go_wp2
        go_ret2
        exact ⟨rfl, Kp.refl _ _⟩
      · have h4 : 32 < n := by omega
        clear h
        go_enter Try.func7, Try.ntmps7
        go_wp2
        go_ret2
        exact ⟨rfl, Kp.refl _ _⟩
theorem sc_new (w : World) (T S mb : Nat) : Sc (w.alloc (.cells #[.int .i64 (T : Nat), .int .i64 (S : Nat), .int .u32 0, .int .u32 0, .int .u32 0, .int .u32 0, .int .u32 0, .int .u32 0, .int .u32 0, .int .u32 0, .int .u32 0, .int .u32 0, .int .u32 0, .int .u32 0, .int .u32 0, .int .u32 0, .int .u32 0, .int .u32 0, .int .u32 0, .int .u32 0, .int .u32 0, .int .u32 0, .int .u32 0, .int .u32 0, .int .u32 0, .int .u32 0, .int .u32 0, .int .u32 0, .int .u32 0, .int .u32 0, .int .u32 0, .int .u32 0, .int .u32 0, .int .u32 0, .map (some mb)] 61)) w.heap.size T S (fun _ => 0) (pend []) mb := World.alloc_heap_new w _
theorem sg_new (w : World) (T S : Nat) (h1 : 1 ≤ T) (h2 : T ≤ 16) (h3 : 1 ≤ S) (h4 : S ≤ 32) : Sg ((w.alloc (.map #[] 0)).alloc (.cells #[.int .i64 (T : Nat), .int .i64 (S : Nat), .int .u32 0, .int .u32 0, .int .u32 0, .int .u32 0, .int .u32 0, .int .u32 0, .int .u32 0, .int .u32 0, .int .u32 0, .int .u32 0, .int .u32 0, .int .u32 0, .int .u32 0, .int .u32 0, .int .u32 0, .int .u32 0, .int .u32 0, .int .u32 0, .int .u32 0, .int .u32 0, .int .u32 0, .int .u32 0, .int .u32 0, .int .u32 0, .int .u32 0, .int .u32 0, .int .u32 0, .int .u32 0, .int .u32 0, .int .u32 0, .int .u32 0, .int .u32 0, .map (some w.heap.size)] 61)) (w.heap.size + 1) [w.heap.size + 1, w.heap.size] T S (fun _ => 0) [] := by
  have hc := sc_new (w.alloc (.map #[] 0)) T S w.heap.size
  rw [show (w.alloc (.map #[] 0)).heap.size = w.heap.size + 1 by simp] at hc
  refine ⟨w.heap.size, fun _ _ => 0, fun _ _ => 0, hc, ((mq_made w).keep (Kp.alloc _ _ []) (by simp)).congr (fun t n _ _ => by unfold Fq; rw [if_neg (by simp [q_nil])]), fun t n _ hq => by simp [q_nil] at hq, fun t n _ _ _ hq => by simp [q_nil] at hq, by simp, by simp, fun j hj => ?_, Ok.nil _ _, h1, h2, h3, h4, fun _ => by omega⟩
  simp at hj
  rcases hj with rfl | rfl
  · simp
  · simp; omega
set_option maxRecDepth 100000 in
theorem new_yes (w : World) (T S : Nat) (h1 : 1 ≤ T) (h2 : T ≤ 16) (h3 : 1 ≤ S) (h4 : S ≤ 32) : Calls Try.prog 7 #[.int .i64 T, .int .i64 S] w fun e w' => ∃ sb R, e = .returned (.tuple #[.pointer (some ⟨sb, 0, none⟩), .int .i64 0]) ∧ Sg w' sb R T S (fun _ => 0) [] ∧ (∀ k ∈ R, w.heap.size ≤ k) ∧ Kp w w' [] := by
  have a1 : (1 : Int) ≤ T := by omega
  have a2 : (T : Int) ≤ 16 := by omega
  have a3 : (1 : Int) ≤ S := by omega
  have a4 : (S : Int) ≤ 32 := by omega
  have H0 := hid (sg_new w T S h1 h2 h3 h4)
  have hmm := @run_makeMap Try.prog
  go_enter Try.func7, Try.ntmps7
  go_wp2
  go_ret2
  exact ⟨w.heap.size + 1, rfl, _, H0.out, by simp, (Kp.alloc _ _ _).trans (Kp.alloc _ _ _)⟩
end Go.Proofs.Ytoenipaccnpihaa
