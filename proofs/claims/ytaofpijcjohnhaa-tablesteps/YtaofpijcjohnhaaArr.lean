/- The places as a value: all. -/
import Derived.Test.YtaofpijcjohnhaaChange
namespace Go.Proofs.Ytaofpijcjohnhaa
open Go.RowKit

theorem info53 : (Try.prog.info? 53).map (fun i => (i.zero, i.size)) = some (some (.agg (pcl T0 16 0).toArray), 32) := by kernel_rfl
theorem size53 (T : Pl) : (Try.prog.info? 53).map (·.size) = some (pcl T 16 0).toArray.size := by
  have := (zero_of_info info53).2
  rw [this]
  simp [pcl_length]
theorem size53' (T : Pl) : (Try.prog.info? 53).map (·.size) = some (pcl T 16 0).length := by
  have := (zero_of_info info53).2
  rw [this]
  simp [pcl_length]
theorem one53 (T : Pl) : (pcl T 16 0).toArray.all (·.oneCell') = true := all_oneCell_toArray (pcl_one T 16 0)

variable {P : Program}
theorem wpList_store_new {ops : Array Oper} {rest : List Oper} {op : Oper} {a : Act} {w : World} {Q : Exit → Act → World → Prop} (hgd : op.guard = none) (ty : TypeId) (x y : Operand) (ho : op.op = .store ty x y)
    (t : TypeId) (c c' : Array Value) (hx : a.eval x = .pointer (some ⟨w.heap.size, 0, none⟩)) (hy : a.eval y = .agg c')
    (hi : (P.info? ty).map (·.size) = some c'.size) (hs : c.size = c'.size) (h1 : c'.all (·.oneCell') = true)
    (h : wpList P ops Q rest (a.put op.dst undef) (w.alloc (.cells c' t))) : wpList P ops Q (op :: rest) a (w.alloc (.cells c t)) :=
  wpList_plain hgd fun _ hK => wp_store_row ty x y ho w.heap.size c' hx hy t c (heap_alloc_last w _) hi hs h1 (by rw [World.setRow_alloc_new]; exact hK _ _ h)

set_option maxRecDepth 100000 in
theorem arr_ok (w : World) (tb : Nat) (n : Int) (T : Pl) (h : Tt w tb n T) (h1 : 1 ≤ n) : Calls Try.prog 28 #[.pointer (some ⟨tb, 0, none⟩)] w fun e w' => e = .returned (.agg (pcl T 16 0).toArray) ∧ w' = w.alloc (.cells (pcl T 16 0).toArray 53) := by
  have hA := h.keep (Kp.alloc w (.cells (pcl T0 16 0).toArray 53) []) (by simp)
  have cz := zero_ok _ tb n T hA h1
  have HR := hid hA.range
  have z53 := (zero_of_info info53).1
  clear h hA
  go_enter Try.func28, Try.ntmps28
  go_wp2_with (first | (go_at_call 29; refine cz.mono ?_; rintro e w' ⟨rfl, rfl⟩) | (refine wpList_load_mid rfl 53 (.tmp 8) rfl tb 1 rfl (pcl T 16 0) _ HR.out Try.underlying53 rfl (size53' T) ?_) | (refine wpList_store_new rfl 53 (.tmp 2) (.tmp 9) rfl 53 _ (pcl T 16 0).toArray rfl rfl (size53 T) (by simp [pcl_length]) (one53 T) ?_))
  exact bodyPost_ret (results_cell_row rfl _ _ w.heap.size 53 (pcl T 16 0).toArray (0, 0) _ rfl (heap_alloc_last w _) Try.underlying53 rfl (size53 T)) rfl ⟨rfl, rfl⟩

/-- No table: nil, or a zero one. -/
def Zt (w : World) (p : Option Addr) : Prop := p = none ∨ ∃ tb, p = some ⟨tb, 0, none⟩ ∧ w.cell? ⟨tb, 0, none⟩ = some (.int .i64 0)
theorem Zt.keep {w w' : World} {p : Option Addr} (h : Zt w p) (hk : Kp w w' []) : Zt w' p := by
  rcases h with rfl | ⟨tb, rfl, h⟩
  · exact .inl rfl
  · exact .inr ⟨tb, rfl, hk.cell h (by simp)⟩

set_option maxRecDepth 100000 in
theorem zero_yes (w : World) (p : Option Addr) (h : Zt w p) : Calls Try.prog 29 #[.pointer p] w fun e w' => e = .returned (.bool true) ∧ w' = w := by
  rcases h with rfl | ⟨tb, rfl, c0⟩
  · go_enter Try.func29, Try.ntmps29
    go_wp2
    go_ret
    exact ⟨rfl, rfl⟩
  · go_enter Try.func29, Try.ntmps29
    go_wp2
    go_ret
    exact ⟨rfl, rfl⟩

theorem built53 : Try.prog.built 53 [] = some (pcl T0 16 0).toArray := by kernel_rfl
theorem wpList_build53 {ops : Array Oper} {rest : List Oper} {op : Oper} {a : Act} {w : World} {Q : Exit → Act → World → Prop} (hg : op.guard = none) (ho : op.op = .build 53 #[])
    (h : wpList Try.prog ops Q rest (a.put op.dst (.agg (pcl T0 16 0).toArray)) w) : wpList Try.prog ops Q (op :: rest) a w := by
  refine wpList_build hg 53 #[] ho ?_ ?_
  · simp [built53]
  · simpa [built53] using h

set_option maxRecDepth 100000 in
theorem arr_zero (w : World) (p : Option Addr) (h : Zt w p) : Calls Try.prog 28 #[.pointer p] w fun e w' => e = .returned (.agg (pcl T0 16 0).toArray) ∧ w' = w.alloc (.cells (pcl T0 16 0).toArray 53) := by
  have cz := zero_yes _ p (h.keep (Kp.alloc w (.cells (pcl T0 16 0).toArray 53) []))
  have z53 := (zero_of_info info53).1
  clear h
  go_enter Try.func28, Try.ntmps28
  go_wp2_with (first | (go_at_call 29; refine cz.mono ?_; rintro e w' ⟨rfl, rfl⟩) | (refine wpList_build53 rfl rfl ?_) | (refine wpList_store_new rfl 53 (.tmp 2) (.tmp 5) rfl 53 _ (pcl T0 16 0).toArray rfl rfl (size53 T0) (by simp [pcl_length]) (one53 T0) ?_))
  exact bodyPost_ret (results_cell_row rfl _ _ w.heap.size 53 (pcl T0 16 0).toArray (0, 0) _ rfl (heap_alloc_last w _) Try.underlying53 rfl (size53 T0)) rfl ⟨rfl, rfl⟩

/-! ### What is taken -/
/-- The places that are taken, below k, with their handles. -/
def tkp (T : Pl) : Nat → List (Nat × Int)
  | 0 => []
  | k + 1 => if (T k).1 then tkp T k ++ [(k, k + 16 * (T k).2)] else tkp T k
theorem tkp_prefix (T : Pl) (k m : Nat) : tkp T k <+: tkp T (k + m) := by
  induction m with
  | zero => exact List.prefix_refl _
  | succ m ih =>
    rw [show k + (m + 1) = (k + m) + 1 by omega, tkp]
    split
    · exact ih.trans (List.prefix_append _ _)
    · exact ih
theorem tkp_le {T : Pl} {k m : Nat} (h : k ≤ m) : tkp T k <+: tkp T m := by
  have := tkp_prefix T k (m - k)
  rwa [show k + (m - k) = m by omega] at this
theorem tkp_length (T : Pl) (k : Nat) : (tkp T k).length ≤ k := by
  induction k with
  | zero => simp [tkp]
  | succ k ih =>
    rw [tkp]
    split
    · simp; omega
    · omega
theorem tkp_none {T : Pl} {k : Nat} (h : ∀ i, i < k → (T i).1 = false) : tkp T k = [] := by
  induction k with
  | zero => rfl
  | succ k ih => rw [tkp, if_neg (by simp [h k (by omega)])]; exact ih fun i hi => h i (by omega)
end Go.Proofs.Ytaofpijcjohnhaa
