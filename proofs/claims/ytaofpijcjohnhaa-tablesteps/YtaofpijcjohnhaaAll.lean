/- All: the places that are taken, one by one. -/
import Derived.RangeFuncNested
import Derived.RangeFuncBound
import Derived.RangeFuncCalls
import Derived.RangeFuncLeaves
import Derived.RangeFuncBox
import Derived.Shelf.Abstract
import Derived.OwnWalkIn
import Derived.TacticsInMore
import Derived.LoopNIn
import Derived.LoopIn
import Derived.Test.YtaofpijcjohnhaaArr
namespace Go.Proofs.Ytaofpijcjohnhaa
open Go.RowKit Go.Shelf
attribute [local go_sem] Oper.semAt_some

/-- What a round keeps: cells that lie from a block on. -/
structure Kc (D : Nat) (W W' : World) : Prop where
  size : W.heap.size ≤ W'.heap.size
  same : ∀ k c t f, D ≤ k → W.heap[k]? = some (.cells c t f) → W'.heap[k]? = some (.cells c t f)
theorem Kc.refl (D : Nat) (W : World) : Kc D W W := ⟨Nat.le_refl _, fun _ _ _ _ _ h => h⟩
theorem Kc.trans {D : Nat} {A B C : World} (h : Kc D A B) (h' : Kc D B C) : Kc D A C := ⟨Nat.le_trans h.size h'.size, fun k c t f hk ha => h'.same k c t f hk (h.same k c t f hk ha)⟩
theorem Kc.of_kp {D : Nat} {A B : World} {rows : List Nat} (h : Kp A B rows) (hr : ∀ k ∈ rows, k < D) : Kc D A B :=
  ⟨h.size, fun k c t f hk ha => (h.block k (lt_of_block ha) (fun hm => by have := hr k hm; omega)).trans ha⟩
theorem Kp.toGrownNone {w w' : World} (h : Kp w w' []) : w.grownBy w' none := ⟨h.os, h.tape, h.output, h.size, fun k hk _ => h.block k hk (by simp)⟩

theorem index_at (T : Pl) (k : Nat) (hk : k < 16) (w : World) : (Instr.index 53 (.agg (pcl T 16 0).toArray) (.int .i64 k)).run Try.prog w = .ok (.agg #[.bool (T k).1, .int .i64 (T k).2]) w := by
  have h2 : (sizeOf 52).run Try.prog w = .ok 2 w := by kernel_rfl
  have hu : Try.prog.underlying 53 = some (.array 16 52) := Try.underlying53
  have hk' : 0 ≤ (k : Int) ∧ (k : Int) < 16 := by omega
  obtain ⟨e0, e1⟩ := pcl_at T 16 0 k hk
  rw [Nat.zero_add] at e0 e1
  have ht : List.take 2 (List.drop (k * 2) (pcl T 16 0)) = [.bool (T k).1, .int .i64 (T k).2] := by
    apply List.ext_getElem?
    intro j
    match j with
    | 0 => simpa using e0
    | 1 => simpa using e1
    | j + 2 => simp [List.getElem?_take]; omega
  simp [Instr.index, run_underlying hu, asIntOf, hk', h2, go_sem]
  rw [if_pos hk, ht]

set_option maxRecDepth 100000 in
set_option maxHeartbeats 2000000 in
theorem all1_in (n : Nat) (hn : 1 ≤ n) (l D bx : Nat) (p : Option Addr) (T : Pl) (hg : Gd T) (J Jx : List (Nat × Int) → World → Prop) (W : World)
    (harr : Calls Try.prog 28 #[.pointer p] W fun e w' => e = .returned (.agg (pcl T 16 0).toArray) ∧ w' = W.alloc (.cells (pcl T 16 0).toArray 53))
    (hbx : W.cell? ⟨bx, 0, none⟩ = some (.pointer p)) (hJ : AbidesFrom W.heap.size J)
    (hY : ∀ pre x W1, J pre W1 → pre.length < (tkp T 16).length → YieldAt Fence.wide (n - 1) Try.prog l #[.int .i64 (x.1 : Nat), .int .i64 x.2] W1 fun e W' =>
      (e = .returned (.bool true) ∧ J (pre ++ [x]) W' ∧ Kc D W1 W') ∨ (e = .returned (.bool false) ∧ Jx (pre ++ [x]) W'))
    (h0 : J [] W) :
    CallsIn Fence.wide n Try.prog 32 #[.func (.yield l) #[] #[], .pointer (some ⟨bx, 0, none⟩)] W fun e W' => (∃ v, e = .returned v) ∧ ((∃ xs, xs = tkp T 16 ∧ J xs W') ∨ (∃ pre, pre <+: tkp T 16 ∧ Jx pre W')) := by
  have cB := (callsIn_wide (n := n - 1)).2 harr
  have HJ := hid hJ
  have HY := hid hY
  have H0 := hid h0
  have HG := hid hg
  have hf28 : Fence.wide.fn 28 := trivial
  have hf31 : Fence.wide.fn 31 := trivial
  clear hJ hY h0 hg
  refine callsIn_of_wp Try.func32 rfl trivial ?_ rfl
  simp only [Try.ntmps32, List.size_toArray, List.length_cons, List.length_nil, Nat.reduceAdd, Nat.reduceSub, Array.replicate_succ, Array.replicate_zero, List.push_toArray, List.append_toArray, List.nil_append, List.cons_append]
  gi_wp2_with (gi_at_call 28; refine cB.mono ?_; rintro e w1 ⟨rfl, rfl⟩)
  gi_loopw [7] (fun i wr => ∃ k : Nat, k ≤ 16 ∧ i = .int .i64 k ∧ Hid (J (tkp T k) wr))
    (fun i _ => 16 - (intOf i).toNat)
  case atStart => exact ⟨0, Nat.zero_le _, rfl, HJ.out _ _ _ none H0.out (World.grownBy_alloc W _ none) (by simp)⟩
  case round =>
    obtain ⟨k, hk, rfl, hJs⟩ := hrel
    by_cases hlt : k < 16
    · have hltI : (k : Int) < 16 := by omega
      have hix := index_at T k hlt
      have hgk := HG.out k hlt
      cases ht : (T k).1 with
      | false =>
        rw [ht] at hix
        have TK := hid (show tkp T (k + 1) = tkp T k by rw [tkp, if_neg (by simp [ht])])
        gi_wp2
        refine ⟨fun f hf => (by cases hf), ?_⟩
        gi_wp2
        go_roundw
        case rel => exact ⟨k + 1, by omega, by simp, by rw [TK.out]; exact HJ.out _ _ _ none hJs.out (World.grownBy_alloc wr _ none) (by simp)⟩
        case measure => simp [intOf]; omega
      | true =>
        rw [ht] at hix
        have TK := hid (show tkp T (k + 1) = tkp T k ++ [(k, k + 16 * (T k).2)] by rw [tkp, if_pos ht])
        have hJ2 := HJ.out _ _ (wr.alloc (.cells #[.bool true, .int .i64 (T k).2] 52)) none hJs.out (World.grownBy_alloc wr _ none) (by simp)
        have ch := (callsIn_wide (n := n - 1)).2 (handle_any (wr.alloc (.cells #[.bool true, .int .i64 (T k).2] 52)) true (T k).2 k hgk (by omega))
        clear ht
        gi_wp2_with (gi_at_call 31; refine ch.mono ?_; rintro e w1 ⟨rfl, hK⟩; have K1 := hid hK; clear hK)
        have hJ3 := HJ.out _ _ w1 none hJ2 K1.out.toGrownNone (by simp)
        have KA := hid (Kc.of_kp (D := D) K1.out (by simp))
        obtain ⟨fn, tmps, assign, body, hy, hR⟩ := HY.out _ (k, (k : Int) + 16 * (T k).2) _ hJ3 (by
          have h1 := (tkp_le (T := T) (show k + 1 ≤ 16 by omega)).length_le
          rw [TK.out] at h1
          simp at h1
          omega)
        have HR := hid hR
        clear hJ2 hJ3 hR
        gi_wp2
        refine HR.out.mono ?_
        rintro e W3 (⟨rfl, hJ3, hk3⟩ | ⟨rfl, hJx3⟩)
        · have J3 := hid hJ3
          clear hJ3 hk3
          gi_wp2
          go_roundw
          case rel => exact ⟨k + 1, by omega, by simp, by rw [TK.out]; exact J3.out⟩
          case measure => simp [intOf]; omega
        · have JX := hid hJx3
          clear hJx3
          gi_wp2
          refine bodyPost_ret (results_none rfl _ _ _) rfl ?_
          exact ⟨⟨_, rfl⟩, .inr ⟨_, by rw [← TK.out]; exact tkp_le (by omega), JX.out⟩⟩
    · have hltI : ¬ (k : Int) < 16 := by omega
      have hk16 : k = 16 := by omega
      subst hk16
      gi_wp2
      go_end0
      exact ⟨⟨_, rfl⟩, .inl hJs.out⟩

/-- An iterator over what is taken of T, wherever it is called. -/
def Its (w : World) (p : Option Addr) (T : Pl) : Prop :=
  ∀ W bx D, Kp w W [] → W.cell? ⟨bx, 0, none⟩ = some (.pointer p) → D ≤ W.heap.size →
    SeqStopsK Fence.wide 5 Try.prog 32 #[.pointer (some ⟨bx, 0, none⟩)] (fun x : Nat × Int => #[.int .i64 (x.1 : Nat), .int .i64 x.2]) (Kc D) (fun xs => xs = tkp T 16) (fun pre => pre <+: tkp T 16) (tkp T 16).length W
theorem its_table {w : World} {tb : Nat} {n : Int} {T : Pl} (h : Tt w tb n T) (h1 : 1 ≤ n) (hg : Gd T) : Its w (some ⟨tb, 0, none⟩) T :=
  fun _ bx D hk hbx _ l J Jx W' hW hJ _ hY h0 => by
    have hk' : Kp _ W' [] := Kp.of_below hW
    exact all1_in 5 (by decide) l D bx _ T hg J Jx W' (arr_ok W' tb n T ((h.keep hk (by simp)).keep hk' (by simp)) h1) (hk'.cell hbx (by simp)) hJ hY h0
theorem gd0 : Gd T0 := fun _ _ => ⟨Int.le_refl 0, (by decide : (0 : Int) ≤ 1000000)⟩
theorem its_zero {w : World} {p : Option Addr} (h : Zt w p) : Its w p T0 :=
  fun _ bx D hk hbx _ l J Jx W' hW hJ _ hY h0 => by
    have hk' : Kp _ W' [] := Kp.of_below hW
    exact all1_in 5 (by decide) l D bx _ T0 gd0 J Jx W' (arr_zero W' p ((h.keep hk).keep hk')) (hk'.cell hbx (by simp)) hJ hY h0

set_option maxRecDepth 100000 in
theorem all_in (n : Nat) (w : World) (p : Option Addr) : CallsIn Fence.wide n Try.prog 26 #[.pointer p] w fun e w' => e = .returned (.func (.func 32) #[] #[.pointer (some ⟨w.heap.size, 0, none⟩)]) ∧ w' = w.alloc (.cells #[.pointer p] 23) := by
  refine callsIn_wide.2 ?_
  go_enter Try.func26, Try.ntmps26
  go_wp2
  go_ret
  exact ⟨rfl, rfl⟩
end Go.Proofs.Ytaofpijcjohnhaa
