/- nothing: what the law asks of no table. -/
import Derived.Test.YtaofpijcjohnhaaZero
namespace Go.Proofs.Ytaofpijcjohnhaa
open Go.RowKit Go.Shelf
attribute [local go_sem] Oper.semAt_some

theorem fn_not_nil (b : Nat) (W : World) : (binOp .eql 66 (.func (.func 32) #[] #[.pointer (some ⟨b, 0, none⟩)]) .nilFunc).run Try.prog W = .ok (.bool false) W := by kernel_rfl

theorem sameT0 : sameT T0 T0 = true := by rw [sameT_iff]; intros; rfl

set_option maxRecDepth 100000 in
set_option maxHeartbeats 4000000 in
theorem nothing_any (w : World) (p : Option Addr) (h : Zt w p) : Calls Try.prog 20 #[.pointer p] w fun e w' => e = .returned (.bool true) ∧ Kp w w' [] := by
  refine (callsIn_wide (n := 6)).1 ?_
  have h1 : 1 ≤ 6 := by decide
  have hf26 : Fence.wide.fn 26 := trivial
  have hf17 : Fence.wide.fn 17 := trivial
  have hf12 : Fence.wide.fn 12 := trivial
  have hf21 : Fence.wide.fn 21 := trivial
  have hf18 : Fence.wide.fn 18 := trivial
  have hf27 : Fence.wide.fn 27 := trivial
  have hf19 : Fence.wide.fn 19 := trivial
  have hf24 : Fence.wide.fn 24 := trivial
  have hf15 : Fence.wide.fn 15 := trivial
  have hf9 : Fence.wide.fn 9 := trivial
  have hnn := fn_not_nil
  have A1 := hid ((Kp.alloc w (.cells #[.bool false] 4) []).trans (Kp.alloc _ (.cells #[.pointer p] 23) []))
  have Z0 := hid h
  have z1 := h.keep (Kp.alloc w (.cells #[.bool false] 4) [])
  have ca := (callsIn_wide (n := 5)).2 (zadd _ p z1)
  have ct := (callsIn_wide (n := 5)).2 (zat _ p z1)
  have co := (callsIn_wide (n := 5)).2 (zof _ p z1)
  clear h z1
  refine callsIn_of_wp_marks Try.func20 rfl trivial ?_ rfl
  simp only [Try.ntmps20, List.size_toArray, List.length_cons, List.length_nil, Nat.reduceAdd, Nat.reduceSub, Array.replicate_succ, Array.replicate_zero, List.push_toArray, List.append_toArray, List.nil_append, List.cons_append]
  gi_wp2_with fail
  refine ca.mono ?_
  rintro e w1 ⟨rfl, rfl⟩
  gi_wp2_with fail
  refine ct.mono ?_
  rintro e w1 ⟨rfl, rfl⟩
  gi_wp2_with fail
  refine co.mono ?_
  rintro e w1 ⟨rfl, rfl⟩
  gi_wp2_with (gi_at_call 26; refine (all_in _ _ _).mono ?_; rintro e w' ⟨rfl, rfl⟩)
  obtain ⟨W0, hW0⟩ : ∃ W0, (w.alloc (.cells #[.bool false] 4)).alloc (.cells #[.pointer p] 23) = W0 := ⟨_, rfl⟩
  have hsz : W0.heap.size = w.heap.size + 2 := by rw [← hW0]; simp
  have hbx : W0.cell? ⟨w.heap.size + 1, 0, none⟩ = some (.pointer p) := by rw [← hW0]; exact cell_new1
  have hs0 : W0.heap[w.heap.size]? = some (.cells #[.bool false] 4 (0, 0)) := by
    rw [← hW0, Below.heap_alloc _ _ _ (by simp)]; exact heap_alloc_new w _
  rw [hW0] at A1 ⊢
  clear ca ct co hW0
  refine wpIn_rangeFunc_ownH rfl h1 (gf := 32) (lb := #[.pointer (some ⟨w.heap.size + 1, 0, none⟩)]) rfl trivial (enters_of Try.func32 (by kernel_rfl) rfl)
    (its_zero Z0.out W0 (w.heap.size + 1) W0.heap.size A1.out hbx (Nat.le_refl _)) Kc.trans (fun W l o o' _ h hc _ => kc_put _ W l o o' h hc) (Below.refl _ _) (fun _ => rfl)
    (fun pre W => W.heap[w.heap.size]? = some (.cells #[.bool false] 4 (0, 0)) ∧ Below w.heap.size w W)
    (fun _ _ _ => False)
    (OwnFrom.and (fun s A B row hs hg hr => cells_kept hs hg hr) (ownFrom_below (Nat.le_refl _) (by omega)))
    (fun _ _ _ _ _ hs _ _ => hs)
    ⟨hs0, A1.out.below⟩
    (fun x a' W => True)
    (fun x a' s A B row hs hg hr => hs)
    ?assign ?body ?done ?stop
  case assign =>
    rintro l pre x W K ⟨hi1, hi2⟩ hK
    have HK := hid hK
    clear hK
    gi_wp2
    exact HK.out _ _ ((KeepsOthers.refl _).from _) (Kc.refl _ _) ⟨hi1, hi2⟩ trivial
  case body =>
    rintro l pre x a' W hlw ⟨rr, hrr⟩ ⟨hi1, hi2⟩ _ hpre
    rw [tkp0] at hpre
    simp at hpre
  case done =>
    rintro D ys W hD - ⟨hi1, hi2⟩ hK
    have u1 := cell_one hi1
    have f1 := free_one hi1
    have hk := Kp.of_below hi2
    have zW := Z0.out.keep hk
    have cd := (callsIn_wide (n := 5)).2 (zdrop W p 16 zW)
    have cp := (callsIn_wide (n := 5)).2 (places_vw W p 0 T0 (.inr ⟨zW, rfl, rfl⟩))
    have cl := (callsIn_wide (n := 5)).2 (zlen W p zW)
    have HI1 := hid hi1
    have HZ := hid zW
    have HK := hid hK
    have HI2 := hid hi2
    clear hK hi2 hi1 zW hk
    gi_wp2_with fail
    refine ((callsIn_wide (n := 5)).2 (num_any W 1)).mono ?_
    rintro e w1 ⟨rfl, rfl⟩
    gi_wp2_with fail
    refine cd.mono ?_
    rintro e w1 ⟨rfl, rfl⟩
    gi_wp2_with fail
    refine ((callsIn_wide (n := 5)).2 (num_any w1 1)).mono ?_
    rintro e w1 ⟨rfl, rfl⟩
    gi_wp2_with fail
    refine cp.mono ?_
    rintro e w1 ⟨rfl, rfl⟩
    gi_wp2_with fail
    refine cl.mono ?_
    rintro e w2 ⟨rfl, hK2⟩
    have K2 := hid hK2
    have Z2 := hid (HZ.out.keep hK2)
    clear hK2 cd cp cl
    gi_wp2_with fail
    refine ((callsIn_wide (n := 5)).2 (zcopy w2 p Z2.out)).mono ?_
    rintro e w3 ⟨rfl, rfl⟩
    gi_wp2_with fail
    refine ((callsIn_wide (n := 5)).2 (same_any w3 p none 0 0 T0 T0 (.inr ⟨Z2.out, rfl, rfl⟩) (.inr ⟨.inl rfl, rfl, rfl⟩))).mono ?_
    rintro e w4 ⟨rfl, hK4⟩
    have K4 := hid (K2.out.trans hK4)
    have b4 := hid ((K4.out.block w.heap.size (lt_of_block HI1.out) (by simp)).trans HI1.out)
    have u4 := cell_one b4.out
    have f4 := free_one b4.out
    clear hK4
    rw [sameT0]
    gi_wp2
    have r2 := set_one (x := .bool true) b4.out
    have kD := (K4.out.block D (lt_of_block HK.out) (by simp)).trans HK.out
    have hne : D ≠ w.heap.size := by omega
    have k2 := (Below.heap_setCell w4 ⟨w.heap.size, 0, none⟩ (.bool true) D hne).trans kD
    refine ⟨by simp, .inl ⟨_, _, rfl, run_takeDeferred k2, ?_⟩⟩
    have hcell := cell_one ((World.putObj_heap_other (o := .deferred none) (Ne.symm hne)).trans r2)
    refine ⟨.bool true, by simp [results, Try.results20, go_sem, hcell], rfl, ?_⟩
    have hk := ((Kp.of_below HI2.out).trans K4.out).past (Kp.setCell w4 ⟨w.heap.size, 0, none⟩ (.bool true)) (by intro k hk hlt; simp at hk; omega)
    exact ⟨hk.os, hk.tape, hk.output, by have := hk.size; simp [World.putObj] at this ⊢; exact this, fun k hk' _ => (World.putObj_heap_other (by omega)).trans (hk.block k hk' (by simp))⟩
  case stop =>
    rintro D cc pre W _ _ hx _
    exact hx.elim
end Go.Proofs.Ytaofpijcjohnhaa
