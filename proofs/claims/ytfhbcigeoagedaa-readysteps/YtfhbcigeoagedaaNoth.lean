/- nothing: what the law asks of no list. -/
import Derived.Test.YtfhbcigeoagedaaRd
namespace Go.Proofs.Ytfhbcigeoagedaa
open Go.RowKit Go.Shelf
attribute [local go_sem] Oper.semAt_some

theorem fn_not_nil (b : Nat) (W : World) : (binOp .eql 66 (.func (.func 42) #[] #[.pointer (some ⟨b, 0, none⟩)]) .nilFunc).run Try.prog W = .ok (.bool false) W := by kernel_rfl
theorem sameC0 : sameC cz cz = true := by rw [sameC_iff]; intros; rfl

set_option maxRecDepth 100000 in
set_option maxHeartbeats 4000000 in
theorem nothing_any (w : World) (p : Option Addr) (h : Zr w p) : Calls Try.prog 22 #[.pointer p] w fun e w' => e = .returned (.bool true) ∧ Kp w w' [] := by
  refine (callsIn_wide (n := 6)).1 ?_
  have h1 : 1 ≤ 6 := by decide
  have hnn := fn_not_nil
  have A1 := hid ((Kp.alloc w (.cells #[.bool false] 4) []).trans (Kp.alloc _ (.cells #[.pointer p] 23) []))
  have Z0 := hid h
  have z1 := h.keep (Kp.alloc w (.cells #[.bool false] 4) [])
  have cf := zfirst _ p z1
  have cp := zprio _ p 0 z1
  have ca := all_any (w.alloc (.cells #[.bool false] 4)) p
  clear h z1
  refine callsIn_of_wp_marks Try.func22 rfl trivial ?_ rfl
  simp only [Try.ntmps22, List.size_toArray, List.length_cons, List.length_nil, Nat.reduceAdd, Nat.reduceSub, Array.replicate_succ, Array.replicate_zero, List.push_toArray, List.append_toArray, List.nil_append, List.cons_append]
  refine wpIn_wide.2 ?_
  go_wp2_with (first | (go_at_call 14; refine cf.mono ?_; rintro e w1 ⟨rfl, rfl⟩) | (go_at_call 15; refine cp.mono ?_; rintro e w1 ⟨rfl, rfl⟩) | (go_at_call 30; refine ca.mono ?_; rintro e w1 ⟨rfl, rfl⟩))
  simp only [World.size_alloc] at *
  obtain ⟨W0, hW0⟩ : ∃ W0, (w.alloc (.cells #[.bool false] 4)).alloc (.cells #[.pointer p] 23) = W0 := ⟨_, rfl⟩
  have hsz : W0.heap.size = w.heap.size + 2 := by rw [← hW0]; simp
  have hbx : W0.heap[w.heap.size + 1]? = some (.cells #[.pointer p] 23 (0, 0)) := by rw [← hW0]; exact cell_new1
  have hs0 : W0.heap[w.heap.size]? = some (.cells #[.bool false] 4 (0, 0)) := by
    rw [← hW0, Below.heap_alloc _ _ _ (by simp)]; exact heap_alloc_new w _
  rw [hW0] at A1 ⊢
  clear ca cf cp hW0
  have hS := (zvw Z0.out).all 5 (by decide) W0 (w.heap.size + 1) W0.heap.size A1.out hbx (Nat.le_refl _)
  rw [seqs0] at hS
  refine (wpIn_wide (n := 6)).1 ?_
  refine range_seqs (K := Kc W0.heap.size) h1 (gf := 42) (lb := #[.pointer (some ⟨w.heap.size + 1, 0, none⟩)]) rfl (enters_of Try.func42 (by kernel_rfl) rfl)
    hS Kc.trans (kc_put _) (Below.refl _ _) (fun _ => rfl)
    (fun pre W => W.heap[w.heap.size]? = some (.cells #[.bool false] 4 (0, 0)) ∧ Below w.heap.size w W)
    (fun _ _ _ => False)
    (OwnFrom.and (fun s A B row hs hg hr => cells_kept hs hg hr) (ownFrom_below (Nat.le_refl _) (by omega)))
    (fun _ _ _ _ _ hs _ _ => hs)
    ⟨hs0, A1.out.below⟩
    (fun _ => { tmps := #[], defers := [] })
    ?assign ?body ?done ?stop
  case assign =>
    intro l x W K hx
    cases hx
  case body =>
    rintro l pre x W hpre
    have := hpre.length_le
    simp at this
  case done =>
    rintro D W hD ⟨hi1, hi2⟩ hK
    have u1 := cell_one hi1
    have f1 := free_one hi1
    have hk := Kp.of_below hi2
    have zW := Z0.out.keep hk
    have HI1 := hid hi1
    have HZ := hid zW
    have HK := hid hK
    have HI2 := hid hi2
    clear hK hi2 hi1 zW hk hS
    go_wp2_with fail
    refine (ztail W p 1 1 HZ.out).mono ?_
    rintro e w1 ⟨rfl, k1⟩
    have K1 := hid k1
    have Z1 := hid (HZ.out.keep k1)
    clear k1
    go_wp2_with fail
    refine (num_any w1 1).mono ?_
    rintro e w1' ⟨rfl, rfl⟩
    go_wp2_with fail
    refine (zhead w1' p 1 1 Z1.out).mono ?_
    rintro e w2 ⟨rfl, k2⟩
    have K2 := hid (K1.out.trans k2)
    have Z2 := hid (Z1.out.keep k2)
    clear k2
    go_wp2_with fail
    refine (num_any w2 1).mono ?_
    rintro e w2' ⟨rfl, rfl⟩
    go_wp2_with fail
    refine (zremove w2' p 1 Z2.out).mono ?_
    rintro e w3 ⟨rfl, rfl⟩
    go_wp2_with fail
    refine (num_any w3 1).mono ?_
    rintro e w3' ⟨rfl, rfl⟩
    go_wp2_with fail
    refine (zlist w3' p Z2.out).mono ?_
    rintro e w4 ⟨rfl, k4⟩
    have K4 := hid (K2.out.trans k4)
    have Z4 := hid (Z2.out.keep k4)
    clear k4
    go_wp2_with fail
    refine (zlen w4 p Z4.out).mono ?_
    rintro e w5 ⟨rfl, k5⟩
    have K5 := hid (K4.out.trans k5)
    have Z5 := hid (Z4.out.keep k5)
    clear k5
    go_wp2_with fail
    refine (zsteps w5 p Z5.out).mono ?_
    rintro e w6 ⟨rfl, rfl⟩
    go_wp2_with fail
    refine (zcopy w6 p Z5.out).mono ?_
    rintro e w7 ⟨rfl, rfl⟩
    go_wp2_with fail
    refine (same_any w7 p none cz cz _ _ (zvw Z5.out) (zvw (.inl rfl))).mono ?_
    rintro e w8 ⟨rfl, k8⟩
    have K8 := hid (K5.out.trans k8)
    have b8 := hid ((K8.out.block w.heap.size (lt_of_block HI1.out) (by simp)).trans HI1.out)
    have u8 := cell_one b8.out
    have f8 := free_one b8.out
    clear k8
    rw [sameC0]
    go_wp2
    have r2 := set_one (x := .bool true) b8.out
    have kD := (K8.out.block D (lt_of_block HK.out) (by simp)).trans HK.out
    have hne : D ≠ w.heap.size := by omega
    have k2 := (Below.heap_setCell w8 ⟨w.heap.size, 0, none⟩ (.bool true) D hne).trans kD
    refine ⟨by simp, .inl ⟨_, _, rfl, run_takeDeferred k2, ?_⟩⟩
    have hcell := cell_one ((World.putObj_heap_other (o := .deferred none) (Ne.symm hne)).trans r2)
    refine ⟨.bool true, by simp [results, Try.results22, go_sem, hcell], rfl, ?_⟩
    have hk := ((Kp.of_below HI2.out).trans K8.out).past (Kp.setCell w8 ⟨w.heap.size, 0, none⟩ (.bool true)) (by intro k hk hlt; simp at hk; omega)
    exact ⟨hk.os, hk.tape, hk.output, by have := hk.size; simp [World.putObj] at this ⊢; exact this, fun k hk' _ => (World.putObj_heap_other (by omega)).trans (hk.block k hk' (by simp))⟩
  case stop =>
    rintro D cc pre W _ _ hx _
    exact hx.elim
end Go.Proofs.Ytfhbcigeoagedaa
