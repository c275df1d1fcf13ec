/- Of signals that are not there. -/
import Derived.Test.YtoenipaccnpihaaClr
import Derived.Test.YtoenipaccnpihaaMarks
namespace Go.Proofs.Ytoenipaccnpihaa
open Go.RowKit Go.Shelf Go.Sort Go.Maps
open Go.Lib hiding intOf
attribute [local go_sem] Oper.semAt_some

theorem fn_not_nil3 (a b : Nat) (W : World) : (binOp .eql 74 (itv a b) .nilFunc).run Try.prog W = .ok (.bool false) W := by kernel_rfl
set_option maxRecDepth 100000 in
set_option maxHeartbeats 4000000 in
theorem nothing_any (w : World) (p : Option Addr) (h : Zs w p) : Calls Try.prog 21 #[.pointer p] w fun e w' => e = .returned (.bool true) ∧ Kp w w' [] := by
  have HZ := hid h
  clear h
  refine (callsIn_wide (n := 6)).1 ?_
  have h1 : 1 ≤ 6 := by decide
  refine callsIn_of_wp_marks Try.func21 rfl trivial ?_ rfl
  simp only [Try.ntmps21, List.size_toArray, List.length_cons, List.length_nil, Nat.reduceAdd, Nat.reduceSub, Array.replicate_succ, Array.replicate_zero, List.push_toArray, List.append_toArray, List.nil_append, List.cons_append]
  refine wpIn_wide.2 ?_
  go_wp2_with fail
  obtain ⟨W0, hW0⟩ : ∃ W0, w.alloc (.cells #[.bool false] 4) = W0 := ⟨_, rfl⟩
  have hb : W0.heap[w.heap.size]? = some (.cells #[.bool false] 4 (0, 0)) := by rw [← hW0]; exact heap_alloc_new w _
  have k0 : Kp w W0 [] := by rw [← hW0]; exact Kp.alloc _ _ _
  try rw [hW0]
  clear hW0
  have HB := hid hb
  have K0 := hid (Kp.refl W0 [])
  have HK := hid k0
  have HZ := hid (HZ.out.keep k0)
  obtain ⟨rb, hrb⟩ : ∃ rb, w.heap.size = rb := ⟨_, rfl⟩
  have HRB := hid hrb
  rw [hrb] at HB
  simp only [hrb]
  clear hb k0 hrb
  refine (setmask_zero _ p 0 _ HZ.out).mono ?_
  rintro e w1 ⟨rfl, hw⟩; obtain rfl := hw.symm
  go_wp2_with fail
  have hV := peek_zero W0 p 0 4294967295 (by decide) HZ.out
  unfold Sv at hV
  refine hV.mono ?_
  rintro e w1 ⟨rfl, hk⟩
  have K1 := hid (hk.trans (Kp.alloc w1 (.cells #[.int .i64 0, .int .i64 0] 47) []))
  clear hk hV
  go_wp2_with fail
  have hV := next_zero _ p 0 4294967295 (by decide) (HZ.out.keep K1.out)
  unfold Sv at hV
  refine hV.mono ?_
  rintro e w2 ⟨rfl, hk⟩
  have K2 := hid ((K1.out.trans hk).trans (Kp.alloc w2 (.cells #[.int .i64 0, .int .i64 0] 47) []))
  clear hk hV K1
  go_wp2_with fail
  refine (clear_zero _ p 0 (HZ.out.keep K2.out)).mono ?_
  rintro e w3 ⟨rfl, hk⟩
  have K3 := hid (K2.out.trans hk)
  clear hk K2
  go_wp2_with fail
  refine (all_any w3 p 0).mono ?_
  rintro e w4 ⟨rfl, hw4⟩
  have HI := hid (show It w4 w3.heap.size (w3.heap.size + 1) p 0 by rw [hw4]; exact It.new _ _ _)
  have K4 := hid (K3.out.trans (show Kp w3 w4 [] from by rw [hw4]; exact (Kp.alloc _ _ _).trans (Kp.alloc _ _ _)))
  clear hw4 K3
  have hnn := fn_not_nil3
  go_wp2_with fail
  have HSQ := it_zero 5 (by decide) _ _ p 0 w4 HI.out (HZ.out.keep K4.out)
  refine (wpIn_wide (n := 6)).1 ?_
  refine range_seqs (K := Kc w4.heap.size (w3.heap.size + 1)) h1 (gf := 51) (lb := #[.pointer (some ⟨w3.heap.size, 0, none⟩), .pointer (some ⟨w3.heap.size + 1, 0, none⟩)]) rfl (enters_of Try.func51 (by kernel_rfl) rfl)
    HSQ Kc.trans (kc_put _ _) (kc_alloc _ _) (Below.refl _ _) (fun _ => rfl)
    (fun _ V => Kp w4 V [])
    (fun _ _ _ => False)
    (fun s A C hs hl => hl.kp hs (Nat.le_refl _))
    (fun cc s A B row hs hg hr => hs)
    (Kp.refl _ _)
    (fun d => .cells #[.int .i64 (d.1 : Nat), .int .i64 d.2] 47)
    (fun d b => { tmps := #[], defers := [] })
    ?assign ?body ?done ?stop
  case assign =>
    intro l d W K hd
    cases hd
  case body =>
    intro l pre d b W hpre
    simp at hpre
  case stop =>
    rintro E cc pre W hE hpre hf hK
    exact hf.elim
  case done =>
    rintro E W hE hI hK
    have hs := HI.out
    have K5 := hid (K4.out.trans hI)
    have HL := hid (show Live w4.heap.size W [E] from ⟨by simpa using hK, by simp, by simpa using hE⟩)
    have HLW := hid (show Kp w4 W [] from hI)
    clear hI hK HSQ hs
    gi_wp2
    go_wp2_with fail
    refine (send_zero _ p 0 1 1 (HZ.out.keep K5.out)).mono ?_
    rintro e y1 ⟨rfl, hk⟩
    have HL := hid (show Live w4.heap.size y1 [E] from ⟨by intro D hD; simp at hD; subst hD; exact (hk.block _ (lt_of_block (HL.out.1 D (by simp))) (by simp)).trans (HL.out.1 D (by simp)), HL.out.2⟩)
    have HLW := hid (HLW.out.trans hk)
    have K5 := hid (K5.out.trans hk)
    clear hk
    go_wp2_with fail
    refine (num_any _ 1).mono ?_
    rintro e y2 ⟨rfl, hw⟩; obtain rfl := hw.symm
    go_wp2_with fail
    refine (num_any _ 1).mono ?_
    rintro e y3 ⟨rfl, hw⟩; obtain rfl := hw.symm
    go_wp2_with fail
    refine (num_any _ 1).mono ?_
    rintro e y4 ⟨rfl, hw⟩; obtain rfl := hw.symm
    go_wp2_with fail
    refine (mask_zero _ p 0 (HZ.out.keep K5.out)).mono ?_
    rintro e y5 ⟨rfl, hw⟩; obtain rfl := hw.symm
    go_wp2_with fail
    refine (pending_zero _ p 0 (HZ.out.keep K5.out)).mono ?_
    rintro e y6 ⟨rfl, hw⟩; obtain rfl := hw.symm
    go_wp2_with fail
    refine (open_zero _ p 0 (HZ.out.keep K5.out)).mono ?_
    rintro e y7 ⟨rfl, hw⟩; obtain rfl := hw.symm
    go_wp2_with fail
    refine (used_zero _ p (HZ.out.keep K5.out)).mono ?_
    rintro e y8 ⟨rfl, hk⟩
    have HL := hid (show Live w4.heap.size y8 [E] from ⟨by intro D hD; simp at hD; subst hD; exact (hk.block _ (lt_of_block (HL.out.1 D (by simp))) (by simp)).trans (HL.out.1 D (by simp)), HL.out.2⟩)
    have HLW := hid (HLW.out.trans hk)
    have K5 := hid (K5.out.trans hk)
    clear hk
    go_wp2_with fail
    refine (copy_zero _ p (HZ.out.keep K5.out)).mono ?_
    rintro e y9 ⟨rfl, hk⟩
    have HL := hid (show Live w4.heap.size y9 [E] from ⟨by intro D hD; simp at hD; subst hD; exact (hk.block _ (lt_of_block (HL.out.1 D (by simp))) (by simp)).trans (HL.out.1 D (by simp)), HL.out.2⟩)
    have HLW := hid (HLW.out.trans hk)
    have K5 := hid (K5.out.trans hk)
    clear hk
    go_wp2_with fail
    refine (same_none _ p none (HZ.out.keep K5.out) (.inl rfl)).mono ?_
    rintro e y10 ⟨rfl, hk⟩
    have HL := hid (show Live w4.heap.size y10 [E] from ⟨by intro D hD; simp at hD; subst hD; exact (hk.block _ (lt_of_block (HL.out.1 D (by simp))) (by simp)).trans (HL.out.1 D (by simp)), HL.out.2⟩)
    have HLW := hid (HLW.out.trans hk)
    have K5 := hid (K5.out.trans hk)
    clear hk
    have B6 := hid ((K5.out.block _ (lt_of_block HB.out) (by simp)).trans HB.out)
    have c6 := cell_one B6.out
    have f6 := free_one B6.out
    go_wp2
    refine leaves_marks [E] _ (HL.out.set B6.out (.bool true)) ?_
    have KZ := kp_shutR (rows := [rb]) [E] _ (HL.out.set B6.out (.bool true)) (w := W0) (by have := K4.out.size; omega) (K5.out.past' (Kp.setCell y10 ⟨rb, 0, none⟩ (.bool true)))
    have KW : Kp w (shut (y10.setCell ⟨rb, 0, none⟩ (.bool true)) [E]) [] := HK.out.past KZ (by intro k hk hl; have := HRB.out; simp at hk; omega)
    have hcell := cell_one (shut_cells [E] _ (HL.out.set B6.out (.bool true)) (set_one (x := .bool true) B6.out))
    exact ⟨.bool true, by simp [results, Try.results21, go_sem, hcell], rfl, KW⟩
end Go.Proofs.Ytoenipaccnpihaa
