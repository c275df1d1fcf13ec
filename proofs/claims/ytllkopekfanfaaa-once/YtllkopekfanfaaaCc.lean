/- Copy, New. -/
import Derived.BigQuiet
import Derived.Deep.RegionHeldLaw
import Derived.Deep.RegionWith
import Derived.Test.YtllkopekfanfaaaRcJ
namespace Go.Proofs.Ytllkopekfanfaaa
open Go.RowKit Go.Shelf Go.Lib Go.Sort Go.Maps
attribute [local go_sem] Oper.semAt_some

variable {w w' : World} {qb mb a b : Nat} {V : Value} {Ra Rb R : List Nat} {M : Qs}
set_option maxRecDepth 100000 in
theorem qcopy_no (w : World) (p : Option Addr) (h : Zq w p) : Calls Try.prog 24 #[.pointer p] w fun e w' => e = .returned (.pointer none) ∧ Kp w w' [] := by
  have HZ := hid (zeroQ_yes w p h)
  clear h
  go_enter Try.func24, Try.ntmps24
  go_wp2_with fail
  refine HZ.out.mono ?_
  rintro e w1 ⟨rfl, hw⟩; obtain rfl := hw.symm
  go_wp2
  go_ret
  exact ⟨rfl, Kp.refl _ _⟩
set_option maxRecDepth 100000 in
theorem new_bad (w : World) (n : Int) (h : ¬ (1 ≤ n ∧ n ≤ 32)) : Calls Try.prog 7 #[.int .i64 n] w fun e w' => e = .returned (.tuple #[.pointer none, .int .i64 2]) ∧ Kp w w' [] := by
  by_cases h1 : n < 1
  · clear h
    go_enter Try.func7, Try.ntmps7
    go_wp2
    go_ret2
    exact ⟨rfl, Kp.refl _ _⟩
  · have h2 : 32 < n := by omega
    clear h
    go_enter Try.func7, Try.ntmps7
    go_wp2
    go_ret2
    exact ⟨rfl, Kp.refl _ _⟩
theorem wnew_any (w : World) : Calls Try.prog 27 #[] w fun e w' => ∃ wb R, e = .returned (.pointer (some ⟨wb, 0, none⟩)) ∧ Wr w' wb R [] ∧ (∀ k ∈ R, w.heap.size ≤ k) ∧ Kp w w' [] := by
  refine (new_any w).mono ?_
  rintro e w' ⟨wb, pb, rfl, h, h1, h2, hk⟩
  refine ⟨wb, _, rfl, ⟨pb, _, rfl, h⟩, fun k hm => ?_, hk⟩
  simp [rows, Value.ownBlock] at hm
  rcases hm with rfl | rfl
  · exact h1
  · exact h2
set_option maxRecDepth 100000 in
theorem new_ok (w : World) (n : Int) (h1 : 1 ≤ n) (h2 : n ≤ 32) : Calls Try.prog 7 #[.int .i64 n] w fun e w' => (∃ qb R, e = .returned (.tuple #[.pointer (some ⟨qb, 0, none⟩), .int .i64 0]) ∧ Qc w' qb R (newQ n) ∧ ∀ k ∈ R, w.heap.size ≤ k) ∧ Kp w w' [] := by
  have hmm := @run_makeMap Try.prog
  have hn1 : ¬ n < 1 := by omega
  have hn2 : ¬ 32 < n := by omega
  have HN := hid (And.intro h1 h2)
  have ka := Kp.alloc w (.map #[] 0) []
  have HM := hid (And.intro (mm_made w) ka)
  clear h1 h2 ka
  go_enter Try.func7, Try.ntmps7
  go_wp2_with fail
  refine (wnew_any _).mono ?_
  rintro e w1 ⟨wb1, R1, rfl, hw1, hf1, hk1⟩
  have H1 := hid (And.intro hw1 (And.intro hf1 hk1))
  clear hw1 hf1 hk1
  go_wp2_with fail
  refine (wnew_any _).mono ?_
  rintro e w2 ⟨wb2, R2, rfl, hw2, hf2, hk2⟩
  have H2 := hid (And.intro hw2 (And.intro hf2 hk2))
  clear hw2 hf2 hk2
  go_wp2
  go_ret2
  have kb := Kp.alloc w2 (.cells (qcells n (.slice none 0 0) w.heap.size wb1 wb2) 64) []
  have hs0 : (w.alloc (.map #[] 0)).heap.size = w.heap.size + 1 := by simp
  have hs1 := H1.out.2.2.size
  have hs2 := H2.out.2.2.size
  have hf1 : ∀ k ∈ R1, w.heap.size + 1 ≤ k ∧ k < w1.heap.size := fun k hk => ⟨by have := H1.out.2.1 k hk; omega, H1.out.1.lt k hk⟩
  have hf2 : ∀ k ∈ R2, w1.heap.size ≤ k ∧ k < w2.heap.size := fun k hk => ⟨H2.out.2.1 k hk, H2.out.1.lt k hk⟩
  refine ⟨⟨w2.heap.size, qrows w2.heap.size w.heap.size (.slice none 0 0) R1 R2, rfl, ⟨w.heap.size, wb1, wb2, _, R1, R2, rfl, ⟨heap_alloc_new w2 _, Mr.nil _ _, ((HM.out.1.keep H1.out.2.2 (by simp)).keep H2.out.2.2 (by simp)).keep kb (by simp), (H1.out.1.same H2.out.2.2).same kb, H2.out.1.same kb, fun hm => by have := hf1 _ hm; omega, fun hm => by have := hf2 _ hm; omega, fun k h1 h2 => by have := hf1 _ h1; have := hf2 _ h2; omega, HN.out.1, HN.out.2, by show ((([] : Ml).length : Nat) : Int) ≤ n; have := HN.out.1; simp; omega⟩⟩, fun k hk => ?_⟩, ((HM.out.2.trans H1.out.2.2).trans H2.out.2.2).trans kb⟩
  simp only [List.mem_cons, List.mem_append, Option.mem_toList] at hk
  rcases hk with rfl | rfl | hk | hk | hk
  · omega
  · omega
  · simp [Value.ownBlock] at hk
  · have := hf1 _ hk
    omega
  · have := hf2 _ hk
    omega
set_option maxRecDepth 100000 in
set_option maxHeartbeats 4000000 in
theorem qcopy_yes (h : Qc w qb R M) : Calls Try.prog 24 #[.pointer (some ⟨qb, 0, none⟩)] w fun e w' => ∃ cb R', e = .returned (.pointer (some ⟨cb, 0, none⟩)) ∧ Qc w' cb R' M ∧ (∀ k ∈ R', w.heap.size ≤ k) ∧ Kp w w' [] := by
  have HZ := hid (zeroQ_no w qb R M h)
  obtain ⟨mb, a, b, V, Ra, Rb, rfl, h⟩ := h
  have hlen : M.L.length ≤ 32 := by have := h.len; have := h.hi; omega
  have HST := hid (fun (z : World) (hk : Kp w z []) => (show z.cell? ⟨qb, 0, none⟩ = some (.int .i64 M.n) ∧ z.cell? ⟨qb, 1, none⟩ = some V ∧ z.cell? ⟨qb, 2, none⟩ = some (.map (some mb)) ∧ z.cell? ⟨qb, 3, none⟩ = some (.pointer (some ⟨a, 0, none⟩)) ∧ z.cell? ⟨qb, 4, none⟩ = some (.pointer (some ⟨b, 0, none⟩)) from ⟨(h.same hk).c0, (h.same hk).c1, (h.same hk).c2, (h.same hk).c3, (h.same hk).c4⟩))
  have H1 := hid (fun (z : World) (hk : Kp w z []) => clm_any z V M.L (h.same hk).ms (by omega))
  have H2 := hid (fun (z : World) (hk : Kp w z []) => mmclone_any z mb M.f (h.same hk).mp)
  have H3 := hid (fun (z : World) (hk : Kp w z []) => (h.same hk).wa.copy)
  have H4 := hid (fun (z : World) (hk : Kp w z []) => (h.same hk).wb.copy)
  have HI := hid h
  obtain ⟨ao, cap, rfl⟩ := h.ms.slice
  obtain ⟨n, hn⟩ : ∃ n, M.n = n := ⟨_, rfl⟩
  obtain ⟨N, hN⟩ : ∃ N, M.L.length = N := ⟨_, rfl⟩
  rw [hn, hN] at HST
  rw [hN] at H1
  clear h
  go_enter Try.func24, Try.ntmps24
  go_wp2_with fail
  refine HZ.out.mono ?_
  rintro e w1 ⟨rfl, hw⟩; obtain rfl := hw.symm
  go_wp2_with fail
  have K0 := hid (Kp.drew w [])
  rename_i QQ KK hKK
  refine wp_region_held_drew (S := fun W : World => W.cell? ⟨qb, 0, none⟩ = some (.int .i64 n) ∧ W.cell? ⟨qb, 1, none⟩ = some (.slice ao N cap) ∧ W.cell? ⟨qb, 2, none⟩ = some (.map (some mb)) ∧ W.cell? ⟨qb, 3, none⟩ = some (.pointer (some ⟨a, 0, none⟩)) ∧ W.cell? ⟨qb, 4, none⟩ = some (.pointer (some ⟨b, 0, none⟩))) (by kernel_rfl) (HST.out _ K0.out) (fun hHeld => ?_)
  refine wpAnyH_take (i := 0) (v := .pointer (some ⟨qb, 0, none⟩)) rfl (by kernel_rfl) (by kernel_rfl) (by kernel_rfl) (fun _ _ _ h => h) (Or.inl ⟨by kernel_rfl, fun w _ => by kernel_rfl⟩) hHeld ?_
  refine wpAnyH_take (i := 1) (v := .pointer (some ⟨qb, 0, none⟩)) rfl (by kernel_rfl) (by kernel_rfl) (by kernel_rfl) (fun _ _ _ h => h) (Or.inl ⟨by kernel_rfl, fun w _ => by kernel_rfl⟩) hHeld ?_
  refine wpAnyH_take (i := 2) (v := .pointer (some ⟨qb, 0, none⟩)) rfl (by kernel_rfl) (by kernel_rfl) (by kernel_rfl) (fun _ _ _ h => h) (Or.inl ⟨by kernel_rfl, fun w _ => by kernel_rfl⟩) hHeld ?_
  refine wpAnyH_take (i := 3) (v := .int .i64 n) rfl (by kernel_rfl) (by kernel_rfl) (by kernel_rfl) (fun _ _ _ h => h) (Or.inl ⟨by kernel_rfl, by intro w hSw; obtain ⟨s0, s1, s2, s3, s4⟩ := hSw; go_simp⟩) hHeld ?_
  refine wpAnyH_take (i := 4) (v := .pointer (some ⟨qb, 0, none⟩)) rfl (by kernel_rfl) (by kernel_rfl) (by kernel_rfl) (fun _ _ _ h => h) (Or.inl ⟨by kernel_rfl, fun w _ => by kernel_rfl⟩) hHeld ?_
  refine wpAnyH_take (i := 5) (v := .pointer (some ⟨qb, 0, none⟩)) rfl (by kernel_rfl) (by kernel_rfl) (by kernel_rfl) (fun _ _ _ h => h) (Or.inl ⟨by kernel_rfl, fun w _ => by kernel_rfl⟩) hHeld ?_
  refine wpAnyH_take (i := 6) (v := .pointer (some ⟨qb, 1, none⟩)) rfl (by kernel_rfl) (by kernel_rfl) (by kernel_rfl) (fun _ _ _ h => h) (Or.inl ⟨by kernel_rfl, fun w _ => by kernel_rfl⟩) hHeld ?_
  refine wpAnyH_take (i := 7) (v := .slice ao N cap) rfl (by kernel_rfl) (by kernel_rfl) (by kernel_rfl) (fun _ _ _ h => h) (Or.inl ⟨by kernel_rfl, by intro w hSw; obtain ⟨s0, s1, s2, s3, s4⟩ := hSw; go_simp⟩) hHeld ?_
  refine wpAnyH_take (i := 9) (v := .pointer (some ⟨qb, 0, none⟩)) rfl (by kernel_rfl) (by kernel_rfl) (by kernel_rfl) (fun _ _ _ h => h) (Or.inl ⟨by kernel_rfl, fun w _ => by kernel_rfl⟩) hHeld ?_
  refine wpAnyH_take (i := 10) (v := .pointer (some ⟨qb, 0, none⟩)) rfl (by kernel_rfl) (by kernel_rfl) (by kernel_rfl) (fun _ _ _ h => h) (Or.inl ⟨by kernel_rfl, fun w _ => by kernel_rfl⟩) hHeld ?_
  refine wpAnyH_take (i := 11) (v := .pointer (some ⟨qb, 2, none⟩)) rfl (by kernel_rfl) (by kernel_rfl) (by kernel_rfl) (fun _ _ _ h => h) (Or.inl ⟨by kernel_rfl, fun w _ => by kernel_rfl⟩) hHeld ?_
  refine wpAnyH_take (i := 12) (v := .map (some mb)) rfl (by kernel_rfl) (by kernel_rfl) (by kernel_rfl) (fun _ _ _ h => h) (Or.inl ⟨by kernel_rfl, by intro w hSw; obtain ⟨s0, s1, s2, s3, s4⟩ := hSw; go_simp⟩) hHeld ?_
  refine wpAnyH_take (i := 14) (v := .pointer (some ⟨qb, 0, none⟩)) rfl (by kernel_rfl) (by kernel_rfl) (by kernel_rfl) (fun _ _ _ h => h) (Or.inl ⟨by kernel_rfl, fun w _ => by kernel_rfl⟩) hHeld ?_
  refine wpAnyH_take (i := 15) (v := .pointer (some ⟨qb, 0, none⟩)) rfl (by kernel_rfl) (by kernel_rfl) (by kernel_rfl) (fun _ _ _ h => h) (Or.inl ⟨by kernel_rfl, fun w _ => by kernel_rfl⟩) hHeld ?_
  refine wpAnyH_take (i := 16) (v := .pointer (some ⟨qb, 3, none⟩)) rfl (by kernel_rfl) (by kernel_rfl) (by kernel_rfl) (fun _ _ _ h => h) (Or.inl ⟨by kernel_rfl, fun w _ => by kernel_rfl⟩) hHeld ?_
  refine wpAnyH_take (i := 17) (v := .pointer (some ⟨a, 0, none⟩)) rfl (by kernel_rfl) (by kernel_rfl) (by kernel_rfl) (fun _ _ _ h => h) (Or.inl ⟨by kernel_rfl, by intro w hSw; obtain ⟨s0, s1, s2, s3, s4⟩ := hSw; go_simp⟩) hHeld ?_
  refine wpAnyH_take (i := 19) (v := .pointer (some ⟨qb, 0, none⟩)) rfl (by kernel_rfl) (by kernel_rfl) (by kernel_rfl) (fun _ _ _ h => h) (Or.inl ⟨by kernel_rfl, fun w _ => by kernel_rfl⟩) hHeld ?_
  refine wpAnyH_take (i := 20) (v := .pointer (some ⟨qb, 0, none⟩)) rfl (by kernel_rfl) (by kernel_rfl) (by kernel_rfl) (fun _ _ _ h => h) (Or.inl ⟨by kernel_rfl, fun w _ => by kernel_rfl⟩) hHeld ?_
  refine wpAnyH_take (i := 21) (v := .pointer (some ⟨qb, 4, none⟩)) rfl (by kernel_rfl) (by kernel_rfl) (by kernel_rfl) (fun _ _ _ h => h) (Or.inl ⟨by kernel_rfl, fun w _ => by kernel_rfl⟩) hHeld ?_
  refine wpAnyH_take (i := 22) (v := .pointer (some ⟨b, 0, none⟩)) rfl (by kernel_rfl) (by kernel_rfl) (by kernel_rfl) (fun _ _ _ h => h) (Or.inl ⟨by kernel_rfl, by intro w hSw; obtain ⟨s0, s1, s2, s3, s4⟩ := hSw; go_simp⟩) hHeld ?_
  refine wpAnyH_ready (rs := [8]) (by kernel_rfl) (by simp) ?_
  refine AllReadyH.cons rfl (fun K hK => ?_) AllReadyH.nil
  go_simp
  refine (H1.out _ K0.out).mono ?_
  rintro e z1 ⟨v1, rfl, hm1, hk1⟩
  obtain ⟨a1, c1, hv1⟩ := hm1.slice
  have K1 := hid (K0.out.trans hk1)
  have M1 := hid hm1
  rw [hN] at hv1
  subst hv1
  clear hm1 hk1
  go_simp
  refine hK.out _ _ (HST.out _ K1.out) (fun hHeld => ?_)
  refine wpAnyH_ready (rs := [13]) (by kernel_rfl) (by simp) ?_
  refine AllReadyH.cons rfl (fun K hK => ?_) AllReadyH.nil
  go_simp
  refine (H2.out _ K1.out).mono ?_
  rintro e z2 ⟨rfl, hm2, hk2⟩
  have K2 := hid (K1.out.trans hk2)
  have M2 := hid (And.intro hm2 hk2)
  clear hm2 hk2
  go_simp
  refine hK.out _ _ (HST.out _ K2.out) (fun hHeld => ?_)
  refine wpAnyH_ready (rs := [18]) (by kernel_rfl) (by simp) ?_
  refine AllReadyH.cons rfl (fun K hK => ?_) AllReadyH.nil
  go_simp
  refine (H3.out _ K2.out).mono ?_
  rintro e z3 ⟨wb3, R3, rfl, hw3, hf3, hk3⟩
  have K3 := hid (K2.out.trans hk3)
  have M3 := hid (And.intro hw3 (And.intro hf3 hk3))
  clear hw3 hf3 hk3
  go_simp
  refine hK.out _ _ (HST.out _ K3.out) (fun hHeld => ?_)
  refine wpAnyH_ready (rs := [23]) (by kernel_rfl) (by simp) ?_
  refine AllReadyH.cons rfl (fun K hK => ?_) AllReadyH.nil
  go_simp
  refine (H4.out _ K3.out).mono ?_
  rintro e z4 ⟨wb4, R4, rfl, hw4, hf4, hk4⟩
  have K4 := hid (K3.out.trans hk4)
  have M4 := hid (And.intro hw4 (And.intro hf4 hk4))
  clear hw4 hf4 hk4
  go_simp
  refine hK.out _ _ (HST.out _ K4.out) (fun hHeld => ?_)
  refine wpAnyH_take (i := 24) (v := .agg #[.int .i64 n, .slice a1 N c1, .map (some z1.heap.size), .pointer (some ⟨wb3, 0, none⟩), .pointer (some ⟨wb4, 0, none⟩)]) rfl (by kernel_rfl) (by kernel_rfl) (by kernel_rfl) (fun _ _ _ h => h) (Or.inl ⟨by kernel_rfl, fun w _ => by kernel_rfl⟩) hHeld ?_
  refine wpAnyH_ready (rs := [25]) (by kernel_rfl) (by simp) ?_
  refine AllReadyH.cons rfl (fun K hK => ?_) AllReadyH.nil
  go_simp
  refine hK.out _ _ (HST.out _ (K4.out.trans (Kp.alloc _ _ _))) (fun hHeld => ?_)
  refine wpAnyH_take (i := 26) (v := .pointer (some ⟨z4.heap.size, 0, none⟩)) rfl (by kernel_rfl) (by kernel_rfl) (by kernel_rfl) (fun _ _ _ h => h) (Or.inl ⟨by kernel_rfl, fun w _ => by kernel_rfl⟩) hHeld ?_
  refine wpAnyH_done (by kernel_rfl) ?_ _
  refine hKK _ _ (wp_ret ?_)
  refine bodyPost_ret (v := .pointer (some ⟨z4.heap.size, 0, none⟩)) (by kernel_rfl) rfl ?_
  have ka := Kp.alloc z4 (.cells (qcells n (.slice a1 N c1) z1.heap.size wb3 wb4) 64) []
  have k12 := M2.out.2
  have k23 := M3.out.2.2
  have k34 := M4.out.2.2
  have kz1 := (k12.trans k23).trans k34
  have g1 := K1.out.size
  have g2 := k12.size
  have g3 := k23.size
  have g4 := k34.size
  have hd0 : w.drew.heap.size = w.heap.size := rfl
  obtain ⟨es, cl, hp⟩ := M2.out.1.obj
  have hm2 := lt_of_block hp
  have hV : ∀ g, Value.ownBlock (.slice a1 N c1) = some g → w.heap.size ≤ g ∧ g < z1.heap.size := fun g hg => ⟨(owns_block M1.out hg).1, lt_of_block (owns_block M1.out hg).2.choose_spec⟩
  have hf3 : ∀ k ∈ R3, z2.heap.size ≤ k ∧ k < z3.heap.size := fun k hk => ⟨M3.out.2.1 k hk, M3.out.1.lt k hk⟩
  have hf4 : ∀ k ∈ R4, z3.heap.size ≤ k ∧ k < z4.heap.size := fun k hk => ⟨M4.out.2.1 k hk, M4.out.1.lt k hk⟩
  refine ⟨_, qrows z4.heap.size z1.heap.size (.slice a1 N c1) R3 R4, rfl, ⟨z1.heap.size, wb3, wb4, _, R3, R4, rfl, ⟨by rw [hn]; exact heap_alloc_new z4 _, ((M1.out.low (Nat.zero_le _)).keep kz1).keep ka, ((M2.out.1.keep k23 (by simp)).keep k34 (by simp)).keep ka (by simp), (M3.out.1.same k34).same ka, M4.out.1.same ka, fun hm => by have := hf3 _ hm; omega, fun hm => by have := hf4 _ hm; omega, fun k h1 h2 => by have := hf3 _ h1; have := hf4 _ h2; omega, HI.out.lo, HI.out.hi, HI.out.len⟩⟩, fun k hk => ?_, K4.out.trans ka⟩
  simp only [List.mem_cons, List.mem_append, Option.mem_toList] at hk
  rcases hk with rfl | rfl | hk | hk | hk
  · omega
  · omega
  · exact (hV k hk).1
  · have := hf3 k hk
    omega
  · have := hf4 k hk
    omega
end Go.Proofs.Ytllkopekfanfaaa
