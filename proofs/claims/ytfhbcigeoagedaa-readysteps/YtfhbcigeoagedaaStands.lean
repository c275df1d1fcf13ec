/- stands: does the program's list tell what the document's does? -/
import Derived.Test.YtfhbcigeoagedaaBx
import Derived.Deep.RegionHeldLaw
import Derived.Shelf.RegionOpen
namespace Go.Proofs.Ytfhbcigeoagedaa
open Go.RowKit Go.Shelf
set_option linter.unusedVariables false
attribute [local go_sem] Oper.semAt_some

theorem kp_shutR {lo : Nat} {rows : List Nat} : ∀ (Ds : List Nat) (W : World), Live lo W Ds → ∀ {w : World}, w.heap.size ≤ lo → Kp w W rows → Kp w (shut W Ds) rows
  | [], _, _, _, _, h => h
  | D :: Ds, W, hL, w, hw, h => kp_shutR Ds _ hL.tl hw ⟨h.os, h.tape, h.output, by have := h.size; simp [World.putObj] at this ⊢; exact this, fun k hk hn => (World.putObj_heap_other (by have := hL.2.2 D (by simp); omega)).trans (h.block k hk hn)⟩
theorem Kp.past' {w w1 w2 : World} {r : List Nat} (h : Kp w w1 []) (h' : Kp w1 w2 r) : Kp w w2 r := h.nil.trans h'
set_option maxRecDepth 100000 in
set_option maxHeartbeats 8000000 in
theorem stands_ok (w : World) (rb qb s : Nat) (L : Ls) (leave : Int) (h : Rd w rb L s) (h' : Rq w qb L) (hs : s ≤ 9000) :
    Calls Try.prog 9 #[.pointer (some ⟨rb, 0, none⟩), .pointer (some ⟨qb, 0, none⟩), .int .i64 leave] w fun e w' => e = .returned (.bool true) ∧ (∃ s', s' ≤ s + 1 ∧ Rd w' rb L s') ∧ Rq w' qb L ∧ Kp w w' [rb] := by
  obtain ⟨c, u, hr, hp⟩ := h
  have l16 := hp.len16
  have h : Rd w rb L s := ⟨c, u, hr, hp⟩
  have hl := h.l16
  clear hr hp
  refine (callsIn_wide (n := 6)).1 ?_
  have k0 := (Kp.alloc w (.cells #[.int .i64 leave] 3) []).trans (Kp.alloc _ (.cells #[.bool false] 4) [])
  have ca := rall_any _ qb L (h'.keep k0) hl (by omega)
  have H := hid h
  have H' := hid h'
  have K0 := hid k0
  have hrl := h.lt
  have B5 := hid ((Below.heap_alloc _ (.cells #[.bool false] 4) _ (by simp)).trans (heap_alloc_new w (.cells #[.int .i64 leave] 3)))
  have B6 := hid (cell_new1 (w := w) (o := .cells #[.int .i64 leave] 3) (v := .bool false) (t := 4))
  clear h h' k0
  obtain ⟨W0, hW0⟩ : ∃ W0, (w.alloc (.cells #[.int .i64 leave] 3)).alloc (.cells #[.bool false] 4) = W0 := ⟨_, rfl⟩
  rw [hW0] at ca K0 B5 B6
  refine callsIn_of_wp_marks Try.func9 rfl trivial ?_ rfl
  simp only [Try.ntmps9, List.size_toArray, List.length_cons, List.length_nil, Nat.reduceAdd, Nat.reduceSub, Array.replicate_succ, Array.replicate_zero, List.push_toArray, List.append_toArray, List.nil_append, List.cons_append]
  refine wpIn_wide.2 ?_
  go_wp2_with fail
  try rw [hW0]
  refine ca.mono ?_
  rintro e W1 ⟨⟨V, rfl, hP⟩, k1⟩
  obtain ⟨ao, cp, rfl⟩ := hP.slice
  obtain ⟨X, hX⟩ : ∃ X, seqs L 31 = X := ⟨_, rfl⟩
  rw [hX] at hP l16 ⊢
  have HX := hid hX
  have k01 := K0.out.trans k1
  have hsz0 : W0.heap.size = w.heap.size + 2 := by rw [← hW0]; simp
  have BX := hid (show Bx w (W1.alloc (.cells #[.slice ao X.length cp] 61)) rb qb s w.heap.size (w.heap.size + 1) W1.heap.size L X leave ao cp from by
    have k2 := Kp.alloc W1 (.cells #[.slice ao X.length cp] 61) []
    have kk := k1.trans k2
    refine ⟨(kk.block _ (by omega) (by simp)).trans B5.out, (kk.block _ (by omega) (by simp)).trans B6.out, heap_alloc_new W1 _, (H.out.keep k01 (by simp)).keep k2 (by simp), (H'.out.keep k01).keep k2, ?_, (k01.trans k2).nil⟩
    exact (show Ps W1 w.heap.size _ X from owns_low hP (by omega)).keep k2)
  have NA := hid (show w.heap.size + 2 ≤ W1.heap.size from by have := k1.size; omega)
  obtain ⟨a5, ha5⟩ : ∃ a5, w.heap.size = a5 := ⟨_, rfl⟩
  obtain ⟨a7, ha7⟩ : ∃ a7, W1.heap.size = a7 := ⟨_, rfl⟩
  obtain ⟨W2, hW2⟩ : ∃ W2, W1.alloc (.cells #[.slice ao X.length cp] 61) = W2 := ⟨_, rfl⟩
  have cf := BX.out.rd.first (by omega)
  rw [hW2] at BX cf
  clear k1 k01 hP ca hX hW0 hsz0 B5 B6 K0
  go_wp2_with fail
  refine cf.mono ?_
  rintro e W3 ⟨rfl, ⟨s1, ls1, ms1, hR3⟩, hK3⟩
  have B3 := hid (show Bx w W3 rb qb s1 a5 (a5 + 1) a7 L X leave ao cp from by
    have hb := BX.out
    rw [ha5, ha7] at hb
    have n5 : a5 ∉ [rb] := by simp; omega
    have n6 : a5 + 1 ∉ [rb] := by simp; omega
    have n7 : a7 ∉ [rb] := by have := NA.out; simp; omega
    refine ⟨(hK3.block a5 (lt_of_block hb.b5) n5).trans hb.b5, (hK3.block _ (lt_of_block hb.b6) n6).trans hb.b6, (hK3.block a7 (lt_of_block hb.b7) n7).trans hb.b7, hR3, hb.rq.over hb.rd hK3, owns_kp hb.ps hK3 (fun g hg => ?_), hb.kp.trans hK3⟩
    have := (owns_block hb.ps hg).1
    simp
    omega)
  have c7 := cell_one B3.out.b7
  have HW := hid (show w.heap.size = a5 ∧ w.heap.size + 2 ≤ a7 from ⟨ha5, by have := NA.out; omega⟩)
  have cl := B3.out.rd.len
  rw [HX.out] at cl
  have hlen0 : (X.length != X.length) = false := by simp
  clear hR3 hK3 cf hW2 BX NA ha5 ha7 cl
  obtain ⟨vV, hvV⟩ : ∃ vV, fstV L = vV := ⟨_, rfl⟩
  obtain ⟨vB, hvB⟩ : ∃ vB, fstB L = vB := ⟨_, rfl⟩
  rw [hvV, hvB]
  have HV := hid hvV
  have HB := hid hvB
  clear hvV hvB
  go_wp2_with fail
  refine wp_mono (Q := fun e a' W => match e with | .normal => ∃ (t28 t29 t30 t31 t32 t33 t34 t35 t36 t37 t38 t39 t40 t41 t42 t43 t44 t45 t46 t47 t48 t49 t50 t51 t52 t53 t54 t55 t56 t57 : Value), a' = { tmps := #[.pointer (some ⟨rb, 0, none⟩), .pointer (some ⟨qb, 0, none⟩), .int .i64 leave, undef, undef, .pointer (some ⟨a5, 0, none⟩), .pointer (some ⟨a5 + 1, 0, none⟩), .pointer (some ⟨a7, 0, none⟩), .int .i64 vV, .bool vB, undef, undef, undef, undef, undef, undef, undef, undef, undef, undef, undef, .pointer (some ⟨qb, 0, none⟩), .slice ao X.length cp, .tuple #[.int .i64 vV, .bool vB], .pointer (some ⟨rb, 0, none⟩), .tuple #[.int .i64 vV, .bool vB], .int .i64 vV, .bool vB, t28, t29, t30, t31, t32, t33, t34, t35, t36, t37, t38, t39, t40, t41, t42, t43, t44, t45, t46, t47, t48, t49, t50, t51, t52, t53, t54, t55, t56, t57, .bool false, undef, undef, undef, undef, undef, undef, undef, undef, undef, undef, undef, undef, undef, undef, undef, undef, undef, undef, undef, undef, undef, undef, undef, undef, undef, undef, undef, undef, undef, undef, undef, undef, undef, undef, undef, undef, undef, undef, undef, undef, undef, undef, undef, undef, undef, undef, undef, undef, undef, undef, undef, undef, undef, undef, undef, undef, undef, undef, undef, undef, undef, undef, undef, undef, undef, undef, undef, undef, undef, undef, undef, undef, undef, undef, undef, undef, undef, undef, undef, undef, undef, undef, undef, undef, undef, undef, undef, undef, undef, undef, undef, undef, undef, undef, undef, undef, undef, undef, undef, undef, undef, undef], defers := [] } ∧ Hid (Bx w W rb qb s1 a5 (a5 + 1) a7 L X leave ao cp) | _ => False) ?_ ?_
  · by_cases hx : X = []
    · have f1 : vV = 0 := by rw [← HV.out]; unfold fstV; rw [HX.out, hx]; rfl
      have f2 : vB = false := by rw [← HB.out]; unfold fstB; rw [HX.out, hx]; rfl
      subst hx f1 f2
      refine wp_region_held_drew (S := fun W : World => W.cell? ⟨a7, 0, none⟩ = some (.slice ao 0 cp)) (by kernel_rfl) (by simpa using c7) (fun hHeld => ?_)
      refine wpAnyH_take (i := 0) (v := .pointer (some ⟨rb, 0, none⟩)) rfl (by kernel_rfl) (by kernel_rfl) (by kernel_rfl) (fun _ _ _ h => h) (Or.inl ⟨by kernel_rfl, fun w _ => by kernel_rfl⟩) hHeld ?_
      refine wpAnyH_take (i := 2) (v := .slice ao 0 cp) rfl (by kernel_rfl) (by kernel_rfl) (by kernel_rfl) (fun _ _ _ h => h) (Or.inl ⟨by kernel_rfl, by intro w hSw; go_simp⟩) hHeld ?_
      refine wpAnyH_take (i := 3) (v := .int .i64 0) rfl (by kernel_rfl) (by kernel_rfl) (by kernel_rfl) (fun _ _ _ h => h) (Or.inl ⟨by kernel_rfl, fun w _ => by kernel_rfl⟩) hHeld ?_
      refine wpAnyH_ready (rs := [1]) (by kernel_rfl) (by simp) ?_
      refine AllReadyH.cons rfl (fun K hK => ?_) AllReadyH.nil
      go_simp
      refine (((B3.out.keep (Kp.drew _ [])).rd).len).mono ?_
      rw [HX.out]
      rintro e y ⟨rfl, hy⟩
      have hS2 : y.cell? ⟨a7, 0, none⟩ = some (.slice ao 0 cp) := hy.cell (by simpa using c7) (by simp)
      go_simp
      refine hK.out _ _ hS2 (fun hHeld => ?_)
      refine wpAnyH_take (i := 4) (v := .bool false) rfl (by kernel_rfl) (by kernel_rfl) (by kernel_rfl) (fun _ _ _ h => h) (Or.inl ⟨by kernel_rfl, fun w _ => by kernel_rfl⟩) hHeld ?_
      refine wpAnyH_take (i := 5) (v := .bool false) rfl (by kernel_rfl) (by kernel_rfl) (by kernel_rfl) (fun _ _ _ h => h) (Or.inl ⟨by kernel_rfl, fun w _ => by kernel_rfl⟩) hHeld ?_
      refine wpAnyH_take (i := 6) (v := .bool false) rfl (by kernel_rfl) (by kernel_rfl) (by kernel_rfl) (fun _ _ _ h => h) (Or.inl ⟨by kernel_rfl, fun w _ => by kernel_rfl⟩) hHeld ?_
      refine wpAnyH_take (i := 7) (v := .slice ao 0 cp) rfl (by kernel_rfl) (by kernel_rfl) (by kernel_rfl) (fun _ _ _ h => h) (Or.inl ⟨by kernel_rfl, by intro w hSw; go_simp⟩) hHeld ?_
      refine wpAnyH_take (i := 8) (v := .int .i64 0) rfl (by kernel_rfl) (by kernel_rfl) (by kernel_rfl) (fun _ _ _ h => h) (Or.inl ⟨by kernel_rfl, fun w _ => by kernel_rfl⟩) hHeld ?_
      refine wpAnyH_take (i := 9) (v := .bool false) rfl (by kernel_rfl) (by kernel_rfl) (by kernel_rfl) (fun _ _ _ h => h) (Or.inl ⟨by kernel_rfl, fun w _ => by kernel_rfl⟩) hHeld ?_
      refine wpAnyH_take (i := 10) (v := .bool false) rfl (by kernel_rfl) (by kernel_rfl) (by kernel_rfl) (fun _ _ _ h => h) (Or.inl ⟨by kernel_rfl, fun w _ => by kernel_rfl⟩) hHeld ?_
      refine wpAnyH_take (i := 11) (v := .bool false) rfl (by kernel_rfl) (by kernel_rfl) (by kernel_rfl) (fun _ _ _ h => h) (Or.inl ⟨by kernel_rfl, fun w _ => by kernel_rfl⟩) hHeld ?_
      refine wpAnyH_take (i := 12) (v := .bool false) rfl (by kernel_rfl) (by kernel_rfl) (by kernel_rfl) (fun _ _ _ h => h) (Or.inl ⟨by kernel_rfl, fun w _ => by kernel_rfl⟩) hHeld ?_
      refine wpAnyH_take (i := 13) (v := .bool false) rfl (by kernel_rfl) (by kernel_rfl) (by kernel_rfl) (fun _ _ _ h => h) (Or.inl ⟨by kernel_rfl, fun w _ => by kernel_rfl⟩) hHeld ?_
      refine wpAnyH_take (i := 14) (v := .bool false) rfl (by kernel_rfl) (by kernel_rfl) (by kernel_rfl) (fun _ _ _ h => h) (Or.inl ⟨by kernel_rfl, fun w _ => by kernel_rfl⟩) hHeld ?_
      refine wpAnyH_take (i := 15) (v := undef) rfl (by kernel_rfl) (by kernel_rfl) (by kernel_rfl) (fun _ _ _ h => h) (Or.inr ⟨by kernel_rfl, rfl⟩) hHeld ?_
      refine wpAnyH_take (i := 16) (v := undef) rfl (by kernel_rfl) (by kernel_rfl) (by kernel_rfl) (fun _ _ _ h => h) (Or.inr ⟨by kernel_rfl, rfl⟩) hHeld ?_
      refine wpAnyH_take (i := 17) (v := undef) rfl (by kernel_rfl) (by kernel_rfl) (by kernel_rfl) (fun _ _ _ h => h) (Or.inr ⟨by kernel_rfl, rfl⟩) hHeld ?_
      refine wpAnyH_take (i := 18) (v := undef) rfl (by kernel_rfl) (by kernel_rfl) (by kernel_rfl) (fun _ _ _ h => h) (Or.inr ⟨by kernel_rfl, rfl⟩) hHeld ?_
      refine wpAnyH_take (i := 19) (v := undef) rfl (by kernel_rfl) (by kernel_rfl) (by kernel_rfl) (fun _ _ _ h => h) (Or.inr ⟨by kernel_rfl, rfl⟩) hHeld ?_
      refine wpAnyH_take (i := 20) (v := undef) rfl (by kernel_rfl) (by kernel_rfl) (by kernel_rfl) (fun _ _ _ h => h) (Or.inr ⟨by kernel_rfl, rfl⟩) hHeld ?_
      refine wpAnyH_take (i := 21) (v := .bool false) rfl (by kernel_rfl) (by kernel_rfl) (by kernel_rfl) (fun _ _ _ h => h) (Or.inl ⟨by kernel_rfl, fun w _ => by kernel_rfl⟩) hHeld ?_
      refine wpAnyH_take (i := 22) (v := .bool false) rfl (by kernel_rfl) (by kernel_rfl) (by kernel_rfl) (fun _ _ _ h => h) (Or.inl ⟨by kernel_rfl, fun w _ => by kernel_rfl⟩) hHeld ?_
      refine wpAnyH_take (i := 23) (v := .bool false) rfl (by kernel_rfl) (by kernel_rfl) (by kernel_rfl) (fun _ _ _ h => h) (Or.inl ⟨by kernel_rfl, fun w _ => by kernel_rfl⟩) hHeld ?_
      refine wpAnyH_take (i := 24) (v := .bool false) rfl (by kernel_rfl) (by kernel_rfl) (by kernel_rfl) (fun _ _ _ h => h) (Or.inl ⟨by kernel_rfl, fun w _ => by kernel_rfl⟩) hHeld ?_
      refine wpAnyH_take (i := 25) (v := .bool true) rfl (by kernel_rfl) (by kernel_rfl) (by kernel_rfl) (fun _ _ _ h => h) (Or.inl ⟨by kernel_rfl, fun w _ => by kernel_rfl⟩) hHeld ?_
      refine wpAnyH_take (i := 26) (v := .bool true) rfl (by kernel_rfl) (by kernel_rfl) (by kernel_rfl) (fun _ _ _ h => h) (Or.inl ⟨by kernel_rfl, fun w _ => by kernel_rfl⟩) hHeld ?_
      refine wpAnyH_take (i := 27) (v := .int .i64 0) rfl (by kernel_rfl) (by kernel_rfl) (by kernel_rfl) (fun _ _ _ h => h) (Or.inl ⟨by kernel_rfl, fun w _ => by kernel_rfl⟩) hHeld ?_
      refine wpAnyH_take (i := 28) (v := .bool false) rfl (by kernel_rfl) (by kernel_rfl) (by kernel_rfl) (fun _ _ _ h => h) (Or.inl ⟨by kernel_rfl, fun w _ => by kernel_rfl⟩) hHeld ?_
      refine wpAnyH_take (i := 29) (v := .bool false) rfl (by kernel_rfl) (by kernel_rfl) (by kernel_rfl) (fun _ _ _ h => h) (Or.inl ⟨by kernel_rfl, fun w _ => by kernel_rfl⟩) hHeld ?_
      refine wpAnyH_take (i := 30) (v := .bool false) rfl (by kernel_rfl) (by kernel_rfl) (by kernel_rfl) (fun _ _ _ h => h) (Or.inl ⟨by kernel_rfl, fun w _ => by kernel_rfl⟩) hHeld ?_
      refine wpAnyH_done (by kernel_rfl) ?_ _
      exact ⟨.pointer (some ⟨rb, 0, none⟩), .int .i64 0, .slice ao 0 cp, .int .i64 0, .bool false, .bool false, .bool false, .slice ao 0 cp, .int .i64 0, .bool false, .bool false, .bool false, .bool false, .bool false, .bool false, undef, undef, undef, undef, undef, undef, .bool false, .bool false, .bool false, .bool false, .bool true, .bool true, .int .i64 0, .bool false, .bool false, by kernel_rfl, hid ((B3.out.keep (Kp.drew _ [])).keep hy)⟩
    · obtain ⟨x, X', hxx⟩ : ∃ x X', X = x :: X' := by cases X with | nil => exact absurd rfl hx | cons x X' => exact ⟨x, X', rfl⟩
      have f1 : vV = x.2 := by rw [← HV.out]; unfold fstV; rw [HX.out, hxx]; rfl
      have f2 : vB = true := by rw [← HB.out]; unfold fstB; rw [HX.out, hxx]; rfl
      have hx0 : X[0]? = some x := by rw [hxx]; rfl
      obtain ⟨g, rfl, -, d1⟩ := B3.out.ps.at hx0
      simp only [Nat.zero_mul, Nat.zero_add] at d1
      have hpos : 0 < X.length := by rw [hxx]; simp
      have hposI : (0 : Int) < (X.length : Int) := by omega
      subst f1 f2
      clear hx hxx hx0
      first
        | (go_region_held_law (fun w' => w'.cell? ⟨a7, 0, none⟩ = some (.slice (some ⟨g, 0, none⟩) X.length cp) ∧ w'.cell? ⟨g, 1, none⟩ = some (.int .i64 (x.2 : Nat)))
            (first
              | exact ⟨hy.cell (by simpa using c7) (by simp), hy.cell (by simpa using d1) (by simp)⟩
              | exact ⟨by simpa using c7, by simpa using d1⟩)
            (first
              | (go_at_call 13; refine (((B3.out.keep (Kp.drew _ [])).rd).len).mono ?_; rw [HX.out]; rintro e y ⟨rfl, hy⟩)))
        | fail
      exact ⟨_, _, _, _, _, _, _, _, _, _, _, _, _, _, _, _, _, _, _, _, _, _, _, _, _, _, _, _, _, _, rfl, hid ((B3.out.keep (Kp.drew _ [])).keep hy)⟩
  · rintro e a' W4 hpost
    cases e with
    | normal =>
      obtain ⟨t28, t29, t30, t31, t32, t33, t34, t35, t36, t37, t38, t39, t40, t41, t42, t43, t44, t45, t46, t47, t48, t49, t50, t51, t52, t53, t54, t55, t56, t57, rfl, B4⟩ := hpost
      clear B3 c7 HV HB
      go_wp2_with fail
      go_loopw [10] (fun v W => ∃ j : Nat, j ≤ 35 ∧ v = .int .i64 ((j : Int) - 1) ∧ Hid (Bx w W rb qb s1 a5 (a5 + 1) a7 L X leave ao cp)) (fun v _ => (34 - intOf v).toNat)
      case atStart => exact ⟨0, by decide, rfl, B4⟩
      case round =>
        obtain ⟨j, hj, rfl, hB⟩ := hrel
        by_cases hlt : j < 35
        · have hltI : ((j : Int) - 1) ≤ 33 := by omega
          go_wp2_with fail
          refine (hB.out.rd.list ((j : Int) - 1)).mono ?_
          rintro e y1 ⟨⟨V1, rfl, hN1⟩, k1⟩
          obtain ⟨ao1, cp1, rfl⟩ := hN1.slice
          have C1 := hid (hB.out.keep k1)
          have N1 := hid hN1
          clear k1 hN1 hB
          go_wp2_with fail
          refine (rlist_any y1 qb L ((j : Int) - 1) C1.out.rq hl).mono ?_
          rintro e y2 ⟨⟨V2, rfl, hN2⟩, k2⟩
          obtain ⟨ao2, cp2, rfl⟩ := hN2.slice
          have C2 := hid (C1.out.keep k2)
          have N1' := hid (N1.out.keep k2)
          have N2 := hid hN2
          have hsl : (seqI L ((j : Int) - 1)).length ≤ 1000 := by unfold seqI; split; exact hl _; simp
          clear k2 hN2 C1 N1
          go_wp2_with fail
          refine (ints_any y2 _ _ _ _ _ _ N1'.out N2.out hsl hsl).mono ?_
          rintro e y3 ⟨rfl, k3⟩
          have C3 := hid (C2.out.keep k3)
          clear k3 C2 N1' N2
          rw [show decide (seqI L ((j : Int) - 1) = seqI L ((j : Int) - 1)) = true by simp]
          go_wp2
          go_roundw
          case rel => exact ⟨j + 1, by omega, by simp, C3⟩
          case measure => simp [intOf]; omega
        · have hj35 : j = 35 := by omega
          subst hj35
          simp only [show (((35 : Nat) : Int) - 1) = 34 from rfl]
          go_wp2
          go_loopw [11] (fun v W => ∃ j : Nat, j ≤ 18 ∧ v = .int .i64 ((j : Int) - 1) ∧ Hid (Bx w W rb qb s1 a5 (a5 + 1) a7 L X leave ao cp)) (fun v _ => (17 - intOf v).toNat)
          case atStart => exact ⟨0, by decide, rfl, hB⟩
          case round =>
            obtain ⟨j, hj2, rfl, hB2⟩ := hrel
            by_cases hlt2 : j < 18
            · have hltI : ((j : Int) - 1) ≤ 16 := by omega
              obtain ⟨pv, hpv⟩ : ∃ pv, prI L ((j : Int) - 1) = pv := ⟨_, rfl⟩
              obtain ⟨pb, hpb⟩ : ∃ pb, decide (pv ≠ 0) = pb := ⟨_, rfl⟩
              have cq := hB2.out.rd.prio ((j : Int) - 1)
              have cr := rprio_any wr qb L ((j : Int) - 1) hB2.out.rq hl
              rw [hpv, hpb] at cq cr
              have e1 : ((pv : Int) != (pv : Int)) = false := by simp
              clear hpv hpb
              cases pb
              case false =>
                go_wp2_with fail
                refine cq.mono ?_
                rintro e y1 ⟨rfl, rfl⟩
                go_wp2_with fail
                refine cr.mono ?_
                rintro e y2 ⟨rfl, rfl⟩
                go_wp2
                go_roundw
                case rel => exact ⟨j + 1, by omega, by simp, hB2⟩
                case measure => simp [intOf]; omega
              case true =>
                go_wp2_with fail
                refine cq.mono ?_
                rintro e y1 ⟨rfl, rfl⟩
                go_wp2_with fail
                refine cr.mono ?_
                rintro e y2 ⟨rfl, rfl⟩
                go_wp2
                go_roundw
                case rel => exact ⟨j + 1, by omega, by simp, hB2⟩
                case measure => simp [intOf]; omega
            · have hj18 : j = 18 := by omega
              subst hj18
              simp only [show (((18 : Nat) : Int) - 1) = 17 from rfl]
              have hnn := fn_not_nil
              go_wp2_with fail
              refine (all_any wr _).mono ?_
              rintro e y1 ⟨rfl, rfl⟩
              go_wp2_with fail
              have k5 := hid (show Kp wr ((wr.alloc (.cells #[.pointer (some ⟨rb, 0, none⟩)] 23)).alloc (.cells #[.int .i64 0] 3)) [] from (Kp.alloc _ _ _).trans (Kp.alloc _ _ _))
              have it5 := hid ((Below.heap_alloc _ (.cells #[.int .i64 0] 3) _ (by simp)).trans (heap_alloc_new wr (.cells #[.pointer (some ⟨rb, 0, none⟩)] 23)))
              have tu5 := hid (cell_new1 (w := wr) (o := .cells #[.pointer (some ⟨rb, 0, none⟩)] 23) (v := .int .i64 0) (t := 3))
              obtain ⟨W5, hW5⟩ : ∃ W5, (wr.alloc (.cells #[.pointer (some ⟨rb, 0, none⟩)] 23)).alloc (.cells #[.int .i64 0] 3) = W5 := ⟨_, rfl⟩
              obtain ⟨ab, hab⟩ : ∃ ab, wr.heap.size = ab := ⟨_, rfl⟩
              rw [hW5] at k5 it5 tu5
              rw [hab] at it5 tu5
              simp only [hW5, hab]
              have HAB := hid hab
              obtain ⟨cV, uV, hRV, hPV⟩ := hB2.out.rd
              have VW := hid (show Vw wr (some ⟨rb, 0, none⟩) cV L from .inl ⟨rb, uV, s1, rfl, hRV, hPV⟩)
              have a7b : a7 < ab := by rw [← hab]; exact lt_of_block hB2.out.b7
              have a6b : a5 + 1 < ab := by rw [← hab]; exact lt_of_block hB2.out.b6
              clear hRV hPV hW5 hab hnn hlt2 hlt
              refine (wpIn_wide (n := 6)).1 ?_
              refine wpIn_loop (fun a W => ∃ (t tq : Nat) (Ds : List Nat) (x18 x99 x100 x101 x102 x103 x137 x138 x139 x140 x141 x142 x143 x144 x145 x146 x147 x148 x149 x150 x151 x152 x153 x154 x155 x156 x157 x158 x159 x160 : Value), t ≤ 2 ∧ Ds.length = t ∧ ab < tq ∧ a = { tmps := #[.pointer (some ⟨rb, 0, none⟩), .pointer (some ⟨qb, 0, none⟩), .int .i64 leave, undef, undef, .pointer (some ⟨a5, 0, none⟩), .pointer (some ⟨a5 + 1, 0, none⟩), .pointer (some ⟨a7, 0, none⟩), .int .i64 vV, .bool vB, .int .i64 34, .int .i64 17, u12, u13, u14, u15, .func (.func 42) #[] #[.pointer (some ⟨ab, 0, none⟩)], .pointer (some ⟨tq, 0, none⟩), x18, undef, undef, .pointer (some ⟨qb, 0, none⟩), .slice ao X.length cp, .tuple #[.int .i64 vV, .bool vB], .pointer (some ⟨rb, 0, none⟩), .tuple #[.int .i64 vV, .bool vB], .int .i64 vV, .bool vB, t28, t29, t30, t31, t32, t33, t34, t35, t36, t37, t38, t39, t40, t41, t42, t43, t44, t45, t46, t47, t48, t49, t50, t51, t52, t53, t54, t55, t56, t57, .bool false, .int .i64 34, .bool false, u61, u62, u63, u64, u65, u66, u67, u68, u69, u70, .int .i64 17, .bool false, u73, u74, u75, u76, u77, u78, u79, u80, u81, u82, u83, u84, u85, u86, u87, u88, u89, u90, u91, u92, u93, u94, .pointer (some ⟨rb, 0, none⟩), .func (.func 42) #[] #[.pointer (some ⟨ab, 0, none⟩)], .func (.func 42) #[] #[.pointer (some ⟨ab, 0, none⟩)], .bool false, x99, x100, x101, x102, x103, undef, undef, undef, undef, undef, undef, undef, undef, undef, undef, undef, undef, undef, undef, undef, undef, undef, undef, undef, undef, undef, undef, undef, undef, undef, undef, undef, undef, undef, undef, undef, undef, undef, x137, x138, x139, x140, x141, x142, x143, x144, x145, x146, x147, x148, x149, x150, x151, x152, x153, x154, x155, x156, x157, x158, x159, x160], defers := marks Ds } ∧ Live ab W Ds ∧ Kp wr W [] ∧ W.heap[ab]? = some (.cells #[.pointer (some ⟨rb, 0, none⟩)] 23 (0, 0)) ∧ W.heap[tq]? = some (.cells #[.int .i64 t] 3 (0, 0)))
                (fun a _ => 2 - a.defers.length) ⟨0, ab + 1, [], _, _, _, _, _, _, _, _, _, _, _, _, _, _, _, _, _, _, _, _, _, _, _, _, _, _, _, _, _, _, by decide, rfl, by omega, rfl, ⟨by simp, by simp, by simp⟩, k5.out, it5.out, tu5.out⟩ ?_
              rintro a W ⟨t, tq, Ds, x18, x99, x100, x101, x102, x103, x137, x138, x139, x140, x141, x142, x143, x144, x145, x146, x147, x148, x149, x150, x151, x152, x153, x154, x155, x156, x157, x158, x159, x160, ht, hDs, hbt, rfl, hLive, hKp, hIt, hTu⟩
              have c17 := cell_one hTu
              have f17 := free_one hTu
              have HLV := hid hLive
              have HKP := hid hKp
              have HIT := hid hIt
              have HTU := hid hTu
              have HDS := hid hDs
              clear hLive hKp hIt hTu hDs
              by_cases ht2 : t = 2
              · subst ht2
                have B := hB2.out.keep HKP.out
                have c6 := cell_one B.b6
                have f6 := free_one B.b6
                have B6 := hid B.b6
                clear B
                gi_wp2
                go_wp2
                refine leaves_marks Ds _ (HLV.out.set B6.out (.bool true)) ?_
                have KZ := kp_shutR (rows := [a5 + 1]) Ds _ (HLV.out.set B6.out (.bool true)) (w := wr) (by have := HAB.out; omega) (HKP.out.past' (Kp.setCell W ⟨a5 + 1, 0, none⟩ (.bool true)))
                have KW := hB2.out.kp.past KZ (by intro k hk hl; have := HW.out; simp at hk; omega)
                have hcell := cell_one (shut_cells Ds _ (HLV.out.set B6.out (.bool true)) (set_one (x := .bool true) B6.out))
                refine ⟨.bool true, by simp [results, Try.results9, go_sem, hcell], rfl, ⟨s1, ms1, hB2.out.rd.keep KZ (by have := HW.out; simp; omega)⟩, H'.out.over H.out KW, KW⟩
              · have ht1 : (t : Int) < 2 := by omega
                gi_wp2
                obtain ⟨nb, hnb⟩ : ∃ nb, W.heap.size = nb := ⟨_, rfl⟩
                have N1 := hid (heap_alloc_new W (.cells #[.int .i64 0] 3))
                have K1 := hid (HKP.out.trans (Kp.alloc W (.cells #[.int .i64 0] 3) []))
                have I1 := hid ((Below.heap_alloc W (.cells #[.int .i64 0] 3) _ (lt_of_block HIT.out)).trans HIT.out)
                have KW1 := hid (Kp.alloc W (.cells #[.int .i64 0] 3) [])
                obtain ⟨W1, hW1⟩ : ∃ W1, W.alloc (.cells #[.int .i64 0] 3) = W1 := ⟨_, rfl⟩
                have hs1 : W1.heap.size = nb + 1 := by rw [← hW1, ← hnb]; simp
                rw [hnb] at N1
                rw [hW1] at N1 K1 I1 KW1
                simp only [hnb, hW1]
                have HNB := hid hnb
                have tnb : tq < nb := by rw [← hnb]; exact lt_of_block HTU.out
                have DL := hid (show ∀ D ∈ Ds, D < nb from fun D hm => by rw [← hnb]; exact lt_of_block (HLV.out.1 D hm))
                clear hnb hW1 c17 f17
                refine range_seqs (K := Kc W1.heap.size) (show 1 ≤ 6 by decide) (gf := 42) (lb := #[.pointer (some ⟨ab, 0, none⟩)]) rfl (enters_of Try.func42 (by kernel_rfl) rfl)
                  (VW.out.all 5 (by decide) W1 ab W1.heap.size K1.out I1.out (Nat.le_refl _)) Kc.trans (kc_put _) (Below.refl _ _) (fun _ => rfl)
                  (fun pre V => V.heap[nb]? = some (.cells #[.int .i64 pre.length] 3 (0, 0)) ∧ Below W.heap.size W V)
                  (fun cc _ V => cc = .exit 6 ∧ t = 0 ∧ V.heap[nb]? = some (.cells #[.int .i64 leave] 3 (0, 0)) ∧ Below W.heap.size W V)
                  (OwnFrom.and (fun s A B row hs hg hr => cells_kept hs hg hr) (ownFrom_below (Nat.le_refl _) (by have := HNB.out; omega)))
                  (fun cc s A B row hs hg hr => ⟨hs.1, hs.2.1, cells_kept hs.2.2.1 hg hr, (ownFrom_below (β := Unit) (w₀ := W) (Nat.le_refl _) (show W.heap.size ≤ W1.heap.size by have := HNB.out; omega)) () A B row hs.2.2.2 hg hr⟩)
                  ⟨N1.out, KW1.out.below⟩
                  (fun x => { tmps := #[.pointer (some ⟨rb, 0, none⟩), .pointer (some ⟨qb, 0, none⟩), .int .i64 leave, undef, undef, .pointer (some ⟨a5, 0, none⟩), .pointer (some ⟨a5 + 1, 0, none⟩), .pointer (some ⟨a7, 0, none⟩), .int .i64 vV, .bool vB, .int .i64 34, .int .i64 17, u12, u13, u14, u15, .func (.func 42) #[] #[.pointer (some ⟨ab, 0, none⟩)], .pointer (some ⟨tq, 0, none⟩), .pointer (some ⟨nb, 0, none⟩), .int .i64 (x.1 : Nat), .int .i64 (x.2 : Nat), .pointer (some ⟨qb, 0, none⟩), .slice ao X.length cp, .tuple #[.int .i64 vV, .bool vB], .pointer (some ⟨rb, 0, none⟩), .tuple #[.int .i64 vV, .bool vB], .int .i64 vV, .bool vB, t28, t29, t30, t31, t32, t33, t34, t35, t36, t37, t38, t39, t40, t41, t42, t43, t44, t45, t46, t47, t48, t49, t50, t51, t52, t53, t54, t55, t56, t57, .bool false, .int .i64 34, .bool false, u61, u62, u63, u64, u65, u66, u67, u68, u69, u70, .int .i64 17, .bool false, u73, u74, u75, u76, u77, u78, u79, u80, u81, u82, u83, u84, u85, u86, u87, u88, u89, u90, u91, u92, u93, u94, .pointer (some ⟨rb, 0, none⟩), .func (.func 42) #[] #[.pointer (some ⟨ab, 0, none⟩)], .func (.func 42) #[] #[.pointer (some ⟨ab, 0, none⟩)], .bool false, .int .i64 t, .bool true, x101, x102, .func (.func 42) #[] #[.pointer (some ⟨ab, 0, none⟩)], .int .i64 (x.1 : Nat), .int .i64 (x.2 : Nat), undef, undef, undef, undef, undef, undef, undef, undef, undef, undef, undef, undef, undef, undef, undef, undef, undef, undef, undef, undef, undef, undef, undef, undef, undef, undef, undef, undef, undef, undef, undef, x137, x138, x139, x140, x141, x142, x143, x144, x145, x146, x147, x148, x149, x150, x151, x152, x153, x154, x155, x156, x157, x158, x159, x160], defers := [] })
                  ?assign ?body ?done ?stop
                case assign =>
                  intro l x V K _ hK
                  have HK := hid hK
                  clear hK
                  gi_wp2
                  exact HK.out
                case body =>
                  rintro l pre x V hpre ⟨hi1, hi2⟩
                  rw [HX.out] at hpre
                  have hxx : X[pre.length]? = some x := by
                    obtain ⟨r, hr⟩ := hpre
                    rw [← hr]
                    simp
                  have hltX : pre.length < X.length := by
                    rcases Nat.lt_or_ge pre.length X.length with h | h
                    · exact h
                    · rw [List.getElem?_eq_none h] at hxx; cases hxx
                  have hltI : ¬ (X.length : Int) ≤ (pre.length : Int) := by omega
                  have hltJ : (pre.length : Int) < (X.length : Int) := by omega
                  have hp16 : pre.length ≤ 16 := by omega
                  have kV := HKP.out.trans (Kp.of_below hi2)
                  have B := hB2.out.keep kV
                  have c7 := cell_one B.b7
                  have c5 := cell_one B.b5
                  obtain ⟨g, hao, d0, d1⟩ := B.ps.at hxx
                  subst hao
                  have u1 := cell_one hi1
                  have f1 := free_one hi1
                  have hTV := (hi2.block tq (lt_of_block HTU.out)).trans HTU.out
                  have c17 := cell_one hTV
                  have H1 := hid hi1
                  have H2 := hid hi2
                  have nu := hid (set_one (x := .int .i64 ((pre.length : Int) + 1)) hi1)
                  have c17b := cell_one ((Below.heap_setCell V ⟨nb, 0, none⟩ (.int .i64 ((pre.length : Int) + 1)) tq (by simp; omega)).trans hTV)
                  have c5b := cell_one ((Below.heap_setCell V ⟨nb, 0, none⟩ (.int .i64 ((pre.length : Int) + 1)) a5 (by simp; omega)).trans B.b5)
                  have u1b := cell_one nu.out
                  have g0 : ((x.1 : Int) != (x.1 : Int)) = false := by simp
                  have g1 : ((x.2 : Int) != (x.2 : Int)) = false := by simp
                  clear hi1 hi2 hpre kV B hTV hxx
                  by_cases htz : t = 0
                  · have tz : ((t : Int) == 0) = true := by rw [htz]; rfl
                    have HT := hid htz
                    clear htz
                    by_cases hle' : (pre.length : Int) + 1 = leave
                    · have tl : ((pre.length : Int) + 1 == leave) = true := by simp [hle']
                      have HLE := hid hle'
                      clear hle'
                      gi_wp2
                      refine ⟨(KeepsOthers.setCell _ _ _).from _, rfl, HT.out, ?_, H2.out.setCell (p := ⟨nb, 0, none⟩) (by have := HNB.out; simp; omega) _⟩
                      rw [← HLE.out]
                      exact nu.out
                    · have tl : ((pre.length : Int) + 1 == leave) = false := by simpa using hle'
                      gi_wp2
                      refine ⟨(KeepsOthers.setCell _ _ _).from _, Kc.of_kp (Kp.setCell _ ⟨nb, 0, none⟩ _) (by have := hs1; simp <;> omega), ?_, H2.out.setCell (p := ⟨nb, 0, none⟩) (by have := HNB.out; simp; omega) _⟩
                      rw [List.length_append]
                      simpa using nu.out
                  · have tz : ((t : Int) == 0) = false := by simp; omega
                    gi_wp2
                    refine ⟨(KeepsOthers.setCell _ _ _).from _, Kc.of_kp (Kp.setCell _ ⟨nb, 0, none⟩ _) (by have := hs1; simp <;> omega), ?_, H2.out.setCell (p := ⟨nb, 0, none⟩) (by have := HNB.out; simp; omega) _⟩
                    rw [List.length_append]
                    simpa using nu.out
                case done =>
                  rintro D V hD ⟨hi1, hi2⟩ hK
                  rw [HX.out] at hi1
                  have kV := HKP.out.trans (Kp.of_below hi2)
                  have B := hB2.out.keep kV
                  have c7 := cell_one B.b7
                  have c5 := cell_one B.b5
                  have c17 := cell_one ((hi2.block tq (lt_of_block HTU.out)).trans HTU.out)
                  have c18 := cell_one hi1
                  have KV := hid kV
                  have IV := hid ((hi2.block ab (lt_of_block HIT.out)).trans HIT.out)
                  have LV := hid (show Live ab V Ds from ⟨fun E hE => (hi2.block E (lt_of_block (HLV.out.1 E hE))).trans (HLV.out.1 E hE), HLV.out.2⟩)
                  have HK := hid hK
                  clear kV B hi1 hi2 hK
                  have tn : ((X.length : Int) != (X.length : Int)) = false := by simp
                  by_cases htz : t = 0
                  · have tz : ((t : Int) == 0) = true := by rw [htz]; rfl
                    have tz1 : ((t : Int) == 1) = false := by rw [htz]; rfl
                    clear htz
                    gi_wp2
                    refine ⟨⟨t + 1, V.heap.size, D :: Ds, _, _, _, _, _, _, _, _, _, _, _, _, _, _, _, _, _, _, _, _, _, _, _, _, _, _, _, _, _, _, by omega, by simp [HDS.out], by have := lt_of_block IV.out; omega, rfl, (LV.out.alloc _).more ((Below.heap_alloc _ _ _ (lt_of_block HK.out)).trans HK.out) (fun E hE => by have := DL.out E hE; omega) (by omega), KV.out.trans (Kp.alloc _ _ _), (Below.heap_alloc _ _ _ (lt_of_block IV.out)).trans IV.out, ?_⟩, by simp [marks, HDS.out]; omega⟩
                    simpa using heap_alloc_new V (.cells #[.int .i64 ((t : Int) + 1)] 3)
                  · have tz : ((t : Int) == 0) = false := by rw [beq_eq_false_iff_ne]; omega
                    have tz1 : ((t : Int) == 1) = true := by rw [beq_iff_eq]; omega
                    clear htz
                    gi_wp2
                    refine ⟨⟨t + 1, V.heap.size, D :: Ds, _, _, _, _, _, _, _, _, _, _, _, _, _, _, _, _, _, _, _, _, _, _, _, _, _, _, _, _, _, _, by omega, by simp [HDS.out], by have := lt_of_block IV.out; omega, rfl, (LV.out.alloc _).more ((Below.heap_alloc _ _ _ (lt_of_block HK.out)).trans HK.out) (fun E hE => by have := DL.out E hE; omega) (by omega), KV.out.trans (Kp.alloc _ _ _), (Below.heap_alloc _ _ _ (lt_of_block IV.out)).trans IV.out, ?_⟩, by simp [marks, HDS.out]; omega⟩
                    simpa using heap_alloc_new V (.cells #[.int .i64 ((t : Int) + 1)] 3)
                case stop =>
                  rintro D cc pre V hD hpre ⟨rfl, htz, hi1, hi2⟩ hK
                  have kV := HKP.out.trans (Kp.of_below hi2)
                  have B := hB2.out.keep kV
                  have c7 := cell_one B.b7
                  have c5 := cell_one B.b5
                  have c17 := cell_one ((hi2.block tq (lt_of_block HTU.out)).trans HTU.out)
                  have c18 := cell_one hi1
                  have KV := hid kV
                  have IV := hid ((hi2.block ab (lt_of_block HIT.out)).trans HIT.out)
                  have LV := hid (show Live ab V Ds from ⟨fun E hE => (hi2.block E (lt_of_block (HLV.out.1 E hE))).trans (HLV.out.1 E hE), HLV.out.2⟩)
                  have HK := hid hK
                  clear kV B hi1 hi2 hK
                  have tz : ((t : Int) == 0) = true := by rw [htz]; rfl
                  have tz1 : ((t : Int) == 1) = false := by rw [htz]; rfl
                  have tl : (leave != leave) = false := by simp
                  clear htz
                  by_cases hll : leave = (X.length : Int)
                  · have tn : (leave != (X.length : Int)) = false := by simp [hll]
                    clear hll
                    gi_wp2
                    refine ⟨⟨t + 1, V.heap.size, D :: Ds, _, _, _, _, _, _, _, _, _, _, _, _, _, _, _, _, _, _, _, _, _, _, _, _, _, _, _, _, _, _, by omega, by simp [HDS.out], by have := lt_of_block IV.out; omega, rfl, (LV.out.alloc _).more ((Below.heap_alloc _ _ _ (lt_of_block HK.out)).trans HK.out) (fun E hE => by have := DL.out E hE; omega) (by omega), KV.out.trans (Kp.alloc _ _ _), (Below.heap_alloc _ _ _ (lt_of_block IV.out)).trans IV.out, ?_⟩, by simp [marks, HDS.out]; omega⟩
                    simpa using heap_alloc_new V (.cells #[.int .i64 ((t : Int) + 1)] 3)
                  · have tn : (leave != (X.length : Int)) = true := by simp [hll]
                    clear hll
                    gi_wp2
                    refine ⟨⟨t + 1, V.heap.size, D :: Ds, _, _, _, _, _, _, _, _, _, _, _, _, _, _, _, _, _, _, _, _, _, _, _, _, _, _, _, _, _, _, by omega, by simp [HDS.out], by have := lt_of_block IV.out; omega, rfl, (LV.out.alloc _).more ((Below.heap_alloc _ _ _ (lt_of_block HK.out)).trans HK.out) (fun E hE => by have := DL.out E hE; omega) (by omega), KV.out.trans (Kp.alloc _ _ _), (Below.heap_alloc _ _ _ (lt_of_block IV.out)).trans IV.out, ?_⟩, by simp [marks, HDS.out]; omega⟩
                    simpa using heap_alloc_new V (.cells #[.int .i64 ((t : Int) + 1)] 3)
    | _ => exact hpost.elim
end Go.Proofs.Ytfhbcigeoagedaa
