/- Same. -/
import Derived.Laws.Tables
import Derived.Deep.MidRow
import Derived.Test.YtjggpchjfglgcaaEq
namespace Go.Proofs.Ytjggpchjfglgcaa
open Go.RowKit Go.Shelf Go.Lib
attribute [local go_sem] Oper.semAt_some

set_option maxRecDepth 100000 in
set_option maxHeartbeats 2000000 in
theorem same_any {w : World} {p q : Option Addr} {M U : Cn} {z z' : Bool} (h1 : Cv w p M z) (h2 : Cv w q U z') (hl : M.L.length ≤ 8) : Calls Try.prog 12 #[.pointer p, .pointer q] w fun e w' => e = .returned (.bool ((z == z') && sameV M U)) ∧ Kp w w' [] := by
  have CA := hid (fun (W : World) (hk : Kp w W []) => cleanups_any (h1.keep hk))
  have CB := hid (fun (W : World) (hk : Kp w W []) => cleanups_any (h2.keep hk))
  have IA := hid (fun (W : World) (hk : Kp w W []) => isz_any (h1.keep hk))
  have IB := hid (fun (W : World) (hk : Kp w W []) => isz_any (h2.keep hk))
  have NA := hid (fun (W : World) (hk : Kp w W []) => now_any (h1.keep hk))
  have NB := hid (fun (W : World) (hk : Kp w W []) => now_any (h2.keep hk))
  have OA := hid (stA_one M)
  have OB := hid (stA_one U)
  have ZA := hid (size57 M)
  have ZB := hid (size57 U)
  have R1 := hid (fun (W : World) (a : Nat) (h : W.heap[a]? = some (.cells (stA M) 57 (0, 0))) => And.intro (count57 h) (range57 h))
  have R2 := hid (fun (W : World) (a : Nat) (h : W.heap[a]? = some (.cells (stA U) 57 (0, 0))) => And.intro (count57 h) (range57 h))
  have hfl := fl_eql M U
  have hpl := arr_eql M.L U.L
  have hg4 := fun (w : World) (x y : Operand) (xs ys : Array Value) => run_eqGuard_agg (P := Try.prog) w .eql 54 x y xs ys (by kernel_rfl)
  have hg5 := fun (w : World) (x y : Operand) (xs ys : Array Value) => run_eqGuard_agg (P := Try.prog) w .eql 55 x y xs ys (by kernel_rfl)
  have hpB := hid (fun (h : M.L.length = U.L.length) => plB_iff hl h)
  have SA : (stA M).size = 17 := rfl
  have SB : (stA U).size = 17 := rfl
  have HSA := hid (And.intro SA SB)
  unfold sameV
  have HNE := hid (fun (h : ¬ M.L.length = U.L.length) => decide_eq_false (p := M.L = U.L) (fun e => h (by rw [e])))
  generalize decide (M.L = U.L) = D at hpB HNE ⊢
  generalize plB M.L U.L = PB at hpl hpB
  generalize flB M U = FB at hfl ⊢
  generalize flV M = F1 at hfl NA
  generalize flV U = F2 at hfl NB
  obtain ⟨x0, x1, x2, x3, x4, x5, x6, x7, x8, x9, x10, x11, x12, x13, x14, x15, hP1⟩ : ∃ x0 x1 x2 x3 x4 x5 x6 x7 x8 x9 x10 x11 x12 x13 x14 x15, plT M.L = [x0, x1, x2, x3, x4, x5, x6, x7, x8, x9, x10, x11, x12, x13, x14, x15] := ⟨_, _, _, _, _, _, _, _, _, _, _, _, _, _, _, _, rfl⟩
  obtain ⟨y0, y1, y2, y3, y4, y5, y6, y7, y8, y9, y10, y11, y12, y13, y14, y15, hP2⟩ : ∃ y0 y1 y2 y3 y4 y5 y6 y7 y8 y9 y10 y11 y12 y13 y14 y15, plT U.L = [y0, y1, y2, y3, y4, y5, y6, y7, y8, y9, y10, y11, y12, y13, y14, y15] := ⟨_, _, _, _, _, _, _, _, _, _, _, _, _, _, _, _, rfl⟩
  rw [hP1] at hpl R1
  rw [hP2] at hpl R2
  generalize M.L.length = n1 at R1 hpB HNE
  generalize U.L.length = n2 at R2 hpB HNE
  generalize stA M = A1 at CA OA ZA R1 HSA
  generalize stA U = A2 at CB OB ZB R2 HSA
  clear h1 h2 hl SA SB hP1 hP2
  go_enter Try.func12, Try.ntmps12
  go_wp2_with fail
  refine (CA.out w (Kp.refl _ _)).mono ?_
  rintro e w1 ⟨rfl, k1⟩
  have K1 := hid k1
  clear k1
  go_wp2_with fail
  refine (CB.out w1 K1.out).mono ?_
  rintro e w2 ⟨rfl, k2⟩
  have K2 := hid (K1.out.trans k2)
  clear k2 CA CB K1
  have hA0 : ((w2.alloc (.cells #[.int .i64 0, .int .i64 0, .int .i64 0, .int .i64 0, .int .i64 0, .int .i64 0, .int .i64 0, .int .i64 0, .int .i64 0, .int .i64 0, .int .i64 0, .int .i64 0, .int .i64 0, .int .i64 0, .int .i64 0, .int .i64 0, .int .i64 0] 57)).alloc (.cells #[.int .i64 0, .int .i64 0, .int .i64 0, .int .i64 0, .int .i64 0, .int .i64 0, .int .i64 0, .int .i64 0, .int .i64 0, .int .i64 0, .int .i64 0, .int .i64 0, .int .i64 0, .int .i64 0, .int .i64 0, .int .i64 0, .int .i64 0] 57)).heap[w2.heap.size]? = some (.cells #[.int .i64 0, .int .i64 0, .int .i64 0, .int .i64 0, .int .i64 0, .int .i64 0, .int .i64 0, .int .i64 0, .int .i64 0, .int .i64 0, .int .i64 0, .int .i64 0, .int .i64 0, .int .i64 0, .int .i64 0, .int .i64 0, .int .i64 0] 57 (0, 0)) := (Below.heap_alloc _ _ _ (by simp)).trans (heap_alloc_new w2 _)
  have hB0 : ((w2.alloc (.cells #[.int .i64 0, .int .i64 0, .int .i64 0, .int .i64 0, .int .i64 0, .int .i64 0, .int .i64 0, .int .i64 0, .int .i64 0, .int .i64 0, .int .i64 0, .int .i64 0, .int .i64 0, .int .i64 0, .int .i64 0, .int .i64 0, .int .i64 0] 57)).alloc (.cells #[.int .i64 0, .int .i64 0, .int .i64 0, .int .i64 0, .int .i64 0, .int .i64 0, .int .i64 0, .int .i64 0, .int .i64 0, .int .i64 0, .int .i64 0, .int .i64 0, .int .i64 0, .int .i64 0, .int .i64 0, .int .i64 0, .int .i64 0] 57)).heap[w2.heap.size + 1]? = some (.cells #[.int .i64 0, .int .i64 0, .int .i64 0, .int .i64 0, .int .i64 0, .int .i64 0, .int .i64 0, .int .i64 0, .int .i64 0, .int .i64 0, .int .i64 0, .int .i64 0, .int .i64 0, .int .i64 0, .int .i64 0, .int .i64 0, .int .i64 0] 57 (0, 0)) := by
    have := heap_alloc_new (w2.alloc (.cells #[.int .i64 0, .int .i64 0, .int .i64 0, .int .i64 0, .int .i64 0, .int .i64 0, .int .i64 0, .int .i64 0, .int .i64 0, .int .i64 0, .int .i64 0, .int .i64 0, .int .i64 0, .int .i64 0, .int .i64 0, .int .i64 0, .int .i64 0] 57)) (.cells #[.int .i64 0, .int .i64 0, .int .i64 0, .int .i64 0, .int .i64 0, .int .i64 0, .int .i64 0, .int .i64 0, .int .i64 0, .int .i64 0, .int .i64 0, .int .i64 0, .int .i64 0, .int .i64 0, .int .i64 0, .int .i64 0, .int .i64 0] 57)
    simpa using this
  have HA0 := hid hA0
  have HB0 := hid hB0
  clear hA0 hB0
  go_wp2_with (first
    | (refine wpList_store_row rfl 57 (.tmp 5) (.tmp 8) rfl w2.heap.size A1 rfl rfl 57 _ HA0.out ZA.out (by rw [HSA.out.1]; rfl) OA.out ?_)
    | (refine wpList_store_row rfl 57 (.tmp 6) (.tmp 10) rfl (w2.heap.size + 1) A2 rfl rfl 57 _ (by rw [setRow_other _ _ _ _ (by omega)]; exact HB0.out) ZB.out (by rw [HSA.out.2]; rfl) OB.out ?_))
  have FX := hid (show Kp w ((((w2.alloc (.cells #[.int .i64 0, .int .i64 0, .int .i64 0, .int .i64 0, .int .i64 0, .int .i64 0, .int .i64 0, .int .i64 0, .int .i64 0, .int .i64 0, .int .i64 0, .int .i64 0, .int .i64 0, .int .i64 0, .int .i64 0, .int .i64 0, .int .i64 0] 57)).alloc (.cells #[.int .i64 0, .int .i64 0, .int .i64 0, .int .i64 0, .int .i64 0, .int .i64 0, .int .i64 0, .int .i64 0, .int .i64 0, .int .i64 0, .int .i64 0, .int .i64 0, .int .i64 0, .int .i64 0, .int .i64 0, .int .i64 0, .int .i64 0] 57)).setRow w2.heap.size A1).setRow (w2.heap.size + 1) A2) [] ∧ ((((w2.alloc (.cells #[.int .i64 0, .int .i64 0, .int .i64 0, .int .i64 0, .int .i64 0, .int .i64 0, .int .i64 0, .int .i64 0, .int .i64 0, .int .i64 0, .int .i64 0, .int .i64 0, .int .i64 0, .int .i64 0, .int .i64 0, .int .i64 0, .int .i64 0] 57)).alloc (.cells #[.int .i64 0, .int .i64 0, .int .i64 0, .int .i64 0, .int .i64 0, .int .i64 0, .int .i64 0, .int .i64 0, .int .i64 0, .int .i64 0, .int .i64 0, .int .i64 0, .int .i64 0, .int .i64 0, .int .i64 0, .int .i64 0, .int .i64 0] 57)).setRow w2.heap.size A1).setRow (w2.heap.size + 1) A2).heap[w2.heap.size]? = some (.cells A1 57 (0, 0)) ∧ ((((w2.alloc (.cells #[.int .i64 0, .int .i64 0, .int .i64 0, .int .i64 0, .int .i64 0, .int .i64 0, .int .i64 0, .int .i64 0, .int .i64 0, .int .i64 0, .int .i64 0, .int .i64 0, .int .i64 0, .int .i64 0, .int .i64 0, .int .i64 0, .int .i64 0] 57)).alloc (.cells #[.int .i64 0, .int .i64 0, .int .i64 0, .int .i64 0, .int .i64 0, .int .i64 0, .int .i64 0, .int .i64 0, .int .i64 0, .int .i64 0, .int .i64 0, .int .i64 0, .int .i64 0, .int .i64 0, .int .i64 0, .int .i64 0, .int .i64 0] 57)).setRow w2.heap.size A1).setRow (w2.heap.size + 1) A2).heap[w2.heap.size + 1]? = some (.cells A2 57 (0, 0)) from
    ⟨⟨K2.out.os, K2.out.tape, K2.out.output, by have := K2.out.size; simp; omega, fun k hk hn => by
      have := K2.out.size
      rw [setRow_other _ _ _ _ (by omega), setRow_other _ _ _ _ (by omega)]
      exact (((Kp.alloc w2 _ []).trans (Kp.alloc _ _ [])).block k (by omega) (by simp)).trans (K2.out.block k hk hn)⟩,
      by rw [setRow_other _ _ _ _ (by omega)]; exact setRow_heap _ _ _ _ _ _ HA0.out, setRow_heap _ _ _ _ _ _ (by rw [setRow_other _ _ _ _ (by omega)]; exact HB0.out)⟩)
  generalize (((w2.alloc (.cells #[.int .i64 0, .int .i64 0, .int .i64 0, .int .i64 0, .int .i64 0, .int .i64 0, .int .i64 0, .int .i64 0, .int .i64 0, .int .i64 0, .int .i64 0, .int .i64 0, .int .i64 0, .int .i64 0, .int .i64 0, .int .i64 0, .int .i64 0] 57)).alloc (.cells #[.int .i64 0, .int .i64 0, .int .i64 0, .int .i64 0, .int .i64 0, .int .i64 0, .int .i64 0, .int .i64 0, .int .i64 0, .int .i64 0, .int .i64 0, .int .i64 0, .int .i64 0, .int .i64 0, .int .i64 0, .int .i64 0, .int .i64 0] 57)).setRow w2.heap.size A1).setRow (w2.heap.size + 1) A2 = W4 at FX ⊢
  generalize w2.heap.size = a at FX ⊢
  clear HA0 HB0 OA OB ZA ZB HSA K2
  rcases z with _ | _ <;> rcases z' with _ | _
  · skip
    refine (IA.out W4 FX.out.1).mono ?_
    rintro e y ⟨rfl, hw⟩; obtain rfl := hw.symm
    clear hw
    go_wp2_with fail
    refine (IB.out W4 FX.out.1).mono ?_
    rintro e y ⟨rfl, hw⟩; obtain rfl := hw.symm
    clear hw
    go_wp2_with fail
    refine (NA.out W4 FX.out.1).mono ?_
    rintro e W5 ⟨rfl, k5⟩
    have K5 := hid k5
    clear k5
    go_wp2_with fail
    refine (NB.out W5 (FX.out.1.trans K5.out)).mono ?_
    rintro e W6 ⟨rfl, k6⟩
    have K6 := hid (K5.out.trans k6)
    have e1 := (k6.block a (by have := K5.out.size; have := lt_of_block FX.out.2.1; omega) (by simp)).trans ((K5.out.block a (lt_of_block FX.out.2.1) (by simp)).trans FX.out.2.1)
    have e2 := (k6.block (a + 1) (by have := K5.out.size; have := lt_of_block FX.out.2.2; omega) (by simp)).trans ((K5.out.block (a + 1) (lt_of_block FX.out.2.2) (by simp)).trans FX.out.2.2)
    obtain ⟨c0, r1⟩ := R1.out W6 a e1
    obtain ⟨d0, r2⟩ := R2.out W6 (a + 1) e2
    have RR1 := hid r1
    have RR2 := hid r2
    have KK := hid (FX.out.1.trans K6.out)
    clear k6 e1 e2 r1 r2
    cases FB with
    | false =>
      go_wp2_with fail
      go_ret
      exact ⟨rfl, KK.out⟩
    | true =>
      by_cases hn : n1 = n2
      · have hqI : ((n1 : Int) == (n2 : Int)) = true := by simp [hn]
        have hD := hpB.out hn
        subst hD
        clear hn
        have cx0 : W6.cell? ⟨a, 1, none⟩ = some x0 := RR1.out 0 _ rfl
        have cx1 : W6.cell? ⟨a, 2, none⟩ = some x1 := RR1.out 1 _ rfl
        have cx2 : W6.cell? ⟨a, 3, none⟩ = some x2 := RR1.out 2 _ rfl
        have cx3 : W6.cell? ⟨a, 4, none⟩ = some x3 := RR1.out 3 _ rfl
        have cx4 : W6.cell? ⟨a, 5, none⟩ = some x4 := RR1.out 4 _ rfl
        have cx5 : W6.cell? ⟨a, 6, none⟩ = some x5 := RR1.out 5 _ rfl
        have cx6 : W6.cell? ⟨a, 7, none⟩ = some x6 := RR1.out 6 _ rfl
        have cx7 : W6.cell? ⟨a, 8, none⟩ = some x7 := RR1.out 7 _ rfl
        have cx8 : W6.cell? ⟨a, 9, none⟩ = some x8 := RR1.out 8 _ rfl
        have cx9 : W6.cell? ⟨a, 10, none⟩ = some x9 := RR1.out 9 _ rfl
        have cx10 : W6.cell? ⟨a, 11, none⟩ = some x10 := RR1.out 10 _ rfl
        have cx11 : W6.cell? ⟨a, 12, none⟩ = some x11 := RR1.out 11 _ rfl
        have cx12 : W6.cell? ⟨a, 13, none⟩ = some x12 := RR1.out 12 _ rfl
        have cx13 : W6.cell? ⟨a, 14, none⟩ = some x13 := RR1.out 13 _ rfl
        have cx14 : W6.cell? ⟨a, 15, none⟩ = some x14 := RR1.out 14 _ rfl
        have cx15 : W6.cell? ⟨a, 16, none⟩ = some x15 := RR1.out 15 _ rfl
        have cy0 : W6.cell? ⟨a + 1, 1, none⟩ = some y0 := RR2.out 0 _ rfl
        have cy1 : W6.cell? ⟨a + 1, 2, none⟩ = some y1 := RR2.out 1 _ rfl
        have cy2 : W6.cell? ⟨a + 1, 3, none⟩ = some y2 := RR2.out 2 _ rfl
        have cy3 : W6.cell? ⟨a + 1, 4, none⟩ = some y3 := RR2.out 3 _ rfl
        have cy4 : W6.cell? ⟨a + 1, 5, none⟩ = some y4 := RR2.out 4 _ rfl
        have cy5 : W6.cell? ⟨a + 1, 6, none⟩ = some y5 := RR2.out 5 _ rfl
        have cy6 : W6.cell? ⟨a + 1, 7, none⟩ = some y6 := RR2.out 6 _ rfl
        have cy7 : W6.cell? ⟨a + 1, 8, none⟩ = some y7 := RR2.out 7 _ rfl
        have cy8 : W6.cell? ⟨a + 1, 9, none⟩ = some y8 := RR2.out 8 _ rfl
        have cy9 : W6.cell? ⟨a + 1, 10, none⟩ = some y9 := RR2.out 9 _ rfl
        have cy10 : W6.cell? ⟨a + 1, 11, none⟩ = some y10 := RR2.out 10 _ rfl
        have cy11 : W6.cell? ⟨a + 1, 12, none⟩ = some y11 := RR2.out 11 _ rfl
        have cy12 : W6.cell? ⟨a + 1, 13, none⟩ = some y12 := RR2.out 12 _ rfl
        have cy13 : W6.cell? ⟨a + 1, 14, none⟩ = some y13 := RR2.out 13 _ rfl
        have cy14 : W6.cell? ⟨a + 1, 15, none⟩ = some y14 := RR2.out 14 _ rfl
        have cy15 : W6.cell? ⟨a + 1, 16, none⟩ = some y15 := RR2.out 15 _ rfl
        go_wp2_with fail
        go_ret
        exact ⟨rfl, KK.out⟩
      · have hqI : ((n1 : Int) == (n2 : Int)) = false := by simp; omega
        have hD := HNE.out hn
        subst hD
        clear hn
        go_wp2_with fail
        go_ret
        exact ⟨rfl, KK.out⟩
  · skip
    refine (IA.out W4 FX.out.1).mono ?_
    rintro e y ⟨rfl, hw⟩; obtain rfl := hw.symm
    clear hw
    go_wp2_with fail
    refine (IB.out W4 FX.out.1).mono ?_
    rintro e y ⟨rfl, hw⟩; obtain rfl := hw.symm
    clear hw
    go_wp2_with fail
    go_ret
    exact ⟨rfl, FX.out.1⟩
  · skip
    refine (IA.out W4 FX.out.1).mono ?_
    rintro e y ⟨rfl, hw⟩; obtain rfl := hw.symm
    clear hw
    go_wp2_with fail
    refine (IB.out W4 FX.out.1).mono ?_
    rintro e y ⟨rfl, hw⟩; obtain rfl := hw.symm
    clear hw
    go_wp2_with fail
    go_ret
    exact ⟨rfl, FX.out.1⟩
  · skip
    refine (IA.out W4 FX.out.1).mono ?_
    rintro e y ⟨rfl, hw⟩; obtain rfl := hw.symm
    clear hw
    go_wp2_with fail
    refine (IB.out W4 FX.out.1).mono ?_
    rintro e y ⟨rfl, hw⟩; obtain rfl := hw.symm
    clear hw
    go_wp2_with fail
    refine (NA.out W4 FX.out.1).mono ?_
    rintro e W5 ⟨rfl, k5⟩
    have K5 := hid k5
    clear k5
    go_wp2_with fail
    refine (NB.out W5 (FX.out.1.trans K5.out)).mono ?_
    rintro e W6 ⟨rfl, k6⟩
    have K6 := hid (K5.out.trans k6)
    have e1 := (k6.block a (by have := K5.out.size; have := lt_of_block FX.out.2.1; omega) (by simp)).trans ((K5.out.block a (lt_of_block FX.out.2.1) (by simp)).trans FX.out.2.1)
    have e2 := (k6.block (a + 1) (by have := K5.out.size; have := lt_of_block FX.out.2.2; omega) (by simp)).trans ((K5.out.block (a + 1) (lt_of_block FX.out.2.2) (by simp)).trans FX.out.2.2)
    obtain ⟨c0, r1⟩ := R1.out W6 a e1
    obtain ⟨d0, r2⟩ := R2.out W6 (a + 1) e2
    have RR1 := hid r1
    have RR2 := hid r2
    have KK := hid (FX.out.1.trans K6.out)
    clear k6 e1 e2 r1 r2
    cases FB with
    | false =>
      go_wp2_with fail
      go_ret
      exact ⟨rfl, KK.out⟩
    | true =>
      by_cases hn : n1 = n2
      · have hqI : ((n1 : Int) == (n2 : Int)) = true := by simp [hn]
        have hD := hpB.out hn
        subst hD
        clear hn
        have cx0 : W6.cell? ⟨a, 1, none⟩ = some x0 := RR1.out 0 _ rfl
        have cx1 : W6.cell? ⟨a, 2, none⟩ = some x1 := RR1.out 1 _ rfl
        have cx2 : W6.cell? ⟨a, 3, none⟩ = some x2 := RR1.out 2 _ rfl
        have cx3 : W6.cell? ⟨a, 4, none⟩ = some x3 := RR1.out 3 _ rfl
        have cx4 : W6.cell? ⟨a, 5, none⟩ = some x4 := RR1.out 4 _ rfl
        have cx5 : W6.cell? ⟨a, 6, none⟩ = some x5 := RR1.out 5 _ rfl
        have cx6 : W6.cell? ⟨a, 7, none⟩ = some x6 := RR1.out 6 _ rfl
        have cx7 : W6.cell? ⟨a, 8, none⟩ = some x7 := RR1.out 7 _ rfl
        have cx8 : W6.cell? ⟨a, 9, none⟩ = some x8 := RR1.out 8 _ rfl
        have cx9 : W6.cell? ⟨a, 10, none⟩ = some x9 := RR1.out 9 _ rfl
        have cx10 : W6.cell? ⟨a, 11, none⟩ = some x10 := RR1.out 10 _ rfl
        have cx11 : W6.cell? ⟨a, 12, none⟩ = some x11 := RR1.out 11 _ rfl
        have cx12 : W6.cell? ⟨a, 13, none⟩ = some x12 := RR1.out 12 _ rfl
        have cx13 : W6.cell? ⟨a, 14, none⟩ = some x13 := RR1.out 13 _ rfl
        have cx14 : W6.cell? ⟨a, 15, none⟩ = some x14 := RR1.out 14 _ rfl
        have cx15 : W6.cell? ⟨a, 16, none⟩ = some x15 := RR1.out 15 _ rfl
        have cy0 : W6.cell? ⟨a + 1, 1, none⟩ = some y0 := RR2.out 0 _ rfl
        have cy1 : W6.cell? ⟨a + 1, 2, none⟩ = some y1 := RR2.out 1 _ rfl
        have cy2 : W6.cell? ⟨a + 1, 3, none⟩ = some y2 := RR2.out 2 _ rfl
        have cy3 : W6.cell? ⟨a + 1, 4, none⟩ = some y3 := RR2.out 3 _ rfl
        have cy4 : W6.cell? ⟨a + 1, 5, none⟩ = some y4 := RR2.out 4 _ rfl
        have cy5 : W6.cell? ⟨a + 1, 6, none⟩ = some y5 := RR2.out 5 _ rfl
        have cy6 : W6.cell? ⟨a + 1, 7, none⟩ = some y6 := RR2.out 6 _ rfl
        have cy7 : W6.cell? ⟨a + 1, 8, none⟩ = some y7 := RR2.out 7 _ rfl
        have cy8 : W6.cell? ⟨a + 1, 9, none⟩ = some y8 := RR2.out 8 _ rfl
        have cy9 : W6.cell? ⟨a + 1, 10, none⟩ = some y9 := RR2.out 9 _ rfl
        have cy10 : W6.cell? ⟨a + 1, 11, none⟩ = some y10 := RR2.out 10 _ rfl
        have cy11 : W6.cell? ⟨a + 1, 12, none⟩ = some y11 := RR2.out 11 _ rfl
        have cy12 : W6.cell? ⟨a + 1, 13, none⟩ = some y12 := RR2.out 12 _ rfl
        have cy13 : W6.cell? ⟨a + 1, 14, none⟩ = some y13 := RR2.out 13 _ rfl
        have cy14 : W6.cell? ⟨a + 1, 15, none⟩ = some y14 := RR2.out 14 _ rfl
        have cy15 : W6.cell? ⟨a + 1, 16, none⟩ = some y15 := RR2.out 15 _ rfl
        go_wp2_with fail
        go_ret
        exact ⟨rfl, KK.out⟩
      · have hqI : ((n1 : Int) == (n2 : Int)) = false := by simp; omega
        have hD := HNE.out hn
        subst hD
        clear hn
        go_wp2_with fail
        go_ret
        exact ⟨rfl, KK.out⟩
end Go.Proofs.Ytjggpchjfglgcaa
