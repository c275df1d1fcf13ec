/- Aligned: the walk. -/
import Derived.Test.YtgefmnnkpffpcaaGreatDoorRlookJ
namespace Go.Proofs.YtgefmnnkpffpcaaGreatDoor
open Go.RowKit Go.Maps

set_option maxRecDepth 100000 in
set_option maxHeartbeats 4000000 in
theorem aligned_any (w : World) (hb rb mb pb n : Nat) (g : Mem) (c : Int) (P : Pcs) (mul m : Int) (h : Hp w hb rb mb pb n g c P) (hc : c < 1152921504606820000) (hmul : isMul mul = true) (h1 : 1 ≤ m) (h2 : m ≤ 65536) (hP : P.length < maxLen) :
    Calls Tryz.prog 19 #[.pointer (some ⟨hb, 0, none⟩), .int .i64 mul, .int .i64 m] w fun e w' => e = .returned (allocAns (aligned n g P mul m)) ∧ Went w w' hb rb mb pb n (allocMem g (aligned n g P mul m)) (allocPcs P (aligned n g P mul m)) c 52 [rb, mb, pb] := by
  have A1 := hid ((Kp.alloc w (.cells #[.int .i64 mul] 3) []).trans (Kp.alloc _ (.cells #[.int .i64 m] 3) []))
  have H1 := hid (h.same A1.out)
  have M := hid (show (isMul mul && mayB m) = true by rw [hmul, show mayB m = true from decide_eq_true ⟨h1, h2⟩]; rfl)
  obtain ⟨k, hk3, hk12, hmk⟩ := mul_pow hmul
  have hmb : 8 ≤ mul ∧ mul ≤ 4096 := by
    unfold isMul at hmul
    simp only [Bool.and_eq_true] at hmul
    exact of_decide_eq_true hmul.1
  obtain ⟨r, hr⟩ : ∃ r, aligned n g P mul m = r := ⟨_, rfl⟩
  rw [hr]
  unfold aligned at hr
  have hnd := needed_range h1 h2
  obtain ⟨z, hz⟩ : ∃ z, needed m = z := ⟨_, rfl⟩
  rw [hz] at hnd hr
  have HZ := hid hz
  have RR := hid hr
  have HL := hid h.lt
  have Z8 := hid hnd.2.2
  have MK := hid hmk
  have hz0 : 16 ≤ z ∧ z ≤ 65544 := ⟨hnd.1, hnd.2.1⟩
  clear h hr hz hnd hmul hmk
  go_enter Tryz.func19, Tryz.ntmps19
  go_wp2_with fail
  refine (refusal_any _ hb rb mb pb n 58 _ g c P (isMul mul && mayB m) H1.out enters58 (may2 _ _ _ mul m (cell_past cell_new0) cell_new1 (by omega))).mono ?_
  rintro e w1 ⟨rfl, hK1⟩
  rw [M.out]
  have Q1 := hid (And.intro (hK1.cell (cell_past (o := .cells #[.int .i64 m] 3) (cell_new0 (w := w) (v := .int .i64 mul) (t := 3))) (by simp)) (hK1.cell (cell_new1 (w := w) (v := .int .i64 m) (t := 3) (o1 := .cells #[.int .i64 mul] 3)) (by simp)))
  have H2 := hid (H1.out.same hK1)
  have K1 := hid (A1.out.trans hK1)
  clear hK1
  go_wp2_with fail
  have wa : IntKind.i64.wrap (z + mul) = z + mul := IntWalk.i64_in _ ⟨by omega, by omega⟩
  have wb : IntKind.i64.wrap (z + mul + 16) = z + mul + 16 := IntWalk.i64_in _ ⟨by omega, by omega⟩
  have NB := hid (show w1.heap.size ∉ [rb, mb] by simp; have := H2.out.lt; omega)
  have SS := hid (show ∀ W, Kp w1 W [rb, mb, w1.heap.size] → W.cell? ⟨w.heap.size, 0, none⟩ = some (.int .i64 mul) ∧ W.cell? ⟨w.heap.size + 1, 0, none⟩ = some (.int .i64 m) from
    fun W hW => ⟨hW.cell Q1.out.1 (by simp; have := HL.out; have := World.block_lt_of_cell? _ _ Q1.out.2; simp at this; omega), hW.cell Q1.out.2 (by simp; have := HL.out; have := World.block_lt_of_cell? _ _ Q1.out.2; simp at this; omega)⟩)
  cases hf : find n g P (z + mul + 16) with
  | none =>
    have E := hid (show r = none by rw [← RR.out, hf])
    have HF := hid hf
    clear hf
    go_region_held (fun w' => w'.cell? ⟨w.heap.size, 0, none⟩ = some (.int .i64 mul) ∧ w'.cell? ⟨w.heap.size + 1, 0, none⟩ = some (.int .i64 m))
      (first | exact SS.out _ (by first | exact Kp.drew _ _ | exact (Kp.drew _ _).trans (Kp.alloc _ _ _) | exact KB.out | exact KB.out.trans (Kp.alloc _ _ _) | exact KB.out.trans ((Kp.two _ _ _ _).mono (by simp))))
      (first
        | (go_at_call 56; refine (needed_any _ m (by omega) (by omega)).mono ?_; rintro e w2 ⟨rfl, rfl⟩; rw [HZ.out])
        | (go_at_call 55; refine (find_any _ hb rb mb pb n g c P (z + mul + 16) (H2.out.same (by first | exact Kp.drew _ _ | exact (Kp.drew _ _).trans (Kp.alloc _ _ _))) (by omega) (by omega) (by omega)).mono ?_; rintro e w3 ⟨he, c3, hc3, hc3', hH3, hK3⟩; rw [HF.out] at he hH3; simp only [findAns, findMem] at he hH3; subst he; have KB : Hid (Kp w1 w3 [rb, mb, w1.heap.size]) := (by first | exact (Kp.drew _ _).trans (hK3.mono (by simp)) | exact ((Kp.drew _ _).trans (Kp.alloc _ _ _)).trans (hK3.mono (by simp))); (first | (have HX := hid ((hK3.block w1.heap.size (by simp) NB.out).trans (heap_alloc_new w1.drew _)); have u1 := cell_two0 HX.out; have u2 := cell_two1 HX.out; have u3 := free_two (i := 0) HX.out; have u4 := free_two (i := 1) HX.out) | skip); have H3 := hid hH3; clear hH3 hK3))
    all_goals go_wp2
    all_goals go_ret2
    all_goals rw [E.out]
    all_goals refine ⟨rfl, ?_⟩
    all_goals have W3 : Went w w3 hb rb mb pb n g P c 52 [rb, mb, pb] := ⟨c3, by omega, by omega, H3.out, (K1.out.nil (r := [rb, mb, pb])).past KB.out (by intro k hk hlt; have := K1.out.size; simp at hk ⊢; omega)⟩
    all_goals (first | exact W3.after (Kp.alloc _ _ _) | exact W3.store _ _ (by have := H2.out.lt; omega) (by have := K1.out.size; omega))
  | some x =>
    obtain ⟨a, s, g'⟩ := x
    have F := find_some (by omega) (by omega) hf
    have R1 := RR.out
    rw [hf] at R1
    have R2 := hid (show r = if a < alignedFrom a mul then some (alignedFrom a mul + 8, give n (putIn n g' a (alignedFrom a mul - a)) P (alignedFrom a mul) (a + s - alignedFrom a mul) z) else some (a + 8, give n g' P a s z) from R1.symm)
    have AF := aligned_facts MK.out hk3 F.2.1
    have HF := hid hf
    have hn := H2.out.nb
    have F8 := hid (And.intro F.2.2.2.2.1 F.2.1)
    have hs0 : 112 ≤ a ∧ 16 ≤ s ∧ a + s ≤ n ∧ z + mul + 16 ≤ s := by omega
    obtain ⟨t, ht⟩ : ∃ t, alignedFrom a mul = t := ⟨_, rfl⟩
    rw [ht] at AF R2
    have T := hid ht
    have AF' := hid AF
    have ht0 : a ≤ t ∧ t ≤ a + 15 + mul := by omega
    clear hf F R1 ht AF
    go_region_held (fun w' => w'.cell? ⟨w.heap.size, 0, none⟩ = some (.int .i64 mul) ∧ w'.cell? ⟨w.heap.size + 1, 0, none⟩ = some (.int .i64 m))
      (first | exact SS.out _ (by first | exact Kp.drew _ _ | exact (Kp.drew _ _).trans (Kp.alloc _ _ _) | exact KB.out | exact KB.out.trans (Kp.alloc _ _ _) | exact KB.out.trans ((Kp.two _ _ _ _).mono (by simp))))
      (first
        | (go_at_call 56; refine (needed_any _ m (by omega) (by omega)).mono ?_; rintro e w2 ⟨rfl, rfl⟩; rw [HZ.out])
        | (go_at_call 55; refine (find_any _ hb rb mb pb n g c P (z + mul + 16) (H2.out.same (by first | exact Kp.drew _ _ | exact (Kp.drew _ _).trans (Kp.alloc _ _ _))) (by omega) (by omega) (by omega)).mono ?_; rintro e w3 ⟨he, c3, hc3, hc3', hH3, hK3⟩; rw [HF.out] at he hH3; simp only [findAns, findMem] at he hH3; subst he; have KB : Hid (Kp w1 w3 [rb, mb, w1.heap.size]) := (by first | exact (Kp.drew _ _).trans (hK3.mono (by simp)) | exact ((Kp.drew _ _).trans (Kp.alloc _ _ _)).trans (hK3.mono (by simp))); (first | (have HX := hid ((hK3.block w1.heap.size (by simp) NB.out).trans (heap_alloc_new w1.drew _)); have u1 := cell_two0 HX.out; have u2 := cell_two1 HX.out; have u3 := free_two (i := 0) HX.out; have u4 := free_two (i := 1) HX.out) | skip); have H3 := hid hH3; clear hH3 hK3))
    all_goals have hs1 := K1.out.size
    all_goals have L2 := H2.out.lt
    all_goals have hq1 : w.heap.size + 1 < w1.heap.size := World.block_lt_of_cell? _ _ Q1.out.2
    all_goals have K3 := hid (show Kp w w3 [rb, mb, pb] from (K1.out.nil (r := [rb, mb, pb])).past KB.out (by intro k hk hlt; simp at hk ⊢; omega))
    all_goals have hs3 := KB.out.size
    all_goals (first
      | (have X4 := hid (stored2 (a := .int .i64 a) (b := .int .i64 s) HX.out)
         have kt := Kp.two w3 w1.heap.size (.int .i64 a) (.int .i64 s)
         have H4 := hid (H3.out.keep kt (by simp; omega) (by simp; omega) (by simp; omega) (by simp; omega) (by simp; omega))
         have K4 := hid (K3.out.past kt (by intro k hk hlt; simp at hk; omega))
         have Q4 := hid (SS.out _ (KB.out.trans (kt.mono (by simp))))
         have hp1 : w1.heap.size ≤ w1.heap.size := Nat.le_refl _
         obtain ⟨W4, hW4⟩ : ∃ W4, (w3.setCell ⟨w1.heap.size, 0, none⟩ (.int .i64 a)).setCell ⟨w1.heap.size, 1, none⟩ (.int .i64 s) = W4 := ⟨_, rfl⟩
         rw [hW4] at X4 H4 K4 Q4 ⊢
         clear kt hW4 HX u1 u2 u3 u4
         obtain ⟨p, hp⟩ : ∃ p, w1.heap.size = p := ⟨_, rfl⟩
         rw [hp] at X4 ⊢
         have hp1 : w1.heap.size ≤ p := by omega
         clear hp)
      | (have X4 := hid (heap_alloc_new w3 (.cells #[.int .i64 a, .int .i64 s] 87))
         have H4 := hid (H3.out.same (Kp.alloc w3 (.cells #[.int .i64 a, .int .i64 s] 87) []))
         have K4 := hid (K3.out.trans (Kp.alloc w3 (.cells #[.int .i64 a, .int .i64 s] 87) _))
         have Q4 := hid (SS.out _ (KB.out.trans (Kp.alloc w3 (.cells #[.int .i64 a, .int .i64 s] 87) _)))
         obtain ⟨W4, hW4⟩ : ∃ W4, w3.alloc (.cells #[.int .i64 a, .int .i64 s] 87) = W4 := ⟨_, rfl⟩
         rw [hW4] at X4 H4 K4 Q4 ⊢
         clear hW4
         obtain ⟨p, hp⟩ : ∃ p, w3.heap.size = p := ⟨_, rfl⟩
         rw [hp] at X4 ⊢
         have hp1 : w1.heap.size ≤ p := by omega
         clear hp))
    all_goals clear KB H3 K3 SS hs3
    all_goals have NQ := hid (show (w.heap.size + 1 ∉ [rb, mb, pb]) ∧ p ∉ [rb, mb, pb] from ⟨by simp; have := HL.out; omega, by simp; have := HL.out; omega⟩)
    all_goals
      have u1 := cell_two0 X4.out
      have u2 := cell_two1 X4.out
      have q1 := Q4.out.1
      have q2 := Q4.out.2
      go_wp2_with fail
      refine (alignedFrom_any W4 a mul k MK.out hk3 hk12 (by omega) (by omega)).mono ?_
      rintro e w5 ⟨rfl, hE5⟩
      rw [hE5, T.out]
      clear hE5
      by_cases hat : a < t
    all_goals first
    | (have E := hid (show r = some (a + 8, give n g' P a s z) by rw [R2.out, if_neg hat])
       go_wp2_with fail
       have S7 := hid (show ∀ W, Kp W4 W [] → W.cell? ⟨w.heap.size + 1, 0, none⟩ = some (.int .i64 m) ∧ W.cell? ⟨p, 0, none⟩ = some (.int .i64 a) ∧ W.cell? ⟨p, 1, none⟩ = some (.int .i64 (s)) from
         fun W hW => ⟨hW.cell Q4.out.2 (by simp), hW.cell (cell_two0 X4.out) (by simp), hW.cell (cell_two1 X4.out) (by simp)⟩)
       have hpp := World.block_lt_of_cell? _ _ Q4.out.2
       go_region_held (fun w' => w'.cell? ⟨w.heap.size + 1, 0, none⟩ = some (.int .i64 m) ∧ w'.cell? ⟨p, 0, none⟩ = some (.int .i64 a) ∧ w'.cell? ⟨p, 1, none⟩ = some (.int .i64 (s)))
         (first
           | exact S7.out _ (Kp.drew _ _)
           | exact ⟨hK9.cell ((Kp.drew _ []).cell Q4.out.2 (by simp)) NQ.out.1, hK9.cell ((Kp.drew _ []).cell (cell_two0 X4.out) (by simp)) NQ.out.2, hK9.cell ((Kp.drew _ []).cell (cell_two1 X4.out) (by simp)) NQ.out.2⟩)
         (first
           | (go_at_call 56; refine (needed_any _ m (by omega) (by omega)).mono ?_; rintro e w8 ⟨rfl, rfl⟩; rw [HZ.out])
           | (go_at_call 57; refine (give_any _ hb rb mb pb n g' c3 P a (s) z ((H4.out).same (Kp.drew _ _)) (by omega) (by omega) (by omega) (by exact F8.out.1) (by omega) Z8.out (by omega) (by omega) hP).mono ?_; rintro e w9 ⟨rfl, c9, hc9, hc9', hH9, hK9⟩))
       have W9 := hid (show Went w w9 hb rb mb pb n (give n g' P a (s) z).1 (give n g' P a (s) z).2 c 52 [rb, mb, pb] from ⟨c9, by omega, by omega, hH9, (K4.out).trans ((Kp.drew _ _).trans hK9)⟩)
       clear hH9 hK9
       go_wp2
       go_ret2
       rw [E.out]
       exact ⟨rfl, W9.out⟩
      )
    | (have E := hid (show r = some (t + 8, give n (putIn n g' a (t - a)) P t (a + s - t) z) by rw [R2.out, if_pos hat])
       have hta : 16 ≤ t - a := by have := AF'.out; omega
       go_wp2_with fail
       refine (putIn_any W4 hb rb mb pb n g' c3 P a (t - a) H4.out (by omega) (by omega) (by omega) hta (by omega) (by have := F8.out; have := AF'.out; omega)).mono ?_
       rintro e w6 ⟨rfl, c6, hc6, hc6', hH6, hK6⟩
       have X6 := hid ((hK6.block p (lt_of_block X4.out) (by simp; have := HL.out; omega)).trans X4.out)
       have Q6 := hid (hK6.cell Q4.out.2 (by simp; have := HL.out; omega))
       have H6 := hid hH6
       have K6 := hid (K4.out.trans (hK6.mono (by simp)))
       clear hH6 hK6 u1 u2 q1 q2
       have u1 := cell_two0 X6.out
       have u2 := cell_two1 X6.out
       go_wp2_with fail
       refine (end_any w6 a s (by omega) (by omega) (by omega) (by omega)).mono ?_
       rintro e w7 ⟨rfl, hK7⟩
       have X7 := hid ((hK7.block p (lt_of_block X6.out) (by simp)).trans X6.out)
       have Q7 := hid (hK7.cell Q6.out (by simp))
       have H7 := hid (H6.out.same hK7)
       have K7 := hid (K6.out.trans hK7.nil)
       clear hK7 u1 u2
       have u1 := cell_two0 X7.out
       have u2 := cell_two1 X7.out
       have u3 := free_two (i := 0) X7.out
       have u4 := free_two (i := 1) X7.out
       have X8 := hid (stored2 (a := .int .i64 t) (b := .int .i64 (a + s - t)) X7.out)
       have kt := Kp.two w7 p (.int .i64 t) (.int .i64 (a + s - t))
       have H8 := hid (H7.out.keep kt (by simp; have := HL.out; omega) (by simp; have := HL.out; omega) (by simp; have := HL.out; omega) (by simp; have := HL.out; omega) (by simp; have := HL.out; omega))
       have K8 := hid (K7.out.past kt (by intro k hk hlt; simp at hk; omega))
       have Q8 := hid (kt.cell Q7.out (by simp; omega))
       clear kt
       go_wp2_with fail
       obtain ⟨W8, hW8⟩ : ∃ W8, (w7.setCell ⟨p, 0, none⟩ (.int .i64 t)).setCell ⟨p, 1, none⟩ (.int .i64 (a + s - t)) = W8 := ⟨_, rfl⟩
       rw [hW8] at X8 H8 K8 Q8 ⊢
       clear hW8 u1 u2 u3 u4
       have S7 := hid (show ∀ W, Kp W8 W [] → W.cell? ⟨w.heap.size + 1, 0, none⟩ = some (.int .i64 m) ∧ W.cell? ⟨p, 0, none⟩ = some (.int .i64 t) ∧ W.cell? ⟨p, 1, none⟩ = some (.int .i64 (a + s - t)) from
         fun W hW => ⟨hW.cell Q8.out (by simp), hW.cell (cell_two0 X8.out) (by simp), hW.cell (cell_two1 X8.out) (by simp)⟩)
       have hpp := World.block_lt_of_cell? _ _ Q8.out
       go_region_held (fun w' => w'.cell? ⟨w.heap.size + 1, 0, none⟩ = some (.int .i64 m) ∧ w'.cell? ⟨p, 0, none⟩ = some (.int .i64 t) ∧ w'.cell? ⟨p, 1, none⟩ = some (.int .i64 (a + s - t)))
         (first
           | exact S7.out _ (Kp.drew _ _)
           | exact ⟨hK9.cell ((Kp.drew _ []).cell Q8.out (by simp)) NQ.out.1, hK9.cell ((Kp.drew _ []).cell (cell_two0 X8.out) (by simp)) NQ.out.2, hK9.cell ((Kp.drew _ []).cell (cell_two1 X8.out) (by simp)) NQ.out.2⟩)
         (first
           | (go_at_call 56; refine (needed_any _ m (by omega) (by omega)).mono ?_; rintro e w8 ⟨rfl, rfl⟩; rw [HZ.out])
           | (go_at_call 57; refine (give_any _ hb rb mb pb n (putIn n g' a (t - a)) c6 P t (a + s - t) z ((H8.out).same (Kp.drew _ _)) (by omega) (by omega) (by omega) (by have := F8.out; have := AF'.out; omega) (by omega) Z8.out (by omega) (by omega) hP).mono ?_; rintro e w9 ⟨rfl, c9, hc9, hc9', hH9, hK9⟩))
       have W9 := hid (show Went w w9 hb rb mb pb n (give n (putIn n g' a (t - a)) P t (a + s - t) z).1 (give n (putIn n g' a (t - a)) P t (a + s - t) z).2 c 52 [rb, mb, pb] from ⟨c9, by omega, by omega, hH9, (K8.out).trans ((Kp.drew _ _).trans hK9)⟩)
       clear hH9 hK9
       go_wp2
       go_ret2
       rw [E.out]
       exact ⟨rfl, W9.out⟩
      )
end Go.Proofs.YtgefmnnkpffpcaaGreatDoor
