/- TlsfKeeps' walk. -/
import Derived.Test.YtgefmnnkpffpcaaGreatDoorSdo6J
import Derived.Test.YtgefmnnkpffpcaaGreatDoorHknownJ
namespace Go.Proofs.YtgefmnnkpffpcaaGreatDoor
open Go.RowKit Go.Maps Go.Shelf

set_option maxRecDepth 100000 in
theorem keeps_bad (w : World) (ht : Tb w) (V : Value) (n : Int) (h : ¬ Good n) : Calls Tryz.prog 4 #[.int .i64 n, V] w fun e w' => e = .returned (.bool true) ∧ Kp w w' [] := by
  have HT := hid ht
  have HG := hid h
  clear ht h
  go_enter Tryz.func4, Tryz.ntmps4
  go_wp2_with fail
  refine (made_no w n HG.out).mono ?_
  rintro e w1 ⟨rfl, hE⟩
  rw [hE]
  clear hE
  go_wp2_with fail
  refine (known_yes w HT.out).mono ?_
  rintro e w2 ⟨rfl, hK⟩
  have K2 := hid hK
  clear hK
  go_wp2
  go_ret
  exact ⟨rfl, K2.out⟩
/-- A block's copy, and both heaps. -/
structure Kb (w0 w : World) (yb qb hb rb mb pb xb eb n : Nat) (g : Mem) (c : Int) (L : List Bl) (F : Nat → List Int) (V : Value) (G : Nat → Value) (f : Nat → Nat) (lv : Value) (ls : List Int) (x1 x2 : Int) (fr : Bool) : Prop where
  bo : Bo w0 w qb hb rb mb pb xb eb n g c L F V G f lv ls (fun _ => False)
  yc : w.heap[yb]? = some (.cells #[.int .i64 x1, .int .i64 x2, .bool fr] 44 (0, 0))
section
variable {w0 w w1 : World} {yb qb hb rb mb pb xb eb n : Nat} {g : Mem} {c : Int} {L : List Bl} {F : Nat → List Int} {V : Value} {G : Nat → Value} {f : Nat → Nat} {lv : Value} {ls : List Int} {x1 x2 : Int} {fr : Bool}
theorem Kb.same (K : Kb w0 w yb qb hb rb mb pb xb eb n g c L F V G f lv ls x1 x2 fr) (hk : Kp w w1 []) : Kb w0 w1 yb qb hb rb mb pb xb eb n g c L F V G f lv ls x1 x2 fr :=
  ⟨K.bo.same hk, (hk.block yb (lt_of_block K.yc) (by simp)).trans K.yc⟩
theorem Kb.cells (K : Kb w0 w yb qb hb rb mb pb xb eb n g c L F V G f lv ls x1 x2 fr) : (w.cell? ⟨qb, 0, none⟩ = some (.pointer (some ⟨hb, 0, none⟩)) ∧ w.cell? ⟨qb, 1, none⟩ = some (.pointer (some ⟨xb, 0, none⟩))) ∧ w.cell? ⟨yb, 0, none⟩ = some (.int .i64 x1) ∧ w.cell? ⟨yb, 1, none⟩ = some (.int .i64 x2) ∧ w.cell? ⟨yb, 2, none⟩ = some (.bool fr) :=
  ⟨⟨K.bo.bh.c0, K.bo.bh.c1⟩, (cell_tri K.yc).1, (cell_tri K.yc).2.1, (cell_tri K.yc).2.2⟩
theorem Kb.get (K : Kb w0 w yb qb hb rb mb pb xb eb n g c L F V G f lv ls x1 x2 fr) (o : Int) (h4 : o % 4 = 0) (hq : inQ (piecesOf L) o) (hc : c ≤ 1000000000000000) :
    Calls Tryz.prog 12 #[.pointer (some ⟨hb, 0, none⟩), .int .i64 o] w fun e w' => e = .returned (.tuple #[.int .u32 (upW f o.toNat 4), .int .i64 0]) ∧ ∃ c', c' ≤ c + 1 ∧ Kb w0 w' yb qb hb rb mb pb xb eb n g c' L F V G f lv ls x1 x2 fr := by
  refine (bo_pgetK K.bo o h4 hq (fun h => h) hc).mono ?_
  rintro e w' ⟨rfl, c', -, u, b, k⟩
  refine ⟨rfl, c', u, b, (k.block yb (lt_of_block K.yc) ?_).trans K.yc⟩
  have := K.bo.hp.off4 K.yc (by decide) (by decide) (.inl (by decide))
  simp
  exact ⟨this.2.1, this.2.2.1, this.2.2.2⟩
end
set_option maxRecDepth 100000 in
set_option maxHeartbeats 16000000 in
theorem keeps_walk (w : World) (ht : Tb w) (V : Value) (N : Nat) (S : Nat → St) (hV : Sc w V N S) (n : Nat) (hg : Good n) :
    Calls Tryz.prog 4 #[.int .i64 n, V] w fun e w' => e = .returned (.bool true) ∧ Kp w w' [] := by
  obtain ⟨ao, cap, rfl⟩ := hV.shape
  have HV := hid hV
  have HG := hid hg
  have HT := hid ht
  have hn : 256 ≤ (n : Int) ∧ (n : Int) ≤ 65536 := ⟨hg.1, hg.2.1⟩
  clear hV hg ht
  go_enter Tryz.func4, Tryz.ntmps4
  go_wp2_with fail
  refine (made_ok w n HG.out HT.out).mono ?_
  rintro e w1 ⟨hb, rb, mb, pb, rfl, ⟨c1, hc1, hd1, hH, hK⟩, hn1, hn2, hn3, hn4⟩
  have K1 := hid hK
  have H1 := hid hH
  have NB := hid (show w.heap.size ≤ hb ∧ w.heap.size ≤ rb ∧ w.heap.size ≤ mb ∧ w.heap.size ≤ pb from ⟨hn1, hn2, hn3, hn4⟩)
  have hn65 : ¬ (65536 : Int) < n := by omega
  clear hH hK hn1 hn2 hn3 hn4
  go_wp2_with fail
  refine (rnew_any w1 n (by omega) (by omega)).mono ?_
  rintro e w2 ⟨xb, eb, VB, G, rfl, hR, hM, h1, h2, h3, hK2⟩
  have B2 := hid (bo_first HG.out HT.out H1.out K1.out NB.out hR hM h1 h2 h3 hK2)
  clear hR hM h1 h2 h3 hK2
  go_wp2_with fail
  obtain ⟨qb, hqb⟩ : ∃ qb, w2.heap.size = qb := ⟨_, rfl⟩
  rw [hqb] at B2 ⊢
  generalize w2.alloc (.cells #[.pointer (some ⟨hb, 0, none⟩), .pointer (some ⟨xb, 0, none⟩), .slice none 0 0] 31) = w3 at B2 ⊢
  go_loopw [7] (fun vi wr => ∃ i : Nat, i ≤ 100 ∧ vi = .int .i64 i ∧ Hid (∃ c ls, c ≤ 10 + 700000 * (i : Int) ∧ ls.length ≤ i ∧ Pr w wr qb n c ls)) (fun vi _ => 100 - (intOf vi).toNat)
  case atStart => exact ⟨0, by omega, rfl, c1, [], by omega, by simp, _, _, _, _, _, _, _, _, _, _, _, _, _, B2.out⟩
  case round =>
    obtain ⟨i, hi, rfl, hP⟩ := hrel
    clear B2
    by_cases hlt : i < N ∧ i < 100
    · obtain ⟨hi1, hi2⟩ := hlt
      obtain ⟨c, ls, hc, hls, hb', rb', mb', pb', xb', eb', g, L, F, V', G', f, lv, hB⟩ := hP.out
      have HB := hid hB
      obtain ⟨b, off, rfl, ⟨y0, y1, y2, y3, y4, y5⟩, hfit⟩ := (HV.out.keep hB.bh.kp).at hi1
      have FIT := hid hfit
      have hi1' : (i : Int) < N := by omega
      have hi2' : (i : Int) < 100 := by omega
      clear hB hfit
      go_wp2_with fail
      refine (do_any HB.out (S i) FIT.out (by omega) (by omega)).mono ?_
      rintro e w4 ⟨rfl, c4, ls4, u4, m4, hb4, rb4, mb4, pb4, xb4, eb4, g4, L4, F4, V4, G4, f4, lv4, hB4⟩
      obtain ⟨ao4, cap4, hV4⟩ := hB4.bh.rh.row.slice
      subst hV4
      have BD := hid (fun x hx => hB4.hs.bd (x := x) hx)
      have hl4 := hB4.hs.len
      have B4 := hid hB4
      obtain ⟨M, hM⟩ : ∃ M, L4.length = M := ⟨_, rfl⟩
      have HM := hid hM
      rw [hM] at hl4
      clear hB4 HB y0 y1 y2 y3 y4 y5 hM
      go_wp2_with fail
      go_loopw [8] (fun vb wx => ∃ j : Nat, j ≤ M ∧ vb = .int .i64 j ∧ Hid (∃ c, c ≤ c4 + 20 * (j : Int) ∧ Bo w wx qb hb4 rb4 mb4 pb4 xb4 eb4 n g4 c L4 F4 (.slice ao4 L4.length cap4) G4 f4 lv4 ls4 (fun _ => False))) (fun vb _ => M - (intOf vb).toNat)
      case atStart => exact ⟨0, by omega, rfl, c4, by simp, B4.out⟩
      case round =>
        obtain ⟨j, hj, rfl, hBj⟩ := hrel
        obtain ⟨cj, ucj, hBj⟩ := hBj.out
        have q0 := hBj.bh.c0
        have q1 := hBj.bh.c1
        have x0 := hBj.bh.rh.b
        rw [HM.out] at x0
        by_cases hjm : j < M
        · have hjI : (j : Int) < M := by omega
          obtain ⟨x1, x2, fr, hx⟩ : ∃ x1 x2 fr, L4[j]! = (x1, x2, fr) := ⟨L4[j]!.1, L4[j]!.2.1, L4[j]!.2.2, rfl⟩
          have hjl : j < L4.length := by have := HM.out; omega
          have hmem : (x1, x2, fr) ∈ L4 := by rw [← hx, getElem!_pos L4 j hjl]; exact List.getElem_mem _
          have bd := BD.out _ hmem
          simp only at bd
          obtain ⟨gb, rfl, z1, z2, z3, -, -, -⟩ := hBj.bh.rh.row.at hjl hx
          have KB := hid (show Kb w (wr.alloc (.cells #[.int .i64 x1, .int .i64 x2, .bool fr] 44)) wr.heap.size qb hb4 rb4 mb4 pb4 xb4 eb4 n g4 cj L4 F4 (.slice (some ⟨gb, 0, none⟩) L4.length cap4) G4 f4 lv4 ls4 x1 x2 fr from ⟨hBj.same (Kp.alloc _ _ _), heap_alloc_new _ _⟩)
          have HQ := hid (show fr = false → ∀ o : Int, x1 + 8 ≤ o → o < x1 + x2 → inQ (piecesOf L4) o from fun hf o o1 o2 => ⟨(x1 + 8, x2), mem_pieces.2 ⟨x1, by rw [← hf]; exact hmem, rfl⟩, o1, by show o < x1 + 8 - 8 + x2; omega⟩)
          clear hBj hx hmem
          go_wp2_with fail
          obtain ⟨yb, hyb⟩ : ∃ yb, wr.heap.size = yb := ⟨_, rfl⟩
          rw [hyb] at KB ⊢
          generalize wr.alloc (.cells #[.int .i64 x1, .int .i64 x2, .bool fr] 44) = wy at KB ⊢
          clear q0 q1 x0 z1 z2 z3 hyb
          go_loopw [10] (fun vk wz => ∃ t : Nat, t ≤ 16 ∧ vk = .int .i64 (8 + 4 * (t : Int)) ∧ Hid (∃ c, c ≤ cj + (t : Int) ∧ Kb w wz yb qb hb4 rb4 mb4 pb4 xb4 eb4 n g4 c L4 F4 (.slice (some ⟨gb, 0, none⟩) L4.length cap4) G4 f4 lv4 ls4 x1 x2 fr)) (fun vk _ => (72 - intOf vk).toNat)
          case atStart => exact ⟨0, by omega, rfl, cj, by simp, KB.out⟩
          case round =>
            obtain ⟨t, ht, rfl, hKt⟩ := hrel
            obtain ⟨ct, uct, hKt⟩ := hKt.out
            clear KB
            obtain ⟨⟨q0, q1⟩, z1, z2, z3⟩ := hKt.cells
            have BE := hid hKt.bo
            cases fr with
            | true =>
              clear hKt
              go_wp2
              go_roundw
              case rel => exact ⟨j + 1, by omega, by simp, ct, by simp; omega, BE.out⟩
              case measure => simp [intOf]; omega
            | false =>
              by_cases g1 : 8 + 4 * (t : Int) + 4 ≤ x2
              · by_cases g2 : 8 + 4 * (t : Int) < 72
                · have KT := hid hKt
                  have h4 : (x1 + (8 + 4 * (t : Int))) % 4 = 0 := by omega
                  have Q4 := hid (HQ.out rfl (x1 + (8 + 4 * (t : Int))) (by omega) (by omega))
                  have hwr : IntKind.i64.wrap (x1 + (8 + 4 * (t : Int))) = x1 + (8 + 4 * (t : Int)) := IntWalk.i64_in _ ⟨by omega, by omega⟩
                  clear hKt BE
                  go_wp2_with fail
                  go_region_held_law (fun w' : World => (w'.cell? ⟨qb, 0, none⟩ = some (.pointer (some ⟨hb4, 0, none⟩)) ∧ w'.cell? ⟨qb, 1, none⟩ = some (.pointer (some ⟨xb4, 0, none⟩))) ∧ w'.cell? ⟨yb, 0, none⟩ = some (.int .i64 x1) ∧ w'.cell? ⟨yb, 1, none⟩ = some (.int .i64 x2) ∧ w'.cell? ⟨yb, 2, none⟩ = some (.bool false))
                    (first
                      | exact (KT.out.same (Kp.drew _ [])).cells
                      | exact hK5.cells)
                    ((go_at_call 12; refine (Kb.get (KT.out.same (Kp.drew _ [])) (x1 + (8 + 4 * (t : Int))) h4 Q4.out (by omega)).mono ?_; rintro e w5 ⟨rfl, c5, u5, hK5⟩))
                  have K5 := hid hK5
                  clear hK5 KT q0 q1 z1 z2 z3
                  obtain ⟨⟨q0, q1⟩, z1, z2, z3⟩ := K5.out.cells
                  go_wp2_with fail
                  go_region_held_law (fun w' : World => (w'.cell? ⟨qb, 0, none⟩ = some (.pointer (some ⟨hb4, 0, none⟩)) ∧ w'.cell? ⟨qb, 1, none⟩ = some (.pointer (some ⟨xb4, 0, none⟩))) ∧ w'.cell? ⟨yb, 0, none⟩ = some (.int .i64 x1) ∧ w'.cell? ⟨yb, 1, none⟩ = some (.int .i64 x2) ∧ w'.cell? ⟨yb, 2, none⟩ = some (.bool false))
                    (exact (K5.out.same (Kp.drew _ [])).cells)
                    (first
                      | (go_at_call 13; refine (num_any _ _).mono ?_; rintro e wn ⟨rfl, hE⟩; rw [hE]; clear hE)
                      | (go_at_call 14; refine (bo_rget (K5.out.same (Kp.drew _ [])).bo (x1 + (8 + 4 * (t : Int))) h4 Q4.out).mono ?_; rintro e wn ⟨rfl, hE⟩; rw [hE]; clear hE))
                  have K6 := hid (K5.out.same (Kp.drew _ []))
                  clear K5 q0 q1 z1 z2 z3
                  go_wp2
                  go_roundw
                  case rel => exact ⟨t + 1, by omega, by simp; omega, c5, by simp; omega, K6.out⟩
                  case measure => simp [intOf]; omega
                · have g3 : ¬ 8 + 4 * (t : Int) < 72 := g2
                  clear hKt
                  go_wp2
                  go_roundw
                  case rel => exact ⟨j + 1, by omega, by simp, ct, by simp; omega, BE.out⟩
                  case measure => simp [intOf]; omega
              · have g3 : ¬ 8 + 4 * (t : Int) + 4 ≤ x2 := g1
                clear hKt
                go_wp2
                go_roundw
                case rel => exact ⟨j + 1, by omega, by simp, ct, by simp; omega, BE.out⟩
                case measure => simp [intOf]; omega
        · have hjI : ¬ (j : Int) < M := by omega
          have PR := hid (show ∃ c ls, c ≤ 10 + 700000 * ((i + 1 : Nat) : Int) ∧ ls.length ≤ i + 1 ∧ Pr w wr qb n c ls from ⟨cj, ls4, by simp; omega, by omega, _, _, _, _, _, _, _, _, _, _, _, _, _, hBj⟩)
          clear hBj
          go_wp2
          go_roundw
          case rel => exact ⟨i + 1, by omega, by simp, PR.out⟩
          case measure => simp [intOf]; omega
    · obtain ⟨c, ls, hc, hls, hb', rb', mb', pb', xb', eb', g, L, F, V', G', f, lv, hB⟩ := hP.out
      have HB := hid hB
      clear hB
      refine (Classical.em (i < N)).elim (fun hq => ?atCap) (fun hq => ?atEnd)
      case' atCap =>
        have hq1 : (i : Int) < N := by omega
        have hq2 : ¬ (i : Int) < 100 := by omega
        go_wp2_with fail
      case' atEnd =>
        have hq1 : ¬ (i : Int) < N := by omega
        go_wp2_with fail
      all_goals (
        refine (known_yes _ HB.out.hp.tb).mono ?_
        rintro e w4 ⟨rfl, hK⟩
        have K4 := hid (HB.out.bh.kp.trans hK)
        clear hK HB
        go_wp2
        go_ret
        exact ⟨rfl, K4.out⟩)
end Go.Proofs.YtgefmnnkpffpcaaGreatDoor
