/- give: a block that is in no list is a piece's. -/
import Derived.Test.YtgefmnnkpffpcaaGreatDoorHfreed
namespace Go.Proofs.YtgefmnnkpffpcaaGreatDoor
open Go.RowKit Go.Maps

theorem Kp.turned {w w' : World} {b : Nat} (h : w.mapTurned w' b) : Kp w w' [b] := Kp.grownRow (World.mapTurned.grown h)
theorem Mp.store {w : World} {b : Nat} {P : Pcs} (h : Mp w b P) {k v : Int} (h0 : -9223372036854775808 ≤ k) (h1 : k ≤ 9223372036854775807) (h2 : -9223372036854775808 ≤ v) (h3 : v ≤ 9223372036854775807) (hn : P.length < maxLen) :
    ∃ w', (Instr.mapUpdate 65 (.map (some b)) (.int .i64 k) (.int .i64 v)).run Tryz.prog w = .ok () w' ∧ Mp w' b (putP P k v) ∧ Kp w w' [b] := by
  obtain ⟨w', hrun, r1, r2⟩ := World.ownsMap.store h keyed3 Tryz.underlying65 hn (keyOf_int_mk Tryz.underlying3 (wf64 h0 h1)) (plainElem_int Tryz.underlying3 (wf64 h2 h3))
  rw [dat_put] at r1
  exact ⟨w', hrun, Mp.of_owns r1, Kp.turned r2⟩
theorem Mp.drop {w : World} {b : Nat} {P : Pcs} (h : Mp w b P) {k : Int} (h0 : -9223372036854775808 ≤ k) (h1 : k ≤ 9223372036854775807) (ty : TypeId) :
    ∃ w', (Builtin.delete_ #[65, 3] ty #[.map (some b), .int .i64 k]).run Tryz.prog w = .ok (.tuple #[]) w' ∧ Mp w' b (delP P k) ∧ Kp w w' [b] := by
  obtain ⟨w', hrun, r1, r2⟩ := World.ownsMap.drop h keyed3 Tryz.underlying65 (keyOf_int_mk Tryz.underlying3 (wf64 h0 h1)) ty
  rw [dat_del] at r1
  exact ⟨w', hrun, Mp.of_owns r1, Kp.turned r2⟩

/-- Behind a call that wrote the map alone. -/
theorem Hp.remap {w w' : World} {hb rb mb pb n : Nat} {g : Mem} {c : Int} {P P' : Pcs} (h : Hp w hb rb mb pb n g c P) (hk : Kp w w' [pb]) (hp : Mp w' pb P') : Hp w' hb rb mb pb n g c P' := by
  have hne := h.ne
  have hnz := h.nz
  exact ⟨(hk.block hb h.lt.1 (by simp; omega)).trans h.hh, h.aw.keep hk (by simp; omega) (by simp; omega), hp, h.nb, h.c0, h.tb.keep hk (by simp; omega), h.nz⟩

/-- Two boxes, newly made. -/
structure Two2 (w W : World) (a y p q : Int) : Prop where
  k : Kp w W []
  b : W.heap[w.heap.size]? = some (.cells #[.int .i64 a, .int .i64 y] 87 (0, 0))
  x : W.heap[w.heap.size + 1]? = some (.cells #[.int .i64 p, .int .i64 q] 87 (0, 0))
theorem two2 (w : World) (a y p q : Int) : Two2 w ((w.alloc (.cells #[.int .i64 a, .int .i64 y] 87)).alloc (.cells #[.int .i64 p, .int .i64 q] 87)) a y p q := by
  refine ⟨(Kp.alloc w _ []).trans (Kp.alloc _ _ []), (Below.heap_alloc _ _ w.heap.size (by simp)).trans (heap_alloc_new w _), ?_⟩
  have := heap_alloc_new (w.alloc (.cells #[.int .i64 a, .int .i64 y] 87)) (.cells #[.int .i64 p, .int .i64 q] 87)
  rw [show (w.alloc (.cells #[.int .i64 a, .int .i64 y] 87)).heap.size = w.heap.size + 1 by simp] at this
  exact this

set_option maxRecDepth 100000 in
set_option maxHeartbeats 4000000 in
theorem give_any (w : World) (hb rb mb pb n : Nat) (g : Mem) (c : Int) (P : Pcs) (a z s : Int) (h : Hp w hb rb mb pb n g c P) (hc : c < 1152921504606830000)
    (ha0 : 0 ≤ a) (hz0 : 16 ≤ z) (hz8 : z % 8 = 0) (hs0 : 16 ≤ s) (hs8 : s % 8 = 0) (hsz : s ≤ z) (hazn : a + z ≤ n) (hP : P.length < maxLen) :
    Calls Tryz.prog 57 #[.pointer (some ⟨hb, 0, none⟩), .agg #[.int .i64 a, .int .i64 z], .int .i64 s] w fun e w' => e = .returned (.int .i64 (a + 8)) ∧ Went w w' hb rb mb pb n (give n g P a z s).1 (give n g P a z s).2 c 31 [rb, mb, pb] := by
  have hnb := h.nb
  have HL := hid h.lt
  have HN := hid h.ne
  have H := hid h
  have Z8 := hid hz8
  have S8 := hid hs8
  obtain ⟨r, hr⟩ : ∃ r, give n g P a z s = r := ⟨_, rfl⟩
  rw [hr]
  unfold give at hr
  have RR := hid hr
  clear h hz8 hs8 hr
  by_cases h16 : 16 ≤ z - s
  · have E := hid (show r = (freed n (mark n g a s 0) (putP P (a + 8) s) (a + s) (z - s), putP P (a + 8) s) by rw [← RR.out, if_pos h16])
    have T1 := hid (two2 w a s (a + s) (z - s))
    have H1 := hid (H.out.same T1.out.k)
    go_enter Tryz.func57, Tryz.ntmps57
    go_wp2_with fail
    refine (mark_any _ hb rb mb pb n g c P a s 0 H1.out (by omega) (by omega) (by omega) (by omega) (by omega) S8.out (Or.inl rfl)).mono ?_
    rintro e w2 ⟨rfl, c2, hc2, hc2', hH2, hK2⟩
    have B2 := hid ((hK2.block w.heap.size (lt_of_block T1.out.b) (by simp; have := HL.out; omega)).trans T1.out.b)
    have X2 := hid ((hK2.block (w.heap.size + 1) (lt_of_block T1.out.x) (by simp; have := HL.out; omega)).trans T1.out.x)
    have H2 := hid hH2
    have K2 := hid (show Kp w w2 [rb, mb, pb] from T1.out.k.nil.trans (hK2.mono (by simp)))
    clear hH2 hK2
    go_wp2_with fail
    have S2 := hid (show ∀ W, Kp w2 W [pb] → W.cell? ⟨hb, 1, none⟩ = some (.map (some pb)) ∧ W.cell? ⟨w.heap.size, 0, none⟩ = some (.int .i64 a) ∧ W.cell? ⟨w.heap.size, 1, none⟩ = some (.int .i64 s) from
      fun W hW => ⟨hW.cell H2.out.c1cell (by simp; have := HN.out; omega), hW.cell (cell_two0 B2.out) (by simp; have := HL.out; omega), hW.cell (cell_two1 B2.out) (by simp; have := HL.out; omega)⟩)
    go_region_held (fun w' => w'.cell? ⟨hb, 1, none⟩ = some (.map (some pb)) ∧ w'.cell? ⟨w.heap.size, 0, none⟩ = some (.int .i64 a) ∧ w'.cell? ⟨w.heap.size, 1, none⟩ = some (.int .i64 s))
      (first
        | exact S2.out _ (Kp.drew _ _)
        | exact S2.out _ ((Kp.drew _ _).trans hK3.nil)
        | exact S2.out _ (((Kp.drew _ _).trans hK3.nil).trans hK4.out))
      ((go_at_call 100; refine (piece_any _ a s (by omega) (by omega)).mono ?_; rintro e w3 ⟨rfl, hK3⟩; obtain ⟨w4, hrun, hm4, hk4⟩ := (H2.out.same ((Kp.drew _ _).trans hK3)).mp.store (k := a + 8) (v := s) (by omega) (by omega) (by omega) (by omega) hP; have hM4 := hid hm4; have hK4 := hid hk4; clear hm4 hk4))
    have H4 := hid ((H2.out.same ((Kp.drew _ _).trans hK3)).remap hK4.out hM4.out)
    have KK4 := hid (show Kp w2 w4 [pb] from ((Kp.drew _ _).trans hK3.nil).trans hK4.out)
    have B4 := hid ((KK4.out.block w.heap.size (lt_of_block B2.out) (by simp; have := HL.out; omega)).trans B2.out)
    have X4 := hid ((KK4.out.block (w.heap.size + 1) (lt_of_block X2.out) (by simp; have := HL.out; omega)).trans X2.out)
    have K4 := hid (K2.out.trans (KK4.out.mono (by simp)))
    clear hK3 hK4 hM4 hrun
    have q1 := cell_two0 X4.out
    have q2 := cell_two1 X4.out
    have u1 := cell_two0 B4.out
    have u2 := cell_two1 B4.out
    go_wp2_with fail
    refine (free_any w4 hb rb mb pb n _ c2 _ (a + s) (z - s) H4.out (by omega) (by omega) (by omega) (by have := Z8.out; have := S8.out; omega) (by omega)).mono ?_
    rintro e w5 ⟨rfl, c5, hc5, hc5', hH5, hK5⟩
    have B5 := hid ((hK5.block w.heap.size (lt_of_block B4.out) (by simp; have := HL.out; omega)).trans B4.out)
    have W5 := hid (show Went w w5 hb rb mb pb n r.1 r.2 c 31 [rb, mb, pb] by rw [E.out]; exact ⟨c5, by omega, by omega, hH5, K4.out.trans (hK5.mono (by simp))⟩)
    clear hH5 hK5 q1 q2 u1 u2
    have u1 := cell_two0 B5.out
    have u2 := cell_two1 B5.out
    go_wp2_with fail
    refine (piece_any w5 a s (by omega) (by omega)).mono ?_
    rintro e w6 ⟨rfl, hK6⟩
    have W6 := hid (W5.out.after hK6)
    clear hK6
    go_wp2
    go_ret
    exact ⟨rfl, W6.out⟩
  · have E := hid (show r = (mark n g a z 0, putP P (a + 8) z) by rw [← RR.out, if_neg h16])
    have T1 := hid (two2 w a z (a + s) (z - s))
    have H1 := hid (H.out.same T1.out.k)
    go_enter Tryz.func57, Tryz.ntmps57
    go_wp2_with fail
    refine (mark_any _ hb rb mb pb n g c P a z 0 H1.out (by omega) (by omega) (by omega) (by omega) (by omega) Z8.out (Or.inl rfl)).mono ?_
    rintro e w2 ⟨rfl, c2, hc2, hc2', hH2, hK2⟩
    have B2 := hid ((hK2.block w.heap.size (lt_of_block T1.out.b) (by simp; have := HL.out; omega)).trans T1.out.b)
    have X2 := hid ((hK2.block (w.heap.size + 1) (lt_of_block T1.out.x) (by simp; have := HL.out; omega)).trans T1.out.x)
    have H2 := hid hH2
    have K2 := hid (show Kp w w2 [rb, mb, pb] from T1.out.k.nil.trans (hK2.mono (by simp)))
    clear hH2 hK2
    go_wp2_with fail
    have S2 := hid (show ∀ W, Kp w2 W [pb] → W.cell? ⟨hb, 1, none⟩ = some (.map (some pb)) ∧ W.cell? ⟨w.heap.size, 0, none⟩ = some (.int .i64 a) ∧ W.cell? ⟨w.heap.size, 1, none⟩ = some (.int .i64 z) from
      fun W hW => ⟨hW.cell H2.out.c1cell (by simp; have := HN.out; omega), hW.cell (cell_two0 B2.out) (by simp; have := HL.out; omega), hW.cell (cell_two1 B2.out) (by simp; have := HL.out; omega)⟩)
    go_region_held (fun w' => w'.cell? ⟨hb, 1, none⟩ = some (.map (some pb)) ∧ w'.cell? ⟨w.heap.size, 0, none⟩ = some (.int .i64 a) ∧ w'.cell? ⟨w.heap.size, 1, none⟩ = some (.int .i64 z))
      (first
        | exact S2.out _ (Kp.drew _ _)
        | exact S2.out _ ((Kp.drew _ _).trans hK3.nil)
        | exact S2.out _ (((Kp.drew _ _).trans hK3.nil).trans hK4.out))
      ((go_at_call 100; refine (piece_any _ a z (by omega) (by omega)).mono ?_; rintro e w3 ⟨rfl, hK3⟩; obtain ⟨w4, hrun, hm4, hk4⟩ := (H2.out.same ((Kp.drew _ _).trans hK3)).mp.store (k := a + 8) (v := z) (by omega) (by omega) (by omega) (by omega) hP; have hM4 := hid hm4; have hK4 := hid hk4; clear hm4 hk4))
    have H4 := hid ((H2.out.same ((Kp.drew _ _).trans hK3)).remap hK4.out hM4.out)
    have KK4 := hid (show Kp w2 w4 [pb] from ((Kp.drew _ _).trans hK3.nil).trans hK4.out)
    have B4 := hid ((KK4.out.block w.heap.size (lt_of_block B2.out) (by simp; have := HL.out; omega)).trans B2.out)
    have X4 := hid ((KK4.out.block (w.heap.size + 1) (lt_of_block X2.out) (by simp; have := HL.out; omega)).trans X2.out)
    have K4 := hid (K2.out.trans (KK4.out.mono (by simp)))
    clear hK3 hK4 hM4 hrun
    have q1 := cell_two0 X4.out
    have q2 := cell_two1 X4.out
    have u1 := cell_two0 B4.out
    have u2 := cell_two1 B4.out
    go_wp2_with fail
    refine (piece_any w4 a z (by omega) (by omega)).mono ?_
    rintro e w6 ⟨rfl, hK6⟩
    have W6 := hid (show Went w w6 hb rb mb pb n r.1 r.2 c 31 [rb, mb, pb] by rw [E.out]; exact Went.after ⟨c2, by omega, by omega, H4.out, K4.out⟩ hK6)
    clear hK6
    go_wp2
    go_ret
    exact ⟨rfl, W6.out⟩
end Go.Proofs.YtgefmnnkpffpcaaGreatDoor
