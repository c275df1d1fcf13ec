/- give: a block that is in no list is a piece's. -/
import Derived.Test.YtgefmnnkpffpcaaGreatDoorHfindJ
namespace Go.Proofs.YtgefmnnkpffpcaaGreatDoor
open Go.RowKit Go.Maps

theorem Kp.turned {w w' : World} {b : Nat} (h : w.mapTurned w' b) : Kp w w' [b] := Kp.grownRow (World.mapTurned.grown h)
theorem Mp.store {w : World} {b : Nat} {P : Pcs} (h : Mp w b P) {k v : Int} (h0 : -9223372036854775808 ≤ k) (h1 : k ≤ 9223372036854775807) (h2 : -9223372036854775808 ≤ v) (h3 : v ≤ 9223372036854775807) (hn : P.length < maxLen) :
    ∃ w', (Instr.mapUpdate 65 (.map (some b)) (.int .i64 k) (.int .i64 v)).run Tryz.prog w = .ok () w' ∧ Mp w' b (putP P k v) ∧ Kp w w' [b] := by
  obtain ⟨w', hrun, r1, r2⟩ := World.ownsMap.store h keyed3 Tryz.underlying65 hn (keyOf_int_mk Tryz.underlying3 (wf64 h0 h1)) (plainElem_int Tryz.underlying3 (wf64 h2 h3))
  rw [dat_put] at r1
  exact ⟨w', hrun, Mp.of_owns r1, Kp.turned r2⟩
theorem Mp.drop {w : World} {b : Nat} {P : Pcs} (h : Mp w b P) {k : Int} (h0 : -9223372036854775808 ≤ k) (h1 : k ≤ 9223372036854775807) (ty : TypeId) :
    ∃ w', (Builtin.delete_ #[65, 3] ty #[.map (some b), .int .i64 k]).run Tryz.prog w = .ok (.tuple #[]) w' ∧ Mp w' b (delP P k) ∧ Kp w w' [b] := by
  obtain ⟨w', hrun, r1, r2⟩ := World.ownsMap.drop h keyed3 Tryz.underlying65 (keyOf_int_mk Tryz.underlying3 (wf64 h0 h1)) ty
  rw [dat_del] at r1
  exact ⟨w', hrun, Mp.of_owns r1, Kp.turned r2⟩

/-- Behind a call that wrote the map alone. -/
theorem Hp.remap {w w' : World} {hb rb mb pb n : Nat} {g : Mem} {c : Int} {P P' : Pcs} (h : Hp w hb rb mb pb n g c P) (hk : Kp w w' [pb]) (hp : Mp w' pb P') : Hp w' hb rb mb pb n g c P' := by
  have hne := h.ne
  have hnz := h.nz
  exact ⟨(hk.block hb h.lt.1 (by simp; omega)).trans h.hh, h.aw.keep hk (by simp; omega) (by simp; omega), hp, h.nb, h.c0, h.tb.keep hk (by simp; omega), h.nz⟩

/-- Two boxes, newly made. -/
structure Two2 (w W : World) (a y p q : Int) : Prop where
  k : Kp w W []
  b : W.heap[w.heap.size]? = some (.cells #[.int .i64 a, .int .i64 y] 87 (0, 0))
  x : W.heap[w.heap.size + 1]? = some (.cells #[.int .i64 p, .int .i64 q] 87 (0, 0))
theorem two2 (w : World) (a y p q : Int) : Two2 w ((w.alloc (.cells #[.int .i64 a, .int .i64 y] 87)).alloc (.cells #[.int .i64 p, .int .i64 q] 87)) a y p q := by
  refine ⟨(Kp.alloc w _ []).trans (Kp.alloc _ _ []), (Below.heap_alloc _ _ w.heap.size (by simp)).trans (heap_alloc_new w _), ?_⟩
  have := heap_alloc_new (w.alloc (.cells #[.int .i64 a, .int .i64 y] 87)) (.cells #[.int .i64 p, .int .i64 q] 87)
  rw [show (w.alloc (.cells #[.int .i64 a, .int .i64 y] 87)).heap.size = w.heap.size + 1 by simp] at this
  exact this

set_option maxRecDepth 100000 in
set_option maxHeartbeats 4000000 in
theorem give_any (w : World) (hb rb mb pb n : Nat) (g : Mem) (c : Int) (P : Pcs) (a z s : Int) (h : Hp w hb rb mb pb n g c P) (hc : c < 1152921504606830000)
    (ha0 : 0 ≤ a) (hz0 : 16 ≤ z) (hz8 : z % 8 = 0) (hs0 : 16 ≤ s) (hs8 : s % 8 = 0) (hsz : s ≤ z) (hazn : a + z ≤ n) (hP : P.length < maxLen) :
    Calls Tryz.prog 57 #[.pointer (some ⟨hb, 0, none⟩), .agg #[.int .i64 a, .int .i64 z], .int .i64 s] w fun e w' => e = .returned (.int .i64 (a + 8)) ∧ Went w w' hb rb mb pb n (give n g P a z s).1 (give n g P a z s).2 c 31 [rb, mb, pb] := by
  have hnb := h.nb
  have HL := hid h.lt
  have HN := hid h.ne
  have H := hid h
  have Z8 := hid hz8
  have S8 := hid hs8
  obtain ⟨r, hr⟩ : ∃ r, give n g P a z s = r := ⟨_, rfl⟩
  rw [hr]
  unfold give at hr
  have RR := hid hr
  clear h hz8 hs8 hr
  by_cases h16 : 16 ≤ z - s
  · have E := hid (show r = (freed n (mark n g a s 0) (putP P (a + 8) s) (a + s) (z - s), putP P (a + 8) s) by rw [← RR.out, if_pos h16])
    have T1 := hid (two2 w a s (a + s) (z - s))
    have H1 := hid (H.out.same T1.out.k)
    go_enter Tryz.func57, Tryz.ntmps57
    go_wp2_with fail
    refine (mark_any _ hb rb mb pb n g c P a s 0 H1.out (by omega) (by omega) (by omega) (by omega) (by omega) S8.out (Or.inl rfl)).mono ?_
    rintro e w2 ⟨rfl, c2, hc2, hc2', hH2, hK2⟩
    have B2 := hid ((hK2.block w.heap.size (lt_of_block T1.out.b) (by simp; have := HL.out; omega)).trans T1.out.b)
    have X2 := hid ((hK2.block (w.heap.size + 1) (lt_of_block T1.out.x) (by simp; have := HL.out; omega)).trans T1.out.x)
    have H2 := hid hH2
    have K2 := hid (show Kp w w2 [rb, mb, pb] from T1.out.k.nil.trans (hK2.mono (by simp)))
    clear hH2 hK2
    go_wp2_with fail
    have S2 := hid (show ∀ W, Kp w2 W [pb] → W.cell? ⟨hb, 1, none⟩ = some (.map (some pb)) ∧ W.cell? ⟨w.heap.size, 0, none⟩ = some (.int .i64 a) ∧ W.cell? ⟨w.heap.size, 1, none⟩ = some (.int .i64 s) from
      fun W hW => ⟨hW.cell H2.out.c1cell (by simp; have := HN.out; omega), hW.cell (cell_two0 B2.out) (by simp; have := HL.out; omega), hW.cell (cell_two1 B2.out) (by simp; have := HL.out; omega)⟩)
    go_region_held (fun w' => w'.cell? ⟨hb, 1, none⟩ = some (.map (some pb)) ∧ w'.cell? ⟨w.heap.size, 0, none⟩ = some (.int .i64 a) ∧ w'.cell? ⟨w.heap.size, 1, none⟩ = some (.int .i64 s))
      (first
        | exact S2.out _ (Kp.drew _ _)
        | exact S2.out _ ((Kp.drew _ _).trans hK3.nil)
        | exact S2.out _ (((Kp.drew _ _).trans hK3.nil).trans hK4.out))
      ((go_at_call 100; refine (piece_any _ a s (by omega) (by omega)).mono ?_; rintro e w3 ⟨rfl, hK3⟩; obtain ⟨w4, hrun, hm4, hk4⟩ := (H2.out.same ((Kp.drew _ _).trans hK3)).mp.store (k := a + 8) (v := s) (by omega) (by omega) (by omega) (by omega) hP; have hM4 := hid hm4; have hK4 := hid hk4; clear hm4 hk4))
    have H4 := hid ((H2.out.same ((Kp.drew _ _).trans hK3)).remap hK4.out hM4.out)
    have KK4 := hid (show Kp w2 w4 [pb] from ((Kp.drew _ _).trans hK3.nil).trans hK4.out)
    have B4 := hid ((KK4.out.block w.heap.size (lt_of_block B2.out) (by simp; have := HL.out; omega)).trans B2.out)
    have X4 := hid ((KK4.out.block (w.heap.size + 1) (lt_of_block X2.out) (by simp; have := HL.out; omega)).trans X2.out)
    have K4 := hid (K2.out.trans (KK4.out.mono (by simp)))
    clear hK3 hK4 hM4 hrun
    have q1 := cell_two0 X4.out
    have q2 := cell_two1 X4.out
    have u1 := cell_two0 B4.out
    have u2 := cell_two1 B4.out
    go_wp2_with fail
    refine (free_any w4 hb rb mb pb n _ c2 _ (a + s) (z - s) H4.out (by omega) (by omega) (by omega) (by have := Z8.out; have := S8.out; omega) (by omega)).mono ?_
    rintro e w5 ⟨rfl, c5, hc5, hc5', hH5, hK5⟩
    have B5 := hid ((hK5.block w.heap.size (lt_of_block B4.out) (by simp; have := HL.out; omega)).trans B4.out)
    have W5 := hid (show Went w w5 hb rb mb pb n r.1 r.2 c 31 [rb, mb, pb] by rw [E.out]; exact ⟨c5, by omega, by omega, hH5, K4.out.trans (hK5.mono (by simp))⟩)
    clear hH5 hK5 q1 q2 u1 u2
    have u1 := cell_two0 B5.out
    have u2 := cell_two1 B5.out
    go_wp2_with fail
    refine (piece_any w5 a s (by omega) (by omega)).mono ?_
    rintro e w6 ⟨rfl, hK6⟩
    have W6 := hid (W5.out.after hK6)
    clear hK6
    go_wp2
    go_ret
    exact ⟨rfl, W6.out⟩
  · have E := hid (show r = (mark n g a z 0, putP P (a + 8) z) by rw [← RR.out, if_neg h16])
    have T1 := hid (two2 w a z (a + s) (z - s))
    have H1 := hid (H.out.same T1.out.k)
    go_enter Tryz.func57, Tryz.ntmps57
    go_wp2_with fail
    refine (mark_any _ hb rb mb pb n g c P a z 0 H1.out (by omega) (by omega) (by omega) (by omega) (by omega) Z8.out (Or.inl rfl)).mono ?_
    rintro e w2 ⟨rfl, c2, hc2, hc2', hH2, hK2⟩
    have B2 := hid ((hK2.block w.heap.size (lt_of_block T1.out.b) (by simp; have := HL.out; omega)).trans T1.out.b)
    have X2 := hid ((hK2.block (w.heap.size + 1) (lt_of_block T1.out.x) (by simp; have := HL.out; omega)).trans T1.out.x)
    have H2 := hid hH2
    have K2 := hid (show Kp w w2 [rb, mb, pb] from T1.out.k.nil.trans (hK2.mono (by simp)))
    clear hH2 hK2
    go_wp2_with fail
    have S2 := hid (show ∀ W, Kp w2 W [pb] → W.cell? ⟨hb, 1, none⟩ = some (.map (some pb)) ∧ W.cell? ⟨w.heap.size, 0, none⟩ = some (.int .i64 a) ∧ W.cell? ⟨w.heap.size, 1, none⟩ = some (.int .i64 z) from
      fun W hW => ⟨hW.cell H2.out.c1cell (by simp; have := HN.out; omega), hW.cell (cell_two0 B2.out) (by simp; have := HL.out; omega), hW.cell (cell_two1 B2.out) (by simp; have := HL.out; omega)⟩)
    go_region_held (fun w' => w'.cell? ⟨hb, 1, none⟩ = some (.map (some pb)) ∧ w'.cell? ⟨w.heap.size, 0, none⟩ = some (.int .i64 a) ∧ w'.cell? ⟨w.heap.size, 1, none⟩ = some (.int .i64 z))
      (first
        | exact S2.out _ (Kp.drew _ _)
        | exact S2.out _ ((Kp.drew _ _).trans hK3.nil)
        | exact S2.out _ (((Kp.drew _ _).trans hK3.nil).trans hK4.out))
      ((go_at_call 100; refine (piece_any _ a z (by omega) (by omega)).mono ?_; rintro e w3 ⟨rfl, hK3⟩; obtain ⟨w4, hrun, hm4, hk4⟩ := (H2.out.same ((Kp.drew _ _).trans hK3)).mp.store (k := a + 8) (v := z) (by omega) (by omega) (by omega) (by omega) hP; have hM4 := hid hm4; have hK4 := hid hk4; clear hm4 hk4))
    have H4 := hid ((H2.out.same ((Kp.drew _ _).trans hK3)).remap hK4.out hM4.out)
    have KK4 := hid (show Kp w2 w4 [pb] from ((Kp.drew _ _).trans hK3.nil).trans hK4.out)
    have B4 := hid ((KK4.out.block w.heap.size (lt_of_block B2.out) (by simp; have := HL.out; omega)).trans B2.out)
    have X4 := hid ((KK4.out.block (w.heap.size + 1) (lt_of_block X2.out) (by simp; have := HL.out; omega)).trans X2.out)
    have K4 := hid (K2.out.trans (KK4.out.mono (by simp)))
    clear hK3 hK4 hM4 hrun
    have q1 := cell_two0 X4.out
    have q2 := cell_two1 X4.out
    have u1 := cell_two0 B4.out
    have u2 := cell_two1 B4.out
    go_wp2_with fail
    refine (piece_any w4 a z (by omega) (by omega)).mono ?_
    rintro e w6 ⟨rfl, hK6⟩
    have W6 := hid (show Went w w6 hb rb mb pb n r.1 r.2 c 31 [rb, mb, pb] by rw [E.out]; exact Went.after ⟨c2, by omega, by omega, H4.out, K4.out⟩ hK6)
    clear hK6
    go_wp2
    go_ret
    exact ⟨rfl, W6.out⟩
end Go.Proofs.YtgefmnnkpffpcaaGreatDoor

/- refusal, Alloc. -/
namespace Go.Proofs.YtgefmnnkpffpcaaGreatDoor
open Go.RowKit Go.Maps

/-- A class is the power of two, and whether half of it more is reached. -/
theorem cls_at {z : Int} {f : Nat} (h0 : (2 : Int) ^ (f + 1) ≤ z) (h1 : z < 2 ^ (f + 2)) : (lg z = f + 1) ∧ cls z = 2 * ((f : Int) + 1 - 4) + (if 3 * 2 ^ f ≤ z then 1 else 0) := by
  have hp : (0 : Int) < 2 ^ f := Int.pow_pos (by decide)
  have e1 : (2 : Int) ^ (f + 1) = 2 * 2 ^ f := by rw [Int.pow_succ]; omega
  have e2 : (2 : Int) ^ (f + 2) = 4 * 2 ^ f := by rw [Int.pow_succ, Int.pow_succ]; omega
  have hl : lg z = f + 1 := by
    have := lg_ge (z := z) (k := f + 1) h0
    have := lg_lt (z := z) (k := f + 2) (by omega) h1 (by omega)
    omega
  refine ⟨hl, ?_⟩
  unfold cls
  rw [hl, show f + 1 - 1 = f by omega]
  obtain ⟨p, hpp⟩ : ∃ p : Int, (2 : Int) ^ f = p := ⟨_, rfl⟩
  have hp' : 0 < p := by omega
  rw [hpp]
  have hq : z / p = if 3 * p ≤ z then 3 else 2 := by
    split
    · rename_i h
      have : z / p = 3 := by
        rw [Int.ediv_eq_iff_of_pos hp']; omega
      exact this
    · rename_i h
      have : z / p = 2 := by
        rw [Int.ediv_eq_iff_of_pos hp']; omega
      exact this
  rw [hq]
  split <;> omega
theorem two_split {z : Int} (h : 2 ≤ z) : ∃ f : Nat, (2 : Int) ^ (f + 1) ≤ z ∧ z < 2 ^ (f + 2) := by
  have h1 := pow_lg (z := z) (by omega)
  have h2 := lg_ge (z := z) (k := 1) (by omega)
  refine ⟨lg z - 1, ?_⟩
  rw [show lg z - 1 + 1 = lg z by omega, show lg z - 1 + 2 = lg z + 1 by omega]
  exact h1
theorem pow_mono {a b : Nat} (h : a ≤ b) : (2 : Int) ^ a ≤ 2 ^ b := by
  have : 2 ^ a ≤ 2 ^ b := Nat.pow_le_pow_right (by decide) h
  exact_mod_cast this
theorem cls_mono {x y : Int} (h0 : 2 ≤ x) (h : x ≤ y) : cls x ≤ cls y := by
  obtain ⟨f, a1, a2⟩ := two_split h0
  obtain ⟨k, b1, b2⟩ := two_split (z := y) (by omega)
  rw [(cls_at a1 a2).2, (cls_at b1 b2).2]
  by_cases hfk : f < k
  · split <;> split <;> omega
  · by_cases hkf : k < f
    · have := pow_mono (show k + 2 ≤ f + 1 by omega)
      omega
    · have : f = k := by omega
      subst this
      split <;> split <;> omega
/-- A block of a class from which z is found is great enough. -/
theorem cls_enough {z s : Int} (hz : 2 ≤ z) (hs : 2 ≤ s) (h : clsFor z ≤ cls s) : z ≤ s := by
  refine Int.not_lt.1 fun hlt => ?_
  obtain ⟨f, a1, a2⟩ := two_split hz
  have hp : (0 : Int) < 2 ^ f := Int.pow_pos (by decide)
  have e1 : (2 : Int) ^ (f + 1) = 2 * 2 ^ f := by rw [Int.pow_succ]; omega
  have e2 : (2 : Int) ^ (f + 2) = 4 * 2 ^ f := by rw [Int.pow_succ, Int.pow_succ]; omega
  have e3 : (2 : Int) ^ (f + 3) = 8 * 2 ^ f := by rw [Int.pow_succ, Int.pow_succ, Int.pow_succ]; omega
  unfold clsFor at h
  rw [(cls_at a1 a2).1, show f + 1 - 1 = f by omega] at h
  obtain ⟨p, hpp⟩ : ∃ p : Int, (2 : Int) ^ f = p := ⟨_, rfl⟩
  by_cases hs2 : 2 * p ≤ s
  · have sc := (cls_at (z := s) (f := f) (by omega) (by omega)).2
    rw [hpp] at sc h
    by_cases h3 : 3 * p ≤ s
    · rw [if_pos h3] at sc
      have yc := (cls_at (z := z + p - 1) (f := f + 1) (by rw [show f + 1 + 1 = f + 2 by omega]; omega) (by rw [show f + 1 + 2 = f + 3 by omega]; omega)).2
      rw [sc, yc] at h
      split at h <;> omega
    · rw [if_neg h3] at sc
      by_cases h4 : z + p - 1 < 4 * p
      · have yc := (cls_at (z := z + p - 1) (f := f) (by omega) (by omega)).2
        rw [hpp, if_pos (by omega)] at yc
        rw [sc, yc] at h
        omega
      · have yc := (cls_at (z := z + p - 1) (f := f + 1) (by rw [show f + 1 + 1 = f + 2 by omega]; omega) (by rw [show f + 1 + 2 = f + 3 by omega]; omega)).2
        rw [sc, yc] at h
        split at h <;> omega
  · have hm := cls_mono (x := s) (y := 2 * p - 1) hs (by omega)
    have hm2 := cls_mono (x := 2 * p) (y := z + 2 ^ f - 1) (by omega) (by omega)
    have c1 := (cls_at (z := 2 * p) (f := f) (by omega) (by omega)).2
    rw [hpp] at c1 hm2 h
    rw [if_neg (by omega)] at c1
    have c2 : cls (2 * p - 1) < 2 * ((f : Int) + 1 - 4) := by
      obtain ⟨k, b1, b2⟩ := two_split (z := 2 * p - 1) (by omega)
      have hkf : k < f := by
        refine Nat.lt_of_not_le fun hle => ?_
        have := pow_mono (show f + 1 ≤ k + 1 by omega)
        omega
      rw [(cls_at b1 b2).2]
      split <;> omega
    omega
theorem low_ge {v k : Nat} (h : lowBit v k < 32) : k ≤ lowBit v k := by
  unfold lowBit at *
  cases hf : (List.range 32).find? (fun c => decide (k ≤ c) && v.testBit c) with
  | none => rw [hf] at h; simp at h
  | some c =>
    have := List.find?_some hf
    simp at this
    simp [this.1]
theorem find_some {n : Nat} {g g' : Mem} {P : Pcs} {z a s : Int} (hz0 : 16 ≤ z) (hz1 : z < 500000) (h : find n g P z = some (a, s, g')) :
    112 ≤ a ∧ a % 8 = 0 ∧ 16 ≤ s ∧ a + s ≤ n ∧ s % 8 = 0 ∧ z ≤ s := by
  obtain ⟨k, hk, hk32⟩ := clsFor_range hz0 hz1
  unfold find at h
  rw [hk, Int.toNat_natCast] at h
  simp only at h
  split at h
  · simp at h
  · rename_i h24
    have hge := low_ge (v := (rd n g 0).toNat) (k := k) (by omega)
    cases hf : freeAt n g P (rd n g (4 + (lowBit (rd n g 0).toNat k : Int) * 4)) with
    | none => rw [hf] at h; simp at h
    | some t =>
      rw [hf] at h
      simp only at h
      split at h
      · rename_i hc
        simp only [Option.some.injEq, Prod.mk.injEq] at h
        obtain ⟨e1, e2, -⟩ := h
        have F := freeAt_some hf
        subst e1
        subst e2
        refine ⟨F.1, F.2.1, F.2.2.1, by omega, F.2.2.2.2.1, cls_enough (by omega) (by omega) ?_⟩
        rw [hk, hc]; omega
      · simp at h
end Go.Proofs.YtgefmnnkpffpcaaGreatDoor

/- refusal, Alloc: the walks. -/
namespace Go.Proofs.YtgefmnnkpffpcaaGreatDoor
open Go.RowKit Go.Maps

set_option maxRecDepth 100000 in
theorem refusal_any (w : World) (hb rb mb pb n F : Nat) (caps : Array Value) (g : Mem) (c : Int) (P : Pcs) (B : Bool) (h : Hp w hb rb mb pb n g c P) (heg : ∀ args w, (callFunc F args).run Tryz.prog w = .ok (.enter F args) w)
    (hcall : Calls Tryz.prog F caps w fun e w' => e = .returned (.bool B) ∧ Kp w w' []) :
    Calls Tryz.prog 46 #[.pointer (some ⟨hb, 0, none⟩), .func (.func F) #[] caps] w fun e w' => e = .returned (.int .i64 (if B then 0 else 2)) ∧ Kp w w' [] := by
  have q0 := h.c0cell
  have HC := hid hcall
  clear h hcall
  cases B
  all_goals simp only [Bool.false_eq_true, if_false, if_true]
  all_goals go_enter Tryz.func46, Tryz.ntmps46
  all_goals go_wp2_with (go_at_call 51; go_in)
  all_goals refine HC.out.mono ?_
  all_goals rintro e w1 ⟨rfl, hK⟩
  all_goals clear q0
  all_goals go_wp2
  all_goals go_ret
  all_goals exact ⟨rfl, hK⟩

set_option maxRecDepth 100000 in
theorem may1 (w : World) (p : Nat) (m : Int) (h0 : w.cell? ⟨p, 0, none⟩ = some (.int .i64 m)) : Calls Tryz.prog 53 #[.pointer (some ⟨p, 0, none⟩)] w fun e w' => e = .returned (.bool (mayB m)) ∧ Kp w w' [] := by
  go_enter Tryz.func53, Tryz.ntmps53
  go_wp2_with fail
  refine (mayHave_any w m).mono ?_
  rintro e w1 ⟨rfl, rfl⟩
  go_wp2
  go_ret
  exact ⟨rfl, Kp.refl _ _⟩
set_option maxRecDepth 100000 in
theorem enters53 : ∀ args w, (callFunc 53 args).run Tryz.prog w = .ok (.enter 53 args) w := enters_of Tryz.func53 (by kernel_rfl) rfl

/-- What Alloc answers. -/
def allocAns : Option (Int × Mem × Pcs) → Value
  | some (a, _, _) => .tuple #[.int .i64 a, .int .i64 0]
  | none => .tuple #[.int .i64 0, .int .i64 5]
def allocMem (g : Mem) : Option (Int × Mem × Pcs) → Mem
  | some (_, g', _) => g'
  | none => g
def allocPcs (P : Pcs) : Option (Int × Mem × Pcs) → Pcs
  | some (_, _, P') => P'
  | none => P

theorem needed_range {m : Int} (h0 : 1 ≤ m) (h1 : m ≤ 65536) : 16 ≤ needed m ∧ needed m ≤ 65544 ∧ needed m % 8 = 0 := by
  unfold needed; omega

set_option maxRecDepth 100000 in
theorem alloc_no (w : World) (hb rb mb pb n : Nat) (g : Mem) (c : Int) (P : Pcs) (m : Int) (h : Hp w hb rb mb pb n g c P) (hm : mayB m = false) :
    Calls Tryz.prog 18 #[.pointer (some ⟨hb, 0, none⟩), .int .i64 m] w fun e w' => e = .returned (.tuple #[.int .i64 0, .int .i64 2]) ∧ Kp w w' [] := by
  have A1 := hid (Kp.alloc w (.cells #[.int .i64 m] 3) [])
  have H1 := hid (h.same A1.out)
  have M := hid hm
  clear h hm
  go_enter Tryz.func18, Tryz.ntmps18
  go_wp2_with fail
  refine (refusal_any _ hb rb mb pb n 53 _ g c P (mayB m) H1.out enters53 (may1 _ _ m cell_new0)).mono ?_
  rintro e w1 ⟨rfl, hK1⟩
  rw [M.out]
  have K1 := hid (A1.out.trans hK1)
  clear hK1
  go_wp2
  go_ret2
  exact ⟨rfl, K1.out⟩

set_option maxRecDepth 100000 in
set_option maxHeartbeats 2000000 in
theorem alloc_any (w : World) (hb rb mb pb n : Nat) (g : Mem) (c : Int) (P : Pcs) (m : Int) (h : Hp w hb rb mb pb n g c P) (hc : c < 1152921504606820000) (h1 : 1 ≤ m) (h2 : m ≤ 65536) (hP : P.length < maxLen) :
    Calls Tryz.prog 18 #[.pointer (some ⟨hb, 0, none⟩), .int .i64 m] w fun e w' => e = .returned (allocAns (alloc n g P m)) ∧ Went w w' hb rb mb pb n (allocMem g (alloc n g P m)) (allocPcs P (alloc n g P m)) c 42 [rb, mb, pb] := by
  have A1 := hid (Kp.alloc w (.cells #[.int .i64 m] 3) [])
  have H1 := hid (h.same A1.out)
  have M := hid (show mayB m = true from decide_eq_true ⟨h1, h2⟩)
  obtain ⟨r, hr⟩ : ∃ r, alloc n g P m = r := ⟨_, rfl⟩
  rw [hr]
  unfold alloc at hr
  have hnd := needed_range h1 h2
  obtain ⟨z, hz⟩ : ∃ z, needed m = z := ⟨_, rfl⟩
  rw [hz] at hnd hr
  have HZ := hid hz
  have RR := hid hr
  have HL := hid h.lt
  have Z8 := hid hnd.2.2
  have hz0 : 16 ≤ z ∧ z ≤ 65544 := ⟨hnd.1, hnd.2.1⟩
  clear h hr hz hnd
  go_enter Tryz.func18, Tryz.ntmps18
  go_wp2_with fail
  refine (refusal_any _ hb rb mb pb n 53 _ g c P (mayB m) H1.out enters53 (may1 _ _ m cell_new0)).mono ?_
  rintro e w1 ⟨rfl, hK1⟩
  rw [M.out]
  have q0 := hK1.cell (cell_new0 (w := w) (v := .int .i64 m) (t := 3)) (by simp)
  have H2 := hid (H1.out.same hK1)
  have K1 := hid (A1.out.trans hK1)
  have Q1 := hid q0
  clear hK1
  go_wp2_with fail
  refine (needed_any w1 m (by omega) (by omega)).mono ?_
  rintro e w' ⟨rfl, hE⟩
  rw [hE]
  clear hE
  rw [HZ.out]
  go_wp2_with fail
  refine (find_any w1 hb rb mb pb n g c P z H2.out (by omega) (by omega) (by omega)).mono ?_
  rintro e w2 ⟨rfl, c2, hc2, hc2', hH2, hK2⟩
  have q0 := hK2.cell Q1.out (by simp; have := HL.out; omega)
  have Q2 := hid q0
  have H3 := hid hH2
  have K2 := hid (show Kp w w2 [rb, mb, pb] from K1.out.nil.trans (hK2.mono (by simp)))
  clear hH2 hK2
  cases hf : find n g P z with
  | none =>
    have E := hid (show r = none by rw [← RR.out, hf])
    have H4 := H3.out
    rw [hf] at H4
    have W2 := hid (show Went w w2 hb rb mb pb n g P c 42 [rb, mb, pb] from ⟨c2, by omega, by omega, H4, K2.out⟩)
    clear hf H4
    simp only [findAns]
    go_wp2
    go_ret2
    rw [E.out]
    exact ⟨rfl, W2.out.after (Kp.alloc _ _ _)⟩
  | some x =>
    obtain ⟨a, s, g'⟩ := x
    have F := find_some (by omega) (by omega) hf
    have E := hid (show r = some (a + 8, give n g' P a s z) by rw [← RR.out, hf])
    have H4 := H3.out
    rw [hf] at H4
    have H4 := hid (show Hp w2 hb rb mb pb n g' c2 P from H4)
    have F8 := hid F.2.2.2.2.1
    have hs0 : 112 ≤ a ∧ 16 ≤ s ∧ a + s ≤ n ∧ z ≤ s := by omega
    have hn4 := H4.out.nb
    clear hf F
    simp only [findAns]
    have A3 := hid (Kp.alloc w2 (.cells #[.int .i64 a, .int .i64 s] 87) [])
    have H5 := hid (H4.out.same A3.out)
    have X3 := hid (Bx.new (w := w2) (a := a) (z := s) (t := 87) H4.out.lt.2.1 H4.out.lt.2.2.1)
    have S3 := hid (show ∀ W, Kp (w2.alloc (.cells #[.int .i64 a, .int .i64 s] 87)) W [] → W.cell? ⟨w.heap.size, 0, none⟩ = some (.int .i64 m) ∧ W.cell? ⟨w2.heap.size, 0, none⟩ = some (.int .i64 a) ∧ W.cell? ⟨w2.heap.size, 1, none⟩ = some (.int .i64 s) from
      fun W hW => ⟨hW.cell (A3.out.cell Q2.out (by simp)) (by simp), hW.cell X3.out.c1 (by simp), hW.cell X3.out.c2 (by simp)⟩)
    go_wp2_with fail
    go_region_held (fun w' => w'.cell? ⟨w.heap.size, 0, none⟩ = some (.int .i64 m) ∧ w'.cell? ⟨w2.heap.size, 0, none⟩ = some (.int .i64 a) ∧ w'.cell? ⟨w2.heap.size, 1, none⟩ = some (.int .i64 s))
      (first
        | exact S3.out _ (Kp.drew _ _)
        | exact S3.out _ ((Kp.drew _ _).trans hK5)
        | exact ⟨hK6.cell (((Kp.drew _ _).trans hK5).cell (A3.out.cell Q2.out (by simp)) (by simp)) (by simp; have := HL.out; omega), hK6.cell (((Kp.drew _ _).trans hK5).cell X3.out.c1 (by simp)) (by simp; have := H4.out.lt; omega), hK6.cell (((Kp.drew _ _).trans hK5).cell X3.out.c2 (by simp)) (by simp; have := H4.out.lt; omega)⟩)
      (first
        | (go_at_call 56; refine (needed_any _ m (by omega) (by omega)).mono ?_; rintro e w5 ⟨rfl, hE5⟩; have hK5 := Kp.of_eq hE5; clear hE5; rw [HZ.out])
        | (go_at_call 57; refine (give_any _ hb rb mb pb n g' c2 P a s z (H5.out.same ((Kp.drew _ _).trans hK5)) (by omega) (by omega) (by omega) F8.out (by omega) Z8.out (by omega) (by omega) hP).mono ?_; rintro e w6 ⟨rfl, c6, hc6, hc6', hH6, hK6⟩))
    have W6 := hid (show Went w w6 hb rb mb pb n (give n g' P a s z).1 (give n g' P a s z).2 c 42 [rb, mb, pb] from ⟨c6, by omega, by omega, hH6, (K2.out.trans A3.out.nil).trans (((Kp.drew _ _).trans hK5.nil).trans hK6)⟩)
    clear hH6 hK6 hK5
    go_wp2
    go_ret2
    rw [E.out]
    exact ⟨rfl, W6.out⟩
end Go.Proofs.YtgefmnnkpffpcaaGreatDoor
