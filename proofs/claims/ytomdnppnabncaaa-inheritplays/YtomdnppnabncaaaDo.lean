/- The law's does: a step to both. -/
import Derived.Test.YtomdnppnabncaaaPrg
import Derived.Deep.RegionLaw
namespace Go.Proofs.Ytomdnppnabncaaa
open Go.RowKit Go.Shelf
open Go.Lib hiding intOf

section
variable {Gr : World → Nat → Gs → Prop}
/-- The step's box. -/
theorem box3 (w : World) (k t x : Int) : (w.alloc (.cells #[.int .i64 k, .int .i64 t, .int .i64 x] 32)).heap[w.heap.size]? = some (.cells #[.int .i64 k, .int .i64 t, .int .i64 x] 32 (0, 0)) := World.alloc_heap_new w _
theorem box3_cells {w : World} {b : Nat} {k t x : Int} (h : w.heap[b]? = some (.cells #[.int .i64 k, .int .i64 t, .int .i64 x] 32 (0, 0))) :
    w.cell? ⟨b, 0, none⟩ = some (.int .i64 k) ∧ w.cell? ⟨b, 1, none⟩ = some (.int .i64 t) ∧ w.cell? ⟨b, 2, none⟩ = some (.int .i64 x) := by
  refine ⟨?_, ?_, ?_⟩ <;> simp [World.cell?, h]
/-- What a step leaves. -/
structure Did (Gr : World → Nat → Gs → Prop) (w w' : World) (gb rb : Nat) (G : Gs) : Prop where
  gr : Gr w' gb G
  rr : Rr w' rb G
  kp : Kp w w' [gb, rb]
set_option maxRecDepth 100000 in
set_option maxHeartbeats 2000000 in
theorem does1_ok (P : Prg Gr) (w : World) (gb rb : Nat) (G : Gs) (t x : Int) (h : Gr w gb G) (h' : Rr w rb G) (hq : mayT G t ∧ mayP x) : Calls Try.prog 11 #[.pointer (some ⟨gb, 0, none⟩), .pointer (some ⟨rb, 0, none⟩), .agg #[.int .i64 1, .int .i64 t, .int .i64 x]] w fun e w' => e = .returned (.bool true) ∧ Did Gr w w' gb rb (baG G t x) := by
  have hne := P.ne h h'
  have h2 := (P.ok h).n2
  have hgl := P.lt h
  have hrl := h'.lt
  have HB := hid (box3 w 1 t x)
  have ka := Kp.alloc w (.cells #[.int .i64 1, .int .i64 t, .int .i64 x] 32) []
  have hs : (w.alloc (.cells #[.int .i64 1, .int .i64 t, .int .i64 x] 32)).heap.size = w.heap.size + 1 := by simp
  obtain ⟨W0, hW0⟩ : ∃ W0, w.alloc (.cells #[.int .i64 1, .int .i64 t, .int .i64 x] 32) = W0 := ⟨_, rfl⟩
  rw [hW0] at HB ka hs
  have H := hid (P.still h ka)
  have H' := hid (h'.same ka)
  have HK := hid ka
  have c1 := rin_any W0 rb G t H'.out
  have c2 := P.base W0 gb G t x H.out
  obtain ⟨q0, q1, q2⟩ := box3_cells HB.out
  obtain ⟨a, ha⟩ : ∃ a, w.heap.size = a := ⟨_, rfl⟩
  rw [ha] at q0 q1 q2 HB
  have HA := hid ha
  have hq : mayT G t ∧ mayP x := hq
  obtain ⟨u, rfl⟩ : ∃ u : Nat, t = u := ⟨t.toNat, by have := hq.1.1; omega⟩
  have e1 : baE G u x = 0 := by unfold baE; rw [if_pos hq]
  have HNG := hid (show baG G u x = { G with b := upd G.b u x } by unfold baG; rw [if_pos hq, Int.toNat_natCast])
  have e2 : decide (mayT G (u : Int)) = true := by simp [hq.1]
  rw [e1] at c2
  rw [e2] at c1
  have x0 : 0 ≤ x := hq.2.1
  have x1 : x ≤ 31 := hq.2.2
  have hu : u < G.n := by have := hq.1.2; omega
  clear e1 e2 hq
  clear h h' ka
  go_enter Try.func11, Try.ntmps11
  go_wp2_with fail
  refine c1.mono ?_
  rintro e W1 ⟨rfl, hE⟩
  subst hE
  go_wp2_with fail
  refine c2.mono ?_
  rintro e W2 ⟨rfl, hG2, hK2⟩
  have B2 := HB.out
  have hr2 := H'.out.keep hK2 (by simp; omega)
  have b2 := (hK2.block a (lt_of_block HB.out) (by simp; have := HA.out; omega)).trans HB.out
  obtain ⟨p0, p1, p2⟩ := box3_cells b2
  have G2 := hid hG2
  have R2 := hid hr2
  have K2 := hid hK2
  clear c2 hG2 hK2 b2 q0 q1 q2 B2
  have cb := R2.out.b (t := u) (by omega)
  have fb := R2.out.free (1 + u)
  go_wp2_with fail
  go_region
  go_wp2_with fail
  go_ret
  refine ⟨rfl, P.keep G2.out ((Kp.drew _ []).nil.trans (Kp.setCell W2.drew ⟨rb, 1 + u, none⟩ (.int .i64 x))) (by simp; omega), ?_, ?_⟩
  · have := (R2.out.same (Kp.drew _ _)).setB (t := u) (by omega) x
    rw [HNG.out]
    exact this
  · refine (HK.out.nil.trans (K2.out.mono (by simp))).trans (((Kp.drew _ []).nil.trans (Kp.setCell W2.drew ⟨rb, 1 + u, none⟩ (.int .i64 x))).mono (by simp))
set_option maxRecDepth 100000 in
set_option maxHeartbeats 2000000 in
theorem does1_no1 (P : Prg Gr) (w : World) (gb rb : Nat) (G : Gs) (t x : Int) (h : Gr w gb G) (h' : Rr w rb G) (hw : ¬ mayT G t) (hq : ¬ (mayT G t ∧ mayP x)) : Calls Try.prog 11 #[.pointer (some ⟨gb, 0, none⟩), .pointer (some ⟨rb, 0, none⟩), .agg #[.int .i64 1, .int .i64 t, .int .i64 x]] w fun e w' => e = .returned (.bool true) ∧ Did Gr w w' gb rb (baG G t x) := by
  have hne := P.ne h h'
  have h2 := (P.ok h).n2
  have hgl := P.lt h
  have hrl := h'.lt
  have HB := hid (box3 w 1 t x)
  have ka := Kp.alloc w (.cells #[.int .i64 1, .int .i64 t, .int .i64 x] 32) []
  have hs : (w.alloc (.cells #[.int .i64 1, .int .i64 t, .int .i64 x] 32)).heap.size = w.heap.size + 1 := by simp
  obtain ⟨W0, hW0⟩ : ∃ W0, w.alloc (.cells #[.int .i64 1, .int .i64 t, .int .i64 x] 32) = W0 := ⟨_, rfl⟩
  rw [hW0] at HB ka hs
  have H := hid (P.still h ka)
  have H' := hid (h'.same ka)
  have HK := hid ka
  have c1 := rin_any W0 rb G t H'.out
  have c2 := P.base W0 gb G t x H.out
  obtain ⟨q0, q1, q2⟩ := box3_cells HB.out
  obtain ⟨a, ha⟩ : ∃ a, w.heap.size = a := ⟨_, rfl⟩
  rw [ha] at q0 q1 q2 HB
  have HA := hid ha
  have e1 : baE G t x = 2 := by unfold baE; rw [if_neg hq]
  have HNG := hid (show baG G t x = G by unfold baG; rw [if_neg hq])
  rw [e1] at c2
  have e2 : decide (mayT G t) = false := by simp [hw]
  rw [e2] at c1
  clear e2
  clear e1
  clear h h' ka
  go_enter Try.func11, Try.ntmps11
  go_wp2_with fail
  refine c1.mono ?_
  rintro e W1 ⟨rfl, hE⟩
  subst hE
  go_wp2_with fail
  refine c2.mono ?_
  rintro e W2 ⟨rfl, hG2, hK2⟩
  have B2 := HB.out
  have hr2 := H'.out.keep hK2 (by simp; omega)
  have b2 := (hK2.block a (lt_of_block HB.out) (by simp; have := HA.out; omega)).trans HB.out
  obtain ⟨p0, p1, p2⟩ := box3_cells b2
  have G2 := hid hG2
  have R2 := hid hr2
  have K2 := hid hK2
  clear c2 hG2 hK2 b2 q0 q1 q2 B2
  go_wp2_with fail
  go_ret
  exact ⟨rfl, G2.out, by rw [HNG.out]; exact R2.out, (HK.out.nil.trans (K2.out.mono (by simp)))⟩
set_option maxRecDepth 100000 in
set_option maxHeartbeats 2000000 in
theorem does1_no2 (P : Prg Gr) (w : World) (gb rb : Nat) (G : Gs) (t x : Int) (h : Gr w gb G) (h' : Rr w rb G) (hw : mayT G t) (hx : x < 0) (hq : ¬ (mayT G t ∧ mayP x)) : Calls Try.prog 11 #[.pointer (some ⟨gb, 0, none⟩), .pointer (some ⟨rb, 0, none⟩), .agg #[.int .i64 1, .int .i64 t, .int .i64 x]] w fun e w' => e = .returned (.bool true) ∧ Did Gr w w' gb rb (baG G t x) := by
  have hne := P.ne h h'
  have h2 := (P.ok h).n2
  have hgl := P.lt h
  have hrl := h'.lt
  have HB := hid (box3 w 1 t x)
  have ka := Kp.alloc w (.cells #[.int .i64 1, .int .i64 t, .int .i64 x] 32) []
  have hs : (w.alloc (.cells #[.int .i64 1, .int .i64 t, .int .i64 x] 32)).heap.size = w.heap.size + 1 := by simp
  obtain ⟨W0, hW0⟩ : ∃ W0, w.alloc (.cells #[.int .i64 1, .int .i64 t, .int .i64 x] 32) = W0 := ⟨_, rfl⟩
  rw [hW0] at HB ka hs
  have H := hid (P.still h ka)
  have H' := hid (h'.same ka)
  have HK := hid ka
  have c1 := rin_any W0 rb G t H'.out
  have c2 := P.base W0 gb G t x H.out
  obtain ⟨q0, q1, q2⟩ := box3_cells HB.out
  obtain ⟨a, ha⟩ : ∃ a, w.heap.size = a := ⟨_, rfl⟩
  rw [ha] at q0 q1 q2 HB
  have HA := hid ha
  have e1 : baE G t x = 2 := by unfold baE; rw [if_neg hq]
  have HNG := hid (show baG G t x = G by unfold baG; rw [if_neg hq])
  rw [e1] at c2
  have e2 : decide (mayT G t) = true := by simp [hw]
  rw [e2] at c1
  clear e2
  have hx1 : ¬ 0 ≤ x := by omega
  clear e1
  clear h h' ka
  go_enter Try.func11, Try.ntmps11
  go_wp2_with fail
  refine c1.mono ?_
  rintro e W1 ⟨rfl, hE⟩
  subst hE
  go_wp2_with fail
  refine c2.mono ?_
  rintro e W2 ⟨rfl, hG2, hK2⟩
  have B2 := HB.out
  have hr2 := H'.out.keep hK2 (by simp; omega)
  have b2 := (hK2.block a (lt_of_block HB.out) (by simp; have := HA.out; omega)).trans HB.out
  obtain ⟨p0, p1, p2⟩ := box3_cells b2
  have G2 := hid hG2
  have R2 := hid hr2
  have K2 := hid hK2
  clear c2 hG2 hK2 b2 q0 q1 q2 B2
  go_wp2_with fail
  go_ret
  exact ⟨rfl, G2.out, by rw [HNG.out]; exact R2.out, (HK.out.nil.trans (K2.out.mono (by simp)))⟩
set_option maxRecDepth 100000 in
set_option maxHeartbeats 2000000 in
theorem does1_no3 (P : Prg Gr) (w : World) (gb rb : Nat) (G : Gs) (t x : Int) (h : Gr w gb G) (h' : Rr w rb G) (hw : mayT G t) (hx : 0 ≤ x) (hy : 31 < x) (hq : ¬ (mayT G t ∧ mayP x)) : Calls Try.prog 11 #[.pointer (some ⟨gb, 0, none⟩), .pointer (some ⟨rb, 0, none⟩), .agg #[.int .i64 1, .int .i64 t, .int .i64 x]] w fun e w' => e = .returned (.bool true) ∧ Did Gr w w' gb rb (baG G t x) := by
  have hne := P.ne h h'
  have h2 := (P.ok h).n2
  have hgl := P.lt h
  have hrl := h'.lt
  have HB := hid (box3 w 1 t x)
  have ka := Kp.alloc w (.cells #[.int .i64 1, .int .i64 t, .int .i64 x] 32) []
  have hs : (w.alloc (.cells #[.int .i64 1, .int .i64 t, .int .i64 x] 32)).heap.size = w.heap.size + 1 := by simp
  obtain ⟨W0, hW0⟩ : ∃ W0, w.alloc (.cells #[.int .i64 1, .int .i64 t, .int .i64 x] 32) = W0 := ⟨_, rfl⟩
  rw [hW0] at HB ka hs
  have H := hid (P.still h ka)
  have H' := hid (h'.same ka)
  have HK := hid ka
  have c1 := rin_any W0 rb G t H'.out
  have c2 := P.base W0 gb G t x H.out
  obtain ⟨q0, q1, q2⟩ := box3_cells HB.out
  obtain ⟨a, ha⟩ : ∃ a, w.heap.size = a := ⟨_, rfl⟩
  rw [ha] at q0 q1 q2 HB
  have HA := hid ha
  have e1 : baE G t x = 2 := by unfold baE; rw [if_neg hq]
  have HNG := hid (show baG G t x = G by unfold baG; rw [if_neg hq])
  rw [e1] at c2
  have e2 : decide (mayT G t) = true := by simp [hw]
  rw [e2] at c1
  clear e2
  clear e1
  clear h h' ka
  go_enter Try.func11, Try.ntmps11
  go_wp2_with fail
  refine c1.mono ?_
  rintro e W1 ⟨rfl, hE⟩
  subst hE
  go_wp2_with fail
  refine c2.mono ?_
  rintro e W2 ⟨rfl, hG2, hK2⟩
  have B2 := HB.out
  have hr2 := H'.out.keep hK2 (by simp; omega)
  have b2 := (hK2.block a (lt_of_block HB.out) (by simp; have := HA.out; omega)).trans HB.out
  obtain ⟨p0, p1, p2⟩ := box3_cells b2
  have G2 := hid hG2
  have R2 := hid hr2
  have K2 := hid hK2
  clear c2 hG2 hK2 b2 q0 q1 q2 B2
  go_wp2_with fail
  go_ret
  exact ⟨rfl, G2.out, by rw [HNG.out]; exact R2.out, (HK.out.nil.trans (K2.out.mono (by simp)))⟩
set_option maxRecDepth 100000 in
set_option maxHeartbeats 2000000 in
theorem does2_ok (P : Prg Gr) (w : World) (gb rb : Nat) (G : Gs) (t x : Int) (h : Gr w gb G) (h' : Rr w rb G) (hq : mayT G t ∧ mayP x) : Calls Try.prog 11 #[.pointer (some ⟨gb, 0, none⟩), .pointer (some ⟨rb, 0, none⟩), .agg #[.int .i64 2, .int .i64 t, .int .i64 x]] w fun e w' => e = .returned (.bool true) ∧ Did Gr w w' gb rb (ceG G t x) := by
  have hne := P.ne h h'
  have h2 := (P.ok h).n2
  have hgl := P.lt h
  have hrl := h'.lt
  have HB := hid (box3 w 2 t x)
  have ka := Kp.alloc w (.cells #[.int .i64 2, .int .i64 t, .int .i64 x] 32) []
  have hs : (w.alloc (.cells #[.int .i64 2, .int .i64 t, .int .i64 x] 32)).heap.size = w.heap.size + 1 := by simp
  obtain ⟨W0, hW0⟩ : ∃ W0, w.alloc (.cells #[.int .i64 2, .int .i64 t, .int .i64 x] 32) = W0 := ⟨_, rfl⟩
  rw [hW0] at HB ka hs
  have H := hid (P.still h ka)
  have H' := hid (h'.same ka)
  have HK := hid ka
  have c1 := rin_any W0 rb G t H'.out
  have c2 := P.ceil W0 gb G t x H.out
  obtain ⟨q0, q1, q2⟩ := box3_cells HB.out
  obtain ⟨a, ha⟩ : ∃ a, w.heap.size = a := ⟨_, rfl⟩
  rw [ha] at q0 q1 q2 HB
  have HA := hid ha
  have hq : mayT G t ∧ mayP x := hq
  obtain ⟨u, rfl⟩ : ∃ u : Nat, t = u := ⟨t.toNat, by have := hq.1.1; omega⟩
  have e1 : baE G u x = 0 := by unfold baE; rw [if_pos hq]
  have HNG := hid (show ceG G u x = { G with c := upd G.c u x } by unfold ceG; rw [if_pos hq, Int.toNat_natCast])
  have e2 : decide (mayT G (u : Int)) = true := by simp [hq.1]
  rw [e1] at c2
  rw [e2] at c1
  have x0 : 0 ≤ x := hq.2.1
  have x1 : x ≤ 31 := hq.2.2
  have hu : u < G.n := by have := hq.1.2; omega
  clear e1 e2 hq
  clear h h' ka
  go_enter Try.func11, Try.ntmps11
  go_wp2_with fail
  refine c1.mono ?_
  rintro e W1 ⟨rfl, hE⟩
  subst hE
  go_wp2_with fail
  refine c2.mono ?_
  rintro e W2 ⟨rfl, hG2, hK2⟩
  have B2 := HB.out
  have hr2 := H'.out.keep hK2 (by simp; omega)
  have b2 := (hK2.block a (lt_of_block HB.out) (by simp; have := HA.out; omega)).trans HB.out
  obtain ⟨p0, p1, p2⟩ := box3_cells b2
  have G2 := hid hG2
  have R2 := hid hr2
  have K2 := hid hK2
  clear c2 hG2 hK2 b2 q0 q1 q2 B2
  have cb := R2.out.c (t := u) (by omega)
  have fb := R2.out.free (17 + u)
  go_wp2_with fail
  go_region
  go_wp2_with fail
  go_ret
  refine ⟨rfl, P.keep G2.out ((Kp.drew _ []).nil.trans (Kp.setCell W2.drew ⟨rb, 17 + u, none⟩ (.int .i64 x))) (by simp; omega), ?_, ?_⟩
  · have := (R2.out.same (Kp.drew _ _)).setC (t := u) (by omega) x
    rw [HNG.out]
    exact this
  · refine (HK.out.nil.trans (K2.out.mono (by simp))).trans (((Kp.drew _ []).nil.trans (Kp.setCell W2.drew ⟨rb, 17 + u, none⟩ (.int .i64 x))).mono (by simp))
set_option maxRecDepth 100000 in
set_option maxHeartbeats 2000000 in
theorem does2_no1 (P : Prg Gr) (w : World) (gb rb : Nat) (G : Gs) (t x : Int) (h : Gr w gb G) (h' : Rr w rb G) (hw : ¬ mayT G t) (hq : ¬ (mayT G t ∧ mayP x)) : Calls Try.prog 11 #[.pointer (some ⟨gb, 0, none⟩), .pointer (some ⟨rb, 0, none⟩), .agg #[.int .i64 2, .int .i64 t, .int .i64 x]] w fun e w' => e = .returned (.bool true) ∧ Did Gr w w' gb rb (ceG G t x) := by
  have hne := P.ne h h'
  have h2 := (P.ok h).n2
  have hgl := P.lt h
  have hrl := h'.lt
  have HB := hid (box3 w 2 t x)
  have ka := Kp.alloc w (.cells #[.int .i64 2, .int .i64 t, .int .i64 x] 32) []
  have hs : (w.alloc (.cells #[.int .i64 2, .int .i64 t, .int .i64 x] 32)).heap.size = w.heap.size + 1 := by simp
  obtain ⟨W0, hW0⟩ : ∃ W0, w.alloc (.cells #[.int .i64 2, .int .i64 t, .int .i64 x] 32) = W0 := ⟨_, rfl⟩
  rw [hW0] at HB ka hs
  have H := hid (P.still h ka)
  have H' := hid (h'.same ka)
  have HK := hid ka
  have c1 := rin_any W0 rb G t H'.out
  have c2 := P.ceil W0 gb G t x H.out
  obtain ⟨q0, q1, q2⟩ := box3_cells HB.out
  obtain ⟨a, ha⟩ : ∃ a, w.heap.size = a := ⟨_, rfl⟩
  rw [ha] at q0 q1 q2 HB
  have HA := hid ha
  have e1 : baE G t x = 2 := by unfold baE; rw [if_neg hq]
  have HNG := hid (show ceG G t x = G by unfold ceG; rw [if_neg hq])
  rw [e1] at c2
  have e2 : decide (mayT G t) = false := by simp [hw]
  rw [e2] at c1
  clear e2
  clear e1
  clear h h' ka
  go_enter Try.func11, Try.ntmps11
  go_wp2_with fail
  refine c1.mono ?_
  rintro e W1 ⟨rfl, hE⟩
  subst hE
  go_wp2_with fail
  refine c2.mono ?_
  rintro e W2 ⟨rfl, hG2, hK2⟩
  have B2 := HB.out
  have hr2 := H'.out.keep hK2 (by simp; omega)
  have b2 := (hK2.block a (lt_of_block HB.out) (by simp; have := HA.out; omega)).trans HB.out
  obtain ⟨p0, p1, p2⟩ := box3_cells b2
  have G2 := hid hG2
  have R2 := hid hr2
  have K2 := hid hK2
  clear c2 hG2 hK2 b2 q0 q1 q2 B2
  go_wp2_with fail
  go_ret
  exact ⟨rfl, G2.out, by rw [HNG.out]; exact R2.out, (HK.out.nil.trans (K2.out.mono (by simp)))⟩
set_option maxRecDepth 100000 in
set_option maxHeartbeats 2000000 in
theorem does2_no2 (P : Prg Gr) (w : World) (gb rb : Nat) (G : Gs) (t x : Int) (h : Gr w gb G) (h' : Rr w rb G) (hw : mayT G t) (hx : x < 0) (hq : ¬ (mayT G t ∧ mayP x)) : Calls Try.prog 11 #[.pointer (some ⟨gb, 0, none⟩), .pointer (some ⟨rb, 0, none⟩), .agg #[.int .i64 2, .int .i64 t, .int .i64 x]] w fun e w' => e = .returned (.bool true) ∧ Did Gr w w' gb rb (ceG G t x) := by
  have hne := P.ne h h'
  have h2 := (P.ok h).n2
  have hgl := P.lt h
  have hrl := h'.lt
  have HB := hid (box3 w 2 t x)
  have ka := Kp.alloc w (.cells #[.int .i64 2, .int .i64 t, .int .i64 x] 32) []
  have hs : (w.alloc (.cells #[.int .i64 2, .int .i64 t, .int .i64 x] 32)).heap.size = w.heap.size + 1 := by simp
  obtain ⟨W0, hW0⟩ : ∃ W0, w.alloc (.cells #[.int .i64 2, .int .i64 t, .int .i64 x] 32) = W0 := ⟨_, rfl⟩
  rw [hW0] at HB ka hs
  have H := hid (P.still h ka)
  have H' := hid (h'.same ka)
  have HK := hid ka
  have c1 := rin_any W0 rb G t H'.out
  have c2 := P.ceil W0 gb G t x H.out
  obtain ⟨q0, q1, q2⟩ := box3_cells HB.out
  obtain ⟨a, ha⟩ : ∃ a, w.heap.size = a := ⟨_, rfl⟩
  rw [ha] at q0 q1 q2 HB
  have HA := hid ha
  have e1 : baE G t x = 2 := by unfold baE; rw [if_neg hq]
  have HNG := hid (show ceG G t x = G by unfold ceG; rw [if_neg hq])
  rw [e1] at c2
  have e2 : decide (mayT G t) = true := by simp [hw]
  rw [e2] at c1
  clear e2
  have hx1 : ¬ 0 ≤ x := by omega
  clear e1
  clear h h' ka
  go_enter Try.func11, Try.ntmps11
  go_wp2_with fail
  refine c1.mono ?_
  rintro e W1 ⟨rfl, hE⟩
  subst hE
  go_wp2_with fail
  refine c2.mono ?_
  rintro e W2 ⟨rfl, hG2, hK2⟩
  have B2 := HB.out
  have hr2 := H'.out.keep hK2 (by simp; omega)
  have b2 := (hK2.block a (lt_of_block HB.out) (by simp; have := HA.out; omega)).trans HB.out
  obtain ⟨p0, p1, p2⟩ := box3_cells b2
  have G2 := hid hG2
  have R2 := hid hr2
  have K2 := hid hK2
  clear c2 hG2 hK2 b2 q0 q1 q2 B2
  go_wp2_with fail
  go_ret
  exact ⟨rfl, G2.out, by rw [HNG.out]; exact R2.out, (HK.out.nil.trans (K2.out.mono (by simp)))⟩
set_option maxRecDepth 100000 in
set_option maxHeartbeats 2000000 in
theorem does2_no3 (P : Prg Gr) (w : World) (gb rb : Nat) (G : Gs) (t x : Int) (h : Gr w gb G) (h' : Rr w rb G) (hw : mayT G t) (hx : 0 ≤ x) (hy : 31 < x) (hq : ¬ (mayT G t ∧ mayP x)) : Calls Try.prog 11 #[.pointer (some ⟨gb, 0, none⟩), .pointer (some ⟨rb, 0, none⟩), .agg #[.int .i64 2, .int .i64 t, .int .i64 x]] w fun e w' => e = .returned (.bool true) ∧ Did Gr w w' gb rb (ceG G t x) := by
  have hne := P.ne h h'
  have h2 := (P.ok h).n2
  have hgl := P.lt h
  have hrl := h'.lt
  have HB := hid (box3 w 2 t x)
  have ka := Kp.alloc w (.cells #[.int .i64 2, .int .i64 t, .int .i64 x] 32) []
  have hs : (w.alloc (.cells #[.int .i64 2, .int .i64 t, .int .i64 x] 32)).heap.size = w.heap.size + 1 := by simp
  obtain ⟨W0, hW0⟩ : ∃ W0, w.alloc (.cells #[.int .i64 2, .int .i64 t, .int .i64 x] 32) = W0 := ⟨_, rfl⟩
  rw [hW0] at HB ka hs
  have H := hid (P.still h ka)
  have H' := hid (h'.same ka)
  have HK := hid ka
  have c1 := rin_any W0 rb G t H'.out
  have c2 := P.ceil W0 gb G t x H.out
  obtain ⟨q0, q1, q2⟩ := box3_cells HB.out
  obtain ⟨a, ha⟩ : ∃ a, w.heap.size = a := ⟨_, rfl⟩
  rw [ha] at q0 q1 q2 HB
  have HA := hid ha
  have e1 : baE G t x = 2 := by unfold baE; rw [if_neg hq]
  have HNG := hid (show ceG G t x = G by unfold ceG; rw [if_neg hq])
  rw [e1] at c2
  have e2 : decide (mayT G t) = true := by simp [hw]
  rw [e2] at c1
  clear e2
  clear e1
  clear h h' ka
  go_enter Try.func11, Try.ntmps11
  go_wp2_with fail
  refine c1.mono ?_
  rintro e W1 ⟨rfl, hE⟩
  subst hE
  go_wp2_with fail
  refine c2.mono ?_
  rintro e W2 ⟨rfl, hG2, hK2⟩
  have B2 := HB.out
  have hr2 := H'.out.keep hK2 (by simp; omega)
  have b2 := (hK2.block a (lt_of_block HB.out) (by simp; have := HA.out; omega)).trans HB.out
  obtain ⟨p0, p1, p2⟩ := box3_cells b2
  have G2 := hid hG2
  have R2 := hid hr2
  have K2 := hid hK2
  clear c2 hG2 hK2 b2 q0 q1 q2 B2
  go_wp2_with fail
  go_ret
  exact ⟨rfl, G2.out, by rw [HNG.out]; exact R2.out, (HK.out.nil.trans (K2.out.mono (by simp)))⟩
set_option maxRecDepth 100000 in
set_option maxHeartbeats 2000000 in
theorem does3_ok (P : Prg Gr) (w : World) (gb rb : Nat) (G : Gs) (t x : Int) (h : Gr w gb G) (h' : Rr w rb G) (hq : mayT G t ∧ mayO G x) : Calls Try.prog 11 #[.pointer (some ⟨gb, 0, none⟩), .pointer (some ⟨rb, 0, none⟩), .agg #[.int .i64 3, .int .i64 t, .int .i64 x]] w fun e w' => e = .returned (.bool true) ∧ Did Gr w w' gb rb (waG G t x) := by
  have hne := P.ne h h'
  have h2 := (P.ok h).n2
  have hgl := P.lt h
  have hrl := h'.lt
  have HB := hid (box3 w 3 t x)
  have ka := Kp.alloc w (.cells #[.int .i64 3, .int .i64 t, .int .i64 x] 32) []
  have hs : (w.alloc (.cells #[.int .i64 3, .int .i64 t, .int .i64 x] 32)).heap.size = w.heap.size + 1 := by simp
  obtain ⟨W0, hW0⟩ : ∃ W0, w.alloc (.cells #[.int .i64 3, .int .i64 t, .int .i64 x] 32) = W0 := ⟨_, rfl⟩
  rw [hW0] at HB ka hs
  have H := hid (P.still h ka)
  have H' := hid (h'.same ka)
  have HK := hid ka
  have c1 := rin_any W0 rb G t H'.out
  have c2 := P.waits W0 gb G t x H.out
  obtain ⟨q0, q1, q2⟩ := box3_cells HB.out
  obtain ⟨a, ha⟩ : ∃ a, w.heap.size = a := ⟨_, rfl⟩
  rw [ha] at q0 q1 q2 HB
  have HA := hid ha
  have hq : mayT G t ∧ mayO G x := hq
  obtain ⟨u, rfl⟩ : ∃ u : Nat, t = u := ⟨t.toNat, by have := hq.1.1; omega⟩
  have e1 : waE G u x = 0 := by unfold waE; rw [if_pos hq]
  have HNG := hid (show waG G u x = { G with w := upd G.w u x } by unfold waG; rw [if_pos hq, Int.toNat_natCast])
  have e2 : decide (mayT G (u : Int)) = true := by simp [hq.1]
  rw [e1] at c2
  rw [e2] at c1
  have x0 : -1 ≤ x := hq.2.1
  have x1 : x < G.n := hq.2.2
  have hu : u < G.n := by have := hq.1.2; omega
  have cn := H'.out.n
  have C2 := hid (show ∀ nq, Calls Try.prog 17 #[.pointer (some ⟨gb, 0, none⟩), .int .i64 u, .int .i64 x] (W0.drewN nq) fun e w' => e = .returned (.int .i64 0) ∧ Gr w' gb (waG G u x) ∧ Kp (W0.drewN nq) w' [gb] from fun nq => by
    have := P.waits (W0.drewN nq) gb G u x (P.still H.out (Kp.drewN _ _ _))
    rw [e1] at this
    exact this)
  clear e1 e2 hq c2
  clear h h' ka
  go_enter Try.func11, Try.ntmps11
  go_wp2_with fail
  refine c1.mono ?_
  rintro e W1 ⟨rfl, hE⟩
  subst hE
  go_wp2_with fail
  go_quiet (fail)
  go_wp2_with fail
  refine (C2.out nq).mono ?_
  rintro e W2 ⟨rfl, hG2, hK2⟩
  have B2 := HB.out
  have hr2 := (H'.out.same (Kp.drewN _ nq _)).keep hK2 (by simp; omega)
  have b2 := (hK2.block a (lt_of_block HB.out) (by simp; have := HA.out; omega)).trans HB.out
  obtain ⟨p0, p1, p2⟩ := box3_cells b2
  have G2 := hid hG2
  have R2 := hid hr2
  have K2 := hid hK2
  clear C2 hG2 hK2 b2 q0 q1 q2 B2
  have cb := R2.out.wt (t := u) (by omega)
  have fb := R2.out.free (33 + u)
  go_wp2_with fail
  go_region
  go_wp2_with fail
  go_ret
  refine ⟨rfl, P.keep G2.out ((Kp.drew _ []).nil.trans (Kp.setCell W2.drew ⟨rb, 33 + u, none⟩ (.int .i64 x))) (by simp; omega), ?_, ?_⟩
  · have := (R2.out.same (Kp.drew _ _)).setW (t := u) (by omega) x
    rw [HNG.out]
    exact this
  · refine (HK.out.nil.trans (((Kp.drewN _ nq []).nil.trans K2.out).mono (by simp))).trans (((Kp.drew _ []).nil.trans (Kp.setCell W2.drew ⟨rb, 33 + u, none⟩ (.int .i64 x))).mono (by simp))
set_option maxRecDepth 100000 in
set_option maxHeartbeats 2000000 in
theorem does3_no1 (P : Prg Gr) (w : World) (gb rb : Nat) (G : Gs) (t x : Int) (h : Gr w gb G) (h' : Rr w rb G) (hw : ¬ mayT G t) (hq : ¬ (mayT G t ∧ mayO G x)) : Calls Try.prog 11 #[.pointer (some ⟨gb, 0, none⟩), .pointer (some ⟨rb, 0, none⟩), .agg #[.int .i64 3, .int .i64 t, .int .i64 x]] w fun e w' => e = .returned (.bool true) ∧ Did Gr w w' gb rb (waG G t x) := by
  have hne := P.ne h h'
  have h2 := (P.ok h).n2
  have hgl := P.lt h
  have hrl := h'.lt
  have HB := hid (box3 w 3 t x)
  have ka := Kp.alloc w (.cells #[.int .i64 3, .int .i64 t, .int .i64 x] 32) []
  have hs : (w.alloc (.cells #[.int .i64 3, .int .i64 t, .int .i64 x] 32)).heap.size = w.heap.size + 1 := by simp
  obtain ⟨W0, hW0⟩ : ∃ W0, w.alloc (.cells #[.int .i64 3, .int .i64 t, .int .i64 x] 32) = W0 := ⟨_, rfl⟩
  rw [hW0] at HB ka hs
  have H := hid (P.still h ka)
  have H' := hid (h'.same ka)
  have HK := hid ka
  have c1 := rin_any W0 rb G t H'.out
  have c2 := P.waits W0 gb G t x H.out
  obtain ⟨q0, q1, q2⟩ := box3_cells HB.out
  obtain ⟨a, ha⟩ : ∃ a, w.heap.size = a := ⟨_, rfl⟩
  rw [ha] at q0 q1 q2 HB
  have HA := hid ha
  have e1 : waE G t x = 2 := by unfold waE; rw [if_neg hq]
  have HNG := hid (show waG G t x = G by unfold waG; rw [if_neg hq])
  rw [e1] at c2
  have e2 : decide (mayT G t) = false := by simp [hw]
  rw [e2] at c1
  clear e2
  have cn := H'.out.n
  have C2 := hid (show ∀ nq, Calls Try.prog 17 #[.pointer (some ⟨gb, 0, none⟩), .int .i64 t, .int .i64 x] (W0.drewN nq) fun e w' => e = .returned (.int .i64 2) ∧ Gr w' gb (waG G t x) ∧ Kp (W0.drewN nq) w' [gb] from fun nq => by
    have := P.waits (W0.drewN nq) gb G t x (P.still H.out (Kp.drewN _ _ _))
    rw [e1] at this
    exact this)
  clear e1 c2
  clear h h' ka
  go_enter Try.func11, Try.ntmps11
  go_wp2_with fail
  refine c1.mono ?_
  rintro e W1 ⟨rfl, hE⟩
  subst hE
  go_wp2_with fail
  go_quiet (fail)
  go_wp2_with fail
  refine (C2.out nq).mono ?_
  rintro e W2 ⟨rfl, hG2, hK2⟩
  have B2 := HB.out
  have hr2 := (H'.out.same (Kp.drewN _ nq _)).keep hK2 (by simp; omega)
  have b2 := (hK2.block a (lt_of_block HB.out) (by simp; have := HA.out; omega)).trans HB.out
  obtain ⟨p0, p1, p2⟩ := box3_cells b2
  have G2 := hid hG2
  have R2 := hid hr2
  have K2 := hid hK2
  clear C2 hG2 hK2 b2 q0 q1 q2 B2
  go_wp2_with fail
  go_ret
  exact ⟨rfl, G2.out, by rw [HNG.out]; exact R2.out, (HK.out.nil.trans (((Kp.drewN _ nq []).nil.trans K2.out).mono (by simp)))⟩
set_option maxRecDepth 100000 in
set_option maxHeartbeats 2000000 in
theorem does3_no2 (P : Prg Gr) (w : World) (gb rb : Nat) (G : Gs) (t x : Int) (h : Gr w gb G) (h' : Rr w rb G) (hw : mayT G t) (hx : x < -1) (hq : ¬ (mayT G t ∧ mayO G x)) : Calls Try.prog 11 #[.pointer (some ⟨gb, 0, none⟩), .pointer (some ⟨rb, 0, none⟩), .agg #[.int .i64 3, .int .i64 t, .int .i64 x]] w fun e w' => e = .returned (.bool true) ∧ Did Gr w w' gb rb (waG G t x) := by
  have hne := P.ne h h'
  have h2 := (P.ok h).n2
  have hgl := P.lt h
  have hrl := h'.lt
  have HB := hid (box3 w 3 t x)
  have ka := Kp.alloc w (.cells #[.int .i64 3, .int .i64 t, .int .i64 x] 32) []
  have hs : (w.alloc (.cells #[.int .i64 3, .int .i64 t, .int .i64 x] 32)).heap.size = w.heap.size + 1 := by simp
  obtain ⟨W0, hW0⟩ : ∃ W0, w.alloc (.cells #[.int .i64 3, .int .i64 t, .int .i64 x] 32) = W0 := ⟨_, rfl⟩
  rw [hW0] at HB ka hs
  have H := hid (P.still h ka)
  have H' := hid (h'.same ka)
  have HK := hid ka
  have c1 := rin_any W0 rb G t H'.out
  have c2 := P.waits W0 gb G t x H.out
  obtain ⟨q0, q1, q2⟩ := box3_cells HB.out
  obtain ⟨a, ha⟩ : ∃ a, w.heap.size = a := ⟨_, rfl⟩
  rw [ha] at q0 q1 q2 HB
  have HA := hid ha
  have e1 : waE G t x = 2 := by unfold waE; rw [if_neg hq]
  have HNG := hid (show waG G t x = G by unfold waG; rw [if_neg hq])
  rw [e1] at c2
  have e2 : decide (mayT G t) = true := by simp [hw]
  rw [e2] at c1
  clear e2
  have hx1 : ¬ -1 ≤ x := by omega
  have cn := H'.out.n
  have hd1 : decide (-1 ≤ x) = false := by simp; omega
  have C2 := hid (show ∀ nq, Calls Try.prog 17 #[.pointer (some ⟨gb, 0, none⟩), .int .i64 t, .int .i64 x] (W0.drewN nq) fun e w' => e = .returned (.int .i64 2) ∧ Gr w' gb (waG G t x) ∧ Kp (W0.drewN nq) w' [gb] from fun nq => by
    have := P.waits (W0.drewN nq) gb G t x (P.still H.out (Kp.drewN _ _ _))
    rw [e1] at this
    exact this)
  clear e1 c2
  clear h h' ka
  go_enter Try.func11, Try.ntmps11
  go_wp2_with fail
  refine c1.mono ?_
  rintro e W1 ⟨rfl, hE⟩
  subst hE
  go_wp2_with fail
  go_quiet (fail)
  go_wp2_with fail
  refine (C2.out nq).mono ?_
  rintro e W2 ⟨rfl, hG2, hK2⟩
  have B2 := HB.out
  have hr2 := (H'.out.same (Kp.drewN _ nq _)).keep hK2 (by simp; omega)
  have b2 := (hK2.block a (lt_of_block HB.out) (by simp; have := HA.out; omega)).trans HB.out
  obtain ⟨p0, p1, p2⟩ := box3_cells b2
  have G2 := hid hG2
  have R2 := hid hr2
  have K2 := hid hK2
  clear C2 hG2 hK2 b2 q0 q1 q2 B2
  go_wp2_with fail
  go_ret
  exact ⟨rfl, G2.out, by rw [HNG.out]; exact R2.out, (HK.out.nil.trans (((Kp.drewN _ nq []).nil.trans K2.out).mono (by simp)))⟩
set_option maxRecDepth 100000 in
set_option maxHeartbeats 2000000 in
theorem does3_no3 (P : Prg Gr) (w : World) (gb rb : Nat) (G : Gs) (t x : Int) (h : Gr w gb G) (h' : Rr w rb G) (hw : mayT G t) (hx : -1 ≤ x) (hy : G.n ≤ x) (hq : ¬ (mayT G t ∧ mayO G x)) : Calls Try.prog 11 #[.pointer (some ⟨gb, 0, none⟩), .pointer (some ⟨rb, 0, none⟩), .agg #[.int .i64 3, .int .i64 t, .int .i64 x]] w fun e w' => e = .returned (.bool true) ∧ Did Gr w w' gb rb (waG G t x) := by
  have hne := P.ne h h'
  have h2 := (P.ok h).n2
  have hgl := P.lt h
  have hrl := h'.lt
  have HB := hid (box3 w 3 t x)
  have ka := Kp.alloc w (.cells #[.int .i64 3, .int .i64 t, .int .i64 x] 32) []
  have hs : (w.alloc (.cells #[.int .i64 3, .int .i64 t, .int .i64 x] 32)).heap.size = w.heap.size + 1 := by simp
  obtain ⟨W0, hW0⟩ : ∃ W0, w.alloc (.cells #[.int .i64 3, .int .i64 t, .int .i64 x] 32) = W0 := ⟨_, rfl⟩
  rw [hW0] at HB ka hs
  have H := hid (P.still h ka)
  have H' := hid (h'.same ka)
  have HK := hid ka
  have c1 := rin_any W0 rb G t H'.out
  have c2 := P.waits W0 gb G t x H.out
  obtain ⟨q0, q1, q2⟩ := box3_cells HB.out
  obtain ⟨a, ha⟩ : ∃ a, w.heap.size = a := ⟨_, rfl⟩
  rw [ha] at q0 q1 q2 HB
  have HA := hid ha
  have e1 : waE G t x = 2 := by unfold waE; rw [if_neg hq]
  have HNG := hid (show waG G t x = G by unfold waG; rw [if_neg hq])
  rw [e1] at c2
  have e2 : decide (mayT G t) = true := by simp [hw]
  rw [e2] at c1
  clear e2
  have cn := H'.out.n
  have hd1 : decide (-1 ≤ x) = true := by simp; omega
  have hd2 : decide (x < (G.n : Int)) = false := by simp; omega
  have C2 := hid (show ∀ nq, Calls Try.prog 17 #[.pointer (some ⟨gb, 0, none⟩), .int .i64 t, .int .i64 x] (W0.drewN nq) fun e w' => e = .returned (.int .i64 2) ∧ Gr w' gb (waG G t x) ∧ Kp (W0.drewN nq) w' [gb] from fun nq => by
    have := P.waits (W0.drewN nq) gb G t x (P.still H.out (Kp.drewN _ _ _))
    rw [e1] at this
    exact this)
  clear e1 c2
  clear h h' ka
  go_enter Try.func11, Try.ntmps11
  go_wp2_with fail
  refine c1.mono ?_
  rintro e W1 ⟨rfl, hE⟩
  subst hE
  go_wp2_with fail
  go_quiet (fail)
  go_wp2_with fail
  refine (C2.out nq).mono ?_
  rintro e W2 ⟨rfl, hG2, hK2⟩
  have B2 := HB.out
  have hr2 := (H'.out.same (Kp.drewN _ nq _)).keep hK2 (by simp; omega)
  have b2 := (hK2.block a (lt_of_block HB.out) (by simp; have := HA.out; omega)).trans HB.out
  obtain ⟨p0, p1, p2⟩ := box3_cells b2
  have G2 := hid hG2
  have R2 := hid hr2
  have K2 := hid hK2
  clear C2 hG2 hK2 b2 q0 q1 q2 B2
  go_wp2_with fail
  go_ret
  exact ⟨rfl, G2.out, by rw [HNG.out]; exact R2.out, (HK.out.nil.trans (((Kp.drewN _ nq []).nil.trans K2.out).mono (by simp)))⟩
set_option maxRecDepth 100000 in
set_option maxHeartbeats 2000000 in
theorem does_else (P : Prg Gr) (w : World) (gb rb : Nat) (G : Gs) (k t x : Int) (h : Gr w gb G) (h' : Rr w rb G) (k1 : k ≠ 1) (k2 : k ≠ 2) (k3 : k ≠ 3) : Calls Try.prog 11 #[.pointer (some ⟨gb, 0, none⟩), .pointer (some ⟨rb, 0, none⟩), .agg #[.int .i64 k, .int .i64 t, .int .i64 x]] w fun e w' => e = .returned (.bool true) ∧ Did Gr w w' gb rb G := by
  have HB := hid (box3 w k t x)
  have ka := Kp.alloc w (.cells #[.int .i64 k, .int .i64 t, .int .i64 x] 32) []
  obtain ⟨W0, hW0⟩ : ∃ W0, w.alloc (.cells #[.int .i64 k, .int .i64 t, .int .i64 x] 32) = W0 := ⟨_, rfl⟩
  rw [hW0] at HB ka
  have H := hid (P.still h ka)
  have H' := hid (h'.same ka)
  have HK := hid ka
  have c1 := rin_any W0 rb G t H'.out
  obtain ⟨q0, q1, q2⟩ := box3_cells HB.out
  obtain ⟨a, ha⟩ : ∃ a, w.heap.size = a := ⟨_, rfl⟩
  obtain ⟨B, hB⟩ : ∃ B, decide (mayT G t) = B := ⟨_, rfl⟩
  rw [hB] at c1
  rw [ha] at q0 q1 q2
  have d1 : (k == 1) = false := by simp [k1]
  have d2 : (k == 2) = false := by simp [k2]
  have d3 : (k == 3) = false := by simp [k3]
  clear h h' ka k1 k2 k3 hB
  go_enter Try.func11, Try.ntmps11
  go_wp2_with fail
  refine c1.mono ?_
  rintro e W1 ⟨rfl, hE⟩
  subst hE
  go_wp2_with fail
  go_ret
  exact ⟨rfl, H.out, H'.out, HK.out.nil⟩
theorem does_any (P : Prg Gr) (w : World) (gb rb : Nat) (G : Gs) (k t x : Int) (h : Gr w gb G) (h' : Rr w rb G) : Calls Try.prog 11 #[.pointer (some ⟨gb, 0, none⟩), .pointer (some ⟨rb, 0, none⟩), .agg #[.int .i64 k, .int .i64 t, .int .i64 x]] w fun e w' => e = .returned (.bool true) ∧ Did Gr w w' gb rb (stepG G k t x) := by
  by_cases k1 : k = 1
  · subst k1
    rw [show stepG G 1 t x = baG G t x from rfl]
    by_cases hq : mayT G t ∧ mayP x
    · exact does1_ok P w gb rb G t x h h' hq
    · by_cases hw : mayT G t
      · by_cases hx : x < 0
        · exact does1_no2 P w gb rb G t x h h' hw hx hq
        · exact does1_no3 P w gb rb G t x h h' hw (by omega) (by have : ¬ mayP x := fun e => hq ⟨hw, e⟩; unfold mayP at this; omega) hq
      · exact does1_no1 P w gb rb G t x h h' hw hq
  by_cases k2 : k = 2
  · subst k2
    rw [show stepG G 2 t x = ceG G t x from rfl]
    by_cases hq : mayT G t ∧ mayP x
    · exact does2_ok P w gb rb G t x h h' hq
    · by_cases hw : mayT G t
      · by_cases hx : x < 0
        · exact does2_no2 P w gb rb G t x h h' hw hx hq
        · exact does2_no3 P w gb rb G t x h h' hw (by omega) (by have : ¬ mayP x := fun e => hq ⟨hw, e⟩; unfold mayP at this; omega) hq
      · exact does2_no1 P w gb rb G t x h h' hw hq
  by_cases k3 : k = 3
  · subst k3
    rw [show stepG G 3 t x = waG G t x from rfl]
    by_cases hq : mayT G t ∧ mayO G x
    · exact does3_ok P w gb rb G t x h h' hq
    · by_cases hw : mayT G t
      · by_cases hx : x < -1
        · exact does3_no2 P w gb rb G t x h h' hw hx hq
        · exact does3_no3 P w gb rb G t x h h' hw (by omega) (by have : ¬ mayO G x := fun e => hq ⟨hw, e⟩; unfold mayO at this; omega) hq
      · exact does3_no1 P w gb rb G t x h h' hw hq
  have e : stepG G k t x = G := by unfold stepG; rw [if_neg k1, if_neg k2, if_neg k3]
  rw [e]
  exact does_else P w gb rb G k t x h h' k1 k2 k3
end
end Go.Proofs.Ytomdnppnabncaaa
