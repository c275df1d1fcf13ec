/- The law's do: one kind of step. -/
import Derived.Test.YtgefmnnkpffpcaaGreatDoorSfreshJ
namespace Go.Proofs.YtgefmnnkpffpcaaGreatDoor
open Go.RowKit Go.Maps

section
variable {w0 w w1 w2 : World} {qb hb rb mb pb xb eb n : Nat} {g g' : Mem} {c c' k : Int} {L L' : List Bl} {F F' : Nat → List Int} {V : Value} {G : Nat → Value} {f f' : Nat → Nat} {lv : Value} {ls : List Int} {X X' : Nat → Prop} {P' : Pcs}
set_option maxRecDepth 100000 in
set_option maxHeartbeats 8000000 in
theorem do1 (B : Bo w0 w qb hb rb mb pb xb eb n g c L F V G f lv ls (fun _ => False)) (sk sn sm sa : Int) (so : Bool) (sw : Int) (hfit : St.fit ⟨sk, sn, sm, sa, so, sw⟩) (hk : sk = 1) (hl : ls.length ≤ 500) (hc : c ≤ 10000000000000) :
    Calls Tryz.prog 10 #[.pointer (some ⟨qb, 0, none⟩), .agg #[.int .i64 sk, .int .i64 sn, .int .i64 sm, .int .i64 sa, .bool so, .int .u32 sw]] w fun e w' => e = .returned (.bool true) ∧ Dn w0 w' qb n c ls := by
  have K0 := Kp.alloc w (.cells #[.int .i64 sk, .int .i64 sn, .int .i64 sm, .int .i64 sa, .bool so, .int .u32 sw] 35) []
  have B0 := hid (B.same K0)
  have S0 := hid (heap_alloc_new w (.cells #[.int .i64 sk, .int .i64 sn, .int .i64 sm, .int .i64 sa, .bool so, .int .u32 sw] 35))
  obtain ⟨W0, hW0⟩ : ∃ W0, w.alloc (.cells #[.int .i64 sk, .int .i64 sn, .int .i64 sm, .int .i64 sa, .bool so, .int .u32 sw] 35) = W0 := ⟨_, rfl⟩
  obtain ⟨y0, y1, y2, y3, y4, y5⟩ := cell6 (w := w) (a := .int .i64 sk) (b := .int .i64 sn) (c := .int .i64 sm) (d := .int .i64 sa) (e := .bool so) (f := .int .u32 sw)
  obtain ⟨sb, hsb⟩ : ∃ sb, w.heap.size = sb := ⟨_, rfl⟩
  rw [hW0, hsb] at y0 y1 y2 y3 y4 y5 S0
  rw [hW0] at B0
  have CH := hid (fun (w' : World) (h1 : w'.heap[qb]? = some (.cells #[.pointer (some ⟨hb, 0, none⟩), .pointer (some ⟨xb, 0, none⟩), lv] 31 (0, 0))) (h2 : w'.heap[sb]? = some (.cells #[.int .i64 sk, .int .i64 sn, .int .i64 sm, .int .i64 sa, .bool so, .int .u32 sw] 35 (0, 0))) =>
    (show (w'.cell? ⟨qb, 0, none⟩ = some (.pointer (some ⟨hb, 0, none⟩)) ∧ w'.cell? ⟨qb, 1, none⟩ = some (.pointer (some ⟨xb, 0, none⟩))) ∧ w'.cell? ⟨sb, 0, none⟩ = some (.int .i64 sk) ∧ w'.cell? ⟨sb, 1, none⟩ = some (.int .i64 sn) ∧ w'.cell? ⟨sb, 2, none⟩ = some (.int .i64 sm) ∧ w'.cell? ⟨sb, 3, none⟩ = some (.int .i64 sa) ∧ w'.cell? ⟨sb, 4, none⟩ = some (.bool so) ∧ w'.cell? ⟨sb, 5, none⟩ = some (.int .u32 sw) from
      ⟨⟨(cell_tri h1).1, (cell_tri h1).2.1⟩, by rw [cell_of_row _ _ _ _ _ _ h2]; rfl, by rw [cell_of_row _ _ _ _ _ _ h2]; rfl, by rw [cell_of_row _ _ _ _ _ _ h2]; rfl, by rw [cell_of_row _ _ _ _ _ _ h2]; rfl, by rw [cell_of_row _ _ _ _ _ _ h2]; rfl, by rw [cell_of_row _ _ _ _ _ _ h2]; rfl⟩))
  have HFIT := hid hfit
  have kt : (sk == 1) = true := by simp [hk]
  clear B K0 hfit hk
  go_enter Tryz.func10, Tryz.ntmps10
  go_wp2_with fail
  clear hW0 hsb
  refine (off_any B0.out.bh ⟨sk, sn, sm, sa, so, sw⟩ (by omega)).mono ?_
  rintro e w1 ⟨rfl, hK1⟩
  have B1 := hid (B0.out.same hK1)
  have S1 := hid (Sty.nil hK1 _ _ S0.out)
  obtain ⟨A, hA⟩ : ∃ A, offP ⟨sk, sn, sm, sa, so, sw⟩ ls = A := ⟨_, rfl⟩
  rw [hA]
  have HA := hid hA
  clear hK1 y0 y1 y2 y3 y4 y5 B0 S0 hA
  obtain ⟨⟨q0, q1⟩, y0, y1, y2, y3, y4, y5⟩ := CH.out _ B1.out.bh.pr S1.out
  obtain ⟨a, er, g2, L2, F2, f2, hs2, a0, a1, e0, e1, hcase, hp, hr⟩ := tw_alloc B1.out.hs B1.out.ag sn
  obtain ⟨X2, hX2, hag⟩ : ∃ X2 : Nat → Prop, ((er = 0 ∧ ∃ z, (a - 8, z, false) ∈ L2 ∧ X2 = fun o : Nat => a + 0 ≤ (o : Int) ∧ (o : Int) < a - 8 + z) ∨ (er ≠ 0 ∧ X2 = fun _ => False)) ∧ Ag f2 g2 (piecesOf L2) X2 := by
    rcases hcase with ⟨h1, z, h2, h3⟩ | ⟨h1, h2⟩
    · exact ⟨_, .inl ⟨h1, z, h2, rfl⟩, h3⟩
    · exact ⟨_, .inr ⟨h1, rfl⟩, h2⟩
  have PC := hid (fun (w' : World) (b : Bo w0 w' qb hb rb mb pb xb eb n g c L F V G f lv ls (fun _ => False)) => (hp w' hb rb mb pb c b.hp (by omega)).mono (fun e w2 q => And.intro q.1 (b.mid q.2)))
  have RC := hid (fun (w' : World) (c' : Int) (m : Md w0 w' qb hb rb mb pb xb eb n g2 c' L F V G f lv ls L2) => (hr w' xb eb V G m.bh.rh m.bh.mb).mono (fun e w2 q => And.intro q.1 (m.ref q.2 hs2 hag)))
  have HX := hid hX2
  clear hcase hp hr hs2 hag hX2
  go_wp2_with fail
  go_region_held_law (fun w' : World => (w'.cell? ⟨qb, 0, none⟩ = some (.pointer (some ⟨hb, 0, none⟩)) ∧ w'.cell? ⟨qb, 1, none⟩ = some (.pointer (some ⟨xb, 0, none⟩))) ∧ w'.cell? ⟨sb, 0, none⟩ = some (.int .i64 sk) ∧ w'.cell? ⟨sb, 1, none⟩ = some (.int .i64 sn) ∧ w'.cell? ⟨sb, 2, none⟩ = some (.int .i64 sm) ∧ w'.cell? ⟨sb, 3, none⟩ = some (.int .i64 sa) ∧ w'.cell? ⟨sb, 4, none⟩ = some (.bool so) ∧ w'.cell? ⟨sb, 5, none⟩ = some (.int .u32 sw))
    (first
      | exact CH.out _ (B1.out.same (Kp.drew _ [])).bh.pr (Sty.nil (Kp.drew _ []) _ _ S1.out)
      | exact CH.out _ hM2.bh.pr (hY2 _ _ (Sty.nil (Kp.drew _ []) _ _ S1.out)))
    ((go_at_call 18; refine (PC.out _ (B1.out.same (Kp.drew _ []))).mono ?_; rintro e w2 ⟨rfl, c2, l2, u2, hM2, hY2⟩))
  have M2 := hid hM2
  have S2 := hid (hY2 _ _ (Sty.nil (Kp.drew _ []) _ _ S1.out))
  clear hM2 hY2 y0 y1 y2 y3 y4 y5 q0 q1 B1 S1
  obtain ⟨⟨q0, q1⟩, y0, y1, y2, y3, y4, y5⟩ := CH.out _ M2.out.bh.pr S2.out
  go_wp2_with fail
  go_region_held_law (fun w' : World => (w'.cell? ⟨qb, 0, none⟩ = some (.pointer (some ⟨hb, 0, none⟩)) ∧ w'.cell? ⟨qb, 1, none⟩ = some (.pointer (some ⟨xb, 0, none⟩))) ∧ w'.cell? ⟨sb, 0, none⟩ = some (.int .i64 sk) ∧ w'.cell? ⟨sb, 1, none⟩ = some (.int .i64 sn) ∧ w'.cell? ⟨sb, 2, none⟩ = some (.int .i64 sm) ∧ w'.cell? ⟨sb, 3, none⟩ = some (.int .i64 sa) ∧ w'.cell? ⟨sb, 4, none⟩ = some (.bool so) ∧ w'.cell? ⟨sb, 5, none⟩ = some (.int .u32 sw))
    (first
      | exact CH.out _ (M2.out.same (Kp.drew _ [])).bh.pr (Sty.nil (Kp.drew _ []) _ _ S2.out)
      | exact CH.out _ hB3.bh.pr (hY3 _ _ (Sty.nil (Kp.drew _ []) _ _ S2.out)))
    ((go_at_call 34; refine (RC.out _ c2 (M2.out.same (Kp.drew _ []))).mono ?_; rintro e w3 ⟨rfl, V3, G3, hB3, hY3⟩))
  have B3 := hid hB3
  clear hB3 hY3 y0 y1 y2 y3 y4 y5 q0 q1 M2 S2 PC RC CH
  by_cases her : er = 0
  · subst her
    obtain ⟨z, hz, hX⟩ : ∃ z, (a - 8, z, false) ∈ L2 ∧ X2 = fun o : Nat => a + 0 ≤ (o : Int) ∧ (o : Int) < a - 8 + z := by
      rcases HX.out with ⟨-, h⟩ | ⟨h, -⟩
      · exact h
      · exact absurd rfl h
    subst hX
    have HZ := hid hz
    clear hz HX
    go_wp2_with fail
    refine (got_yes B3.out a ⟨a0, a1⟩ (by omega)).mono ?_
    rintro e w4 ⟨rfl, lv4, hB4⟩
    have B4 := hid hB4
    clear hB4 B3
    go_wp2_with fail
    refine (fresh_any a z 0 B4.out HZ.out (by omega) (by omega) (by simp; omega) (by omega)).mono ?_
    rintro e w5 ⟨rfl, g5, c5, V5, G5, f5, l5, u5, hB5⟩
    have PR := hid (show Dn w0 w5 qb n c ls from ⟨c5, ls ++ [a], by omega, by simp, _, _, _, _, _, _, _, _, _, _, _, _, _, hB5⟩)
    clear hB5 B4 HZ
    go_wp2
    go_ret
    exact ⟨rfl, PR.out⟩
  · have hX : X2 = fun _ => False := by
      rcases HX.out with ⟨h, -⟩ | ⟨-, h⟩
      · exact absurd h her
      · exact h
    subst hX
    have heb : (er != 0) = true := by simp [her]
    have PR := hid (show Dn w0 w3 qb n c ls from ⟨c2, ls, by omega, by omega, _, _, _, _, _, _, _, _, _, _, _, _, _, B3.out⟩)
    clear HX B3
    go_wp2_with fail
    refine (got_no w3 qb a er her).mono ?_
    rintro e w4 ⟨rfl, hE⟩
    rw [hE]
    clear hE
    go_wp2
    go_ret
    exact ⟨rfl, PR.out⟩
end
end Go.Proofs.YtgefmnnkpffpcaaGreatDoor

/- The law's do: one kind of step. -/
namespace Go.Proofs.YtgefmnnkpffpcaaGreatDoor
open Go.RowKit Go.Maps

section
variable {w0 w w1 w2 : World} {qb hb rb mb pb xb eb n : Nat} {g g' : Mem} {c c' k : Int} {L L' : List Bl} {F F' : Nat → List Int} {V : Value} {G : Nat → Value} {f f' : Nat → Nat} {lv : Value} {ls : List Int} {X X' : Nat → Prop} {P' : Pcs}
set_option maxRecDepth 100000 in
set_option maxHeartbeats 8000000 in
theorem do2 (B : Bo w0 w qb hb rb mb pb xb eb n g c L F V G f lv ls (fun _ => False)) (sk sn sm sa : Int) (so : Bool) (sw : Int) (hfit : St.fit ⟨sk, sn, sm, sa, so, sw⟩) (hk : sk = 2) (hl : ls.length ≤ 500) (hc : c ≤ 10000000000000) :
    Calls Tryz.prog 10 #[.pointer (some ⟨qb, 0, none⟩), .agg #[.int .i64 sk, .int .i64 sn, .int .i64 sm, .int .i64 sa, .bool so, .int .u32 sw]] w fun e w' => e = .returned (.bool true) ∧ Dn w0 w' qb n c ls := by
  have K0 := Kp.alloc w (.cells #[.int .i64 sk, .int .i64 sn, .int .i64 sm, .int .i64 sa, .bool so, .int .u32 sw] 35) []
  have B0 := hid (B.same K0)
  have S0 := hid (heap_alloc_new w (.cells #[.int .i64 sk, .int .i64 sn, .int .i64 sm, .int .i64 sa, .bool so, .int .u32 sw] 35))
  obtain ⟨W0, hW0⟩ : ∃ W0, w.alloc (.cells #[.int .i64 sk, .int .i64 sn, .int .i64 sm, .int .i64 sa, .bool so, .int .u32 sw] 35) = W0 := ⟨_, rfl⟩
  obtain ⟨y0, y1, y2, y3, y4, y5⟩ := cell6 (w := w) (a := .int .i64 sk) (b := .int .i64 sn) (c := .int .i64 sm) (d := .int .i64 sa) (e := .bool so) (f := .int .u32 sw)
  obtain ⟨sb, hsb⟩ : ∃ sb, w.heap.size = sb := ⟨_, rfl⟩
  rw [hW0, hsb] at y0 y1 y2 y3 y4 y5 S0
  rw [hW0] at B0
  have CH := hid (fun (w' : World) (h1 : w'.heap[qb]? = some (.cells #[.pointer (some ⟨hb, 0, none⟩), .pointer (some ⟨xb, 0, none⟩), lv] 31 (0, 0))) (h2 : w'.heap[sb]? = some (.cells #[.int .i64 sk, .int .i64 sn, .int .i64 sm, .int .i64 sa, .bool so, .int .u32 sw] 35 (0, 0))) =>
    (show (w'.cell? ⟨qb, 0, none⟩ = some (.pointer (some ⟨hb, 0, none⟩)) ∧ w'.cell? ⟨qb, 1, none⟩ = some (.pointer (some ⟨xb, 0, none⟩))) ∧ w'.cell? ⟨sb, 0, none⟩ = some (.int .i64 sk) ∧ w'.cell? ⟨sb, 1, none⟩ = some (.int .i64 sn) ∧ w'.cell? ⟨sb, 2, none⟩ = some (.int .i64 sm) ∧ w'.cell? ⟨sb, 3, none⟩ = some (.int .i64 sa) ∧ w'.cell? ⟨sb, 4, none⟩ = some (.bool so) ∧ w'.cell? ⟨sb, 5, none⟩ = some (.int .u32 sw) from
      ⟨⟨(cell_tri h1).1, (cell_tri h1).2.1⟩, by rw [cell_of_row _ _ _ _ _ _ h2]; rfl, by rw [cell_of_row _ _ _ _ _ _ h2]; rfl, by rw [cell_of_row _ _ _ _ _ _ h2]; rfl, by rw [cell_of_row _ _ _ _ _ _ h2]; rfl, by rw [cell_of_row _ _ _ _ _ _ h2]; rfl, by rw [cell_of_row _ _ _ _ _ _ h2]; rfl⟩))
  have HFIT := hid hfit
  have kt : (sk == 2) = true := by simp [hk]
  have kf1 : (sk == 1) = false := by simp [hk]
  clear B K0 hfit hk
  go_enter Tryz.func10, Tryz.ntmps10
  go_wp2_with fail
  clear hW0 hsb
  refine (off_any B0.out.bh ⟨sk, sn, sm, sa, so, sw⟩ (by omega)).mono ?_
  rintro e w1 ⟨rfl, hK1⟩
  have B1 := hid (B0.out.same hK1)
  have S1 := hid (Sty.nil hK1 _ _ S0.out)
  obtain ⟨A, hA⟩ : ∃ A, offP ⟨sk, sn, sm, sa, so, sw⟩ ls = A := ⟨_, rfl⟩
  rw [hA]
  have HA := hid hA
  clear hK1 y0 y1 y2 y3 y4 y5 B0 S0 hA
  obtain ⟨⟨q0, q1⟩, y0, y1, y2, y3, y4, y5⟩ := CH.out _ B1.out.bh.pr S1.out
  obtain ⟨a, er, g2, L2, F2, f2, hs2, a0, a1, e0, e1, hcase, hp, hr⟩ := tw_aligned B1.out.hs B1.out.ag sm sn HFIT.out.2.2.1.1
  obtain ⟨X2, hX2, hag⟩ : ∃ X2 : Nat → Prop, ((er = 0 ∧ ∃ z, (a - 8, z, false) ∈ L2 ∧ X2 = fun o : Nat => a + 0 ≤ (o : Int) ∧ (o : Int) < a - 8 + z) ∨ (er ≠ 0 ∧ X2 = fun _ => False)) ∧ Ag f2 g2 (piecesOf L2) X2 := by
    rcases hcase with ⟨h1, z, h2, h3⟩ | ⟨h1, h2⟩
    · exact ⟨_, .inl ⟨h1, z, h2, rfl⟩, h3⟩
    · exact ⟨_, .inr ⟨h1, rfl⟩, h2⟩
  have PC := hid (fun (w' : World) (b : Bo w0 w' qb hb rb mb pb xb eb n g c L F V G f lv ls (fun _ => False)) => (hp w' hb rb mb pb c b.hp (by omega)).mono (fun e w2 q => And.intro q.1 (b.mid q.2)))
  have RC := hid (fun (w' : World) (c' : Int) (m : Md w0 w' qb hb rb mb pb xb eb n g2 c' L F V G f lv ls L2) => (hr w' xb eb V G m.bh.rh m.bh.mb).mono (fun e w2 q => And.intro q.1 (m.ref q.2 hs2 hag)))
  have HX := hid hX2
  clear hcase hp hr hs2 hag hX2
  go_wp2_with fail
  go_region_held_law (fun w' : World => (w'.cell? ⟨qb, 0, none⟩ = some (.pointer (some ⟨hb, 0, none⟩)) ∧ w'.cell? ⟨qb, 1, none⟩ = some (.pointer (some ⟨xb, 0, none⟩))) ∧ w'.cell? ⟨sb, 0, none⟩ = some (.int .i64 sk) ∧ w'.cell? ⟨sb, 1, none⟩ = some (.int .i64 sn) ∧ w'.cell? ⟨sb, 2, none⟩ = some (.int .i64 sm) ∧ w'.cell? ⟨sb, 3, none⟩ = some (.int .i64 sa) ∧ w'.cell? ⟨sb, 4, none⟩ = some (.bool so) ∧ w'.cell? ⟨sb, 5, none⟩ = some (.int .u32 sw))
    (first
      | exact CH.out _ (B1.out.same (Kp.drew _ [])).bh.pr (Sty.nil (Kp.drew _ []) _ _ S1.out)
      | exact CH.out _ hM2.bh.pr (hY2 _ _ (Sty.nil (Kp.drew _ []) _ _ S1.out)))
    ((go_at_call 19; refine (PC.out _ (B1.out.same (Kp.drew _ []))).mono ?_; rintro e w2 ⟨rfl, c2, l2, u2, hM2, hY2⟩))
  have M2 := hid hM2
  have S2 := hid (hY2 _ _ (Sty.nil (Kp.drew _ []) _ _ S1.out))
  clear hM2 hY2 y0 y1 y2 y3 y4 y5 q0 q1 B1 S1
  obtain ⟨⟨q0, q1⟩, y0, y1, y2, y3, y4, y5⟩ := CH.out _ M2.out.bh.pr S2.out
  go_wp2_with fail
  go_region_held_law (fun w' : World => (w'.cell? ⟨qb, 0, none⟩ = some (.pointer (some ⟨hb, 0, none⟩)) ∧ w'.cell? ⟨qb, 1, none⟩ = some (.pointer (some ⟨xb, 0, none⟩))) ∧ w'.cell? ⟨sb, 0, none⟩ = some (.int .i64 sk) ∧ w'.cell? ⟨sb, 1, none⟩ = some (.int .i64 sn) ∧ w'.cell? ⟨sb, 2, none⟩ = some (.int .i64 sm) ∧ w'.cell? ⟨sb, 3, none⟩ = some (.int .i64 sa) ∧ w'.cell? ⟨sb, 4, none⟩ = some (.bool so) ∧ w'.cell? ⟨sb, 5, none⟩ = some (.int .u32 sw))
    (first
      | exact CH.out _ (M2.out.same (Kp.drew _ [])).bh.pr (Sty.nil (Kp.drew _ []) _ _ S2.out)
      | exact CH.out _ hB3.bh.pr (hY3 _ _ (Sty.nil (Kp.drew _ []) _ _ S2.out)))
    ((go_at_call 37; refine (RC.out _ c2 (M2.out.same (Kp.drew _ []))).mono ?_; rintro e w3 ⟨rfl, V3, G3, hB3, hY3⟩))
  have B3 := hid hB3
  clear hB3 hY3 y0 y1 y2 y3 y4 y5 q0 q1 M2 S2 PC RC CH
  by_cases her : er = 0
  · subst her
    obtain ⟨z, hz, hX⟩ : ∃ z, (a - 8, z, false) ∈ L2 ∧ X2 = fun o : Nat => a + 0 ≤ (o : Int) ∧ (o : Int) < a - 8 + z := by
      rcases HX.out with ⟨-, h⟩ | ⟨h, -⟩
      · exact h
      · exact absurd rfl h
    subst hX
    have HZ := hid hz
    clear hz HX
    go_wp2_with fail
    refine (got_yes B3.out a ⟨a0, a1⟩ (by omega)).mono ?_
    rintro e w4 ⟨rfl, lv4, hB4⟩
    have B4 := hid hB4
    clear hB4 B3
    go_wp2_with fail
    refine (fresh_any a z 0 B4.out HZ.out (by omega) (by omega) (by simp; omega) (by omega)).mono ?_
    rintro e w5 ⟨rfl, g5, c5, V5, G5, f5, l5, u5, hB5⟩
    have PR := hid (show Dn w0 w5 qb n c ls from ⟨c5, ls ++ [a], by omega, by simp, _, _, _, _, _, _, _, _, _, _, _, _, _, hB5⟩)
    clear hB5 B4 HZ
    go_wp2
    go_ret
    exact ⟨rfl, PR.out⟩
  · have hX : X2 = fun _ => False := by
      rcases HX.out with ⟨h, -⟩ | ⟨-, h⟩
      · exact absurd h her
      · exact h
    subst hX
    have heb : (er != 0) = true := by simp [her]
    have PR := hid (show Dn w0 w3 qb n c ls from ⟨c2, ls, by omega, by omega, _, _, _, _, _, _, _, _, _, _, _, _, _, B3.out⟩)
    clear HX B3
    go_wp2_with fail
    refine (got_no w3 qb a er her).mono ?_
    rintro e w4 ⟨rfl, hE⟩
    rw [hE]
    clear hE
    go_wp2
    go_ret
    exact ⟨rfl, PR.out⟩
end
end Go.Proofs.YtgefmnnkpffpcaaGreatDoor

/- The law's do: one kind of step. -/
namespace Go.Proofs.YtgefmnnkpffpcaaGreatDoor
open Go.RowKit Go.Maps

section
variable {w0 w w1 w2 : World} {qb hb rb mb pb xb eb n : Nat} {g g' : Mem} {c c' k : Int} {L L' : List Bl} {F F' : Nat → List Int} {V : Value} {G : Nat → Value} {f f' : Nat → Nat} {lv : Value} {ls : List Int} {X X' : Nat → Prop} {P' : Pcs}
set_option maxRecDepth 100000 in
set_option maxHeartbeats 8000000 in
theorem do3 (B : Bo w0 w qb hb rb mb pb xb eb n g c L F V G f lv ls (fun _ => False)) (sk sn sm sa : Int) (so : Bool) (sw : Int) (hfit : St.fit ⟨sk, sn, sm, sa, so, sw⟩) (hk : sk = 3) (hl : ls.length ≤ 500) (hc : c ≤ 10000000000000) :
    Calls Tryz.prog 10 #[.pointer (some ⟨qb, 0, none⟩), .agg #[.int .i64 sk, .int .i64 sn, .int .i64 sm, .int .i64 sa, .bool so, .int .u32 sw]] w fun e w' => e = .returned (.bool true) ∧ Dn w0 w' qb n c ls := by
  have K0 := Kp.alloc w (.cells #[.int .i64 sk, .int .i64 sn, .int .i64 sm, .int .i64 sa, .bool so, .int .u32 sw] 35) []
  have B0 := hid (B.same K0)
  have S0 := hid (heap_alloc_new w (.cells #[.int .i64 sk, .int .i64 sn, .int .i64 sm, .int .i64 sa, .bool so, .int .u32 sw] 35))
  obtain ⟨W0, hW0⟩ : ∃ W0, w.alloc (.cells #[.int .i64 sk, .int .i64 sn, .int .i64 sm, .int .i64 sa, .bool so, .int .u32 sw] 35) = W0 := ⟨_, rfl⟩
  obtain ⟨y0, y1, y2, y3, y4, y5⟩ := cell6 (w := w) (a := .int .i64 sk) (b := .int .i64 sn) (c := .int .i64 sm) (d := .int .i64 sa) (e := .bool so) (f := .int .u32 sw)
  obtain ⟨sb, hsb⟩ : ∃ sb, w.heap.size = sb := ⟨_, rfl⟩
  rw [hW0, hsb] at y0 y1 y2 y3 y4 y5 S0
  rw [hW0] at B0
  have CH := hid (fun (w' : World) (h1 : w'.heap[qb]? = some (.cells #[.pointer (some ⟨hb, 0, none⟩), .pointer (some ⟨xb, 0, none⟩), lv] 31 (0, 0))) (h2 : w'.heap[sb]? = some (.cells #[.int .i64 sk, .int .i64 sn, .int .i64 sm, .int .i64 sa, .bool so, .int .u32 sw] 35 (0, 0))) =>
    (show (w'.cell? ⟨qb, 0, none⟩ = some (.pointer (some ⟨hb, 0, none⟩)) ∧ w'.cell? ⟨qb, 1, none⟩ = some (.pointer (some ⟨xb, 0, none⟩))) ∧ w'.cell? ⟨sb, 0, none⟩ = some (.int .i64 sk) ∧ w'.cell? ⟨sb, 1, none⟩ = some (.int .i64 sn) ∧ w'.cell? ⟨sb, 2, none⟩ = some (.int .i64 sm) ∧ w'.cell? ⟨sb, 3, none⟩ = some (.int .i64 sa) ∧ w'.cell? ⟨sb, 4, none⟩ = some (.bool so) ∧ w'.cell? ⟨sb, 5, none⟩ = some (.int .u32 sw) from
      ⟨⟨(cell_tri h1).1, (cell_tri h1).2.1⟩, by rw [cell_of_row _ _ _ _ _ _ h2]; rfl, by rw [cell_of_row _ _ _ _ _ _ h2]; rfl, by rw [cell_of_row _ _ _ _ _ _ h2]; rfl, by rw [cell_of_row _ _ _ _ _ _ h2]; rfl, by rw [cell_of_row _ _ _ _ _ _ h2]; rfl, by rw [cell_of_row _ _ _ _ _ _ h2]; rfl⟩))
  have HFIT := hid hfit
  have kt : (sk == 3) = true := by simp [hk]
  have kf1 : (sk == 1) = false := by simp [hk]
  have kf2 : (sk == 2) = false := by simp [hk]
  clear B K0 hfit hk
  go_enter Tryz.func10, Tryz.ntmps10
  go_wp2_with fail
  clear hW0 hsb
  refine (off_any B0.out.bh ⟨sk, sn, sm, sa, so, sw⟩ (by omega)).mono ?_
  rintro e w1 ⟨rfl, hK1⟩
  have B1 := hid (B0.out.same hK1)
  have S1 := hid (Sty.nil hK1 _ _ S0.out)
  obtain ⟨A, hA⟩ : ∃ A, offP ⟨sk, sn, sm, sa, so, sw⟩ ls = A := ⟨_, rfl⟩
  rw [hA]
  have HA := hid hA
  clear hK1 y0 y1 y2 y3 y4 y5 B0 S0 hA
  obtain ⟨⟨q0, q1⟩, y0, y1, y2, y3, y4, y5⟩ := CH.out _ B1.out.bh.pr S1.out
  obtain ⟨er, g2, L2, F2, hs2, hag, hp, hr⟩ := tw_free B1.out.hs B1.out.ag A (by have := offP_bd HFIT.out B1.out.bh.bd; rw [HA.out] at this; exact this.1) (by have := offP_bd HFIT.out B1.out.bh.bd; rw [HA.out] at this; exact this.2)
  have PC := hid (fun (w' : World) (b : Bo w0 w' qb hb rb mb pb xb eb n g c L F V G f lv ls (fun _ => False)) => (hp w' hb rb mb pb c b.hp (by omega)).mono (fun e w2 q => And.intro q.1 (b.mid q.2)))
  have RC := hid (fun (w' : World) (c' : Int) (m : Md w0 w' qb hb rb mb pb xb eb n g2 c' L F V G f lv ls L2) => (hr w' xb eb V G m.bh.rh m.bh.mb).mono (fun e w2 q => And.intro q.1 (m.ref q.2 hs2 hag)))
  have hee : (er == er) = true := by simp
  clear hp hr hs2 hag
  go_wp2_with fail
  go_region_held_law (fun w' : World => (w'.cell? ⟨qb, 0, none⟩ = some (.pointer (some ⟨hb, 0, none⟩)) ∧ w'.cell? ⟨qb, 1, none⟩ = some (.pointer (some ⟨xb, 0, none⟩))) ∧ w'.cell? ⟨sb, 0, none⟩ = some (.int .i64 sk) ∧ w'.cell? ⟨sb, 1, none⟩ = some (.int .i64 sn) ∧ w'.cell? ⟨sb, 2, none⟩ = some (.int .i64 sm) ∧ w'.cell? ⟨sb, 3, none⟩ = some (.int .i64 sa) ∧ w'.cell? ⟨sb, 4, none⟩ = some (.bool so) ∧ w'.cell? ⟨sb, 5, none⟩ = some (.int .u32 sw))
    (first
      | exact CH.out _ (B1.out.same (Kp.drew _ [])).bh.pr (Sty.nil (Kp.drew _ []) _ _ S1.out)
      | exact CH.out _ hM2.bh.pr (hY2 _ _ (Sty.nil (Kp.drew _ []) _ _ S1.out))
      | exact CH.out _ hB3.bh.pr (hY3 _ _ (hY2 _ _ (Sty.nil (Kp.drew _ []) _ _ S1.out))))
    (first
      | (go_at_call 13; refine (num_any _ _).mono ?_; rintro e wn ⟨rfl, hE⟩; rw [hE]; clear hE)
      | (go_at_call 38; have _hh := hM2; refine (RC.out _ c2 hM2).mono ?_; rintro e w3 ⟨rfl, V3, G3, hB3, hY3⟩)
      | (go_at_call 21; refine (PC.out _ (B1.out.same (Kp.drew _ []))).mono ?_; rintro e w2 ⟨rfl, c2, l2, u2, hM2, hY2⟩))
  have PR := hid (show Dn w0 w3 qb n c ls from ⟨c2, ls, by omega, by omega, _, _, _, _, _, _, _, _, _, _, _, _, _, hB3⟩)
  clear hB3 hY3 hM2 hY2 y0 y1 y2 y3 y4 y5 q0 q1 B1 S1 PC RC CH
  go_wp2
  go_ret
  exact ⟨rfl, PR.out⟩
end
end Go.Proofs.YtgefmnnkpffpcaaGreatDoor
