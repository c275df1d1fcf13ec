/- The law's do: one kind of step. -/
import Derived.Test.YtgefmnnkpffpcaaGreatDoorSfreshJ
namespace Go.Proofs.YtgefmnnkpffpcaaGreatDoor
open Go.RowKit Go.Maps

section
variable {w0 w w1 w2 : World} {qb hb rb mb pb xb eb n : Nat} {g g' : Mem} {c c' k : Int} {L L' : List Bl} {F F' : Nat → List Int} {V : Value} {G : Nat → Value} {f f' : Nat → Nat} {lv : Value} {ls : List Int} {X X' : Nat → Prop} {P' : Pcs}
set_option maxRecDepth 100000 in
set_option maxHeartbeats 8000000 in
theorem do4 (B : Bo w0 w qb hb rb mb pb xb eb n g c L F V G f lv ls (fun _ => False)) (sk sn sm sa : Int) (so : Bool) (sw : Int) (hfit : St.fit ⟨sk, sn, sm, sa, so, sw⟩) (hk : sk = 4) (hl : ls.length ≤ 500) (hc : c ≤ 10000000000000) :
    Calls Tryz.prog 10 #[.pointer (some ⟨qb, 0, none⟩), .agg #[.int .i64 sk, .int .i64 sn, .int .i64 sm, .int .i64 sa, .bool so, .int .u32 sw]] w fun e w' => e = .returned (.bool true) ∧ Dn w0 w' qb n c ls := by
  have K0 := Kp.alloc w (.cells #[.int .i64 sk, .int .i64 sn, .int .i64 sm, .int .i64 sa, .bool so, .int .u32 sw] 35) []
  have B0 := hid (B.same K0)
  have S0 := hid (heap_alloc_new w (.cells #[.int .i64 sk, .int .i64 sn, .int .i64 sm, .int .i64 sa, .bool so, .int .u32 sw] 35))
  obtain ⟨W0, hW0⟩ : ∃ W0, w.alloc (.cells #[.int .i64 sk, .int .i64 sn, .int .i64 sm, .int .i64 sa, .bool so, .int .u32 sw] 35) = W0 := ⟨_, rfl⟩
  obtain ⟨y0, y1, y2, y3, y4, y5⟩ := cell6 (w := w) (a := .int .i64 sk) (b := .int .i64 sn) (c := .int .i64 sm) (d := .int .i64 sa) (e := .bool so) (f := .int .u32 sw)
  obtain ⟨sb, hsb⟩ : ∃ sb, w.heap.size = sb := ⟨_, rfl⟩
  rw [hW0, hsb] at y0 y1 y2 y3 y4 y5 S0
  rw [hW0] at B0
  have CH := hid (fun (w' : World) (h1 : w'.heap[qb]? = some (.cells #[.pointer (some ⟨hb, 0, none⟩), .pointer (some ⟨xb, 0, none⟩), lv] 31 (0, 0))) (h2 : w'.heap[sb]? = some (.cells #[.int .i64 sk, .int .i64 sn, .int .i64 sm, .int .i64 sa, .bool so, .int .u32 sw] 35 (0, 0))) =>
    (show (w'.cell? ⟨qb, 0, none⟩ = some (.pointer (some ⟨hb, 0, none⟩)) ∧ w'.cell? ⟨qb, 1, none⟩ = some (.pointer (some ⟨xb, 0, none⟩))) ∧ w'.cell? ⟨sb, 0, none⟩ = some (.int .i64 sk) ∧ w'.cell? ⟨sb, 1, none⟩ = some (.int .i64 sn) ∧ w'.cell? ⟨sb, 2, none⟩ = some (.int .i64 sm) ∧ w'.cell? ⟨sb, 3, none⟩ = some (.int .i64 sa) ∧ w'.cell? ⟨sb, 4, none⟩ = some (.bool so) ∧ w'.cell? ⟨sb, 5, none⟩ = some (.int .u32 sw) from
      ⟨⟨(cell_tri h1).1, (cell_tri h1).2.1⟩, by rw [cell_of_row _ _ _ _ _ _ h2]; rfl, by rw [cell_of_row _ _ _ _ _ _ h2]; rfl, by rw [cell_of_row _ _ _ _ _ _ h2]; rfl, by rw [cell_of_row _ _ _ _ _ _ h2]; rfl, by rw [cell_of_row _ _ _ _ _ _ h2]; rfl, by rw [cell_of_row _ _ _ _ _ _ h2]; rfl⟩))
  have HFIT := hid hfit
  have kt : (sk == 4) = true := by simp [hk]
  have kf1 : (sk == 1) = false := by simp [hk]
  have kf2 : (sk == 2) = false := by simp [hk]
  have kf3 : (sk == 3) = false := by simp [hk]
  clear B K0 hfit hk
  go_enter Tryz.func10, Tryz.ntmps10
  go_wp2_with fail
  clear hW0 hsb
  refine (off_any B0.out.bh ⟨sk, sn, sm, sa, so, sw⟩ (by omega)).mono ?_
  rintro e w1 ⟨rfl, hK1⟩
  have B1 := hid (B0.out.same hK1)
  have S1 := hid (Sty.nil hK1 _ _ S0.out)
  obtain ⟨A, hA⟩ : ∃ A, offP ⟨sk, sn, sm, sa, so, sw⟩ ls = A := ⟨_, rfl⟩
  rw [hA]
  have HA := hid hA
  clear hK1 y0 y1 y2 y3 y4 y5 B0 S0 hA
  obtain ⟨⟨q0, q1⟩, y0, y1, y2, y3, y4, y5⟩ := CH.out _ B1.out.bh.pr S1.out
  go_wp2_with fail
  refine (bo_rsize B1.out A (by have := offP_bd HFIT.out B1.out.bh.bd; rw [HA.out] at this; exact this.2)).mono ?_
  rintro e w' ⟨rfl, hE⟩
  rw [hE]
  clear hE
  obtain ⟨was, hwas⟩ : ∃ was, (if hasP (piecesOf L) A then getP (piecesOf L) A - 8 else 0) = was := ⟨_, rfl⟩
  obtain ⟨we, hwe⟩ : ∃ we : Int, (if hasP (piecesOf L) A then 0 else 6) = we := ⟨_, rfl⟩
  rw [hwas, hwe]
  have WB := hid (show 0 ≤ was ∧ was ≤ 65536 from by
    rw [← hwas]
    split
    · rename_i h
      have q1 := B1.out.hs.ok _ (getP_mem h)
      have q2 := B1.out.hs.rep.nn
      simp only at q1
      omega
    · omega)
  clear hwe
  obtain ⟨a, er, g2, L2, F2, f2, hs2, a0, a1, e0, e1, hcase, hp, hr⟩ := tw_realloc B1.out.hs B1.out.ag A sn (by have := offP_bd HFIT.out B1.out.bh.bd; rw [HA.out] at this; exact this.1) (by have := offP_bd HFIT.out B1.out.bh.bd; rw [HA.out] at this; exact this.2)
  rw [hwas] at hcase
  clear hwas
  obtain ⟨X2, hX2, hag⟩ : ∃ X2 : Nat → Prop, ((er = 0 ∧ ∃ z, (a - 8, z, false) ∈ L2 ∧ X2 = fun o : Nat => a + was ≤ (o : Int) ∧ (o : Int) < a - 8 + z) ∨ (er ≠ 0 ∧ X2 = fun _ => False)) ∧ Ag f2 g2 (piecesOf L2) X2 := by
    rcases hcase with ⟨h1, z, h2, h3⟩ | ⟨h1, h2⟩
    · exact ⟨_, .inl ⟨h1, z, h2, rfl⟩, h3⟩
    · exact ⟨_, .inr ⟨h1, rfl⟩, h2⟩
  have PC := hid (fun (w' : World) (b : Bo w0 w' qb hb rb mb pb xb eb n g c L F V G f lv ls (fun _ => False)) => (hp w' hb rb mb pb c b.hp (by omega)).mono (fun e w2 q => And.intro q.1 (b.mid q.2)))
  have RC := hid (fun (w' : World) (c' : Int) (m : Md w0 w' qb hb rb mb pb xb eb n g2 c' L F V G f lv ls L2) => (hr w' xb eb V G m.bh.rh m.bh.mb).mono (fun e w2 q => And.intro q.1 (m.ref q.2 hs2 hag)))
  have HX := hid hX2
  clear hcase hp hr hs2 hag hX2
  go_wp2_with fail
  go_region_held_law (fun w' : World => (w'.cell? ⟨qb, 0, none⟩ = some (.pointer (some ⟨hb, 0, none⟩)) ∧ w'.cell? ⟨qb, 1, none⟩ = some (.pointer (some ⟨xb, 0, none⟩))) ∧ w'.cell? ⟨sb, 0, none⟩ = some (.int .i64 sk) ∧ w'.cell? ⟨sb, 1, none⟩ = some (.int .i64 sn) ∧ w'.cell? ⟨sb, 2, none⟩ = some (.int .i64 sm) ∧ w'.cell? ⟨sb, 3, none⟩ = some (.int .i64 sa) ∧ w'.cell? ⟨sb, 4, none⟩ = some (.bool so) ∧ w'.cell? ⟨sb, 5, none⟩ = some (.int .u32 sw))
    (first
      | exact CH.out _ (B1.out.same (Kp.drew _ [])).bh.pr (Sty.nil (Kp.drew _ []) _ _ S1.out)
      | exact CH.out _ hM2.bh.pr (hY2 _ _ (Sty.nil (Kp.drew _ []) _ _ S1.out)))
    ((go_at_call 26; refine (PC.out _ (B1.out.same (Kp.drew _ []))).mono ?_; rintro e w2 ⟨rfl, c2, l2, u2, hM2, hY2⟩))
  have M2 := hid hM2
  have S2 := hid (hY2 _ _ (Sty.nil (Kp.drew _ []) _ _ S1.out))
  clear hM2 hY2 y0 y1 y2 y3 y4 y5 q0 q1 B1 S1
  obtain ⟨⟨q0, q1⟩, y0, y1, y2, y3, y4, y5⟩ := CH.out _ M2.out.bh.pr S2.out
  go_wp2_with fail
  go_region_held_law (fun w' : World => (w'.cell? ⟨qb, 0, none⟩ = some (.pointer (some ⟨hb, 0, none⟩)) ∧ w'.cell? ⟨qb, 1, none⟩ = some (.pointer (some ⟨xb, 0, none⟩))) ∧ w'.cell? ⟨sb, 0, none⟩ = some (.int .i64 sk) ∧ w'.cell? ⟨sb, 1, none⟩ = some (.int .i64 sn) ∧ w'.cell? ⟨sb, 2, none⟩ = some (.int .i64 sm) ∧ w'.cell? ⟨sb, 3, none⟩ = some (.int .i64 sa) ∧ w'.cell? ⟨sb, 4, none⟩ = some (.bool so) ∧ w'.cell? ⟨sb, 5, none⟩ = some (.int .u32 sw))
    (first
      | exact CH.out _ (M2.out.same (Kp.drew _ [])).bh.pr (Sty.nil (Kp.drew _ []) _ _ S2.out)
      | exact CH.out _ hB3.bh.pr (hY3 _ _ (Sty.nil (Kp.drew _ []) _ _ S2.out)))
    ((go_at_call 40; refine (RC.out _ c2 (M2.out.same (Kp.drew _ []))).mono ?_; rintro e w3 ⟨rfl, V3, G3, hB3, hY3⟩))
  have B3 := hid hB3
  clear hB3 hY3 y0 y1 y2 y3 y4 y5 q0 q1 M2 S2 PC RC CH
  by_cases her : er = 0
  · subst her
    obtain ⟨z, hz, hX⟩ : ∃ z, (a - 8, z, false) ∈ L2 ∧ X2 = fun o : Nat => a + was ≤ (o : Int) ∧ (o : Int) < a - 8 + z := by
      rcases HX.out with ⟨-, h⟩ | ⟨h, -⟩
      · exact h
      · exact absurd rfl h
    subst hX
    have HZ := hid hz
    clear hz HX
    go_wp2_with fail
    refine (got_yes B3.out a ⟨a0, a1⟩ (by omega)).mono ?_
    rintro e w4 ⟨rfl, lv4, hB4⟩
    have B4 := hid hB4
    clear hB4 B3
    go_wp2_with fail
    refine (fresh_any a z was B4.out HZ.out WB.out.1 WB.out.2 (by simp; omega) (by omega)).mono ?_
    rintro e w5 ⟨rfl, g5, c5, V5, G5, f5, l5, u5, hB5⟩
    have PR := hid (show Dn w0 w5 qb n c ls from ⟨c5, ls ++ [a], by omega, by simp, _, _, _, _, _, _, _, _, _, _, _, _, _, hB5⟩)
    clear hB5 B4 HZ
    go_wp2
    go_ret
    exact ⟨rfl, PR.out⟩
  · have hX : X2 = fun _ => False := by
      rcases HX.out with ⟨h, -⟩ | ⟨-, h⟩
      · exact absurd h her
      · exact h
    subst hX
    have heb : (er != 0) = true := by simp [her]
    have PR := hid (show Dn w0 w3 qb n c ls from ⟨c2, ls, by omega, by omega, _, _, _, _, _, _, _, _, _, _, _, _, _, B3.out⟩)
    clear HX B3
    go_wp2_with fail
    refine (got_no w3 qb a er her).mono ?_
    rintro e w4 ⟨rfl, hE⟩
    rw [hE]
    clear hE
    go_wp2
    go_ret
    exact ⟨rfl, PR.out⟩
end
end Go.Proofs.YtgefmnnkpffpcaaGreatDoor

/- The law's do: one kind of step. -/
namespace Go.Proofs.YtgefmnnkpffpcaaGreatDoor
open Go.RowKit Go.Maps

section
variable {w0 w w1 w2 : World} {qb hb rb mb pb xb eb n : Nat} {g g' : Mem} {c c' k : Int} {L L' : List Bl} {F F' : Nat → List Int} {V : Value} {G : Nat → Value} {f f' : Nat → Nat} {lv : Value} {ls : List Int} {X X' : Nat → Prop} {P' : Pcs}
set_option maxRecDepth 100000 in
set_option maxHeartbeats 8000000 in
theorem do5 (B : Bo w0 w qb hb rb mb pb xb eb n g c L F V G f lv ls (fun _ => False)) (sk sn sm sa : Int) (so : Bool) (sw : Int) (hfit : St.fit ⟨sk, sn, sm, sa, so, sw⟩) (hk : sk = 5) (hl : ls.length ≤ 500) (hc : c ≤ 10000000000000) :
    Calls Tryz.prog 10 #[.pointer (some ⟨qb, 0, none⟩), .agg #[.int .i64 sk, .int .i64 sn, .int .i64 sm, .int .i64 sa, .bool so, .int .u32 sw]] w fun e w' => e = .returned (.bool true) ∧ Dn w0 w' qb n c ls := by
  have K0 := Kp.alloc w (.cells #[.int .i64 sk, .int .i64 sn, .int .i64 sm, .int .i64 sa, .bool so, .int .u32 sw] 35) []
  have B0 := hid (B.same K0)
  have S0 := hid (heap_alloc_new w (.cells #[.int .i64 sk, .int .i64 sn, .int .i64 sm, .int .i64 sa, .bool so, .int .u32 sw] 35))
  obtain ⟨W0, hW0⟩ : ∃ W0, w.alloc (.cells #[.int .i64 sk, .int .i64 sn, .int .i64 sm, .int .i64 sa, .bool so, .int .u32 sw] 35) = W0 := ⟨_, rfl⟩
  obtain ⟨y0, y1, y2, y3, y4, y5⟩ := cell6 (w := w) (a := .int .i64 sk) (b := .int .i64 sn) (c := .int .i64 sm) (d := .int .i64 sa) (e := .bool so) (f := .int .u32 sw)
  obtain ⟨sb, hsb⟩ : ∃ sb, w.heap.size = sb := ⟨_, rfl⟩
  rw [hW0, hsb] at y0 y1 y2 y3 y4 y5 S0
  rw [hW0] at B0
  have CH := hid (fun (w' : World) (h1 : w'.heap[qb]? = some (.cells #[.pointer (some ⟨hb, 0, none⟩), .pointer (some ⟨xb, 0, none⟩), lv] 31 (0, 0))) (h2 : w'.heap[sb]? = some (.cells #[.int .i64 sk, .int .i64 sn, .int .i64 sm, .int .i64 sa, .bool so, .int .u32 sw] 35 (0, 0))) =>
    (show (w'.cell? ⟨qb, 0, none⟩ = some (.pointer (some ⟨hb, 0, none⟩)) ∧ w'.cell? ⟨qb, 1, none⟩ = some (.pointer (some ⟨xb, 0, none⟩))) ∧ w'.cell? ⟨sb, 0, none⟩ = some (.int .i64 sk) ∧ w'.cell? ⟨sb, 1, none⟩ = some (.int .i64 sn) ∧ w'.cell? ⟨sb, 2, none⟩ = some (.int .i64 sm) ∧ w'.cell? ⟨sb, 3, none⟩ = some (.int .i64 sa) ∧ w'.cell? ⟨sb, 4, none⟩ = some (.bool so) ∧ w'.cell? ⟨sb, 5, none⟩ = some (.int .u32 sw) from
      ⟨⟨(cell_tri h1).1, (cell_tri h1).2.1⟩, by rw [cell_of_row _ _ _ _ _ _ h2]; rfl, by rw [cell_of_row _ _ _ _ _ _ h2]; rfl, by rw [cell_of_row _ _ _ _ _ _ h2]; rfl, by rw [cell_of_row _ _ _ _ _ _ h2]; rfl, by rw [cell_of_row _ _ _ _ _ _ h2]; rfl, by rw [cell_of_row _ _ _ _ _ _ h2]; rfl⟩))
  have HFIT := hid hfit
  have kt : (sk == 5) = true := by simp [hk]
  have kf1 : (sk == 1) = false := by simp [hk]
  have kf2 : (sk == 2) = false := by simp [hk]
  have kf3 : (sk == 3) = false := by simp [hk]
  have kf4 : (sk == 4) = false := by simp [hk]
  clear B K0 hfit hk
  go_enter Tryz.func10, Tryz.ntmps10
  go_wp2_with fail
  clear hW0 hsb
  refine (off_any B0.out.bh ⟨sk, sn, sm, sa, so, sw⟩ (by omega)).mono ?_
  rintro e w1 ⟨rfl, hK1⟩
  have B1 := hid (B0.out.same hK1)
  have S1 := hid (Sty.nil hK1 _ _ S0.out)
  obtain ⟨A, hA⟩ : ∃ A, offP ⟨sk, sn, sm, sa, so, sw⟩ ls = A := ⟨_, rfl⟩
  rw [hA]
  have HA := hid hA
  clear hK1 y0 y1 y2 y3 y4 y5 B0 S0 hA
  obtain ⟨⟨q0, q1⟩, y0, y1, y2, y3, y4, y5⟩ := CH.out _ B1.out.bh.pr S1.out
  have hAb : (so = true → A = sa) ∧ (A = sa ∨ (0 ≤ A ∧ A ≤ 65536)) := by
    rcases offP_cases ⟨sk, sn, sm, sa, so, sw⟩ ls with h | ⟨h1, h2⟩
    · rw [HA.out] at h
      exact ⟨fun _ => h, .inl h⟩
    · rw [HA.out] at h2
      simp only at h1
      exact ⟨fun q => (by rw [h1] at q; cases q), .inr (B1.out.bh.bd _ h2)⟩
  have WB := hid (show 0 ≤ sw ∧ sw < 4294967296 from HFIT.out.2.2.2.2)
  have SB := hid (show -9223372036854775808 ≤ sa ∧ sa ≤ 9223372036854775807 from HFIT.out.2.2.2.1)
  have hnn := B1.out.hs.rep.nn
  have QB := hid (show ∀ D : Int, D % 4 = 0 → inQ (piecesOf L) D → 120 ≤ D ∧ D + 4 ≤ n from fun D h4 hq => by have := inq_bd B1.out.hs h4 hq; omega)
  have LB := hid (show L.length ≤ 100000 ∧ ∀ x ∈ L, 0 ≤ x.1 ∧ x.1 ≤ 1000000 ∧ 0 ≤ x.2.1 ∧ x.2.1 ≤ 1000000 from ⟨by have := B1.out.hs.len; omega, fun x hx => by have := B1.out.hs.bd hx; omega⟩)
  obtain ⟨d, hd⟩ : ∃ d, bits .and .i64 sn 31 = d := ⟨_, rfl⟩
  have hdb := and31 sn
  rw [hd] at hdb
  clear HA HFIT
  by_cases hout : sa < 0 ∨ 1073741824 < sa
  · have HN := hid (show hasWd n (piecesOf L) sa = false from by
      cases h : hasWd n (piecesOf L) sa with
      | false => rfl
      | true =>
        have h2 := (hasWd_iff B1.out.hs sa).1 h
        have := QB.out sa h2.2.1 h2.2.2
        omega)
    clear hAb
    rcases hout with q | q
    · have hq1 : (sa < 0) = True := eq_true q
      go_wp2_with fail
      go_region_held_law (fun w' : World => (w'.cell? ⟨qb, 0, none⟩ = some (.pointer (some ⟨hb, 0, none⟩)) ∧ w'.cell? ⟨qb, 1, none⟩ = some (.pointer (some ⟨xb, 0, none⟩))) ∧ w'.cell? ⟨sb, 0, none⟩ = some (.int .i64 sk) ∧ w'.cell? ⟨sb, 1, none⟩ = some (.int .i64 sn) ∧ w'.cell? ⟨sb, 2, none⟩ = some (.int .i64 sm) ∧ w'.cell? ⟨sb, 3, none⟩ = some (.int .i64 sa) ∧ w'.cell? ⟨sb, 4, none⟩ = some (.bool so) ∧ w'.cell? ⟨sb, 5, none⟩ = some (.int .u32 sw))
        (first
          | exact CH.out _ (B1.out.same (Kp.drew _ [])).bh.pr (Sty.nil (Kp.drew _ []) _ _ S1.out)
          | exact CH.out _ ((B1.out.same (Kp.drew _ [])).same hK2).bh.pr (Sty.nil hK2 _ _ (Sty.nil (Kp.drew _ []) _ _ S1.out)))
        (first
          | (go_at_call 13; refine (num_any _ _).mono ?_; rintro e wn ⟨rfl, hE⟩; rw [hE]; clear hE)
          | (go_at_call 27; refine (hset_no _ hb rb mb pb n g c _ sa sw (B1.out.same (Kp.drew _ [])).hp B1.out.hs.ok SB.out.1 SB.out.2 HN.out).mono ?_; rintro e w2 ⟨rfl, hK2⟩))
      have PR := hid (show Dn w0 w2 qb n c ls from ⟨c, ls, by omega, by omega, _, _, _, _, _, _, _, _, _, _, _, _, _, (B1.out.same (Kp.drew _ [])).same hK2⟩)
      clear hK2 y0 y1 y2 y3 y4 y5 q0 q1 B1 S1 CH
      go_wp2
      go_ret
      exact ⟨rfl, PR.out⟩
    · have hq2 : ¬ sa < 0 := by omega
      go_wp2_with fail
      go_region_held_law (fun w' : World => (w'.cell? ⟨qb, 0, none⟩ = some (.pointer (some ⟨hb, 0, none⟩)) ∧ w'.cell? ⟨qb, 1, none⟩ = some (.pointer (some ⟨xb, 0, none⟩))) ∧ w'.cell? ⟨sb, 0, none⟩ = some (.int .i64 sk) ∧ w'.cell? ⟨sb, 1, none⟩ = some (.int .i64 sn) ∧ w'.cell? ⟨sb, 2, none⟩ = some (.int .i64 sm) ∧ w'.cell? ⟨sb, 3, none⟩ = some (.int .i64 sa) ∧ w'.cell? ⟨sb, 4, none⟩ = some (.bool so) ∧ w'.cell? ⟨sb, 5, none⟩ = some (.int .u32 sw))
        (first
          | exact CH.out _ (B1.out.same (Kp.drew _ [])).bh.pr (Sty.nil (Kp.drew _ []) _ _ S1.out)
          | exact CH.out _ ((B1.out.same (Kp.drew _ [])).same hK2).bh.pr (Sty.nil hK2 _ _ (Sty.nil (Kp.drew _ []) _ _ S1.out)))
        (first
          | (go_at_call 13; refine (num_any _ _).mono ?_; rintro e wn ⟨rfl, hE⟩; rw [hE]; clear hE)
          | (go_at_call 27; refine (hset_no _ hb rb mb pb n g c _ sa sw (B1.out.same (Kp.drew _ [])).hp B1.out.hs.ok SB.out.1 SB.out.2 HN.out).mono ?_; rintro e w2 ⟨rfl, hK2⟩))
      have PR := hid (show Dn w0 w2 qb n c ls from ⟨c, ls, by omega, by omega, _, _, _, _, _, _, _, _, _, _, _, _, _, (B1.out.same (Kp.drew _ [])).same hK2⟩)
      clear hK2 y0 y1 y2 y3 y4 y5 q0 q1 B1 S1 CH
      go_wp2
      go_ret
      exact ⟨rfl, PR.out⟩
  · have hq1 : ¬ sa < 0 := by omega
    have hq2 : ¬ 1073741824 < sa := by omega
    cases so with
    | true =>
      have hD : 0 ≤ A ∧ A ≤ 2000000000 := by have := hAb.1 rfl; omega
      clear hAb
      go_wp2_with fail
      refine (rin_any _ xb V _ G L F A B1.out.bh.rh LB.out.1 LB.out.2).mono ?_
      rintro e w2 ⟨rfl, hK2⟩
      have B2 := hid (B1.out.same hK2)
      have S2 := hid (Sty.nil hK2 _ _ S1.out)
      clear hK2 B1 S1 y0 y1 y2 y3 y4 y5 q0 q1
      obtain ⟨⟨q0, q1⟩, y0, y1, y2, y3, y4, y5⟩ := CH.out _ B2.out.bh.pr S2.out
      cases hin : inP A L with
      | false =>
        have HN := hid (show hasWd n (piecesOf L) A = false from by rw [← in_tie B2.out.hs]; exact hin)
        clear hin
        go_wp2_with fail
        refine (hget_no _ hb rb mb pb n g c _ A B2.out.hp B2.out.hs.ok (by omega) (by omega) HN.out).mono ?_
        rintro e w3 ⟨rfl, hK3⟩
        have B3 := hid (B2.out.same hK3)
        have S3 := hid (Sty.nil hK3 _ _ S2.out)
        clear hK3 B2 S2 y0 y1 y2 y3 y4 y5 q0 q1
        obtain ⟨⟨q0, q1⟩, y0, y1, y2, y3, y4, y5⟩ := CH.out _ B3.out.bh.pr S3.out
        go_wp2_with fail
        go_region_held_law (fun w' : World => (w'.cell? ⟨qb, 0, none⟩ = some (.pointer (some ⟨hb, 0, none⟩)) ∧ w'.cell? ⟨qb, 1, none⟩ = some (.pointer (some ⟨xb, 0, none⟩))) ∧ w'.cell? ⟨sb, 0, none⟩ = some (.int .i64 sk) ∧ w'.cell? ⟨sb, 1, none⟩ = some (.int .i64 sn) ∧ w'.cell? ⟨sb, 2, none⟩ = some (.int .i64 sm) ∧ w'.cell? ⟨sb, 3, none⟩ = some (.int .i64 sa) ∧ w'.cell? ⟨sb, 4, none⟩ = some (.bool true) ∧ w'.cell? ⟨sb, 5, none⟩ = some (.int .u32 sw))
          (first
            | exact CH.out _ (B3.out.same (Kp.drew _ [])).bh.pr (Sty.nil (Kp.drew _ []) _ _ S3.out)
            | exact CH.out _ ((B3.out.same (Kp.drew _ [])).same hK4).bh.pr (Sty.nil hK4 _ _ (Sty.nil (Kp.drew _ []) _ _ S3.out)))
          (first
            | (go_at_call 13; refine (num_any _ _).mono ?_; rintro e wn ⟨rfl, hE⟩; rw [hE]; clear hE)
            | (go_at_call 27; refine (hset_no _ hb rb mb pb n g c _ A sw (B3.out.same (Kp.drew _ [])).hp B3.out.hs.ok (by omega) (by omega) HN.out).mono ?_; rintro e w4 ⟨rfl, hK4⟩))
        have PR := hid (show Dn w0 w4 qb n c ls from ⟨c, ls, by omega, by omega, _, _, _, _, _, _, _, _, _, _, _, _, _, (B3.out.same (Kp.drew _ [])).same hK4⟩)
        clear hK4 y0 y1 y2 y3 y4 y5 q0 q1 B3 S3 CH
        go_wp2
        go_ret
        exact ⟨rfl, PR.out⟩
      | true =>
        have HQ := hid (show A % 4 = 0 ∧ inQ (piecesOf L) A from ((inP_iff A).1 hin).2)
        clear hin
        go_wp2_with fail
        go_region_held_law (fun w' : World => (w'.cell? ⟨qb, 0, none⟩ = some (.pointer (some ⟨hb, 0, none⟩)) ∧ w'.cell? ⟨qb, 1, none⟩ = some (.pointer (some ⟨xb, 0, none⟩))) ∧ w'.cell? ⟨sb, 0, none⟩ = some (.int .i64 sk) ∧ w'.cell? ⟨sb, 1, none⟩ = some (.int .i64 sn) ∧ w'.cell? ⟨sb, 2, none⟩ = some (.int .i64 sm) ∧ w'.cell? ⟨sb, 3, none⟩ = some (.int .i64 sa) ∧ w'.cell? ⟨sb, 4, none⟩ = some (.bool true) ∧ w'.cell? ⟨sb, 5, none⟩ = some (.int .u32 sw))
          (first
            | exact CH.out _ (B2.out.same (Kp.drew _ [])).bh.pr (Sty.nil (Kp.drew _ []) _ _ S2.out)
            | exact CH.out _ hB3.bh.pr (hY3 _ _ (Sty.nil (Kp.drew _ []) _ _ S2.out)))
          ((go_at_call 42; refine (bo_rset (B2.out.same (Kp.drew _ [])) A sw HQ.out.1 HQ.out.2 WB.out.1 WB.out.2).mono ?_; rintro e w3 ⟨rfl, V3, G3, f3, hu3, hB3, hY3⟩))
        have B3 := hid hB3
        have S3 := hid (hY3 _ _ (Sty.nil (Kp.drew _ []) _ _ S2.out))
        have U3 := hid hu3
        clear hB3 hY3 hu3 B2 S2 y0 y1 y2 y3 y4 y5 q0 q1
        obtain ⟨⟨q0, q1⟩, y0, y1, y2, y3, y4, y5⟩ := CH.out _ B3.out.bh.pr S3.out
        go_wp2_with fail
        go_region_held_law (fun w' : World => (w'.cell? ⟨qb, 0, none⟩ = some (.pointer (some ⟨hb, 0, none⟩)) ∧ w'.cell? ⟨qb, 1, none⟩ = some (.pointer (some ⟨xb, 0, none⟩))) ∧ w'.cell? ⟨sb, 0, none⟩ = some (.int .i64 sk) ∧ w'.cell? ⟨sb, 1, none⟩ = some (.int .i64 sn) ∧ w'.cell? ⟨sb, 2, none⟩ = some (.int .i64 sm) ∧ w'.cell? ⟨sb, 3, none⟩ = some (.int .i64 sa) ∧ w'.cell? ⟨sb, 4, none⟩ = some (.bool true) ∧ w'.cell? ⟨sb, 5, none⟩ = some (.int .u32 sw))
          (first
            | exact CH.out _ (B3.out.same (Kp.drew _ [])).bh.pr (Sty.nil (Kp.drew _ []) _ _ S3.out)
            | exact CH.out _ hB4.bh.pr (hY4 _ _ (Sty.nil (Kp.drew _ []) _ _ S3.out)))
          ((go_at_call 27; refine (bo_pset (B3.out.same (Kp.drew _ [])) A sw HQ.out.1 HQ.out.2 WB.out.1 WB.out.2 U3.out (by omega)).mono ?_; rintro e w4 ⟨rfl, g4, c4, l4, u4, hB4, hY4⟩))
        have B4 := hid (hB4.less (X' := fun _ => False) (fun o h => h.1.elim (fun q => q) (fun q => h.2 q)))
        have S4 := hid (hY4 _ _ (Sty.nil (Kp.drew _ []) _ _ S3.out))
        clear hB4 hY4 B3 S3 y0 y1 y2 y3 y4 y5 q0 q1
        obtain ⟨⟨q0, q1⟩, y0, y1, y2, y3, y4, y5⟩ := CH.out _ B4.out.bh.pr S4.out
        go_wp2_with fail
        refine (bo_pget B4.out A HQ.out.1 HQ.out.2 (fun h => h) (by omega)).mono ?_
        rintro e w5 ⟨rfl, c5, l5, u5, hB5, hY5⟩
        have hwe : ((upW f3 (A).toNat 4 : Nat) : Int) = sw := by rw [U3.out]; exact Int.toNat_of_nonneg WB.out.1
        rw [hwe]
        clear hwe
        have S5 := hid (hY5 _ _ S4.out)
        have B5 := hid hB5
        have PR := hid (show Dn w0 w5 qb n c ls from ⟨c5, ls, by omega, by omega, _, _, _, _, _, _, _, _, _, _, _, _, _, hB5⟩)
        clear hB5 hY5 B4 S4 y0 y1 y2 y3 y4 y5 q0 q1
        obtain ⟨⟨q0, q1⟩, y0, y1, y2, y3, y4, y5⟩ := CH.out _ B5.out.bh.pr S5.out
        have hww : (sw == sw) = true := by simp
        clear B5 S5 CH
        go_wp2_with (go_at_call 13; refine (num_any _ _).mono ?_; rintro e wn ⟨rfl, hE⟩; rw [hE]; clear hE)
        go_ret
        exact ⟨rfl, PR.out⟩
    | false =>
      have hAA : 0 ≤ A ∧ A ≤ 1073741824 := by have := hAb.2; omega
      have hD : 0 ≤ (A + d) ∧ (A + d) ≤ 2000000000 := by omega
      clear hAb
      go_wp2_with fail
      refine (rin_any _ xb V _ G L F (A + d) B1.out.bh.rh LB.out.1 LB.out.2).mono ?_
      rintro e w2 ⟨rfl, hK2⟩
      have B2 := hid (B1.out.same hK2)
      have S2 := hid (Sty.nil hK2 _ _ S1.out)
      clear hK2 B1 S1 y0 y1 y2 y3 y4 y5 q0 q1
      obtain ⟨⟨q0, q1⟩, y0, y1, y2, y3, y4, y5⟩ := CH.out _ B2.out.bh.pr S2.out
      cases hin : inP (A + d) L with
      | false =>
        have HN := hid (show hasWd n (piecesOf L) (A + d) = false from by rw [← in_tie B2.out.hs]; exact hin)
        clear hin
        go_wp2_with fail
        refine (hget_no _ hb rb mb pb n g c _ (A + d) B2.out.hp B2.out.hs.ok (by omega) (by omega) HN.out).mono ?_
        rintro e w3 ⟨rfl, hK3⟩
        have B3 := hid (B2.out.same hK3)
        have S3 := hid (Sty.nil hK3 _ _ S2.out)
        clear hK3 B2 S2 y0 y1 y2 y3 y4 y5 q0 q1
        obtain ⟨⟨q0, q1⟩, y0, y1, y2, y3, y4, y5⟩ := CH.out _ B3.out.bh.pr S3.out
        go_wp2_with fail
        go_region_held_law (fun w' : World => (w'.cell? ⟨qb, 0, none⟩ = some (.pointer (some ⟨hb, 0, none⟩)) ∧ w'.cell? ⟨qb, 1, none⟩ = some (.pointer (some ⟨xb, 0, none⟩))) ∧ w'.cell? ⟨sb, 0, none⟩ = some (.int .i64 sk) ∧ w'.cell? ⟨sb, 1, none⟩ = some (.int .i64 sn) ∧ w'.cell? ⟨sb, 2, none⟩ = some (.int .i64 sm) ∧ w'.cell? ⟨sb, 3, none⟩ = some (.int .i64 sa) ∧ w'.cell? ⟨sb, 4, none⟩ = some (.bool false) ∧ w'.cell? ⟨sb, 5, none⟩ = some (.int .u32 sw))
          (first
            | exact CH.out _ (B3.out.same (Kp.drew _ [])).bh.pr (Sty.nil (Kp.drew _ []) _ _ S3.out)
            | exact CH.out _ ((B3.out.same (Kp.drew _ [])).same hK4).bh.pr (Sty.nil hK4 _ _ (Sty.nil (Kp.drew _ []) _ _ S3.out)))
          (first
            | (go_at_call 13; refine (num_any _ _).mono ?_; rintro e wn ⟨rfl, hE⟩; rw [hE]; clear hE)
            | (go_at_call 27; refine (hset_no _ hb rb mb pb n g c _ (A + d) sw (B3.out.same (Kp.drew _ [])).hp B3.out.hs.ok (by omega) (by omega) HN.out).mono ?_; rintro e w4 ⟨rfl, hK4⟩))
        have PR := hid (show Dn w0 w4 qb n c ls from ⟨c, ls, by omega, by omega, _, _, _, _, _, _, _, _, _, _, _, _, _, (B3.out.same (Kp.drew _ [])).same hK4⟩)
        clear hK4 y0 y1 y2 y3 y4 y5 q0 q1 B3 S3 CH
        go_wp2
        go_ret
        exact ⟨rfl, PR.out⟩
      | true =>
        have HQ := hid (show (A + d) % 4 = 0 ∧ inQ (piecesOf L) (A + d) from ((inP_iff (A + d)).1 hin).2)
        clear hin
        go_wp2_with fail
        go_region_held_law (fun w' : World => (w'.cell? ⟨qb, 0, none⟩ = some (.pointer (some ⟨hb, 0, none⟩)) ∧ w'.cell? ⟨qb, 1, none⟩ = some (.pointer (some ⟨xb, 0, none⟩))) ∧ w'.cell? ⟨sb, 0, none⟩ = some (.int .i64 sk) ∧ w'.cell? ⟨sb, 1, none⟩ = some (.int .i64 sn) ∧ w'.cell? ⟨sb, 2, none⟩ = some (.int .i64 sm) ∧ w'.cell? ⟨sb, 3, none⟩ = some (.int .i64 sa) ∧ w'.cell? ⟨sb, 4, none⟩ = some (.bool false) ∧ w'.cell? ⟨sb, 5, none⟩ = some (.int .u32 sw))
          (first
            | exact CH.out _ (B2.out.same (Kp.drew _ [])).bh.pr (Sty.nil (Kp.drew _ []) _ _ S2.out)
            | exact CH.out _ hB3.bh.pr (hY3 _ _ (Sty.nil (Kp.drew _ []) _ _ S2.out)))
          ((go_at_call 42; refine (bo_rset (B2.out.same (Kp.drew _ [])) (A + d) sw HQ.out.1 HQ.out.2 WB.out.1 WB.out.2).mono ?_; rintro e w3 ⟨rfl, V3, G3, f3, hu3, hB3, hY3⟩))
        have B3 := hid hB3
        have S3 := hid (hY3 _ _ (Sty.nil (Kp.drew _ []) _ _ S2.out))
        have U3 := hid hu3
        clear hB3 hY3 hu3 B2 S2 y0 y1 y2 y3 y4 y5 q0 q1
        obtain ⟨⟨q0, q1⟩, y0, y1, y2, y3, y4, y5⟩ := CH.out _ B3.out.bh.pr S3.out
        go_wp2_with fail
        go_region_held_law (fun w' : World => (w'.cell? ⟨qb, 0, none⟩ = some (.pointer (some ⟨hb, 0, none⟩)) ∧ w'.cell? ⟨qb, 1, none⟩ = some (.pointer (some ⟨xb, 0, none⟩))) ∧ w'.cell? ⟨sb, 0, none⟩ = some (.int .i64 sk) ∧ w'.cell? ⟨sb, 1, none⟩ = some (.int .i64 sn) ∧ w'.cell? ⟨sb, 2, none⟩ = some (.int .i64 sm) ∧ w'.cell? ⟨sb, 3, none⟩ = some (.int .i64 sa) ∧ w'.cell? ⟨sb, 4, none⟩ = some (.bool false) ∧ w'.cell? ⟨sb, 5, none⟩ = some (.int .u32 sw))
          (first
            | exact CH.out _ (B3.out.same (Kp.drew _ [])).bh.pr (Sty.nil (Kp.drew _ []) _ _ S3.out)
            | exact CH.out _ hB4.bh.pr (hY4 _ _ (Sty.nil (Kp.drew _ []) _ _ S3.out)))
          ((go_at_call 27; refine (bo_pset (B3.out.same (Kp.drew _ [])) (A + d) sw HQ.out.1 HQ.out.2 WB.out.1 WB.out.2 U3.out (by omega)).mono ?_; rintro e w4 ⟨rfl, g4, c4, l4, u4, hB4, hY4⟩))
        have B4 := hid (hB4.less (X' := fun _ => False) (fun o h => h.1.elim (fun q => q) (fun q => h.2 q)))
        have S4 := hid (hY4 _ _ (Sty.nil (Kp.drew _ []) _ _ S3.out))
        clear hB4 hY4 B3 S3 y0 y1 y2 y3 y4 y5 q0 q1
        obtain ⟨⟨q0, q1⟩, y0, y1, y2, y3, y4, y5⟩ := CH.out _ B4.out.bh.pr S4.out
        go_wp2_with fail
        refine (bo_pget B4.out (A + d) HQ.out.1 HQ.out.2 (fun h => h) (by omega)).mono ?_
        rintro e w5 ⟨rfl, c5, l5, u5, hB5, hY5⟩
        have hwe : ((upW f3 ((A + d)).toNat 4 : Nat) : Int) = sw := by rw [U3.out]; exact Int.toNat_of_nonneg WB.out.1
        rw [hwe]
        clear hwe
        have S5 := hid (hY5 _ _ S4.out)
        have B5 := hid hB5
        have PR := hid (show Dn w0 w5 qb n c ls from ⟨c5, ls, by omega, by omega, _, _, _, _, _, _, _, _, _, _, _, _, _, hB5⟩)
        clear hB5 hY5 B4 S4 y0 y1 y2 y3 y4 y5 q0 q1
        obtain ⟨⟨q0, q1⟩, y0, y1, y2, y3, y4, y5⟩ := CH.out _ B5.out.bh.pr S5.out
        have hww : (sw == sw) = true := by simp
        clear B5 S5 CH
        go_wp2_with (go_at_call 13; refine (num_any _ _).mono ?_; rintro e wn ⟨rfl, hE⟩; rw [hE]; clear hE)
        go_ret
        exact ⟨rfl, PR.out⟩
end
end Go.Proofs.YtgefmnnkpffpcaaGreatDoor
