/- Words of both heaps, by their calls; the law's fresh. -/
import Derived.Test.YtgefmnnkpffpcaaGreatDoorSboJ
import Derived.Deep.RegionHeldLaw
import Derived.Ground.SlmcProg
import Derived.Shelf.SlMaps.Clone
import Derived.Test.YtgefmnnkpffpcaaGreatDoorProg
import Derived.Test.YtgefmnnkpffpcaaGreatDoorHmoveJ
import Derived.Test.YtgefmnnkpffpcaaGreatDoorCargsJ
namespace Go.Proofs.YtgefmnnkpffpcaaGreatDoor
open Go.RowKit Go.Maps

section
variable {w0 w w1 w2 : World} {qb hb rb mb pb xb eb n : Nat} {g g' : Mem} {c k : Int} {L L' : List Bl} {F F' : Nat → List Int} {V : Value} {G : Nat → Value} {f f' : Nat → Nat} {lv : Value} {ls : List Int} {X X' : Nat → Prop} {P' : Pcs}
theorem bo_rset (B : Bo w0 w qb hb rb mb pb xb eb n g c L F V G f lv ls X) (o W : Int) (h4 : o % 4 = 0) (hq : inQ (piecesOf L) o) (W0 : 0 ≤ W) (W1 : W < 4294967296) :
    Calls Tryz.prog 42 #[.pointer (some ⟨xb, 0, none⟩), .int .i64 o, .int .u32 W] w fun e w' => e = .returned (.tuple #[]) ∧ ∃ V' G' f', upW f' o.toNat 4 = W.toNat ∧ Bo w0 w' qb hb rb mb pb xb eb n g c L F V' G' f' lv ls (fun p => X p ∨ (p : Int) = o) ∧ Sty w w' := by
  have bd := inq_bd B.hs h4 hq
  obtain ⟨o, rfl⟩ := Int.eq_ofNat_of_zero_le (show 0 ≤ o by omega)
  obtain ⟨W, rfl⟩ := Int.eq_ofNat_of_zero_le W0
  refine (rset_any w xb eb n V G L F f o W B.bh.rh B.bh.mb (by omega) (by omega) (by omega)).mono ?_
  rintro e w' ⟨rfl, hM, hk⟩
  obtain ⟨V', G', b⟩ := B.rset (by omega) hM hk
  refine ⟨rfl, V', G', _, ?_, b.less fun p hp => ?_, B.bh.sty (hk.mono (fun x hx _ => by simp at hx; simp [hx]))⟩
  · simp only [Int.toNat_natCast]
    exact upW_set (by omega)
  · rcases hp with q | q
    · exact .inl q
    · exact .inr (by omega)
theorem bo_pset (B : Bo w0 w qb hb rb mb pb xb eb n g c L F V G f lv ls X) (o W : Int) (h4 : o % 4 = 0) (hq : inQ (piecesOf L) o) (W0 : 0 ≤ W) (W1 : W < 4294967296) (hW : upW f o.toNat 4 = W.toNat) (hc : c ≤ 1000000000000000) :
    Calls Tryz.prog 27 #[.pointer (some ⟨hb, 0, none⟩), .int .i64 o, .int .u32 W] w fun e w' => e = .returned (.int .i64 0) ∧ ∃ g' c', c ≤ c' ∧ c' ≤ c + 1 ∧ Bo w0 w' qb hb rb mb pb xb eb n g' c' L F V G f lv ls (fun p => X p ∧ (p : Int) ≠ o) ∧ Sty w w' := by
  have bd := inq_bd B.hs h4 hq
  obtain ⟨o, rfl⟩ := Int.eq_ofNat_of_zero_le (show 0 ≤ o by omega)
  obtain ⟨W, rfl⟩ := Int.eq_ofNat_of_zero_le W0
  refine (hset_ok w hb rb mb pb n g c _ o W B.hp (by omega) B.hs.ok (inq_has B.hs h4 hq).1 (by omega) (by omega)).mono ?_
  rintro e w' ⟨rfl, hw⟩
  have hK : Kp w w' [rb, mb, pb] := by
    obtain ⟨_, _, _, _, hK⟩ := hw
    exact hK.mono (by simp)
  obtain ⟨c', l1, l2, b⟩ := B.pset (o := o) (W := W) (by omega) hq (by simpa using hW) hw (by simp)
  refine ⟨rfl, _, c', l1, l2, b.less fun p hp => ⟨hp.1, ?_⟩, B.hp.sty hK⟩
  intro e
  exact hp.2 (by omega)
theorem bo_pgetK (B : Bo w0 w qb hb rb mb pb xb eb n g c L F V G f lv ls X) (o : Int) (h4 : o % 4 = 0) (hq : inQ (piecesOf L) o) (hx : ¬ X o.toNat) (hc : c ≤ 1000000000000000) :
    Calls Tryz.prog 12 #[.pointer (some ⟨hb, 0, none⟩), .int .i64 o] w fun e w' => e = .returned (.tuple #[.int .u32 (upW f o.toNat 4), .int .i64 0]) ∧ ∃ c', c ≤ c' ∧ c' ≤ c + 1 ∧ Bo w0 w' qb hb rb mb pb xb eb n g c' L F V G f lv ls X ∧ Kp w w' [rb, mb, pb] := by
  have bd := inq_bd B.hs h4 hq
  obtain ⟨o, rfl⟩ := Int.eq_ofNat_of_zero_le (show 0 ≤ o by omega)
  have hwd := B.word (o := o) (by omega) hq (by simpa using hx)
  refine (hget_ok w hb rb mb pb n g c _ o B.hp (by omega) B.hs.ok (inq_has B.hs h4 hq).1).mono ?_
  rintro e w' ⟨rfl, hw⟩
  rw [hwd]
  have hK : Kp w w' [rb, mb, pb] := by
    obtain ⟨_, _, _, _, hK⟩ := hw
    exact hK.mono (by simp)
  obtain ⟨c', l1, l2, b⟩ := B.looked hw (by simp)
  exact ⟨by simp, c', l1, l2, b, hK⟩
theorem bo_pget (B : Bo w0 w qb hb rb mb pb xb eb n g c L F V G f lv ls X) (o : Int) (h4 : o % 4 = 0) (hq : inQ (piecesOf L) o) (hx : ¬ X o.toNat) (hc : c ≤ 1000000000000000) :
    Calls Tryz.prog 12 #[.pointer (some ⟨hb, 0, none⟩), .int .i64 o] w fun e w' => e = .returned (.tuple #[.int .u32 (upW f o.toNat 4), .int .i64 0]) ∧ ∃ c', c ≤ c' ∧ c' ≤ c + 1 ∧ Bo w0 w' qb hb rb mb pb xb eb n g c' L F V G f lv ls X ∧ Sty w w' :=
  (bo_pgetK B o h4 hq hx hc).mono fun e w' q => ⟨q.1, by obtain ⟨c', a, b, d, k⟩ := q.2; exact ⟨c', a, b, d, B.hp.sty k⟩⟩
theorem bo_rget (B : Bo w0 w qb hb rb mb pb xb eb n g c L F V G f lv ls X) (o : Int) (h4 : o % 4 = 0) (hq : inQ (piecesOf L) o) :
    Calls Tryz.prog 14 #[.pointer (some ⟨xb, 0, none⟩), .int .i64 o] w fun e w' => e = .returned (.int .u32 (upW f o.toNat 4)) ∧ w' = w := by
  have bd := inq_bd B.hs h4 hq
  obtain ⟨o, rfl⟩ := Int.eq_ofNat_of_zero_le (show 0 ≤ o by omega)
  have := rget_any w xb eb n V G L F f o B.bh.rh B.bh.mb (by omega) (by omega)
  simpa using this
/-- A piece's size, of the reference. -/
theorem bo_rsize (B : Bo w0 w qb hb rb mb pb xb eb n g c L F V G f lv ls X) (o : Int) (h1 : o ≤ 9223372036854775807) :
    Calls Tryz.prog 39 #[.pointer (some ⟨xb, 0, none⟩), .int .i64 o] w fun e w' => e = .returned (.tuple #[.int .i64 (if hasP (piecesOf L) o then getP (piecesOf L) o - 8 else 0), .int .i64 (if hasP (piecesOf L) o then 0 else 6)]) ∧ w' = w := by
  have hl := B.hs.len
  cases hp : hasP (piecesOf L) o with
  | false => exact rsize_no B.bh.rh (by omega) (by omega) (no_piece hp)
  | true =>
    obtain ⟨A, z, r, hL, hz, -⟩ := is_piece B.hs hp
    have bd := B.hs.bd (x := (o - 8, z, false)) (by rw [hL]; simp)
    simp only at bd
    subst hL
    have := rsize_yes (i := A.length) (z := z) B.bh.rh (by omega) (by omega) (by omega) (by simp) (by rw [getElem!_pos _ _ (by simp)]; simp) B.hs.uniq (by omega) (by omega)
    rw [hz]
    exact this
theorem has_of (B : Bo w0 w qb hb rb mb pb xb eb n g c L F V G f lv ls X) {a z : Int} (hm : (a - 8, z, false) ∈ L) : hasP (piecesOf L) a = true ∧ getP (piecesOf L) a = z := by
  have hp : hasP (piecesOf L) a = true := (hasP_pieces _ _).2 ⟨(a - 8, z, false), hm, rfl, by simp⟩
  refine ⟨hp, ?_⟩
  obtain ⟨A, z', r, hL, hz, -⟩ := is_piece B.hs hp
  rw [hz]
  have := contig_inj B.hs.rep.ct (show (a - 8, z', false) ∈ L by rw [hL]; simp) hm rfl
  simpa using this
set_option maxRecDepth 100000 in
set_option maxHeartbeats 4000000 in
theorem fresh_any (a z was : Int) (B : Bo w0 w qb hb rb mb pb xb eb n g c L F V G f lv ls (fun o => a + was ≤ (o : Int) ∧ (o : Int) < a - 8 + z)) (hm : (a - 8, z, false) ∈ L) (h0 : 0 ≤ was) (h1 : was ≤ 65536) (hl : ls.length ≤ 1000) (hc : c ≤ 100000000000000) :
    Calls Tryz.prog 36 #[.pointer (some ⟨qb, 0, none⟩), .int .i64 a, .int .i64 was] w fun e w' => e = .returned (.bool true) ∧ ∃ g' c' V' G' f', c ≤ c' ∧ c' ≤ c + 70000 ∧ Bo w0 w' qb hb rb mb pb xb eb n g' c' L F V' G' f' lv ls (fun _ => False) := by
  have bd := B.hs.bd hm
  simp only at bd
  have hh := has_of B hm
  have HQ := hid (show ∀ j : Int, 0 ≤ j → j + 8 < z → inQ (piecesOf L) (a + j) from fun j j0 j1 => ⟨(a, z), mem_pieces.2 ⟨a - 8, hm, by simp⟩, by show a ≤ a + j; omega, by show a + j < a - 8 + z; omega⟩)
  have HS := bo_rsize B a (by omega)
  rw [hh.1, hh.2] at HS
  simp only [if_true] at HS
  have HS := hid HS
  have HB := hid B
  obtain ⟨ao, cap, hlv⟩ := B.bh.is.slice
  obtain ⟨N, hN⟩ : ∃ N, ls.length = N := ⟨_, rfl⟩
  rw [hN] at hl hlv
  have HLV := hid hlv
  have c1 := B.bh.c1
  have c2 := B.bh.c2
  rw [hlv] at c2
  have hw : IntKind.u32.wrap (1000 + (N : Int)) = 1000 + (N : Int) := by
    exact IntWalk.u32_in _ ⟨by omega, by omega⟩
  clear B hm hh hlv hN
  go_enter Tryz.func36, Tryz.ntmps36
  go_wp2_with fail
  refine HS.out.mono ?_
  rintro e w' ⟨rfl, hE⟩
  rw [hE]
  clear hE
  go_wp2_with fail
  go_loopw [10] (fun vk wr => ∃ j : Nat, 4 * (j : Int) ≤ z - 8 ∧ vk = .int .i64 (4 * (j : Int)) ∧ Hid (∃ g' c' V' G' f', c ≤ c' ∧ c' ≤ c + (j : Int) ∧ Bo w0 wr qb hb rb mb pb xb eb n g' c' L F V' G' f' lv ls (fun o => a + was ≤ (o : Int) ∧ a + 4 * (j : Int) ≤ (o : Int) ∧ (o : Int) < a - 8 + z))) (fun vk _ => (z - intOf vk).toNat)
  case atStart => exact ⟨0, by omega, rfl, _, c, _, _, _, by omega, by simp, HB.out.less (fun o h => ⟨h.1, by omega, h.2⟩)⟩
  case round =>
    obtain ⟨j, hj, rfl, hBj⟩ := hrel
    obtain ⟨g1, c1', V1, G1, f1, l1, u1, hB1⟩ := hBj.out
    clear hBj
    by_cases hlt : 4 * (j : Int) + 4 ≤ z - 8
    · have q0 := hB1.bh.c0
      have q1 := hB1.bh.c1
      have B1 := hid hB1
      have Q1 := hid (HQ.out (4 * (j : Int)) (by omega) (by omega))
      have h4 : (a + 4 * (j : Int)) % 4 = 0 := by omega
      clear hB1
      by_cases hws : was ≤ 4 * (j : Int)
      · go_wp2_with fail
        refine (bo_rset B1.out (a + 4 * (j : Int)) (1000 + (N : Int)) h4 Q1.out (by omega) (by omega)).mono ?_
        rintro e w2 ⟨rfl, V2, G2, f2, hu2, hB2, -⟩
        have B2 := hid hB2
        have U2 := hid hu2
        clear q0 q1 B1 hB2 hu2
        have q0 := B2.out.bh.c0
        go_wp2_with fail
        refine (bo_pset B2.out (a + 4 * (j : Int)) (1000 + (N : Int)) h4 Q1.out (by omega) (by omega) U2.out (by omega)).mono ?_
        rintro e w3 ⟨rfl, g3, c3, l3, u3, hB3, -⟩
        have B3 := hid hB3
        clear q0 B2 hB3 U2
        go_wp2_with (go_at_call 13; refine (num_any _ _).mono ?_; rintro e wn ⟨rfl, hE⟩; rw [hE]; clear hE)
        go_roundw
        case rel => exact ⟨j + 1, by omega, by simp; omega, g3, c3, V2, G2, f2, by omega, by simp; omega, B3.out.less4 (fun o o4 h => by have h1 := h.1; have h2 := h.2; simp; omega)⟩
        case measure => simp [intOf]; omega
      · have hws' : ¬ was ≤ 4 * (j : Int) := hws
        go_wp2_with fail
        refine (bo_pget B1.out (a + 4 * (j : Int)) h4 Q1.out (fun h => by have := h.1; omega) (by omega)).mono ?_
        rintro e w2 ⟨rfl, c2, l2, u2, hB2, -⟩
        have B2 := hid hB2
        clear q0 q1 B1 hB2
        have q1 := B2.out.bh.c1
        have UL := (upW_lt B2.out.bh.mb.by8 (a + 4 * (j : Int)).toNat).2.2.2.2
        have RG := hid (bo_rget B2.out (a + 4 * (j : Int)) h4 Q1.out)
        obtain ⟨u, hu⟩ : ∃ u, upW f1 (a + 4 * (j : Int)).toNat 4 = u := ⟨_, rfl⟩
        rw [hu] at RG UL ⊢
        have huu : ((u : Int) != (u : Int)) = false := by simp
        clear hu
        go_wp2_with (first | (go_at_call 13; refine (num_any _ _).mono ?_; rintro e wn ⟨rfl, hE⟩; rw [hE]; clear hE) | (go_at_call 14; refine RG.out.mono ?_; rintro e wn ⟨rfl, hE⟩; rw [hE]; clear hE))
        go_roundw
        case rel => exact ⟨j + 1, by omega, by simp; omega, g1, c2, V1, G1, f1, by omega, by simp; omega, B2.out.less4 (fun o o4 h => by have h1 := h.1; have h2 := h.2; simp; omega)⟩
        case measure => simp [intOf]; omega
    · have hlt' : ¬ 4 * (j : Int) + 4 ≤ z - 8 := hlt
      have BE := hid (show ∃ g' c' V' G' f', c ≤ c' ∧ c' ≤ c + 70000 ∧ Bo w0 wr qb hb rb mb pb xb eb n g' c' L F V' G' f' lv ls (fun _ => False) from ⟨g1, c1', V1, G1, f1, l1, by omega, ⟨hB1.bh, hB1.hp, hB1.hs, fun o o4 oq _ => hB1.ag o o4 oq (fun h => by omega), hB1.ne, hB1.lo, hB1.n8⟩⟩)
      clear hB1
      go_wp2
      go_ret
      obtain ⟨g', c', V', G', f', e1, e2, e3⟩ := BE.out
      exact ⟨rfl, g', c', e1, e2, V', G', f', e3⟩
end
end Go.Proofs.YtgefmnnkpffpcaaGreatDoor

/- The shelf laid at this program: maps.Clone. -/
namespace Go.Proofs
open Go.Shelf
def Tryz.cloneM_ren : Go.Shelf.Ren := ⟨fun | 5 => 86 | 7 => 115 | n => n, fun | 23 => 65 | 25 => 3 | 3 => 3 | 4 => 4 | 20 => 20 | n => n, fun | n => n⟩
theorem Tryz.cloneM : Go.Proofs.SlLaysW.n5 Tryz.prog Tryz.cloneM_ren := {
  mixed := by kernel_rfl
  f5 := ⟨Tryz.f86.name, by decide, Tryz.func86.trans (congrArg some (by kernel_rfl))⟩
  f7 := Tryz.func115.trans (congrArg some (by kernel_rfl))
  t4 := Tryz.underlying4
  a4 := Tryz.isAgg4
  z4 := Tryz.sizeOf4
  v4 := Tryz.zeroValue4
  t20 := Tryz.underlying20
  a20 := Tryz.isAgg20
  z20 := Tryz.sizeOf20
  v20 := Tryz.zeroValue20
  t23 := Tryz.underlying65
  a23 := Tryz.isAgg65
  z23 := Tryz.sizeOf65
  v23 := Tryz.zeroValue65 }
end Go.Proofs

/- Copy of an arena; copy of a heap. -/
namespace Go.Proofs.YtgefmnnkpffpcaaGreatDoor
open Go.RowKit Go.Maps

theorem keep2 {w w' : World} {rows : List Nat} {a b i j : Nat} {u v : Value} (h : w.cell? ⟨a, i, none⟩ = some u ∧ w.cell? ⟨b, j, none⟩ = some v) (hk : Kp w w' rows) (hn : a ∉ rows ∧ b ∉ rows) : w'.cell? ⟨a, i, none⟩ = some u ∧ w'.cell? ⟨b, j, none⟩ = some v :=
  ⟨hk.cell h.1 hn.1, hk.cell h.2 hn.2⟩
theorem ar_of_owned {w1 : World} {base n : Nat} {v : Value} {f : Nat → Int} {c : Int} (hn : 0 < n) (hby : ∀ i, i < n → 0 ≤ f i ∧ f i < 256) (hown : w1.ownsRow base 5 1 v n (ub (part f 0 n))) :
    ∃ mb, base ≤ mb ∧ mb < w1.heap.size ∧ Ar (w1.alloc (.cells #[v, .int .i64 c] 85)) w1.heap.size mb n f c := by
  rcases hown.2 with ⟨hc, h0⟩ | ⟨g, cap, cur, rfl, hb, hg, hnc, hcm, hcs, htake⟩
  · omega
  · have hlt := lt_of_block hg
    refine ⟨g, hb, hlt, cap, cur, heap_alloc_new w1 _, (Below.heap_alloc w1 _ _ hlt).trans hg, hnc, by omega, hcm, fun i hi => ⟨?_, hby i hi⟩⟩
    have : (cur.toList.take (n * 1))[i]? = some (.int .u8 (f i)) := by rw [htake]; simp [ub, part, hi]
    rw [List.getElem?_take_of_lt (by omega)] at this
    simpa using this

set_option maxRecDepth 100000 in
set_option maxHeartbeats 1000000 in
theorem copy_ok (w : World) (rb mb n : Nat) (f : Nat → Int) (c : Int) (h : Ar w rb mb n f c) (hn0 : 0 < n) (hn : n ≤ 65536) :
    Calls Tryz.prog 85 #[.pointer (some ⟨rb, 0, none⟩)] w fun e w' => ∃ rb' mb', e = .returned (.pointer (some ⟨rb', 0, none⟩)) ∧ Ar w' rb' mb' n f c ∧ w.heap.size ≤ rb' ∧ w.heap.size ≤ mb' ∧ Kp w w' [] := by
  have H := hid h
  obtain ⟨cap, cur, hr, hm, hncap, hcap, hmax, hcur⟩ := h
  have hc0 := cell_two0 hr
  have hc1 := cell_two1 hr
  have hnn := fun w : World => not_nil w mb n cap
  have HBS := hid (ar_part (w := w.drew) (o := 0) (m := n) hm hcur (by omega) 0 cap hncap (fun _ => rfl))
  have HBL := hid (show (part f 0 n).length ≤ 140737488355328 by rw [part_length]; omega)
  have hst := And.intro hc0 hc1
  clear hr hm hcur
  go_enter Tryz.func85, Tryz.ntmps85
  go_wp2_with (go_at_call 52; go_in)
  clear hnn hc0 hc1
  go_region_held (fun w' => w'.cell? ⟨rb, 0, none⟩ = some (.slice (some ⟨mb, 0, none⟩) n cap) ∧ w'.cell? ⟨rb, 1, none⟩ = some (.int .i64 c))
    (first
      | exact keep2 hst (Kp.drew _ []) (by simp)
      | exact keep2 hst ((Kp.drew _ []).trans (Kp.grown hg4)) (by simp)
      | exact keep2 hst (((Kp.drew _ []).trans (Kp.grown hg4)).trans (Kp.alloc _ _ _)) (by simp))
    ((go_at_call 114; refine (clone_any _ _ n cap (part f 0 n) (part_length _ _ _) HBS.out HBL.out).mono ?_; rintro e w4 ⟨v4, rfl, hown4, hg4⟩; obtain ⟨ao4, cap4, rfl⟩ := owns_shape hown4))
  have HG := hid ((Kp.drew w []).trans (Kp.grown hg4))
  rw [part_length] at hown4
  obtain ⟨mb', hb', hlt', hA⟩ := ar_of_owned (c := c) hn0 (fun i hi => H.out.byte i hi) hown4
  have HA := hid hA
  have HB := hid hb'
  have HS := hid HG.out.size
  clear hA hb' hlt' hown4 hg4
  rw [part_length]
  go_wp2
  go_ret
  exact ⟨_, _, rfl, HA.out, HS.out, HB.out, HG.out.trans (Kp.alloc _ _ _)⟩
theorem Kp.ofBelow {w w' : World} (h : Below w.heap.size w w') : Kp w w' [] := ⟨h.os, h.tape, h.output, h.size, fun k hk _ => h.block k hk⟩
set_option maxRecDepth 100000 in
set_option maxHeartbeats 1000000 in
theorem hcopy_ok (w : World) (hb rb mb pb n : Nat) (g : Mem) (c : Int) (P : Pcs) (h : Hp w hb rb mb pb n g c P) (hn0 : 0 < n) :
    Calls Tryz.prog 43 #[.pointer (some ⟨hb, 0, none⟩)] w fun e w' => ∃ hb' rb' mb' pb', e = .returned (.pointer (some ⟨hb', 0, none⟩)) ∧ Hp w' hb' rb' mb' pb' n g c P ∧ (w.heap.size ≤ hb' ∧ w.heap.size ≤ rb' ∧ w.heap.size ≤ mb' ∧ w.heap.size ≤ pb') ∧ Kp w w' [] := by
  have u0 := h.c0cell
  have u1 := h.c1cell
  have H := hid h
  obtain ⟨f, hf, hfg⟩ := h.aw
  have FA := hid hf
  have FG := hid hfg
  have hnb := h.nb
  have HST := hid (And.intro u0 u1)
  clear h hf hfg
  go_enter Tryz.func43, Tryz.ntmps43
  go_wp2_with (go_at_call 51; go_in)
  clear u0 u1
  go_region_held_law (fun w' => w'.cell? ⟨hb, 0, none⟩ = some (.pointer (some ⟨rb, 0, none⟩)) ∧ w'.cell? ⟨hb, 1, none⟩ = some (.map (some pb)))
    (first
      | exact keep2 HST.out (Kp.drew _ []) (by simp)
      | exact keep2 HST.out ((((Kp.drew _ []).trans hK3).trans hK4).trans (Kp.alloc _ _ _)) (by simp)
      | exact keep2 HST.out (((Kp.drew _ []).trans hK3).trans hK4) (by simp)
      | exact keep2 HST.out ((Kp.drew _ []).trans hK3) (by simp))
    (first
      | (go_at_call 86; refine (AnyW.maps_Clone_owns (H := Unit) Tryz.cloneM 3 (plainElem Tryz.prog 3) pb P.length (dat P) _ ((H.out.same ((Kp.drew _ []).trans hK3)).mp)).mono ?_; rintro e w4 ⟨rfl, hM4, -, hB4⟩; have hK4 := Kp.ofBelow hB4)
      | (go_at_call 85; refine (copy_ok _ rb mb n f c (FA.out.keep (Kp.drew _ []) (by simp) (by simp)) hn0 hnb).mono ?_; rintro e w3 ⟨rb3, mb3, rfl, hA3, hr3, hm3, hK3⟩))
  have K4 := hid (((Kp.drew w []).trans hK3).trans hK4)
  have K5 := hid (Kp.alloc w4 (.cells #[.pointer (some ⟨rb3, 0, none⟩), .map (some w3.heap.size)] 67) [])
  have s3 := hid hK3.size
  have s4 := hid hK4.size
  have h0 := hid H.out.tb.lt
  have R3 := hid hr3
  have M3 := hid hm3
  have A5 := hid (show Aw (w4.alloc (.cells #[.pointer (some ⟨rb3, 0, none⟩), .map (some w3.heap.size)] 67)) rb3 mb3 n g c from ⟨f, (hA3.keep hK4 (by simp) (by simp)).keep K5.out (by simp) (by simp), FG.out⟩)
  have P5 := hid ((show Mp w4 w3.heap.size P from hM4).keep K5.out (by simp))
  have T5 := hid (H.out.tb.keep (K4.out.trans K5.out) (by simp))
  rename_i hh
  clear hh hK3 hK4 hr3 hm3 hA3 hM4 hB4
  go_wp2
  go_ret
  refine ⟨_, _, _, _, rfl, ⟨heap_alloc_new _ _, A5.out, P5.out, hnb, H.out.c0, T5.out, ?_⟩, ?_, K4.out.trans K5.out⟩
  · have := s3.out; have := s4.out; have := h0.out; have := R3.out; have := M3.out
    have e : w.drew.heap.size = w.heap.size := rfl
    omega
  · have := s3.out; have := s4.out; have := R3.out; have := M3.out
    have e : w.drew.heap.size = w.heap.size := rfl
    omega
end Go.Proofs.YtgefmnnkpffpcaaGreatDoor

/- The law's do: one step, of both heaps. -/
namespace Go.Proofs.YtgefmnnkpffpcaaGreatDoor
open Go.RowKit Go.Maps

theorem and31 (x : Int) : 0 ≤ bits .and .i64 x 31 ∧ bits .and .i64 x 31 ≤ 31 := by
  have h : (BitVec.ofInt 64 x &&& BitVec.ofInt 64 31).toNat ≤ 31 := by
    rw [BitVec.toNat_and]
    exact Nat.and_le_right
  have e : bits .and .i64 x 31 = ((BitVec.ofInt 64 x &&& BitVec.ofInt 64 31).toNat : Int) := by
    show IntKind.i64.wrap ((BitVec.ofInt 64 x &&& BitVec.ofInt 64 31).toNat : Int) = _
    exact wrap64_small _ (by omega)
  rw [e]
  omega
/-- The program has gone on, the reference not yet. -/
structure Md (w0 w : World) (qb hb rb mb pb xb eb n : Nat) (g' : Mem) (c' : Int) (L : List Bl) (F : Nat → List Int) (V : Value) (G : Nat → Value) (f : Nat → Nat) (lv : Value) (ls : List Int) (L' : List Bl) : Prop where
  bh : Bh w0 w qb hb xb eb n L F V G f lv ls
  hp : Hp w hb rb mb pb n g' c' (piecesOf L')
  ne : mb ≠ eb
  lo : w0.heap.size ≤ hb ∧ w0.heap.size ≤ rb ∧ w0.heap.size ≤ mb ∧ w0.heap.size ≤ pb
  n8 : 128 ≤ n
/-- Both, between steps. -/
def Pr (w0 w : World) (qb n : Nat) (c : Int) (ls : List Int) : Prop := ∃ hb rb mb pb xb eb g L F V G f lv, Bo w0 w qb hb rb mb pb xb eb n g c L F V G f lv ls (fun _ => False)
/-- What a step leaves. -/
def Dn (w0 w : World) (qb n : Nat) (c : Int) (ls : List Int) : Prop := ∃ c' ls', c' ≤ c + 80000 ∧ ls'.length ≤ ls.length + 1 ∧ Pr w0 w qb n c' ls'
section
variable {w0 w w1 w2 : World} {qb hb rb mb pb xb eb n : Nat} {g g' : Mem} {c c' k : Int} {L L' : List Bl} {F F' : Nat → List Int} {V : Value} {G : Nat → Value} {f f' : Nat → Nat} {lv : Value} {ls : List Int} {X X' : Nat → Prop} {P' : Pcs}
theorem Md.same (M : Md w0 w qb hb rb mb pb xb eb n g' c' L F V G f lv ls L') (hk : Kp w w1 []) : Md w0 w1 qb hb rb mb pb xb eb n g' c' L F V G f lv ls L' :=
  ⟨M.bh.same hk, M.hp.same hk, M.ne, M.lo, M.n8⟩
theorem Bo.mid (B : Bo w0 w qb hb rb mb pb xb eb n g c L F V G f lv ls X) (h1 : Went w w1 hb rb mb pb n g' (piecesOf L') c k [rb, mb, pb]) :
    ∃ c', c ≤ c' ∧ c' ≤ c + k ∧ Md w0 w1 qb hb rb mb pb xb eb n g' c' L F V G f lv ls L' ∧ Sty w w1 := by
  have bh := B.half h1
  obtain ⟨c', l1, l2, hH, hk⟩ := h1
  exact ⟨c', l1, l2, ⟨bh, hH, B.ne, B.lo, B.n8⟩, B.hp.sty hk⟩
theorem Md.ref (M : Md w0 w qb hb rb mb pb xb eb n g' c' L F V G f lv ls L') (h2 : Rm w w2 xb eb n V G L' F' f') (hs : Hs n g' L' F') (ag : Ag f' g' (piecesOf L') X') :
    ∃ V' G', Bo w0 w2 qb hb rb mb pb xb eb n g' c' L' F' V' G' f' lv ls X' ∧ Sty w w2 := by
  obtain ⟨V', G', b2⟩ := M.bh.ref h2
  obtain ⟨-, -, -, -, k2, -⟩ := h2
  exact ⟨V', G', ⟨b2, M.hp.over M.bh M.ne k2, hs, ag, M.ne, M.lo, M.n8⟩, M.bh.sty k2⟩
theorem Bh.lt (B : Bh w0 w qb hb xb eb n L F V G f lv ls) : qb < w.heap.size := lt_of_block B.pr
theorem offP_bd {s : St} (hfit : s.fit) (hb : ∀ x ∈ ls, 0 ≤ x ∧ x ≤ 65536) : -9223372036854775808 ≤ offP s ls ∧ offP s ls ≤ 9223372036854775807 := by
  rcases offP_cases s ls with h | ⟨-, h⟩
  · rw [h]; exact hfit.2.2.2.1
  · have := hb _ h; omega
end
end Go.Proofs.YtgefmnnkpffpcaaGreatDoor

/- The law's do: one kind of step. -/
namespace Go.Proofs.YtgefmnnkpffpcaaGreatDoor
open Go.RowKit Go.Maps

section
variable {w0 w w1 w2 : World} {qb hb rb mb pb xb eb n : Nat} {g g' : Mem} {c c' k : Int} {L L' : List Bl} {F F' : Nat → List Int} {V : Value} {G : Nat → Value} {f f' : Nat → Nat} {lv : Value} {ls : List Int} {X X' : Nat → Prop} {P' : Pcs}
set_option maxRecDepth 100000 in
set_option maxHeartbeats 8000000 in
theorem do0 (B : Bo w0 w qb hb rb mb pb xb eb n g c L F V G f lv ls (fun _ => False)) (sk sn sm sa : Int) (so : Bool) (sw : Int) (hfit : St.fit ⟨sk, sn, sm, sa, so, sw⟩) (hk : sk ≠ 1 ∧ sk ≠ 2 ∧ sk ≠ 3 ∧ sk ≠ 4 ∧ sk ≠ 5 ∧ sk ≠ 6) (hl : ls.length ≤ 500) (hc : c ≤ 10000000000000) :
    Calls Tryz.prog 10 #[.pointer (some ⟨qb, 0, none⟩), .agg #[.int .i64 sk, .int .i64 sn, .int .i64 sm, .int .i64 sa, .bool so, .int .u32 sw]] w fun e w' => e = .returned (.bool true) ∧ Dn w0 w' qb n c ls := by
  have K0 := Kp.alloc w (.cells #[.int .i64 sk, .int .i64 sn, .int .i64 sm, .int .i64 sa, .bool so, .int .u32 sw] 35) []
  have B0 := hid (B.same K0)
  have S0 := hid (heap_alloc_new w (.cells #[.int .i64 sk, .int .i64 sn, .int .i64 sm, .int .i64 sa, .bool so, .int .u32 sw] 35))
  obtain ⟨W0, hW0⟩ : ∃ W0, w.alloc (.cells #[.int .i64 sk, .int .i64 sn, .int .i64 sm, .int .i64 sa, .bool so, .int .u32 sw] 35) = W0 := ⟨_, rfl⟩
  obtain ⟨y0, y1, y2, y3, y4, y5⟩ := cell6 (w := w) (a := .int .i64 sk) (b := .int .i64 sn) (c := .int .i64 sm) (d := .int .i64 sa) (e := .bool so) (f := .int .u32 sw)
  obtain ⟨sb, hsb⟩ : ∃ sb, w.heap.size = sb := ⟨_, rfl⟩
  rw [hW0, hsb] at y0 y1 y2 y3 y4 y5 S0
  rw [hW0] at B0
  have CH := hid (fun (w' : World) (h1 : w'.heap[qb]? = some (.cells #[.pointer (some ⟨hb, 0, none⟩), .pointer (some ⟨xb, 0, none⟩), lv] 31 (0, 0))) (h2 : w'.heap[sb]? = some (.cells #[.int .i64 sk, .int .i64 sn, .int .i64 sm, .int .i64 sa, .bool so, .int .u32 sw] 35 (0, 0))) =>
    (show (w'.cell? ⟨qb, 0, none⟩ = some (.pointer (some ⟨hb, 0, none⟩)) ∧ w'.cell? ⟨qb, 1, none⟩ = some (.pointer (some ⟨xb, 0, none⟩))) ∧ w'.cell? ⟨sb, 0, none⟩ = some (.int .i64 sk) ∧ w'.cell? ⟨sb, 1, none⟩ = some (.int .i64 sn) ∧ w'.cell? ⟨sb, 2, none⟩ = some (.int .i64 sm) ∧ w'.cell? ⟨sb, 3, none⟩ = some (.int .i64 sa) ∧ w'.cell? ⟨sb, 4, none⟩ = some (.bool so) ∧ w'.cell? ⟨sb, 5, none⟩ = some (.int .u32 sw) from
      ⟨⟨(cell_tri h1).1, (cell_tri h1).2.1⟩, by rw [cell_of_row _ _ _ _ _ _ h2]; rfl, by rw [cell_of_row _ _ _ _ _ _ h2]; rfl, by rw [cell_of_row _ _ _ _ _ _ h2]; rfl, by rw [cell_of_row _ _ _ _ _ _ h2]; rfl, by rw [cell_of_row _ _ _ _ _ _ h2]; rfl, by rw [cell_of_row _ _ _ _ _ _ h2]; rfl⟩))
  have HFIT := hid hfit
  have kf1 : (sk == 1) = false := by simp; omega
  have kf2 : (sk == 2) = false := by simp; omega
  have kf3 : (sk == 3) = false := by simp; omega
  have kf4 : (sk == 4) = false := by simp; omega
  have kf5 : (sk == 5) = false := by simp; omega
  have kf6 : (sk == 6) = false := by simp; omega
  clear B K0 hfit hk
  go_enter Tryz.func10, Tryz.ntmps10
  go_wp2_with fail
  clear hW0 hsb
  refine (off_any B0.out.bh ⟨sk, sn, sm, sa, so, sw⟩ (by omega)).mono ?_
  rintro e w1 ⟨rfl, hK1⟩
  have B1 := hid (B0.out.same hK1)
  have S1 := hid (Sty.nil hK1 _ _ S0.out)
  obtain ⟨A, hA⟩ : ∃ A, offP ⟨sk, sn, sm, sa, so, sw⟩ ls = A := ⟨_, rfl⟩
  rw [hA]
  have HA := hid hA
  clear hK1 y0 y1 y2 y3 y4 y5 B0 S0 hA
  obtain ⟨⟨q0, q1⟩, y0, y1, y2, y3, y4, y5⟩ := CH.out _ B1.out.bh.pr S1.out
  have _hc := hc
  clear HA HFIT CH
  have PR := hid (show Dn w0 w1 qb n c ls from ⟨c, ls, by omega, by omega, _, _, _, _, _, _, _, _, _, _, _, _, _, B1.out⟩)
  clear B1 S1
  go_wp2
  go_ret
  exact ⟨rfl, PR.out⟩
end
end Go.Proofs.YtgefmnnkpffpcaaGreatDoor
