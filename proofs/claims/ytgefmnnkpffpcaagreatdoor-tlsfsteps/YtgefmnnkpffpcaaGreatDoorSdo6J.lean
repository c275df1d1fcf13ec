/- The law's do: one kind of step. -/
import Derived.Test.YtgefmnnkpffpcaaGreatDoorSfreshJ
import Derived.Test.YtgefmnnkpffpcaaGreatDoorRgetJ
import Derived.Test.YtgefmnnkpffpcaaGreatDoorRfree
import Derived.Test.YtgefmnnkpffpcaaGreatDoorSdo1J
import Derived.Test.YtgefmnnkpffpcaaGreatDoorSdo4J
namespace Go.Proofs.YtgefmnnkpffpcaaGreatDoor
open Go.RowKit Go.Maps

section
variable {w0 w w1 w2 : World} {qb hb rb mb pb xb eb n : Nat} {g g' : Mem} {c c' k : Int} {L L' : List Bl} {F F' : Nat → List Int} {V : Value} {G : Nat → Value} {f f' : Nat → Nat} {lv : Value} {ls : List Int} {X X' : Nat → Prop} {P' : Pcs}
theorem Bh.swap (B : Bh w0 w qb hb xb eb n L F V G f lv ls) {hb' rb' mb' pb' : Nat} (H' : Hp w hb' rb' mb' pb' n g c (piecesOf L)) (hs : Hs n g L F) (ag : Ag f g (piecesOf L) X) (ne : mb' ≠ eb) (lo : w0.heap.size ≤ hb' ∧ w0.heap.size ≤ rb' ∧ w0.heap.size ≤ mb' ∧ w0.heap.size ≤ pb') (n8 : 128 ≤ n) :
    Bo w0 (w.setCell ⟨qb, 0, none⟩ (.pointer (some ⟨hb', 0, none⟩))) qb hb' rb' mb' pb' xb eb n g c L F V G f lv ls X := by
  have hset := Kp.setCell w ⟨qb, 0, none⟩ (.pointer (some ⟨hb', 0, none⟩))
  have hq := H'.off4 B.pr (by decide) (by decide) (.inl (by decide))
  obtain ⟨ecur, he, -, -⟩ := B.mb.blk
  have bl := B.lo
  have bz := B.z0
  refine ⟨⟨?_, B.is.kp hset (fun g hg => ?_), B.rh.keep hset ?_ (fun g hg => ?_) (fun c g hc hg => ?_), B.mb.keep hset ?_, B.lo, B.lf, B.bd, B.kp.past hset ?_, B.z0⟩, H'.keep hset ?_ ?_ ?_ ?_ ?_, hs, ag, ne, lo, n8⟩
  · rw [heap_setCell_same w qb 0 _ 31 _ B.pr]
    rfl
  · obtain ⟨-, cur, hc⟩ := owns_block B.is hg
    simpa using block_ne hc B.pr (by decide)
  · simpa using block_ne B.rh.blk B.pr (by decide)
  · obtain ⟨-, cur, hc⟩ := owns_block B.rh.row hg
    simpa using block_ne hc B.pr (by decide)
  · obtain ⟨-, cur, hcc⟩ := owns_block (B.rh.lst c hc) hg
    simpa using block_ne hcc B.pr (by decide)
  · simpa using block_ne he B.pr (by decide)
  · intro k hm hl
    simp at hm
    omega
  all_goals (simp; omega)
/-- Free of a heap alone. -/
theorem free_some (h : Hs n g L F) (o : Int) (h0 : -9223372036854775808 ≤ o) (h1 : o ≤ 9223372036854775807) :
    ∃ (er : Int) (g' : Mem) (P' : Pcs), ∀ w hb rb mb pb c, Hp w hb rb mb pb n g c (piecesOf L) → c ≤ 1000000000000000 → Calls Tryz.prog 21 #[.pointer (some ⟨hb, 0, none⟩), .int .i64 o] w fun e w' => e = .returned (.int .i64 er) ∧ Went w w' hb rb mb pb n g' P' c 100 [rb, mb, pb] := by
  cases hp : hasP (piecesOf L) o with
  | false => exact ⟨6, g, _, fun w hb rb mb pb c hH _ => (hfree_no w hb rb mb pb n g c _ o hH h0 h1 hp).mono fun e w' q => ⟨q.1, Went.same hH q.2 (by omega)⟩⟩
  | true =>
    obtain ⟨A, z, r, hL, hz, hmem⟩ := is_piece h hp
    have hb := h.bd (x := (o - 8, z, false)) (by rw [hL]; simp)
    simp only at hb
    exact ⟨0, _, _, fun w hb' rb mb pb c hH hc => (hfree_ok w hb' rb mb pb n g c _ o z hH (by omega) (by omega) hp hz (by omega) (by omega) (by omega)).mono fun e w' q => ⟨q.1, q.2.more (by simp) (by omega)⟩⟩
set_option maxRecDepth 100000 in
set_option maxHeartbeats 8000000 in
theorem do6 (B : Bo w0 w qb hb rb mb pb xb eb n g c L F V G f lv ls (fun _ => False)) (sk sn sm sa : Int) (so : Bool) (sw : Int) (hfit : St.fit ⟨sk, sn, sm, sa, so, sw⟩) (hk : sk = 6) (hl : ls.length ≤ 500) (hc : c ≤ 10000000000000) :
    Calls Tryz.prog 10 #[.pointer (some ⟨qb, 0, none⟩), .agg #[.int .i64 sk, .int .i64 sn, .int .i64 sm, .int .i64 sa, .bool so, .int .u32 sw]] w fun e w' => e = .returned (.bool true) ∧ Dn w0 w' qb n c ls := by
  have K0 := Kp.alloc w (.cells #[.int .i64 sk, .int .i64 sn, .int .i64 sm, .int .i64 sa, .bool so, .int .u32 sw] 35) []
  have B0 := hid (B.same K0)
  have S0 := hid (heap_alloc_new w (.cells #[.int .i64 sk, .int .i64 sn, .int .i64 sm, .int .i64 sa, .bool so, .int .u32 sw] 35))
  obtain ⟨W0, hW0⟩ : ∃ W0, w.alloc (.cells #[.int .i64 sk, .int .i64 sn, .int .i64 sm, .int .i64 sa, .bool so, .int .u32 sw] 35) = W0 := ⟨_, rfl⟩
  obtain ⟨y0, y1, y2, y3, y4, y5⟩ := cell6 (w := w) (a := .int .i64 sk) (b := .int .i64 sn) (c := .int .i64 sm) (d := .int .i64 sa) (e := .bool so) (f := .int .u32 sw)
  obtain ⟨sb, hsb⟩ : ∃ sb, w.heap.size = sb := ⟨_, rfl⟩
  rw [hW0, hsb] at y0 y1 y2 y3 y4 y5 S0
  rw [hW0] at B0
  have CH := hid (fun (w' : World) (h1 : w'.heap[qb]? = some (.cells #[.pointer (some ⟨hb, 0, none⟩), .pointer (some ⟨xb, 0, none⟩), lv] 31 (0, 0))) (h2 : w'.heap[sb]? = some (.cells #[.int .i64 sk, .int .i64 sn, .int .i64 sm, .int .i64 sa, .bool so, .int .u32 sw] 35 (0, 0))) =>
    (show (w'.cell? ⟨qb, 0, none⟩ = some (.pointer (some ⟨hb, 0, none⟩)) ∧ w'.cell? ⟨qb, 1, none⟩ = some (.pointer (some ⟨xb, 0, none⟩))) ∧ w'.cell? ⟨sb, 0, none⟩ = some (.int .i64 sk) ∧ w'.cell? ⟨sb, 1, none⟩ = some (.int .i64 sn) ∧ w'.cell? ⟨sb, 2, none⟩ = some (.int .i64 sm) ∧ w'.cell? ⟨sb, 3, none⟩ = some (.int .i64 sa) ∧ w'.cell? ⟨sb, 4, none⟩ = some (.bool so) ∧ w'.cell? ⟨sb, 5, none⟩ = some (.int .u32 sw) from
      ⟨⟨(cell_tri h1).1, (cell_tri h1).2.1⟩, by rw [cell_of_row _ _ _ _ _ _ h2]; rfl, by rw [cell_of_row _ _ _ _ _ _ h2]; rfl, by rw [cell_of_row _ _ _ _ _ _ h2]; rfl, by rw [cell_of_row _ _ _ _ _ _ h2]; rfl, by rw [cell_of_row _ _ _ _ _ _ h2]; rfl, by rw [cell_of_row _ _ _ _ _ _ h2]; rfl⟩))
  have HFIT := hid hfit
  have kt : (sk == 6) = true := by simp [hk]
  have kf1 : (sk == 1) = false := by simp [hk]
  have kf2 : (sk == 2) = false := by simp [hk]
  have kf3 : (sk == 3) = false := by simp [hk]
  have kf4 : (sk == 4) = false := by simp [hk]
  have kf5 : (sk == 5) = false := by simp [hk]
  clear B K0 hfit hk
  go_enter Tryz.func10, Tryz.ntmps10
  go_wp2_with fail
  clear hW0 hsb
  refine (off_any B0.out.bh ⟨sk, sn, sm, sa, so, sw⟩ (by omega)).mono ?_
  rintro e w1 ⟨rfl, hK1⟩
  have B1 := hid (B0.out.same hK1)
  have S1 := hid (Sty.nil hK1 _ _ S0.out)
  obtain ⟨A, hA⟩ : ∃ A, offP ⟨sk, sn, sm, sa, so, sw⟩ ls = A := ⟨_, rfl⟩
  rw [hA]
  have HA := hid hA
  clear hK1 y0 y1 y2 y3 y4 y5 B0 S0 hA
  obtain ⟨⟨q0, q1⟩, y0, y1, y2, y3, y4, y5⟩ := CH.out _ B1.out.bh.pr S1.out
  clear HA HFIT CH
  have hnn := B1.out.hs.rep.nn
  have n8 := B1.out.n8
  go_wp2_with fail
  refine (hcopy_ok _ hb rb mb pb n g c _ B1.out.hp (by omega)).mono ?_
  rintro e w2 ⟨hb2, rb2, mb2, pb2, rfl, hH2, hlo2, hK2⟩
  have B2 := hid (B1.out.same hK2)
  have H2 := hid hH2
  have ol := B1.out.hp.lt
  obtain ⟨ecur, he, -, -⟩ := B1.out.bh.mb.blk
  have LO := hid (show (w0.heap.size ≤ hb2 ∧ w0.heap.size ≤ rb2 ∧ w0.heap.size ≤ mb2 ∧ w0.heap.size ≤ pb2) ∧ mb2 ≠ eb from ⟨by have := B1.out.bh.kp.size; omega, by have := lt_of_block he; omega⟩)
  have KN := hid (show ∀ (A B : World) (g' : Mem) (c' : Int) (P' : Pcs), Kp A B [rb, mb, pb] → Hp A hb2 rb2 mb2 pb2 n g' c' P' → Hp B hb2 rb2 mb2 pb2 n g' c' P' from fun A B g' c' P' hk hh => by
    have l0 := B1.out.lo
    have z0 := B1.out.bh.z0
    refine hh.keep hk ?_ ?_ ?_ ?_ ?_ <;> simp <;> omega)
  clear hH2 hlo2 hK2 B1 S1 ol he y0 y1 y2 y3 y4 y5 q0 q1
  have q0 := B2.out.bh.c0
  obtain ⟨a3, er3, g3, L3, F3, f3, hs3, -, -, -, -, -, hp3, -⟩ := tw_alloc B2.out.hs B2.out.ag 1
  have P3 := hid (hp3 _ hb rb mb pb c B2.out.hp (by omega))
  have HS3 := hid hs3
  clear hp3 hs3
  go_wp2_with fail
  refine P3.out.mono ?_
  rintro e w3 ⟨rfl, hw3⟩
  have B3 := hid (B2.out.half hw3)
  obtain ⟨c3, l3, u3, hH3, hK3⟩ := hw3
  have H3 := hid hH3
  have N3 := hid (KN.out _ _ _ _ _ hK3 H2.out)
  obtain ⟨er4, g4, P4, hp4⟩ := free_some HS3.out 120 (by omega) (by omega)
  have P4' := hid (hp4 _ hb rb mb pb c3 hH3 (by omega))
  clear hH3 hK3 H2 P3 hp4 q0
  have q0 := B3.out.c0
  go_wp2_with fail
  refine P4'.out.mono ?_
  rintro e w4 ⟨rfl, hw4⟩
  obtain ⟨c4, l4, u4, hH4, hK4⟩ := hw4
  have B4 := hid (B3.out.prog H3.out B2.out.ne B2.out.lo.2 hK4)
  have N4 := hid (KN.out _ _ _ _ _ hK4 N3.out)
  clear hH4 hK4 P4' q0
  have q0 := B4.out.c0
  have fz := B4.out.free 0
  have PR := hid (show Dn w0 (w4.setCell ⟨qb, 0, none⟩ (.pointer (some ⟨hb2, 0, none⟩))) qb n c ls from ⟨c, ls, by omega, by omega, _, _, _, _, _, _, _, _, _, _, _, _, _, B4.out.swap N4.out B2.out.hs B2.out.ag LO.out.2 LO.out.1 B2.out.n8⟩)
  clear B4 N4 B2 B3 N3 H3 HS3 LO KN
  go_wp2
  go_ret
  exact ⟨rfl, PR.out⟩
end
end Go.Proofs.YtgefmnnkpffpcaaGreatDoor

/- The reference: New. -/
namespace Go.Proofs.YtgefmnnkpffpcaaGreatDoor
open Go.RowKit Go.Maps

theorem mb_made {w w1 : World} {n : Nat} (hown : w1.ownsRow w.heap.size 5 1 (.slice (some ⟨w.heap.size, 0, none⟩) n n) n (madeCells (Value.int .u8 0).cells (n * 1)).toList) : Mb w1 w.heap.size n (fun _ => 0) := by
  have e : (madeCells (Value.int .u8 0).cells (n * 1)).toList = List.replicate n (.int .u8 0) := by
    rw [Nat.mul_one]; exact toList_madeCells_one _ _
  rw [e] at hown
  rcases hown.2 with ⟨hc, -⟩ | ⟨g, cap, cur, hv, hb, hg, hnc, hcm, hcs, htake⟩
  · simp at hc
  · simp only [Value.slice.injEq, Option.some.injEq, Addr.mk.injEq, and_true, true_and] at hv
    obtain ⟨rfl, rfl⟩ := hv
    refine ⟨⟨cur, hg, by omega, fun i hi => ?_⟩, fun _ => by decide⟩
    have : (cur.toList.take (n * 1))[i]? = some (.int .u8 0) := by rw [htake]; simp [hi]
    rw [List.getElem?_take_of_lt (by omega)] at this
    simpa using this
theorem rh_first (w : World) (mv : Value) (x : Bl) : Rh ((w.alloc (.cells (Value.slice (some ⟨w.heap.size + 1, 0, none⟩) 1 1 :: (vcl (fun _ => .slice none 0 0) 32 0 ++ [mv])).toArray 42)).alloc (.cells #[.int .i64 x.1, .int .i64 x.2.1, .bool x.2.2] 44)) w.heap.size (.slice (some ⟨w.heap.size + 1, 0, none⟩) 1 1) (fun _ => .slice none 0 0) mv [x] (fun _ => []) := by
  refine ⟨?_, ?_, fun _ _ => Is.nil _ _⟩
  · exact ((Kp.alloc _ _ []).block w.heap.size (by simp) (by simp)).trans (heap_alloc_new w _)
  · have := Br.one (w.alloc (.cells (Value.slice (some ⟨w.heap.size + 1, 0, none⟩) 1 1 :: (vcl (fun _ => .slice none 0 0) 32 0 ++ [mv])).toArray 42)) x
    have e : (w.alloc (.cells (Value.slice (some ⟨w.heap.size + 1, 0, none⟩) 1 1 :: (vcl (fun _ => .slice none 0 0) 32 0 ++ [mv])).toArray 42)).heap.size = w.heap.size + 1 := by simp
    rw [e] at this
    exact this.low (Nat.zero_le _)
set_option maxRecDepth 100000 in
set_option maxHeartbeats 1000000 in
theorem rnew_any (w : World) (n : Nat) (h1 : 256 ≤ n) (h2 : n ≤ 65536) : Calls Tryz.prog 9 #[.int .i64 n] w fun e w' => ∃ hb mb V G, e = .returned (.pointer (some ⟨hb, 0, none⟩)) ∧ Rh w' hb V G (mslice mb n) [(112, (n : Int) - 112, true)] (adF (fun _ => []) (kl ((n : Int) - 112)) 112) ∧ Mb w' mb n (fun _ => 0) ∧ w.heap.size ≤ hb ∧ w.heap.size ≤ mb ∧ (∀ g, V.ownBlock = some g → w.heap.size ≤ g) ∧ Kp w w' [] := by
  obtain ⟨i0, hi, hz0, hz1, hz2⟩ := info_parts Tryz.info5
  have h1I : (256 : Int) ≤ n := by omega
  have h2I : (n : Int) ≤ 65536 := by omega
  have hwn : IntKind.i64.wrap ((n : Int) - 112) = (n : Int) - 112 := IntWalk.i64_in _ ⟨by omega, by omega⟩
  go_enter Tryz.func9, Tryz.ntmps9
  go_wp2_with (refine wpList_make_full _ rfl _ _ 40 rfl w.heap.size 5 i0 (.int .u8 0) 1 Tryz.underlying40 hi hz0 hz1 .i64 .i64 n n n rfl rfl rfl rfl (by rw [hz2]; omega) (by unfold maxLen; omega) (Nat.le_refl _) ?_; intro w1 hown hg; have HM := hid (mb_made hown); have HG := hid hg; clear hown hg)
  have HR := hid (rh_first w1 (mslice w.heap.size n) (112, (n : Int) - 112, true))
  have HP := hid (rput_mid (A := []) (r := []) (i := 0) HR.out rfl (by simp) (by omega) (by omega) (by simp))
  have HK := hid (show Kp w1 _ [] from (Kp.alloc w1 (.cells (Value.slice (some ⟨w1.heap.size + 1, 0, none⟩) 1 1 :: (vcl (fun _ => .slice none 0 0) 32 0 ++ [mslice w.heap.size n])).toArray 42) []).trans (Kp.alloc _ (.cells #[.int .i64 112, .int .i64 ((n : Int) - 112), .bool true] 44) []))
  refine HP.out.mono ?_
  rintro e w5 ⟨rfl, V5, G5, h5, k5, v5⟩
  have HF := hid (show Mb w5 w.heap.size n (fun _ => 0) by
    have hM := HM.out.keep HK.out (by simp)
    obtain ⟨cur, hc, -⟩ := hM.blk
    refine hM.keep k5 ?_
    have hlt := HM.out.blk
    obtain ⟨c', hc', -⟩ := hlt
    have := lt_of_block hc'
    simp [Value.ownBlock]
    omega)
  have HZ := hid (show Kp w w5 [] by
    refine ((Kp.grown HG.out (rows := [])).trans HK.out).past k5 ?_
    have := HG.out.size
    intro k hk hl
    simp [Value.ownBlock] at hk
    omega)
  have HV := hid (show ∀ g, V5.ownBlock = some g → w.heap.size ≤ g from fun g q => by
    have h1 := HG.out.size
    rcases v5.1 g q with q | q
    · simp [Value.ownBlock] at q
      omega
    · simp at q
      omega)
  have H5 := hid h5
  have HS := hid HG.out.size
  clear h5 k5 v5 HP HR HM HK
  go_wp2
  go_ret
  exact ⟨_, _, _, _, rfl, H5.out, HF.out, HS.out, Nat.le_refl _, HV.out, HZ.out⟩
end Go.Proofs.YtgefmnnkpffpcaaGreatDoor

/- The law's stands; do, whole; both heaps at their beginning. -/
namespace Go.Proofs.YtgefmnnkpffpcaaGreatDoor
open Go.RowKit Go.Maps

/-- What a look leaves. -/
def Sd (w0 w : World) (qb n : Nat) (c : Int) (ls : List Int) : Prop := ∃ c', c' ≤ c + 600000 ∧ Pr w0 w qb n c' ls
section
variable {w0 w w1 w2 : World} {qb hb rb mb pb xb eb n : Nat} {g g' : Mem} {c c' k : Int} {L L' : List Bl} {F F' : Nat → List Int} {V : Value} {G : Nat → Value} {f f' : Nat → Nat} {lv : Value} {ls : List Int} {X X' : Nat → Prop} {P' : Pcs}
theorem do_any (B : Bo w0 w qb hb rb mb pb xb eb n g c L F V G f lv ls (fun _ => False)) (s : St) (hfit : s.fit) (hl : ls.length ≤ 500) (hc : c ≤ 10000000000000) :
    Calls Tryz.prog 10 #[.pointer (some ⟨qb, 0, none⟩), s.val] w fun e w' => e = .returned (.bool true) ∧ Dn w0 w' qb n c ls := by
  obtain ⟨sk, sn, sm, sa, so, sw⟩ := s
  by_cases k1 : sk = 1
  · exact do1 B sk sn sm sa so sw hfit k1 hl hc
  by_cases k2 : sk = 2
  · exact do2 B sk sn sm sa so sw hfit k2 hl hc
  by_cases k3 : sk = 3
  · exact do3 B sk sn sm sa so sw hfit k3 hl hc
  by_cases k4 : sk = 4
  · exact do4 B sk sn sm sa so sw hfit k4 hl hc
  by_cases k5 : sk = 5
  · exact do5 B sk sn sm sa so sw hfit k5 hl hc
  by_cases k6 : sk = 6
  · exact do6 B sk sn sm sa so sw hfit k6 hl hc
  exact do0 B sk sn sm sa so sw hfit ⟨k1, k2, k3, k4, k5, k6⟩ hl hc
set_option maxRecDepth 100000 in
set_option maxHeartbeats 8000000 in
theorem stands_any (B : Bo w0 w qb hb rb mb pb xb eb n g c L F V G f lv ls (fun _ => False)) (leave : Int) (hc : c ≤ 10000000000000) :
    Calls Tryz.prog 11 #[.pointer (some ⟨qb, 0, none⟩), .int .i64 leave] w fun e w' => e = .returned (.bool true) ∧ Sd w0 w' qb n c ls := by
  obtain ⟨ao, cap, hV⟩ := B.bh.rh.row.slice
  subst hV
  have HB := hid B
  have CH := hid (fun (w' : World) (b : Bh w0 w' qb hb xb eb n L F (.slice ao L.length cap) G f lv ls) =>
    (show (w'.cell? ⟨qb, 0, none⟩ = some (.pointer (some ⟨hb, 0, none⟩)) ∧ w'.cell? ⟨qb, 1, none⟩ = some (.pointer (some ⟨xb, 0, none⟩))) ∧ w'.cell? ⟨xb, 0, none⟩ = some (.slice ao L.length cap) from ⟨⟨b.c0, b.c1⟩, b.rh.b⟩))
  have SB := hid (show L.length ≤ 100000 ∧ (∀ x ∈ L, 16 ≤ x.2.1) ∧ szs L < 65536 from ⟨by have := B.hs.len; omega, B.hs.h16, by have := B.hs.szs; omega⟩)
  have n8 := B.n8
  have B0 := hid (B.same (Kp.drew w []))
  obtain ⟨⟨q0, q1⟩, x0⟩ := CH.out _ B.bh
  clear B
  go_enter Tryz.func11, Tryz.ntmps11
  go_wp2_with fail
  go_region_held_law (fun w' : World => (w'.cell? ⟨qb, 0, none⟩ = some (.pointer (some ⟨hb, 0, none⟩)) ∧ w'.cell? ⟨qb, 1, none⟩ = some (.pointer (some ⟨xb, 0, none⟩))) ∧ w'.cell? ⟨xb, 0, none⟩ = some (.slice ao L.length cap))
    (first
      | exact CH.out _ B0.out.bh
      | exact CH.out _ (B0.out.same hK1).bh
      | exact CH.out _ ((B0.out.same hK1).same hK2).bh
      | exact CH.out _ (((B0.out.same hK1).same hK2).same hK3).bh
      | exact CH.out _ hB4.bh)
    (first
      | (go_at_call 15; refine (left_hs B0.out.hs B0.out.hp).mono ?_; rintro e w1 ⟨rfl, hK1⟩)
      | (go_at_call 44; refine (rleft_any _ xb _ _ G L F (B0.out.same hK1).bh.rh SB.out.1 SB.out.2.1 SB.out.2.2).mono ?_; rintro e wn ⟨rfl, hE⟩; rw [hE]; clear hE)
      | (go_at_call 23; refine (len_hs (B0.out.same hK1).hp).mono ?_; rintro e w2 ⟨rfl, hK2⟩)
      | (go_at_call 45; refine (rlen_any _ xb _ _ G L F ((B0.out.same hK1).same hK2).bh.rh SB.out.1).mono ?_; rintro e wn ⟨rfl, hE⟩; rw [hE]; clear hE)
      | (go_at_call 24; refine (lawb_hs B0.out.hs ((B0.out.same hK1).same hK2).hp ((B0.out.same hK1).same hK2).bh.rh.row leave).mono ?_; rintro e w3 ⟨rfl, hK3⟩)
      | (go_at_call 31; refine (check_hs B0.out.hs (((B0.out.same hK1).same hK2).same hK3).hp n8 (by omega)).mono ?_; rintro e w4 ⟨rfl, hw4⟩; obtain ⟨c4, l4, u4, hB4⟩ := (((B0.out.same hK1).same hK2).same hK3).looked hw4 (by simp)))
  have PR := hid (show Sd w0 w4 qb n c ls from ⟨c4, by omega, _, _, _, _, _, _, _, _, _, _, _, _, _, hB4⟩)
  clear hB4 hK1 hK2 hK3 hw4 B0 HB CH SB q0 q1 x0
  go_wp2
  go_ret
  exact ⟨rfl, PR.out⟩
theorem Tb.of_bo (B : Bo w0 w qb hb rb mb pb xb eb n g c L F V G f lv ls X) : Tb w := B.hp.tb
/-- Both heaps at their beginning. -/
theorem bo_first {n : Nat} (hg : Good n) (ht : Tb w0) {c1 : Int} (hH : Hp w1 hb rb mb pb n (fresh0 n) c1 []) (hK1 : Kp w0 w1 []) (hlo : w0.heap.size ≤ hb ∧ w0.heap.size ≤ rb ∧ w0.heap.size ≤ mb ∧ w0.heap.size ≤ pb)
    (hR : Rh w2 xb V G (mslice eb n) [(112, (n : Int) - 112, true)] (adF (fun _ => []) (kl ((n : Int) - 112)) 112)) (hM : Mb w2 eb n (fun _ => 0)) (h1 : w1.heap.size ≤ xb) (h2 : w1.heap.size ≤ eb) (h3 : ∀ g, V.ownBlock = some g → w1.heap.size ≤ g) (hK2 : Kp w1 w2 []) :
    Bo w0 (w2.alloc (.cells #[.pointer (some ⟨hb, 0, none⟩), .pointer (some ⟨xb, 0, none⟩), .slice none 0 0] 31)) w2.heap.size hb rb mb pb xb eb n (fresh0 n) c1 [(112, (n : Int) - 112, true)] (adF (fun _ => []) (kl ((n : Int) - 112)) 112) V G (fun _ => 0) (.slice none 0 0) [] (fun _ => False) := by
  have ka := Kp.alloc w2 (.cells #[.pointer (some ⟨hb, 0, none⟩), .pointer (some ⟨xb, 0, none⟩), .slice none 0 0] 31) []
  have s1 := hK1.size
  have s2 := hK2.size
  have hlt := hH.lt
  have g1 := hg.1
  have g2 := hg.2.1
  have g3 := hg.2.2
  refine ⟨⟨heap_alloc_new w2 _, Is.nil _ _, hR.same ka, hM.keep ka (by simp), ⟨by omega, by omega, by omega, fun g hg => by have := h3 g hg; omega⟩, fun g hg => by simp [Value.ownBlock] at hg, fun x hx => by simp at hx, (hK1.trans hK2).trans ka, ht.lt⟩, (hH.same hK2).same ka, ?_, ?_, by omega, hlo, by omega⟩
  · exact hs_new (by omega) (by omega) (by omega)
  · intro o _ hq _
    obtain ⟨p, hp, -⟩ := hq
    simp [piecesOf] at hp
end
end Go.Proofs.YtgefmnnkpffpcaaGreatDoor
