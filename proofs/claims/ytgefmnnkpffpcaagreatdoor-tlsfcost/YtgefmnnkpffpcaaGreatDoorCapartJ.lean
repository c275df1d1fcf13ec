/- apart: a piece and others. -/
import Derived.Test.YtgefmnnkpffpcaaGreatDoorHalignJ
import Derived.Test.YtgefmnnkpffpcaaGreatDoorCnums
import Derived.Test.YtgefmnnkpffpcaaGreatDoorHpieceJ
import Derived.RangeFuncNested
import Derived.RangeFuncBound
import Derived.RangeFuncCalls
import Derived.RangeFuncLeaves
import Derived.RangeFuncBox
import Derived.Shelf.Abstract
import Derived.OwnWalkIn
import Derived.TacticsInMore
import Derived.LoopNIn
import Derived.LoopIn
import Derived.Test.YtgefmnnkpffpcaaGreatDoorHblocks2
namespace Go.Proofs.YtgefmnnkpffpcaaGreatDoor
open Go.RowKit

set_option maxRecDepth 100000 in
theorem num_any (w : World) (x : Int) : Calls Tryz.prog 13 #[.int .i64 x] w fun e w' => e = .returned (.int .i64 x) ∧ w' = w := by
  go_enter Tryz.func13, Tryz.ntmps13
  go_wp2
  go_ret
  exact ⟨rfl, rfl⟩

set_option maxRecDepth 100000 in
set_option maxHeartbeats 2000000 in
theorem apart_ok (w : World) (hb rb mb pb n base : Nat) (g : Mem) (c : Int) (P : Pcs) (V : Value) (ls cs : List Int) (o : Int) (h : Hp w hb rb mb pb n g c P) (hC : Cst n g P cs) (hV : Is w base V ls) (ho : o ∈ cs) (hls : ∀ x ∈ ls, x ∈ cs ∧ x ≠ o) (hlen : ls.length ≤ 1000) :
    Calls Tryz.prog 20 #[.pointer (some ⟨hb, 0, none⟩), V, .int .i64 o] w fun e w' => e = .returned (.bool true) ∧ Kp w w' [] := by
  obtain ⟨ao, cap, rfl⟩ := hV.slice
  have p0 := cs_piece hC ho
  obtain ⟨z, hz⟩ : ∃ z, getP P o = z := ⟨_, rfl⟩
  rw [hz] at p0
  have HZ := hid hz
  have H := hid h
  have HC := hid hC
  have HV := hid hV
  have HO := hid ho
  have HL := hid hls
  obtain ⟨p1, p2, p3, p4, p5, p6⟩ := p0
  clear h hC hV hz hls p1 p5
  obtain ⟨N, hN⟩ : ∃ N, ls.length = N := ⟨_, rfl⟩
  rw [hN] at hlen ⊢
  have HN := hid hN
  clear hN
  go_enter Tryz.func20, Tryz.ntmps20
  go_wp2_with fail
  refine (hsize_ok w hb rb mb pb n g c P o z H.out (by omega) (by omega) (cs_has HC.out HO.out) HZ.out (by omega) (by omega)).mono ?_
  rintro e w1 ⟨rfl, hK⟩
  have K1 := hid hK
  clear hK
  go_wp2_with fail
  refine (num_any w1 0).mono ?_
  rintro e w' ⟨rfl, hE⟩
  rw [hE]
  clear hE
  go_wp2_with fail
  go_loopw [9] (fun v wr => ∃ k : Nat, k ≤ N ∧ v = .int .i64 k ∧ Hid (Kp w wr [])) (fun v _ => N - (intOf v).toNat)
  case atStart => exact ⟨0, Nat.zero_le _, rfl, K1.out⟩
  case round =>
    obtain ⟨k, hk, rfl, hKk⟩ := hrel
    by_cases hlt : k < N
    · have hltI : (k : Int) < N := by omega
      have hx : ls[k]? = some (ls[k]'(by have := HN.out; omega)) := List.getElem?_eq_getElem _
      obtain ⟨x, hxe⟩ : ∃ x, ls[k]'(by have := HN.out; omega) = x := ⟨_, rfl⟩
      rw [hxe] at hx
      have hmem : x ∈ ls := List.mem_of_getElem? hx
      have hV' := HV.out.keep hKk.out
      rw [HN.out] at hV'
      obtain ⟨gb, rfl, -, -, cx⟩ := hV'.at hx
      have hcs := HL.out x hmem
      have q0 := cs_piece HC.out hcs.1
      have hap := cs_apart HC.out hcs.1 HO.out hcs.2
      obtain ⟨u, hu⟩ : ∃ u, getP P x = u := ⟨_, rfl⟩
      rw [hu] at q0 hap
      rw [HZ.out] at hap
      have HU := hid hu
      have HX := hid hcs.1
      obtain ⟨q1, q2, q3, q4, q5, q6⟩ := q0
      clear hx hxe hmem hV' hcs hu q1 q5
      go_wp2_with fail
      refine (hsize_ok _ hb rb mb pb n g c P x u (H.out.same hKk.out) (by omega) (by omega) (cs_has HC.out HX.out) HU.out (by omega) (by omega)).mono ?_
      rintro e w2 ⟨rfl, hK⟩
      have cx2 := hK.cell cx (by simp)
      have K2 := hid (hKk.out.trans hK)
      clear hK cx
      by_cases hov : x < o + (z - 8)
      · have hov2 : ¬ o < x + (u - 8) := by omega
        go_wp2_with (go_at_call 13; refine (num_any w2 0).mono ?_; rintro e w' ⟨rfl, hE⟩; rw [hE]; clear hE)
        go_roundw
        case rel => exact ⟨k + 1, by omega, by simp, K2⟩
        case measure => simp [intOf]; omega
      · go_wp2_with (go_at_call 13; refine (num_any w2 0).mono ?_; rintro e w' ⟨rfl, hE⟩; rw [hE]; clear hE)
        go_roundw
        case rel => exact ⟨k + 1, by omega, by simp, K2⟩
        case measure => simp [intOf]; omega
    · have hltI : ¬ (k : Int) < N := by omega
      go_wp2
      go_ret
      exact ⟨rfl, hKk.out⟩
end Go.Proofs.YtgefmnnkpffpcaaGreatDoor

/- All: the blocks, one by one. -/
namespace Go.Proofs.YtgefmnnkpffpcaaGreatDoor
open Go.RowKit Go.Maps Go.Shelf
attribute [local go_sem] Oper.semAt_some

/-- A block of bounded numbers. -/
abbrev Bb := { b : Bk // 0 ≤ b.1 ∧ b.1 ≤ 1000000 ∧ 0 ≤ b.2.1 ∧ b.2.1 ≤ 1000000 }
def bval (b : Bk) : Value := .agg #[.int .i64 b.1, .int .i64 b.2.1, .bool b.2.2]
/-- What a round keeps: cells that lie from a block on. -/
structure Kc (D : Nat) (W W' : World) : Prop where
  size : W.heap.size ≤ W'.heap.size
  same : ∀ k c t f, D ≤ k → W.heap[k]? = some (.cells c t f) → W'.heap[k]? = some (.cells c t f)
theorem Kc.refl (D : Nat) (W : World) : Kc D W W := ⟨Nat.le_refl _, fun _ _ _ _ _ h => h⟩
theorem Kc.trans {D : Nat} {A B C : World} (h : Kc D A B) (h' : Kc D B C) : Kc D A C := ⟨Nat.le_trans h.size h'.size, fun k c t f hk ha => h'.same k c t f hk (h.same k c t f hk ha)⟩
theorem Kc.of_kp {D : Nat} {A B : World} {rows : List Nat} (h : Kp A B rows) (hr : ∀ k ∈ rows, k < D) : Kc D A B :=
  ⟨h.size, fun k c t f hk ha => (h.block k (lt_of_block ha) (fun hm => by have := hr k hm; omega)).trans ha⟩
theorem Kc.own {D : Nat} {A B : World} (h : Kc D A B) {base e s n : Nat} {v : Value} {xs : List Value} (ho : A.ownsRow base e s v n xs) (hb : D ≤ base) : B.ownsRow base e s v n xs := by
  refine ⟨ho.1, ?_⟩
  rcases ho.2 with ⟨rfl, h0⟩ | ⟨g, cap, cur, rfl, x1, x2, x3⟩
  · exact .inl ⟨rfl, h0⟩
  · exact .inr ⟨g, cap, cur, rfl, x1, h.same g _ _ _ (by omega) x2, x3⟩
theorem Kp.toGrownNone {w w' : World} (h : Kp w w' []) : w.grownBy w' none := ⟨h.os, h.tape, h.output, h.size, fun k hk _ => h.block k hk (by simp)⟩

theorem bcells_at (l : List Bk) (k : Nat) (hk : k < l.length) : (bcells l)[k * 3]? = some (.int .i64 l[k].1) ∧ (bcells l)[k * 3 + 1]? = some (.int .i64 l[k].2.1) ∧ (bcells l)[k * 3 + 2]? = some (.bool l[k].2.2) := by
  induction l generalizing k with
  | nil => simp at hk
  | cons b r ih =>
    have e : bcells (b :: r) = .int .i64 b.1 :: .int .i64 b.2.1 :: .bool b.2.2 :: bcells r := rfl
    cases k with
    | zero => simp [e]
    | succ k =>
      have h := ih k (by simpa using hk)
      rw [e]
      rw [show (k + 1) * 3 = k * 3 + 3 by omega, show k * 3 + 3 + 1 = k * 3 + 1 + 3 by omega, show k * 3 + 3 + 2 = k * 3 + 2 + 3 by omega]
      simpa using h

set_option maxRecDepth 100000 in
set_option maxHeartbeats 2000000 in
theorem all1_in (n : Nat) (hn : 1 ≤ n) (l D bx hb rb mb pb m : Nat) (g : Mem) (c : Int) (P : Pcs) (BL : List Bb) (hBL : BL.map (·.1) = blocksOf m P) (J Jx : List Bb → World → Prop) (W : World) (hH : Hp W hb rb mb pb m g c P) (hP : Okp m P) (hl : P.length ≤ 65536) (hD : D ≤ W.heap.size)
    (hbx : W.cell? ⟨bx, 0, none⟩ = some (.pointer (some ⟨hb, 0, none⟩))) (hJ : AbidesFrom W.heap.size J)
    (hY : ∀ pre x W1, J pre W1 → pre.length < BL.length → YieldAt Fence.wide (n - 1) Tryz.prog l #[bval x.1] W1 fun e W' =>
      (e = .returned (.bool true) ∧ J (pre ++ [x]) W' ∧ Kc D W1 W') ∨ (e = .returned (.bool false) ∧ Jx (pre ++ [x]) W'))
    (h0 : J [] W) :
    CallsIn Fence.wide n Tryz.prog 91 #[.func (.yield l) #[] #[], .pointer (some ⟨bx, 0, none⟩)] W fun e W' => (∃ v, e = .returned v) ∧ ((∃ xs, xs = BL ∧ J xs W') ∨ (∃ pre, pre <+: BL ∧ Jx pre W')) := by
  have cB := (callsIn_wide (n := n - 1)).2 (blocks_any W hb rb mb pb m g c P hH hP hl)
  have HH := hid hH
  have HB := hid hBL
  have HJ := hid hJ
  have HY := hid hY
  have H0 := hid h0
  have hlen := congrArg List.length hBL
  simp only [List.length_map] at hlen
  have HLEN := hid hlen
  have hf92 : Fence.wide.fn 92 := trivial
  have hbl : BL.length ≤ 131073 := by
    rw [hlen]
    have h1 := bst_bounds hP P.length (Nat.le_refl _)
    rw [List.take_length] at h1
    have h2 := filled_length (bst P).1 m (bst P).2
    unfold blocksOf
    omega
  clear hH hBL hJ hY h0 hlen
  refine callsIn_of_wp Tryz.func91 rfl trivial ?_ rfl
  simp only [Tryz.ntmps91, List.size_toArray, List.length_cons, List.length_nil, Nat.reduceAdd, Nat.reduceSub, Array.replicate_succ, Array.replicate_zero, List.push_toArray, List.append_toArray, List.nil_append, List.cons_append]
  gi_wp2_with (gi_at_call 92; refine cB.mono ?_; rintro e w1 ⟨v, rfl, hown, hK⟩; obtain ⟨ao, cp, rfl⟩ := owns_shape hown; have O1 := hid hown; have K1 := hid hK; clear hown hK)
  gi_loopw [8] (fun i wr => ∃ k : Nat, k ≤ BL.length ∧ i = .int .i64 k ∧ Hid (J (BL.take k) wr) ∧ Hid (wr.ownsRow W.heap.size 44 3 (.slice ao (blocksOf m P).length cp) (blocksOf m P).length (bcells (blocksOf m P))))
    (fun i _ => BL.length - (intOf i).toNat)
  case atStart => exact ⟨0, Nat.zero_le _, rfl, HJ.out _ _ _ none H0.out K1.out.toGrownNone (by simp), O1.out⟩
  case round =>
    obtain ⟨k, hk, rfl, hJs, hO⟩ := hrel
    have hN := HLEN.out
    by_cases hlt : k < BL.length
    · have hltI : (k : Int) < ((blocksOf m P).length : Int) := by omega
      have hx : (blocksOf m P)[k]'(by omega) = BL[k].1 := by
        have := HB.out
        simp only [← this, List.getElem_map]
      obtain ⟨x, hxx⟩ : ∃ x, BL[k] = x := ⟨_, rfl⟩
      rw [hxx] at hx
      rcases hO.out.2 with ⟨-, hz⟩ | ⟨gg, cap', cur, hvv, hbg, hgg, hnc, hcm, hcs, htake⟩
      · omega
      · simp only [Value.slice.injEq, true_and] at hvv
        obtain ⟨rfl, rfl⟩ := hvv
        have hcl := bcells_at (blocksOf m P) k (by omega)
        rw [hx] at hcl
        have c0 := hO.out.cellAt (k * 3) (by omega)
        have c1 := hO.out.cellAt (k * 3 + 1) (by omega)
        have c2 := hO.out.cellAt (k * 3 + 2) (by omega)
        rw [hcl.1] at c0
        rw [hcl.2.1] at c1
        rw [hcl.2.2] at c2
        have TK := hid (show BL.take (k + 1) = BL.take k ++ [x] by rw [List.take_succ_eq_append_getElem hlt, hxx])
        have hJ2 := HJ.out _ _ (wr.alloc (.cells #[.int .i64 x.1.1, .int .i64 x.1.2.1, .bool x.1.2.2] 44)) none hJs.out (World.grownBy_alloc wr _ none) (by simp)
        have KA := hid (Kc.of_kp (D := D) (Kp.alloc wr (.cells #[.int .i64 x.1.1, .int .i64 x.1.2.1, .bool x.1.2.2] 44) []) (by simp))
        obtain ⟨fn, tmps, assign, body, hy, hR⟩ := HY.out _ x _ hJ2 (by simp; omega)
        unfold bval at hy
        have HR := hid hR
        have hg1 : gg < wr.heap.size := lt_of_block hgg
        have hDW : W.heap.size ≤ wr.heap.size := by omega
        clear hx hxx hgg htake hnc hcm hcs hcl hJ2 hR
        gi_wp2
        refine HR.out.mono ?_
        rintro e W3 (⟨rfl, hJ3, hk3⟩ | ⟨rfl, hJx3⟩)
        · have O3 := hid (hk3.own (KA.out.own hO.out hD) hD)
          have J3 := hid hJ3
          clear hJ3 hk3
          gi_wp2
          go_roundw
          case rel => exact ⟨k + 1, by omega, by simp, by rw [TK.out]; exact J3.out, O3.out⟩
          case measure => simp [intOf]; omega
        · have JX := hid hJx3
          clear hJx3
          gi_wp2
          refine bodyPost_ret (results_none rfl _ _ _) rfl ?_
          exact ⟨⟨_, rfl⟩, .inr ⟨_, by rw [← TK.out]; exact List.take_prefix _ _, JX.out⟩⟩
    · have hltI : ¬ (k : Int) < ((blocksOf m P).length : Int) := by omega
      have hJe := hJs.out
      rw [List.take_of_length_le (by omega)] at hJe
      have JE := hid hJe
      clear hJe
      gi_wp2
      go_end0
      exact ⟨⟨_, rfl⟩, .inl JE.out⟩

/-- The iterator's contract. -/
theorem all_stops (n : Nat) (hn : 1 ≤ n) (D bx hb rb mb pb m : Nat) (g : Mem) (c : Int) (P : Pcs) (BL : List Bb) (hBL : BL.map (·.1) = blocksOf m P) (w : World) (hH : Hp w hb rb mb pb m g c P) (hP : Okp m P) (hl : P.length ≤ 65536) (hD : D ≤ w.heap.size)
    (hbx : w.cell? ⟨bx, 0, none⟩ = some (.pointer (some ⟨hb, 0, none⟩))) :
    SeqStopsK Fence.wide n Tryz.prog 91 #[.pointer (some ⟨bx, 0, none⟩)] (fun x : Bb => #[bval x.1]) (Kc D) (fun xs => xs = BL) (fun pre => pre <+: BL) BL.length w := fun l J Jx W hW hJ _ hY h0 => by
  have hk : Kp w W [] := Kp.of_below hW
  exact all1_in n hn l D bx hb rb mb pb m g c P BL hBL J Jx W (hH.same hk) hP hl (Nat.le_trans hD hk.size) (hk.cell hbx (by simp)) hJ hY h0

set_option maxRecDepth 100000 in
theorem all_in (n : Nat) (w : World) (p : Option Addr) : CallsIn Fence.wide n Tryz.prog 50 #[.pointer p] w fun e w' => e = .returned (.func (.func 91) #[] #[.pointer (some ⟨w.heap.size, 0, none⟩)]) ∧ w' = w.alloc (.cells #[.pointer p] 23) := by
  refine callsIn_wide.2 ?_
  go_enter Tryz.func50, Tryz.ntmps50
  go_wp2
  go_ret
  exact ⟨rfl, rfl⟩
end Go.Proofs.YtgefmnnkpffpcaaGreatDoor
