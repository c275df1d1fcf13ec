/- All: the blocks, one by one. -/
import Derived.RangeFuncNested
import Derived.RangeFuncBound
import Derived.RangeFuncCalls
import Derived.RangeFuncLeaves
import Derived.RangeFuncBox
import Derived.Shelf.Abstract
import Derived.OwnWalkIn
import Derived.TacticsInMore
import Derived.LoopNIn
import Derived.LoopIn
import Derived.Test.YtgefmnnkpffpcaaGreatDoorHrepCpJ
import Derived.Laws.StructEq
namespace Go.Proofs.YtgefmnnkpffpcaaGreatDoor
open Go.RowKit Go.Maps Go.Shelf
attribute [local go_sem] Oper.semAt_some

/-- A block of bounded numbers. -/
abbrev Bb := { b : Bk // 0 ≤ b.1 ∧ b.1 ≤ 1000000 ∧ 0 ≤ b.2.1 ∧ b.2.1 ≤ 1000000 }
def bval (b : Bk) : Value := .agg #[.int .i64 b.1, .int .i64 b.2.1, .bool b.2.2]
/-- What a round keeps: cells that lie from a block on. -/
structure Kc (D : Nat) (W W' : World) : Prop where
  size : W.heap.size ≤ W'.heap.size
  same : ∀ k c t f, D ≤ k → W.heap[k]? = some (.cells c t f) → W'.heap[k]? = some (.cells c t f)
theorem Kc.refl (D : Nat) (W : World) : Kc D W W := ⟨Nat.le_refl _, fun _ _ _ _ _ h => h⟩
theorem Kc.trans {D : Nat} {A B C : World} (h : Kc D A B) (h' : Kc D B C) : Kc D A C := ⟨Nat.le_trans h.size h'.size, fun k c t f hk ha => h'.same k c t f hk (h.same k c t f hk ha)⟩
theorem Kc.of_kp {D : Nat} {A B : World} {rows : List Nat} (h : Kp A B rows) (hr : ∀ k ∈ rows, k < D) : Kc D A B :=
  ⟨h.size, fun k c t f hk ha => (h.block k (lt_of_block ha) (fun hm => by have := hr k hm; omega)).trans ha⟩
theorem Kc.own {D : Nat} {A B : World} (h : Kc D A B) {base e s n : Nat} {v : Value} {xs : List Value} (ho : A.ownsRow base e s v n xs) (hb : D ≤ base) : B.ownsRow base e s v n xs := by
  refine ⟨ho.1, ?_⟩
  rcases ho.2 with ⟨rfl, h0⟩ | ⟨g, cap, cur, rfl, x1, x2, x3⟩
  · exact .inl ⟨rfl, h0⟩
  · exact .inr ⟨g, cap, cur, rfl, x1, h.same g _ _ _ (by omega) x2, x3⟩
theorem Kp.toGrownNone {w w' : World} (h : Kp w w' []) : w.grownBy w' none := ⟨h.os, h.tape, h.output, h.size, fun k hk _ => h.block k hk (by simp)⟩

theorem bcells_at (l : List Bk) (k : Nat) (hk : k < l.length) : (bcells l)[k * 3]? = some (.int .i64 l[k].1) ∧ (bcells l)[k * 3 + 1]? = some (.int .i64 l[k].2.1) ∧ (bcells l)[k * 3 + 2]? = some (.bool l[k].2.2) := by
  induction l generalizing k with
  | nil => simp at hk
  | cons b r ih =>
    have e : bcells (b :: r) = .int .i64 b.1 :: .int .i64 b.2.1 :: .bool b.2.2 :: bcells r := rfl
    cases k with
    | zero => simp [e]
    | succ k =>
      have h := ih k (by simpa using hk)
      rw [e]
      rw [show (k + 1) * 3 = k * 3 + 3 by omega, show k * 3 + 3 + 1 = k * 3 + 1 + 3 by omega, show k * 3 + 3 + 2 = k * 3 + 2 + 3 by omega]
      simpa using h

set_option maxRecDepth 100000 in
set_option maxHeartbeats 2000000 in
theorem all1_in (n : Nat) (hn : 1 ≤ n) (l D bx hb rb mb pb m : Nat) (g : Mem) (c : Int) (P : Pcs) (BL : List Bb) (hBL : BL.map (·.1) = blocksOf m P) (J Jx : List Bb → World → Prop) (W : World) (hH : Hp W hb rb mb pb m g c P) (hP : Okp m P) (hl : P.length ≤ 65536) (hD : D ≤ W.heap.size)
    (hbx : W.cell? ⟨bx, 0, none⟩ = some (.pointer (some ⟨hb, 0, none⟩))) (hJ : AbidesFrom W.heap.size J)
    (hY : ∀ pre x W1, J pre W1 → pre.length < BL.length → YieldAt Fence.wide (n - 1) Tryz.prog l #[bval x.1] W1 fun e W' =>
      (e = .returned (.bool true) ∧ J (pre ++ [x]) W' ∧ Kc D W1 W') ∨ (e = .returned (.bool false) ∧ Jx (pre ++ [x]) W'))
    (h0 : J [] W) :
    CallsIn Fence.wide n Tryz.prog 91 #[.func (.yield l) #[] #[], .pointer (some ⟨bx, 0, none⟩)] W fun e W' => (∃ v, e = .returned v) ∧ ((∃ xs, xs = BL ∧ J xs W') ∨ (∃ pre, pre <+: BL ∧ Jx pre W')) := by
  have cB := (callsIn_wide (n := n - 1)).2 (blocks_any W hb rb mb pb m g c P hH hP hl)
  have HH := hid hH
  have HB := hid hBL
  have HJ := hid hJ
  have HY := hid hY
  have H0 := hid h0
  have hlen := congrArg List.length hBL
  simp only [List.length_map] at hlen
  have HLEN := hid hlen
  have hf92 : Fence.wide.fn 92 := trivial
  have hbl : BL.length ≤ 131073 := by
    rw [hlen]
    have h1 := bst_bounds hP P.length (Nat.le_refl _)
    rw [List.take_length] at h1
    have h2 := filled_length (bst P).1 m (bst P).2
    unfold blocksOf
    omega
  clear hH hBL hJ hY h0 hlen
  refine callsIn_of_wp Tryz.func91 rfl trivial ?_ rfl
  simp only [Tryz.ntmps91, List.size_toArray, List.length_cons, List.length_nil, Nat.reduceAdd, Nat.reduceSub, Array.replicate_succ, Array.replicate_zero, List.push_toArray, List.append_toArray, List.nil_append, List.cons_append]
  gi_wp2_with (gi_at_call 92; refine cB.mono ?_; rintro e w1 ⟨v, rfl, hown, hK⟩; obtain ⟨ao, cp, rfl⟩ := owns_shape hown; have O1 := hid hown; have K1 := hid hK; clear hown hK)
  gi_loopw [8] (fun i wr => ∃ k : Nat, k ≤ BL.length ∧ i = .int .i64 k ∧ Hid (J (BL.take k) wr) ∧ Hid (wr.ownsRow W.heap.size 44 3 (.slice ao (blocksOf m P).length cp) (blocksOf m P).length (bcells (blocksOf m P))))
    (fun i _ => BL.length - (intOf i).toNat)
  case atStart => exact ⟨0, Nat.zero_le _, rfl, HJ.out _ _ _ none H0.out K1.out.toGrownNone (by simp), O1.out⟩
  case round =>
    obtain ⟨k, hk, rfl, hJs, hO⟩ := hrel
    have hN := HLEN.out
    by_cases hlt : k < BL.length
    · have hltI : (k : Int) < ((blocksOf m P).length : Int) := by omega
      have hx : (blocksOf m P)[k]'(by omega) = BL[k].1 := by
        have := HB.out
        simp only [← this, List.getElem_map]
      obtain ⟨x, hxx⟩ : ∃ x, BL[k] = x := ⟨_, rfl⟩
      rw [hxx] at hx
      rcases hO.out.2 with ⟨-, hz⟩ | ⟨gg, cap', cur, hvv, hbg, hgg, hnc, hcm, hcs, htake⟩
      · omega
      · simp only [Value.slice.injEq, true_and] at hvv
        obtain ⟨rfl, rfl⟩ := hvv
        have hcl := bcells_at (blocksOf m P) k (by omega)
        rw [hx] at hcl
        have c0 := hO.out.cellAt (k * 3) (by omega)
        have c1 := hO.out.cellAt (k * 3 + 1) (by omega)
        have c2 := hO.out.cellAt (k * 3 + 2) (by omega)
        rw [hcl.1] at c0
        rw [hcl.2.1] at c1
        rw [hcl.2.2] at c2
        have TK := hid (show BL.take (k + 1) = BL.take k ++ [x] by rw [List.take_succ_eq_append_getElem hlt, hxx])
        have hJ2 := HJ.out _ _ (wr.alloc (.cells #[.int .i64 x.1.1, .int .i64 x.1.2.1, .bool x.1.2.2] 44)) none hJs.out (World.grownBy_alloc wr _ none) (by simp)
        have KA := hid (Kc.of_kp (D := D) (Kp.alloc wr (.cells #[.int .i64 x.1.1, .int .i64 x.1.2.1, .bool x.1.2.2] 44) []) (by simp))
        obtain ⟨fn, tmps, assign, body, hy, hR⟩ := HY.out _ x _ hJ2 (by simp; omega)
        unfold bval at hy
        have HR := hid hR
        have hg1 : gg < wr.heap.size := lt_of_block hgg
        have hDW : W.heap.size ≤ wr.heap.size := by omega
        clear hx hxx hgg htake hnc hcm hcs hcl hJ2 hR
        gi_wp2
        refine HR.out.mono ?_
        rintro e W3 (⟨rfl, hJ3, hk3⟩ | ⟨rfl, hJx3⟩)
        · have O3 := hid (hk3.own (KA.out.own hO.out hD) hD)
          have J3 := hid hJ3
          clear hJ3 hk3
          gi_wp2
          go_roundw
          case rel => exact ⟨k + 1, by omega, by simp, by rw [TK.out]; exact J3.out, O3.out⟩
          case measure => simp [intOf]; omega
        · have JX := hid hJx3
          clear hJx3
          gi_wp2
          refine bodyPost_ret (results_none rfl _ _ _) rfl ?_
          exact ⟨⟨_, rfl⟩, .inr ⟨_, by rw [← TK.out]; exact List.take_prefix _ _, JX.out⟩⟩
    · have hltI : ¬ (k : Int) < ((blocksOf m P).length : Int) := by omega
      have hJe := hJs.out
      rw [List.take_of_length_le (by omega)] at hJe
      have JE := hid hJe
      clear hJe
      gi_wp2
      go_end0
      exact ⟨⟨_, rfl⟩, .inl JE.out⟩

/-- The iterator's contract. -/
theorem all_stops (n : Nat) (hn : 1 ≤ n) (D bx hb rb mb pb m : Nat) (g : Mem) (c : Int) (P : Pcs) (BL : List Bb) (hBL : BL.map (·.1) = blocksOf m P) (w : World) (hH : Hp w hb rb mb pb m g c P) (hP : Okp m P) (hl : P.length ≤ 65536) (hD : D ≤ w.heap.size)
    (hbx : w.cell? ⟨bx, 0, none⟩ = some (.pointer (some ⟨hb, 0, none⟩))) :
    SeqStopsK Fence.wide n Tryz.prog 91 #[.pointer (some ⟨bx, 0, none⟩)] (fun x : Bb => #[bval x.1]) (Kc D) (fun xs => xs = BL) (fun pre => pre <+: BL) BL.length w := fun l J Jx W hW hJ _ hY h0 => by
  have hk : Kp w W [] := Kp.of_below hW
  exact all1_in n hn l D bx hb rb mb pb m g c P BL hBL J Jx W (hH.same hk) hP hl (Nat.le_trans hD hk.size) (hk.cell hbx (by simp)) hJ hY h0

set_option maxRecDepth 100000 in
theorem all_in (n : Nat) (w : World) (p : Option Addr) : CallsIn Fence.wide n Tryz.prog 50 #[.pointer p] w fun e w' => e = .returned (.func (.func 91) #[] #[.pointer (some ⟨w.heap.size, 0, none⟩)]) ∧ w' = w.alloc (.cells #[.pointer p] 23) := by
  refine callsIn_wide.2 ?_
  go_enter Tryz.func50, Tryz.ntmps50
  go_wp2
  go_ret
  exact ⟨rfl, rfl⟩
end Go.Proofs.YtgefmnnkpffpcaaGreatDoor

/- Left: what the free blocks have. -/
namespace Go.Proofs.YtgefmnnkpffpcaaGreatDoor
open Go.RowKit Go.Maps Go.Shelf
attribute [local go_sem] Oper.semAt_some

def leftOf : List Bk → Int
  | [] => 0
  | b :: r => (if b.2.2 then b.2.1 - 8 else 0) + leftOf r
theorem leftOf_snoc (l : List Bk) (b : Bk) : leftOf (l ++ [b]) = if b.2.2 then leftOf l + (b.2.1 - 8) else leftOf l := by
  induction l with
  | nil => cases hb : b.2.2 <;> simp [leftOf, hb]
  | cons x r ih =>
    simp only [List.cons_append, leftOf, ih]
    cases hb : b.2.2 <;> simp [Int.add_assoc]
theorem leftOf_bound (l : List Bb) : -8 * (l.length : Int) ≤ leftOf (l.map (·.1)) ∧ leftOf (l.map (·.1)) ≤ 1000000 * (l.length : Int) := by
  induction l with
  | nil => simp [leftOf]
  | cons b r ih =>
    have hb := b.2
    simp only [List.map_cons, leftOf, List.length_cons]
    split <;> omega

theorem cells_kept {W W' : World} {row : Option Nat} {b B : Nat} {c : Array Value} {t : TypeId} {f : Nat × Nat} (h : W.heap[b]? = some (.cells c t f)) (hg : W.grownBy W' row) (hr : ∀ r, row = some r → B ≤ r ∧ ∃ o : Obj, W.heap[r]? = some o ∧ o.isCells = false) : W'.heap[b]? = some (.cells c t f) := by
  refine (hg.block b (lt_of_block h) ?_).trans h
  intro e
  obtain ⟨-, o, ho, hc⟩ := hr b e.symm
  rw [h] at ho
  cases ho
  simp [Obj.isCells] at hc

/-- A boxed block of a round. -/
def bbox (W : World) (p : Nat) (x : Bk) : Prop := W.heap[p]? = some (.cells #[.int .i64 x.1, .int .i64 x.2.1, .bool x.2.2] 44 (0, 0))
theorem bbox.cells {W : World} {p : Nat} {x : Bk} (h : bbox W p x) : W.cell? ⟨p, 0, none⟩ = some (.int .i64 x.1) ∧ W.cell? ⟨p, 1, none⟩ = some (.int .i64 x.2.1) ∧ W.cell? ⟨p, 2, none⟩ = some (.bool x.2.2) := cell_tri h

theorem kc_put (D : Nat) (W : World) (l : Nat) (o o' : Obj) (h : W.heap[l]? = some o) (hc : o.isCells = false) : Kc D W (W.putObj l o') := by
  refine ⟨by simp [World.putObj], fun k c t f _ hk => ?_⟩
  have hne : k ≠ l := by
    rintro rfl
    rw [h] at hk
    cases hk
    simp [Obj.isCells] at hc
  exact (World.putObj_heap_other hne).trans hk

theorem Kp.toBelow {w w' : World} (h : Kp w w' []) : Below w.heap.size w w' := ⟨h.os, h.tape, h.output, h.size, fun k hk => h.block k hk (by simp)⟩

set_option maxRecDepth 100000 in
set_option maxHeartbeats 4000000 in
theorem left_any (w : World) (hb rb mb pb m : Nat) (g : Mem) (c : Int) (P : Pcs) (BL : List Bb) (hBL : BL.map (·.1) = blocksOf m P) (h : Hp w hb rb mb pb m g c P) (hP : Okp m P) (hl : P.length ≤ 65536) (hlen : BL.length ≤ 131073) :
    Calls Tryz.prog 15 #[.pointer (some ⟨hb, 0, none⟩)] w fun e w' => e = .returned (.int .i64 (leftOf (blocksOf m P))) ∧ Kp w w' [] := by
  refine (callsIn_wide (n := 6)).1 ?_
  have h1 : 1 ≤ 6 := by decide
  have hf50 : Fence.wide.fn 50 := trivial
  have A1 := hid ((Kp.alloc w (.cells #[.int .i64 0] 3) []).trans (Kp.alloc _ (.cells #[.pointer (some ⟨hb, 0, none⟩)] 23) []))
  have H1 := hid (h.same A1.out)
  rw [← hBL]
  have HB := hid hBL
  have HP := hid hP
  clear h hBL hP
  refine callsIn_of_wp_marks Tryz.func15 rfl trivial ?_ rfl
  simp only [Tryz.ntmps15, List.size_toArray, List.length_cons, List.length_nil, Nat.reduceAdd, Nat.reduceSub, Array.replicate_succ, Array.replicate_zero, List.push_toArray, List.append_toArray, List.nil_append, List.cons_append]
  gi_wp2_with (gi_at_call 50; refine (all_in _ _ _).mono ?_; rintro e w' ⟨rfl, rfl⟩)
  obtain ⟨W0, hW0⟩ : ∃ W0, (w.alloc (.cells #[.int .i64 0] 3)).alloc (.cells #[.pointer (some ⟨hb, 0, none⟩)] 23) = W0 := ⟨_, rfl⟩
  have hsz : W0.heap.size = w.heap.size + 2 := by rw [← hW0]; simp
  have hbx : W0.cell? ⟨w.heap.size + 1, 0, none⟩ = some (.pointer (some ⟨hb, 0, none⟩)) := by rw [← hW0]; exact cell_new1
  have hs0 : W0.heap[w.heap.size]? = some (.cells #[.int .i64 0] 3 (0, 0)) := by
    rw [← hW0, Below.heap_alloc _ _ _ (by simp)]; exact heap_alloc_new w _
  rw [hW0] at H1 A1 ⊢
  refine wpIn_rangeFunc_ownH rfl h1 (gf := 91) (lb := #[.pointer (some ⟨w.heap.size + 1, 0, none⟩)]) rfl trivial (enters_of Tryz.func91 (by kernel_rfl) rfl)
    (all_stops 5 (by decide) W0.heap.size (w.heap.size + 1) hb rb mb pb m g c P BL HB.out W0 H1.out HP.out hl (Nat.le_refl _) hbx) Kc.trans (fun W l o o' _ h hc _ => kc_put _ W l o o' h hc) (Below.refl _ _) (fun _ => rfl)
    (fun pre W => W.heap[w.heap.size]? = some (.cells #[.int .i64 (leftOf (pre.map (·.1)))] 3 (0, 0)) ∧ Below w.heap.size w W)
    (fun _ _ _ => False)
    (OwnFrom.and (fun s A B row hs hg hr => cells_kept hs hg hr) (ownFrom_below (Nat.le_refl _) (by omega)))
    (fun _ _ _ _ _ hs _ _ => hs)
    ⟨hs0, A1.out.toBelow⟩
    (fun x a' W => ∃ p, bbox W p x.1 ∧ a' = { tmps := #[.pointer (some ⟨hb, 0, none⟩), undef, .int .i64 0, .pointer (some ⟨w.heap.size, 0, none⟩), .pointer (some ⟨p, 0, none⟩), .pointer (some ⟨hb, 0, none⟩), .func (.func 91) #[] #[.pointer (some ⟨w.heap.size + 1, 0, none⟩)], bval x.1, undef, undef, undef, undef, undef, undef, undef, undef], defers := [] })
    (fun x a' s A B row hs hg hr => by obtain ⟨p, x2, x3⟩ := hs; exact ⟨p, cells_kept x2 hg hr, x3⟩)
    ?assign ?body ?done ?stop
  case assign =>
    rintro l pre x W K ⟨hi1, hi2⟩ hK
    have HK := hid hK
    clear hK
    unfold bval
    gi_wp2
    refine HK.out _ _ ((KeepsOthers.alloc _ _).from _) (Kc.of_kp (Kp.alloc _ _ []) (by simp)) ⟨(Below.heap_alloc _ _ _ (lt_of_block hi1)).trans hi1, hi2.trans (((Below.refl _ W).alloc (Nat.le_refl _) _).mono hi2.size)⟩ ⟨W.heap.size, heap_alloc_new W _, rfl⟩
  case body =>
    rintro l pre x a' W hlw ⟨rr, hrr⟩ ⟨hi1, hi2⟩ ⟨p, hbb, rfl⟩ hpre
    have hne : p ≠ w.heap.size := by
      rintro rfl
      unfold bbox at hbb
      rw [hi1] at hbb
      simp at hbb
    obtain ⟨b0, b1, b2⟩ := hbb.cells
    have hx := x.2
    have hbd := leftOf_bound pre
    obtain ⟨s, hs⟩ : ∃ s, leftOf (pre.map (·.1)) = s := ⟨_, rfl⟩
    have HI1 := hid hi1
    rw [hs] at hbd HI1
    have u1 := cell_one HI1.out
    have f1 := free_one HI1.out
    have HI2 := hid hi2
    have SN := hid (show leftOf ((pre ++ [x]).map (·.1)) = if x.1.2.2 then s + (x.1.2.1 - 8) else s by rw [List.map_append, List.map_cons, List.map_nil, leftOf_snoc, hs])
    clear hi1 hi2 hbb hs hrr
    cases hfr : x.1.2.2 with
    | true =>
      rw [hfr] at b2
      have E := hid (show leftOf ((pre ++ [x]).map (·.1)) = s + (x.1.2.1 - 8) by rw [SN.out, hfr]; rfl)
      clear hfr
      gi_wp2
      refine ⟨(KeepsOthers.setCell _ _ _).from _, Kc.of_kp (Kp.setCell _ ⟨w.heap.size, 0, none⟩ _) (by simp; omega), ?_, ?_⟩
      · rw [E.out]; exact set_one HI1.out
      · exact HI2.out.setCell (p := ⟨w.heap.size, 0, none⟩) (Nat.le_refl _) _
    | false =>
      rw [hfr] at b2
      have E := hid (show leftOf ((pre ++ [x]).map (·.1)) = s by rw [SN.out, hfr]; rfl)
      clear hfr
      gi_wp2
      refine ⟨(KeepsOthers.refl _).from _, Kc.refl _ _, ?_, HI2.out⟩
      rw [E.out]; exact HI1.out
  case done =>
    rintro D ys W hD rfl ⟨hi1, hi2⟩ hK
    have u1 := cell_one hi1
    have HK := hid hK
    have HI2 := hid hi2
    clear hK hi2 hi1
    gi_wp2
    refine ⟨by simp, .inl ⟨_, _, rfl, run_takeDeferred HK.out, ?_⟩⟩
    refine ⟨_, results_tmp rfl _ _ _, rfl, ?_⟩
    have hk := Kp.of_below HI2.out
    exact ⟨hk.os, hk.tape, hk.output, by have := hk.size; simp [World.putObj]; exact this, fun k hk' _ => (World.putObj_heap_other (by omega)).trans (hk.block k hk' (by simp))⟩
  case stop =>
    rintro D cc pre W _ _ hx _
    exact hx.elim
end Go.Proofs.YtgefmnnkpffpcaaGreatDoor

/- Two blocks compared; blocks that are read. -/
namespace Go.Proofs.YtgefmnnkpffpcaaGreatDoor
open Go.RowKit Go.Maps Go.Shelf

theorem bk_neq (x y : Bk) (w : World) : (binOp .neq 44 (bval x) (bval y)).run Tryz.prog w = .ok (.bool (!(x == y))) w := by
  obtain ⟨a, z, f⟩ := x
  obtain ⟨b, u, g⟩ := y
  unfold bval
  by_cases h1 : a = b <;> by_cases h2 : z = u <;> cases f <;> cases g <;> simp [go_sem, h1, h2]

/-- The slice value v reads as the blocks l. -/
def Rb (W : World) (v : Value) (l : List Bk) : Prop :=
  ∃ ao cap, v = .slice ao l.length cap ∧ (l ≠ [] → ∃ b off, ao = some ⟨b, off, none⟩ ∧ ∀ k (hk : k < l.length), W.cell? ⟨b, off + k * 3, none⟩ = some (.int .i64 l[k].1) ∧ W.cell? ⟨b, off + k * 3 + 1, none⟩ = some (.int .i64 l[k].2.1) ∧ W.cell? ⟨b, off + k * 3 + 2, none⟩ = some (.bool l[k].2.2))
theorem Rb.keep {W W' : World} {v : Value} {l : List Bk} (h : Rb W v l) (hk : Kp W W' []) : Rb W' v l := by
  obtain ⟨ao, cap, rfl, hc⟩ := h
  refine ⟨ao, cap, rfl, fun hne => ?_⟩
  obtain ⟨b, off, rfl, hcell⟩ := hc hne
  refine ⟨b, off, rfl, fun k hkl => ?_⟩
  obtain ⟨x1, x2, x3⟩ := hcell k hkl
  exact ⟨hk.cell x1 (by simp), hk.cell x2 (by simp), hk.cell x3 (by simp)⟩
theorem Rb.of_owns {W : World} {base : Nat} {v : Value} {l : List Bk} (h : W.ownsRow base 44 3 v l.length (bcells l)) : Rb W v l := by
  rcases h.2 with ⟨rfl, h0⟩ | ⟨g, cap, cur, rfl, -⟩
  · have : l = [] := List.eq_nil_of_length_eq_zero h0
    subst this
    exact ⟨none, 0, rfl, fun hne => absurd rfl hne⟩
  · refine ⟨_, _, rfl, fun hne => ⟨g, 0, rfl, fun k hk => ?_⟩⟩
    have hb := bcells_at l k hk
    have c0 := h.cellAt (k * 3) (by omega)
    have c1 := h.cellAt (k * 3 + 1) (by omega)
    have c2 := h.cellAt (k * 3 + 2) (by omega)
    rw [hb.1] at c0
    rw [hb.2.1] at c1
    rw [hb.2.2] at c2
    rw [Nat.zero_add]
    exact ⟨c0, c1, c2⟩

/-- An iterator over the blocks BL, wherever it is called. -/
def Its (w : World) (p : Option Addr) (BL : List Bb) : Prop :=
  ∀ W bx D, Kp w W [] → W.cell? ⟨bx, 0, none⟩ = some (.pointer p) → D ≤ W.heap.size →
    SeqStopsK Fence.wide 5 Tryz.prog 91 #[.pointer (some ⟨bx, 0, none⟩)] (fun x : Bb => #[bval x.1]) (Kc D) (fun xs => xs = BL) (fun pre => pre <+: BL) BL.length W
theorem its_heap {w : World} {hb rb mb pb m : Nat} {g : Mem} {c : Int} {P : Pcs} (hH : Hp w hb rb mb pb m g c P) (hP : Okp m P) (hl : P.length ≤ 65536) {BL : List Bb} (hBL : BL.map (·.1) = blocksOf m P) : Its w (some ⟨hb, 0, none⟩) BL :=
  fun W bx D hk hbx hD => all_stops 5 (by decide) D bx hb rb mb pb m g c P BL hBL W (hH.same hk) hP hl hD hbx
end Go.Proofs.YtgefmnnkpffpcaaGreatDoor
