/- The walk of metronomelaw01.WireBack: it returns true, and writes nothing that was there. -/
import Derived.Test.YtnnjfhgdimcieaaSigns
import Derived.Deep.RegionHeld3
import Derived.Deep.QuietTactic
import Derived.BigQuiet
namespace Go.Proofs.Ytnnjfhgdimcieaa
open Go.RowKit

/-- The four fields of what is written, boxed at block b, in a world that has grown out of W. -/
abbrev Box (W : World) (b : Nat) (N S : Int) (F : Bool) (vB : Value) (w : World) : Prop :=
  w.cell? ⟨b, 0, none⟩ = some (.int .u64 N) ∧ w.cell? ⟨b, 1, none⟩ = some (.int .i64 S) ∧ w.cell? ⟨b, 2, none⟩ = some (.bool F) ∧ w.cell? ⟨b, 3, none⟩ = some vB ∧ Hid (W.grownBy w none) ∧ Hid (b < W.heap.size)

theorem box_keep {W w1 w2 : World} {b : Nat} {N S : Int} {F : Bool} {vB : Value} (h : Box W b N S F vB w1) (hg : w1.grownBy w2 none) : Box W b N S F vB w2 := by
  obtain ⟨h0, h1, h2, h3, h4, h5⟩ := h
  have hb : w2.heap[b]? = w1.heap[b]? := hg.block b (World.block_lt_of_cell? w1 _ h0) (by simp)
  exact ⟨(World.cell?_of_block (a := ⟨b, 0, none⟩) hb).trans h0, (World.cell?_of_block (a := ⟨b, 1, none⟩) hb).trans h1, (World.cell?_of_block (a := ⟨b, 2, none⟩) hb).trans h2, (World.cell?_of_block (a := ⟨b, 3, none⟩) hb).trans h3, hid (grownBy_trans h4.out hg), h5⟩

theorem box_new (w : World) (N S : Int) (F : Bool) (vB : Value) :
    Box (w.alloc (.cells #[.int .u64 N, .int .i64 S, .bool F, vB] 25)) w.heap.size N S F vB (w.alloc (.cells #[.int .u64 N, .int .i64 S, .bool F, vB] 25)) := by
  have hn := heap_alloc_new w (.cells #[.int .u64 N, .int .i64 S, .bool F, vB] 25)
  exact ⟨cell_of_row _ _ 0 _ 25 (0, 0) hn, cell_of_row _ _ 1 _ 25 (0, 0) hn, cell_of_row _ _ 2 _ 25 (0, 0) hn, cell_of_row _ _ 3 _ 25 (0, 0) hn, World.grownBy.refl _ _, by show _ < _; simp⟩

theorem box_bs {W w1 : World} {b : Nat} {N S : Int} {F : Bool} {vB v : Value} {l : List Int} (h : Bs W v l) (hb : Box W b N S F vB w1) : Bs w1 v l := h.grown hb.2.2.2.2.1.out

theorem owns_bs {w w' : World} {base : Nat} {v : Value} {l : List Int} (h : w.ownsRow base 5 1 v l.length (ub l)) (hg : w.grownBy w' none) : Bs w' v l := (Bs.of_owns h).grown hg

theorem ls_four {w1 w2 w3 w4 : World} {base1 base2 base3 base4 : Nat} {v1 v2 v3 v4 : Value} {l1 l2 l3 l4 : List Int} (h1 : w1.ownsRow base1 5 1 v1 l1.length (ub l1)) (g2 : w1.grownBy w2 none) (h2 : w2.ownsRow base2 5 1 v2 l2.length (ub l2))
    (g3 : w2.grownBy w3 none) (h3 : w3.ownsRow base3 5 1 v3 l3.length (ub l3)) (g4 : w3.grownBy w4 none) (h4 : w4.ownsRow base4 5 1 v4 l4.length (ub l4)) :
    Ls (w4.alloc (.cells #[v1, v2, v3, v4] 23)) (.slice (some ⟨w4.heap.size, 0, none⟩) 4 4) [l1, l2, l3, l4] := by
  have hn := heap_alloc_new w4 (.cells #[v1, v2, v3, v4] 23)
  have ga := World.grownBy_alloc w4 (.cells #[v1, v2, v3, v4] 23) none
  refine ⟨_, _, [v1, v2, v3, v4], rfl, rfl, by simp, fun _ => ⟨_, 0, rfl, fun i hi => ?_⟩, fun i hi => ?_⟩
  · rw [cell_of_row _ _ _ _ 23 (0, 0) hn]
    match i, hi with
    | 0, _ | 1, _ | 2, _ | 3, _ => rfl
  · match i, hi with
    | 0, _ => exact owns_bs h1 (grownBy_trans (grownBy_trans (grownBy_trans g2 g3) g4) ga)
    | 1, _ => exact owns_bs h2 (grownBy_trans (grownBy_trans g3 g4) ga)
    | 2, _ => exact owns_bs h3 (grownBy_trans g4 ga)
    | 3, _ => exact owns_bs h4 ga
theorem four_le (N : Nat) (k : Nat) (lB : List Int) (F : Bool) (h : lB.length ≤ 140737488351232) : [num N, num k, byt lB, flagN F].flatten.length ≤ 140737488355328 := by
  have h1 := num_le N
  have h2 := num_le k
  have h3 := num_le lB.length
  simp [byt, flagN]
  omega

theorem own_rb {w w1 : World} {rb e s : Nat} {v v' : Value} {l : List Int} {n : Nat} {xs : List Value} (h : w1.ownsRow w.heap.size e s v n xs) (hr : Rd w rb v' l) : v.ownBlock ≠ some rb := by
  intro he
  have := (h.lt rb he).1
  have := lt_of_block hr.1
  omega

theorem grownBy_drewN (w : World) (n : Nat) : w.grownBy (w.drewN n) none := ⟨rfl, rfl, rfl, Nat.le_refl _, fun _ _ _ => rfl⟩

set_option maxRecDepth 100000 in
theorem left_any (w : World) (rb : Nat) (v : Value) (l : List Int) (h : Rd w rb v l) :
    Calls Try.prog 21 #[.pointer (some ⟨rb, 0, none⟩)] w fun e w' => e = .returned (.int .i64 l.length) ∧ w' = w := by
  obtain ⟨ao, cap, rfl⟩ := h.shape
  have k0 := cell_two0 h.1
  have k1 := cell_two1 h.1
  clear h
  go_enter Try.func21, Try.ntmps21
  go_wp2
  go_ret
  exact ⟨rfl, rfl⟩

theorem grownBy_drew (w : World) (row : Option Nat) : w.grownBy w.drew row := ⟨rfl, rfl, rfl, Nat.le_refl _, fun _ _ _ => rfl⟩

set_option maxRecDepth 100000 in
set_option maxHeartbeats 2000000 in
theorem back_walk (N : Nat) (S : Int) (F : Bool) (vB vb : Value) (lB lb : List Int) (w : World) (hN : N < 18446744073709551616) (hS0 : -9223372036854775808 ≤ S) (hS1 : S ≤ 9223372036854775807)
    (hB : Bs w vB lB) (hb : Bs w vb lb) (hyB : Byt lB) (hyb : Byt lb) (hmB : lB.length ≤ 140737488351232) (hmb : lb.length ≤ 140737488351232) :
    Calls Try.prog 5 #[.agg #[.int .u64 N, .int .i64 S, .bool F, vB], vb] w fun e w' => e = .returned (.bool true) ∧ w.grownBy w' none := by
  have HN := hid hN
  have HS0 := hid hS0
  have HS1 := hid hS1
  have HB := hid hB
  have Hb := hid hb
  have HyB := hid hyB
  have Hyb := hid hyb
  have HmB := hid hmB
  have Hmb := hid hmb
  obtain ⟨aoB, capB, rfl, -, -, -⟩ := hB
  obtain ⟨aob, capb, rfl, -, -, -⟩ := hb
  clear hN hS0 hS1 hyB hyb hmB hmb
  go_enter Try.func5, Try.ntmps5
  go_wp2
  have HX := box_new w N S F (.slice aoB lB.length capB)
  obtain ⟨W, hW⟩ : ∃ W, W = w.alloc (.cells #[.int .u64 N, .int .i64 S, .bool F, .slice aoB lB.length capB] 25) := ⟨_, rfl⟩
  have HBW := hid (HB.out.grown (World.grownBy_alloc w (.cells #[.int .u64 N, .int .i64 S, .bool F, .slice aoB lB.length capB] 25) none))
  rw [← hW] at HX HBW ⊢
  have HW := hid hW
  clear hW
  obtain ⟨b0, hb0⟩ : ∃ b0, b0 = w.heap.size := ⟨_, rfl⟩
  rw [← hb0] at HX ⊢
  have Hb0 := hid hb0
  clear hb0
  obtain ⟨L, hL⟩ : ∃ L, L = [num N, num (fold S), byt lB, flagN F].flatten := ⟨_, rfl⟩
  have HL := hid hL
  have hmL := hid (four_le N (fold S) lB F HmB.out)
  rw [← hL] at hmL
  clear hL
  go_region_held3 (fun w' => Box W b0 N S F (.slice aoB lB.length capB) w')
    (first
      | exact box_keep HX (grownBy_drew _ _)
      | exact box_keep (by assumption) (by assumption)
      | exact box_keep (by assumption) (World.grownBy_alloc _ _ _))
    (first
      | (go_at_call 9; refine (number_any N _ HN.out).mono ?_; rintro e w1 ⟨v1, rfl, hown1, hg1⟩; obtain ⟨a1, c1, rfl⟩ := owns_shape hown1)
      | (go_at_call 13; refine (signed_any S _ HS0.out HS1.out).mono ?_; rintro e w2 ⟨v2, rfl, hown2, hg2⟩; obtain ⟨a2, c2, rfl⟩ := owns_shape hown2)
      | (go_at_call 8; refine (bytes_any _ _ lB (box_bs HBW.out (by assumption)) (by have := HmB.out; omega)).mono ?_; rintro e w3 ⟨v3, rfl, hown3, hg3⟩; obtain ⟨a3, c3, rfl⟩ := owns_shape hown3)
      | (go_at_call 15; refine (flag_any F _).mono ?_; rintro e w4 ⟨v4, rfl, hown4, hg4⟩; obtain ⟨a4, c4, rfl⟩ := owns_shape hown4)
      | (go_at_call 10; refine (join_any _ _ [num N, num (fold S), byt lB, flagN F] (ls_four hown1 hg2 hown2 hg3 hown3 hg4 hown4) (by rw [← HL.out]; exact hmL.out) (by simp)).mono ?_; rintro e w5 ⟨v5, rfl, hown5, hg5⟩; rw [← HL.out] at hown5; obtain ⟨a5, c5, rfl⟩ := owns_shape hown5))
  have hX5 : Box W b0 N S F (.slice aoB lB.length capB) w5 := by assumption
  have HX5 := hid hX5
  have HO5 := hid hown5
  clear hX5 hown5 hown1 hown2 hown3 hown4 hg1 hg2 hg3 hg4 hg5 HX
  have HyL : Hid (Byt L) := by
    rw [HL.out]
    simp only [List.flatten_cons, List.flatten_nil, List.append_nil]
    exact (byt_num N HN.out).append ((byt_num _ (fold_lt S HS0.out HS1.out)).append ((byt_byt lB HyB.out (by have := HmB.out; omega)).append (byt_flag F)))
  go_wp2_with fail
  refine (open_any w5 _ L (Bs.of_owns HO5.out) hmL.out).mono ?_
  rintro e w6 ⟨rb, v6, rfl, hr6, hb6, -, hg6⟩
  have HR6 := hid hr6
  have HG6 := hid hg6
  clear hr6 hg6
  go_wp2_with fail
  have q7 := hid (show rnum 0 0 L = some (N, num (fold S) ++ (byt lB ++ flagN F)) by
    rw [HL.out]
    simp only [List.flatten_cons, List.flatten_nil, List.append_nil]
    exact rnum_num N _ HN.out)
  refine (rNumber_yes _ rb _ L N _ HR6.out HyL.out (by have := hmL.out; omega) q7.out).mono ?_
  rintro e w7 ⟨rfl, hg7, v7, hr7, -⟩
  have HR7 := hid hr7
  have HG7 := hid (grown_past HG6.out hg7 hb6)
  clear hr7 hg7
  go_wp2_with fail
  have hy8 := hid (show Byt (num (fold S) ++ (byt lB ++ flagN F)) from (byt_num _ (fold_lt S HS0.out HS1.out)).append ((byt_byt lB HyB.out (by have := HmB.out; omega)).append (byt_flag F)))
  have hl8 := hid (show (num (fold S) ++ (byt lB ++ flagN F)).length ≤ 140737488355328 by
    have h2 := num_le (fold S)
    have h3 := num_le lB.length
    have := HmB.out
    simp [byt, flagN]
    omega)
  have q8 := hid (rnum_num (fold S) (byt lB ++ flagN F) (fold_lt S HS0.out HS1.out))
  refine (rSigned_yes _ rb _ _ (fold S) _ HR7.out hy8.out (by have := hl8.out; omega) q8.out).mono ?_
  rw [unf_fold]
  rintro e w8 ⟨rfl, hg8, v8, hr8, -⟩
  have HR8 := hid hr8
  have HG8 := hid (grown_past HG7.out hg8 hb6)
  have hX8 := box_keep HX5.out HG8.out
  clear hr8 hg8
  go_wp2_with fail
  have q9 := hid (rbytes_byt (lB.length : Int) lB (flagN F) (Int.le_refl _) (by have := HmB.out; omega))
  have hy9 := hid (show Byt (byt lB ++ flagN F) from (byt_byt lB HyB.out (by have := HmB.out; omega)).append (byt_flag F))
  have hl9 := hid (show (byt lB ++ flagN F).length ≤ 140737488355328 by
    have h3 := num_le lB.length
    have := HmB.out
    simp [byt, flagN]
    omega)
  refine (rBytes_ok _ rb _ _ (lB.length : Int) lB (flagN F) HR8.out hy9.out hl9.out (by have := HmB.out; omega) q9.out).mono ?_
  rintro e w9 ⟨v9, rfl, hown9, hg9, v9', hr9, -⟩
  have HR9 := hid hr9
  have HG9 := hid (grown_past HG8.out hg9 hb6)
  have HO9 := hid hown9
  clear hr9 hg9 hown9 hX8
  go_wp2_with fail
  refine (rFlag_yes _ rb _ (flagN F) F [] HR9.out (byt_flag F) (by simp [flagN]) (by have := rflag_flag F []; simpa using this)).mono ?_
  rintro e w10 ⟨rfl, hg10, v10, hr10, -⟩
  have HG10 := hid (grown_past HG9.out hg10 hb6)
  have hX10 := box_keep HX5.out HG10.out
  have k0 := cell_two0 hr10.1
  have k1 := cell_two1 hr10.1
  obtain ⟨ao10, cap10, rfl⟩ := hr10.shape
  simp only [List.length_nil] at k0
  have hcv9 := conv_bs ((Bs.of_owns HO9.out).keep fun k hk => hg10.block k (HO9.out.lt k hk).2 (fun e => own_rb HO9.out HR8.out (by rw [hk]; exact e)))
  have hcvB := conv_bs ((box_bs HBW.out HX5.out).grown HG10.out)
  clear hr10 hg10
  go_wp2_with (first | (go_at_call 23; go_in) | (go_at_call 24; go_in) | (go_at_call 45; go_in))
  have G10 := hid (show w.grownBy w10 none from grownBy_trans (grownBy_trans (by rw [HW.out]; exact World.grownBy_alloc _ _ _) HX5.out.2.2.2.2.1.out) HG10.out)
  clear hX10 k0 k1 hcv9 hcvB HX5 HO5 HO9 HR6 HR7 HR8 HR9 HG6 HG7 HG8 HG9 HG10 HL hmL HyL q7 hy8 hl8 q8 q9 hy9 hl9 HBW HW Hb0
  refine (open_any w10 _ lb (Hb.out.grown G10.out) (by have := Hmb.out; omega)).mono ?_
  rintro e w11 ⟨rc, v11, rfl, hr11, hb11, hbv11, hg11⟩
  have HR11 := hid hr11
  have HG11 := hid hg11
  clear hr11 hg11
  cases hq : rbytes (lb.length : Int) lb with
  | error er =>
    have Hq := hid hq
    have her := rbytes_err (by omega) hq
    clear hq
    go_wp2_with fail
    refine (rBytes_err _ rc _ lb (lb.length : Int) er HR11.out Hyb.out (by have := Hmb.out; omega) (by have := Hmb.out; omega) Hq.out).mono ?_
    rintro e w12 ⟨rfl, hg12, hr12⟩
    have HG12 := hid (grown_past HG11.out hg12 hb11)
    have k0 := cell_two0 hr12.1
    have k1 := cell_two1 hr12.1
    obtain ⟨ao12, cap12, rfl⟩ := hr12.shape
    clear hr12 hg12
    rcases her with rfl | rfl
    all_goals
      go_wp2_with (first | (go_at_call 23; go_in) | (go_at_call 21; go_in) | (go_at_call 45; go_in) | (go_at_call 18; refine (known_any _).mono ?_; rintro e w13 ⟨rfl, hg13⟩; have HG13 := hid hg13; clear hg13))
      go_ret
      exact ⟨rfl, grownBy_trans (grownBy_trans G10.out HG12.out) HG13.out⟩
  | ok p =>
    obtain ⟨y, r⟩ := p
    have Hq := hid hq
    have hyl := byt_rbytes Hyb.out hq
    have Hyl := hid hyl
    have hle : (byt y).length + r.length = lb.length := by rw [hyl]; simp
    have hyle : y.length ≤ (byt y).length := by simp [byt]
    clear hq hyl
    go_wp2_with fail
    refine (rBytes_ok _ rc _ lb (lb.length : Int) y r HR11.out Hyb.out (by have := Hmb.out; omega) (by have := Hmb.out; omega) Hq.out).mono ?_
    rintro e w12 ⟨v12, rfl, hown12, hg12, v12', hr12, ho12⟩
    have HG12 := hid (grown_past HG11.out hg12 hb11)
    have HO12 := hid hown12
    have HR12 := hid hr12
    clear hr12 hg12 hown12 ho12
    go_wp2_with (go_at_call 23; go_in)
    refine (bytes_any _ _ y (Bs.of_owns HO12.out) (by have := Hmb.out; omega)).mono ?_
    rintro e w13 ⟨v13, rfl, hown13, hg13⟩
    obtain ⟨a13, c13, rfl⟩ := owns_shape hown13
    have HO13 := hid hown13
    have HG13 := hid hg13
    have HR13 := hid (HR12.out.keep hg13 (by simp) (.inl rfl))
    have hcap : lb.length ≤ capb := by obtain ⟨_, _, hv, hl, -⟩ := Hb.out; cases hv; exact hl
    have G13 := hid (grownBy_trans (grownBy_trans G10.out HG12.out) hg13)
    have hcv1 : ∀ n, (convert 23 9 (.slice a13 (byt y).length c13)).run Try.prog (w13.drewN n) = .ok (.string (strOfNums (byt y))) (w13.drewN n) := fun n => conv_bs ((Bs.of_owns HO13.out).grown (grownBy_drewN _ _))
    have hcv2 : ∀ n, (convert 23 9 (.slice aob (byt y).length capb)).run Try.prog (w13.drewN n) = .ok (.string (strOfNums (byt y))) (w13.drewN n) := fun n => by
      have h1 := bs_take (n := (byt y).length) ((Hb.out.grown G13.out).grown (grownBy_drewN w13 n)) (by omega)
      have h2 : lb.take (byt y).length = byt y := by rw [Hyl.out, List.take_left]
      rw [h2] at h1
      exact conv_bs h1
    have hleI : ((byt y).length : Int) = (lb.length : Int) - (r.length : Int) := by omega
    have HLE := hid hleI
    have hgd : (((byt y).length : Int) != (lb.length : Int) - (r.length : Int)) = false := by rw [hleI]; simp
    have hb1 : ((byt y).length : Int) ≤ (capb : Int) := by omega
    have hb2 : (lb.length : Int) ≤ 140737488351232 := by have := Hmb.out; omega
    have hb3 : (r.length : Int) ≤ (lb.length : Int) := by omega
    clear hown13 hg13 HR12 HO12 HR11 HG11 hleI hle
    go_wp2_with fail
    go_quiet ((go_at_call 21; exact Calls.quiet_of_same (left_any _ rc _ r (HR13.out.keep (grownBy_drewN _ _) (by simp) (.inl rfl)))))
    have hpos : 1 ≤ (byt y).length := by have := digs_pos 9 y.length; simp [byt, num]; omega
    have hpI : (1 : Int) ≤ ((byt y).length : Int) := by omega
    have hbI : ((byt y).length : Int) ≤ 140737488351232 := by have := HLE.out; omega
    obtain ⟨m, hm⟩ : ∃ m : Nat, (byt y).length = m + 1 := ⟨(byt y).length - 1, by omega⟩
    have hcap13 : (byt y).length ≤ c13 := by obtain ⟨_, _, hv, hl, -⟩ := Bs.of_owns HO13.out; cases hv; exact hl
    have hc13 : ((byt y).length : Int) - 1 ≤ (c13 : Int) := by omega
    have Hm := hid hm
    clear hm
    go_wp2_with fail
    have hlt1 : ((byt y).take ((byt y).length - 1)).length = (byt y).length - 1 := by simp
    have HLT1 := hid hlt1
    have HB1 : Hid (Bs (w13.drewN nq) (.slice a13 ((byt y).length - 1) c13) ((byt y).take ((byt y).length - 1))) := bs_take ((Bs.of_owns HO13.out).grown (grownBy_drewN w13 nq)) (by omega)
    have HY1 : Hid (Byt ((byt y).take ((byt y).length - 1))) := fun x hx => Hyb.out x (by rw [Hyl.out]; exact List.mem_append_left _ (List.mem_of_mem_take hx))
    have HE := hid (rbytes_cut (lb.length : Int) y (by have := HLE.out; omega) (by omega))
    obtain ⟨T, hT⟩ : ∃ T, T = (byt y).take ((byt y).length - 1) := ⟨_, rfl⟩
    rw [← hT] at HE HB1 HLT1 HY1
    clear hlt1 hT
    have hTm := hid (show T.length ≤ 140737488351232 by rw [HLT1.out]; omega)
    refine (open_any _ _ T HB1.out (by have := hTm.out; omega)).mono ?_
    rintro e w14 ⟨rd, v14, rfl, hr14, hb14, -, hg14⟩
    have HR14 := hid hr14
    have HG14 := hid hg14
    clear hr14 hg14 hcv1 hcv2
    go_wp2_with fail
    refine (rBytes_err _ rd _ T (lb.length : Int) 4 HR14.out HY1.out (by have := hTm.out; omega) (by omega) HE.out).mono ?_
    rintro e w15 ⟨rfl, hg15, -⟩
    have HG15 := hid (grown_past HG14.out hg15 hb14)
    clear hg15
    go_wp2_with (first | (go_at_call 23; go_in) | (go_at_call 18; refine (known_any _).mono ?_; rintro e w16 ⟨rfl, hg16⟩; have HG16 := hid hg16; clear hg16))
    go_ret
    exact ⟨rfl, grownBy_trans (grownBy_trans (grownBy_trans G13.out (grownBy_drewN w13 nq)) HG15.out) HG16.out⟩
end Go.Proofs.Ytnnjfhgdimcieaa
