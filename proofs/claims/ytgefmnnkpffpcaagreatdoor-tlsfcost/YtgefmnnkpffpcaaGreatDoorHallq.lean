/- All, once more: its blocks bear a property. -/
import Derived.Test.YtgefmnnkpffpcaaGreatDoorHcheck2J
namespace Go.Proofs.YtgefmnnkpffpcaaGreatDoor
open Go.RowKit Go.Maps Go.Shelf
attribute [local go_sem] Oper.semAt_some

/-- A block of bounded numbers that bears a property. -/
abbrev Bq (q : Bk → Prop) := { b : Bk // (0 ≤ b.1 ∧ b.1 ≤ 1000000 ∧ 0 ≤ b.2.1 ∧ b.2.1 ≤ 1000000) ∧ q b }

set_option maxRecDepth 100000 in
set_option maxHeartbeats 2000000 in
theorem all1_q (q : Bk → Prop) (n : Nat) (hn : 1 ≤ n) (l D bx hb rb mb pb m : Nat) (g : Mem) (c : Int) (P : Pcs) (BL : List (Bq q)) (hBL : BL.map (·.1) = blocksOf m P) (J Jx : List (Bq q) → World → Prop) (W : World) (hH : Hp W hb rb mb pb m g c P) (hP : Okp m P) (hl : P.length ≤ 65536) (hD : D ≤ W.heap.size)
    (hbx : W.cell? ⟨bx, 0, none⟩ = some (.pointer (some ⟨hb, 0, none⟩))) (hJ : AbidesFrom W.heap.size J)
    (hY : ∀ pre x W1, J pre W1 → pre.length < BL.length → YieldAt Fence.wide (n - 1) Tryz.prog l #[bval x.1] W1 fun e W' =>
      (e = .returned (.bool true) ∧ J (pre ++ [x]) W' ∧ Kc D W1 W') ∨ (e = .returned (.bool false) ∧ Jx (pre ++ [x]) W'))
    (h0 : J [] W) :
    CallsIn Fence.wide n Tryz.prog 91 #[.func (.yield l) #[] #[], .pointer (some ⟨bx, 0, none⟩)] W fun e W' => (∃ v, e = .returned v) ∧ ((∃ xs, xs = BL ∧ J xs W') ∨ (∃ pre, pre <+: BL ∧ Jx pre W')) := by
  have cB := (callsIn_wide (n := n - 1)).2 (blocks_any W hb rb mb pb m g c P hH hP hl)
  have HH := hid hH
  have HB := hid hBL
  have HJ := hid hJ
  have HY := hid hY
  have H0 := hid h0
  have hlen := congrArg List.length hBL
  simp only [List.length_map] at hlen
  have HLEN := hid hlen
  have hf92 : Fence.wide.fn 92 := trivial
  have hbl : BL.length ≤ 131073 := by
    rw [hlen]
    have h1 := bst_bounds hP P.length (Nat.le_refl _)
    rw [List.take_length] at h1
    have h2 := filled_length (bst P).1 m (bst P).2
    unfold blocksOf
    omega
  clear hH hBL hJ hY h0 hlen
  refine callsIn_of_wp Tryz.func91 rfl trivial ?_ rfl
  simp only [Tryz.ntmps91, List.size_toArray, List.length_cons, List.length_nil, Nat.reduceAdd, Nat.reduceSub, Array.replicate_succ, Array.replicate_zero, List.push_toArray, List.append_toArray, List.nil_append, List.cons_append]
  gi_wp2_with (gi_at_call 92; refine cB.mono ?_; rintro e w1 ⟨v, rfl, hown, hK⟩; obtain ⟨ao, cp, rfl⟩ := owns_shape hown; have O1 := hid hown; have K1 := hid hK; clear hown hK)
  gi_loopw [8] (fun i wr => ∃ k : Nat, k ≤ BL.length ∧ i = .int .i64 k ∧ Hid (J (BL.take k) wr) ∧ Hid (wr.ownsRow W.heap.size 44 3 (.slice ao (blocksOf m P).length cp) (blocksOf m P).length (bcells (blocksOf m P))))
    (fun i _ => BL.length - (intOf i).toNat)
  case atStart => exact ⟨0, Nat.zero_le _, rfl, HJ.out _ _ _ none H0.out K1.out.toGrownNone (by simp), O1.out⟩
  case round =>
    obtain ⟨k, hk, rfl, hJs, hO⟩ := hrel
    have hN := HLEN.out
    by_cases hlt : k < BL.length
    · have hltI : (k : Int) < ((blocksOf m P).length : Int) := by omega
      have hx : (blocksOf m P)[k]'(by omega) = BL[k].1 := by
        have := HB.out
        simp only [← this, List.getElem_map]
      obtain ⟨x, hxx⟩ : ∃ x, BL[k] = x := ⟨_, rfl⟩
      rw [hxx] at hx
      rcases hO.out.2 with ⟨-, hz⟩ | ⟨gg, cap', cur, hvv, hbg, hgg, hnc, hcm, hcs, htake⟩
      · omega
      · simp only [Value.slice.injEq, true_and] at hvv
        obtain ⟨rfl, rfl⟩ := hvv
        have hcl := bcells_at (blocksOf m P) k (by omega)
        rw [hx] at hcl
        have c0 := hO.out.cellAt (k * 3) (by omega)
        have c1 := hO.out.cellAt (k * 3 + 1) (by omega)
        have c2 := hO.out.cellAt (k * 3 + 2) (by omega)
        rw [hcl.1] at c0
        rw [hcl.2.1] at c1
        rw [hcl.2.2] at c2
        have TK := hid (show BL.take (k + 1) = BL.take k ++ [x] by rw [List.take_succ_eq_append_getElem hlt, hxx])
        have hJ2 := HJ.out _ _ (wr.alloc (.cells #[.int .i64 x.1.1, .int .i64 x.1.2.1, .bool x.1.2.2] 44)) none hJs.out (World.grownBy_alloc wr _ none) (by simp)
        have KA := hid (Kc.of_kp (D := D) (Kp.alloc wr (.cells #[.int .i64 x.1.1, .int .i64 x.1.2.1, .bool x.1.2.2] 44) []) (by simp))
        obtain ⟨fn, tmps, assign, body, hy, hR⟩ := HY.out _ x _ hJ2 (by simp; omega)
        unfold bval at hy
        have HR := hid hR
        have hg1 : gg < wr.heap.size := lt_of_block hgg
        have hDW : W.heap.size ≤ wr.heap.size := by omega
        clear hx hxx hgg htake hnc hcm hcs hcl hJ2 hR
        gi_wp2
        refine HR.out.mono ?_
        rintro e W3 (⟨rfl, hJ3, hk3⟩ | ⟨rfl, hJx3⟩)
        · have O3 := hid (hk3.own (KA.out.own hO.out hD) hD)
          have J3 := hid hJ3
          clear hJ3 hk3
          gi_wp2
          go_roundw
          case rel => exact ⟨k + 1, by omega, by simp, by rw [TK.out]; exact J3.out, O3.out⟩
          case measure => simp [intOf]; omega
        · have JX := hid hJx3
          clear hJx3
          gi_wp2
          refine bodyPost_ret (results_none rfl _ _ _) rfl ?_
          exact ⟨⟨_, rfl⟩, .inr ⟨_, by rw [← TK.out]; exact List.take_prefix _ _, JX.out⟩⟩
    · have hltI : ¬ (k : Int) < ((blocksOf m P).length : Int) := by omega
      have hJe := hJs.out
      rw [List.take_of_length_le (by omega)] at hJe
      have JE := hid hJe
      clear hJe
      gi_wp2
      go_end0
      exact ⟨⟨_, rfl⟩, .inl JE.out⟩

/-- The iterator's contract. -/
theorem all_stops_q (q : Bk → Prop) (n : Nat) (hn : 1 ≤ n) (D bx hb rb mb pb m : Nat) (g : Mem) (c : Int) (P : Pcs) (BL : List (Bq q)) (hBL : BL.map (·.1) = blocksOf m P) (w : World) (hH : Hp w hb rb mb pb m g c P) (hP : Okp m P) (hl : P.length ≤ 65536) (hD : D ≤ w.heap.size)
    (hbx : w.cell? ⟨bx, 0, none⟩ = some (.pointer (some ⟨hb, 0, none⟩))) :
    SeqStopsK Fence.wide n Tryz.prog 91 #[.pointer (some ⟨bx, 0, none⟩)] (fun x : Bq q => #[bval x.1]) (Kc D) (fun xs => xs = BL) (fun pre => pre <+: BL) BL.length w := fun l J Jx W hW hJ _ hY h0 => by
  have hk : Kp w W [] := Kp.of_below hW
  exact all1_q q n hn l D bx hb rb mb pb m g c P BL hBL J Jx W (hH.same hk) hP hl (Nat.le_trans hD hk.size) (hk.cell hbx (by simp)) hJ hY h0

end Go.Proofs.YtgefmnnkpffpcaaGreatDoor
