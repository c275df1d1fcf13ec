/- The lists, as Check goes over them. No Go is walked here. -/
import Derived.Test.YtgefmnnkpffpcaaGreatDoorHrepAllocJ
import Derived.Test.YtgefmnnkpffpcaaGreatDoorHzeroJ
namespace Go.Proofs.YtgefmnnkpffpcaaGreatDoor

theorem find_del {M : Pcs} {a x : Int} (h : x ≠ a) : (delP M a).find? (fun p => p.1 == x) = M.find? (fun p => p.1 == x) := by
  unfold delP
  rw [List.find?_filter]
  congr 1
  funext p
  by_cases e : p.1 = x
  · have : p.1 ≠ a := by omega
    simp [e, h]
  · simp [e]
theorem get_del {M : Pcs} {a x : Int} (h : x ≠ a) : getP (delP M a) x = getP M x := by unfold getP; rw [find_del h]
theorem has_del {M : Pcs} {a x : Int} (h : x ≠ a) : hasP (delP M a) x = hasP M x := by
  unfold hasP
  rw [Bool.eq_iff_iff, List.any_eq_true, List.any_eq_true]
  constructor
  · rintro ⟨p, hp, e⟩; exact ⟨p, (mem_del.1 hp).1, e⟩
  · rintro ⟨p, hp, e⟩; exact ⟨p, mem_del.2 ⟨hp, fun e2 => h (by rw [← beq_iff_eq.1 e, e2])⟩, e⟩
/-- One list is gone over: its blocks are struck out. -/
theorem chk_list {n : Nat} {g : Mem} {cl : Int} : ∀ (Fc : List Int) (K : Nat) (p : Int) (M : Pcs), Fc.length ≤ K → Links g p Fc → Fc.Nodup → (∀ x ∈ Fc, 112 ≤ x ∧ x % 8 = 0 ∧ x + 16 ≤ (n : Int)) → (∀ x ∈ Fc, hasP M x = true ∧ getP M x = cl) →
    chkL n g cl K p (Fc.headD 0) M = some (Fc.foldl delP M)
  | [], K, p, M, _, _, _, _, _ => by
    cases K <;> simp [chkL]
  | a :: r, 0, p, M, h, _, _, _, _ => by simp at h
  | a :: r, K + 1, p, M, h, hl, hn, hb, hm => by
    have ha := hb a (by simp)
    have w : hasW n (a + 8) = true ∧ hasW n (a + 12) = true := by unfold hasW; simp only [decide_eq_true_eq]; omega
    obtain ⟨l1, l2, l3⟩ := hl
    obtain ⟨n1, n2⟩ := List.nodup_cons.1 hn
    have r12 : rd n g (a + 12) = p := by unfold rd; rw [if_pos w.2]; exact l1
    have r8 : rd n g (a + 8) = r.headD 0 := by unfold rd; rw [if_pos w.1]; exact l2
    have hm1 := hm a (by simp)
    show chkL n g cl (K + 1) p a M = _
    rw [chkL, if_neg (by omega), if_pos ⟨hm1.1, hm1.2, r12⟩, r8]
    refine chk_list r K a (delP M a) (by simpa using h) l3 n2 (fun x hx => hb x (by simp [hx])) (fun x hx => ?_)
    have hne : x ≠ a := fun e => n1 (e ▸ hx)
    rw [has_del hne, get_del hne]
    exact hm x (by simp [hx])
theorem foldl_del_mem {q : Int × Int} : ∀ (Fc : List Int) (M : Pcs), q ∈ Fc.foldl delP M ↔ q ∈ M ∧ q.1 ∉ Fc
  | [], M => by simp
  | a :: r, M => by
    rw [List.foldl_cons, foldl_del_mem r (delP M a), mem_del]
    simp only [List.mem_cons, not_or]
    constructor
    · rintro ⟨⟨h1, h2⟩, h3⟩; exact ⟨h1, h2, h3⟩
    · rintro ⟨h1, h2, h3⟩; exact ⟨⟨h1, h2⟩, h3⟩
theorem foldl_del_get (x : Int) : ∀ (Fc : List Int) (M : Pcs), x ∉ Fc → hasP (Fc.foldl delP M) x = hasP M x ∧ getP (Fc.foldl delP M) x = getP M x
  | [], M, _ => ⟨rfl, rfl⟩
  | a :: r, M, h => by
    have h1 : x ≠ a := fun e => h (by simp [e])
    have ih := foldl_del_get x r (delP M a) (fun e => h (List.mem_cons_of_mem _ e))
    rw [List.foldl_cons, ih.1, ih.2, has_del h1, get_del h1]
    exact ⟨rfl, rfl⟩
/-- All lists are gone over, from class i on: what is left are the blocks of none of them. -/
theorem chk_all {n : Nat} {g : Mem} {L : List Bl} {F : Nat → List Int} (h : Rep n g L F (fun _ => False)) {K : Nat} (hK : ∀ c, c < 24 → (F c).length ≤ K) : ∀ (j i S : Nat) (M : Pcs), i + j = 24 → (∀ c, i ≤ c → c < 24 → ∀ x ∈ F c, hasP M x = true ∧ getP M x = c) →
    ∃ S' M', chkA n g K j i S M = some (S', M') ∧ (∀ q, q ∈ M' ↔ q ∈ M ∧ ∀ c, i ≤ c → c < 24 → q.1 ∉ F c) ∧ (∀ b, S'.testBit b = (S.testBit b || (decide (i ≤ b ∧ b < 24) && !(F b).isEmpty)))
  | 0, i, S, M, e, _ => ⟨S, M, rfl, fun q => ⟨fun hq => ⟨hq, fun c h1 h2 => by omega⟩, fun hq => hq.1⟩, fun b => by rw [decide_eq_false (by omega)]; simp⟩
  | j + 1, i, S, M, e, hm => by
    have hi : i < 24 := by omega
    have hn : 112 ≤ n := by have := contig_le h.ct; omega
    have hge : ∀ x ∈ F i, 112 ≤ x ∧ x % 8 = 0 ∧ x + 16 ≤ (n : Int) := fun x hx => by
      obtain ⟨z, hz, -⟩ := h.mem hi hx
      have := h.blk hz
      simp only at this
      omega
    have rh : rd n g (4 + (i : Int) * 4) = (F i).headD 0 := by
      unfold rd
      rw [if_pos (hasW_head hn (by omega) (by omega)), show (4 + (i : Int) * 4).toNat = 4 + i * 4 by omega, h.hd i hi]
    have hl := chk_list (n := n) (g := g) (cl := i) (F i) K 0 M (hK i hi) (h.lk i hi) (h.nd i hi) hge (hm i (Nat.le_refl _) hi)
    rw [chkA, rh, hl]
    obtain ⟨S', M', e1, e2, e3⟩ := chk_all h hK j (i + 1) (if (F i).headD 0 = 0 then S else S ||| 2 ^ i) ((F i).foldl delP M) (by omega) (fun c h1 h2 x hx => by
      have hne : x ∉ F i := fun q => by have := h.one h2 hi hx q; omega
      have := foldl_del_get x (F i) M hne
      rw [this.1, this.2]
      exact hm c (by omega) h2 x hx)
    refine ⟨S', M', e1, fun q => ?_, fun b => ?_⟩
    · rw [e2 q, foldl_del_mem]
      constructor
      · rintro ⟨⟨q1, q2⟩, q3⟩
        refine ⟨q1, fun c h1 h2 => ?_⟩
        by_cases ec : c = i
        · rw [ec]; exact q2
        · exact q3 c (by omega) h2
      · rintro ⟨q1, q2⟩
        exact ⟨⟨q1, q2 i (Nat.le_refl _) hi⟩, fun c h1 h2 => q2 c (by omega) h2⟩
    · rw [e3 b]
      have hz := head_zero (A := F i) (fun x hx => (hge x hx).1)
      by_cases eb : b = i
      · subst eb
        rw [decide_eq_false (show ¬ (b + 1 ≤ b ∧ b < 24) by omega), decide_eq_true (show b ≤ b ∧ b < 24 by omega)]
        by_cases en : F b = []
        · rw [if_pos (hz.2 en), en]; simp
        · rw [if_neg (fun q => en (hz.1 q)), Nat.testBit_or, Nat.testBit_two_pow]
          cases hF : F b with
          | nil => exact absurd hF en
          | cons x r => simp
      · have ed : decide (i + 1 ≤ b ∧ b < 24) = decide (i ≤ b ∧ b < 24) := by
          rw [decide_eq_decide]; omega
        rw [ed]
        congr 1
        split
        · rfl
        · rw [Nat.testBit_or, Nat.testBit_two_pow, decide_eq_false (fun q => eb q.symm)]; simp
end Go.Proofs.YtgefmnnkpffpcaaGreatDoor

/- All, once more: its blocks bear a property. -/
namespace Go.Proofs.YtgefmnnkpffpcaaGreatDoor
open Go.RowKit Go.Maps Go.Shelf
attribute [local go_sem] Oper.semAt_some

/-- A block of bounded numbers that bears a property. -/
abbrev Bq (q : Bk → Prop) := { b : Bk // (0 ≤ b.1 ∧ b.1 ≤ 1000000 ∧ 0 ≤ b.2.1 ∧ b.2.1 ≤ 1000000) ∧ q b }

set_option maxRecDepth 100000 in
set_option maxHeartbeats 2000000 in
theorem all1_q (q : Bk → Prop) (n : Nat) (hn : 1 ≤ n) (l D bx hb rb mb pb m : Nat) (g : Mem) (c : Int) (P : Pcs) (BL : List (Bq q)) (hBL : BL.map (·.1) = blocksOf m P) (J Jx : List (Bq q) → World → Prop) (W : World) (hH : Hp W hb rb mb pb m g c P) (hP : Okp m P) (hl : P.length ≤ 65536) (hD : D ≤ W.heap.size)
    (hbx : W.cell? ⟨bx, 0, none⟩ = some (.pointer (some ⟨hb, 0, none⟩))) (hJ : AbidesFrom W.heap.size J)
    (hY : ∀ pre x W1, J pre W1 → pre.length < BL.length → YieldAt Fence.wide (n - 1) Tryz.prog l #[bval x.1] W1 fun e W' =>
      (e = .returned (.bool true) ∧ J (pre ++ [x]) W' ∧ Kc D W1 W') ∨ (e = .returned (.bool false) ∧ Jx (pre ++ [x]) W'))
    (h0 : J [] W) :
    CallsIn Fence.wide n Tryz.prog 91 #[.func (.yield l) #[] #[], .pointer (some ⟨bx, 0, none⟩)] W fun e W' => (∃ v, e = .returned v) ∧ ((∃ xs, xs = BL ∧ J xs W') ∨ (∃ pre, pre <+: BL ∧ Jx pre W')) := by
  have cB := (callsIn_wide (n := n - 1)).2 (blocks_any W hb rb mb pb m g c P hH hP hl)
  have HH := hid hH
  have HB := hid hBL
  have HJ := hid hJ
  have HY := hid hY
  have H0 := hid h0
  have hlen := congrArg List.length hBL
  simp only [List.length_map] at hlen
  have HLEN := hid hlen
  have hf92 : Fence.wide.fn 92 := trivial
  have hbl : BL.length ≤ 131073 := by
    rw [hlen]
    have h1 := bst_bounds hP P.length (Nat.le_refl _)
    rw [List.take_length] at h1
    have h2 := filled_length (bst P).1 m (bst P).2
    unfold blocksOf
    omega
  clear hH hBL hJ hY h0 hlen
  refine callsIn_of_wp Tryz.func91 rfl trivial ?_ rfl
  simp only [Tryz.ntmps91, List.size_toArray, List.length_cons, List.length_nil, Nat.reduceAdd, Nat.reduceSub, Array.replicate_succ, Array.replicate_zero, List.push_toArray, List.append_toArray, List.nil_append, List.cons_append]
  gi_wp2_with (gi_at_call 92; refine cB.mono ?_; rintro e w1 ⟨v, rfl, hown, hK⟩; obtain ⟨ao, cp, rfl⟩ := owns_shape hown; have O1 := hid hown; have K1 := hid hK; clear hown hK)
  gi_loopw [8] (fun i wr => ∃ k : Nat, k ≤ BL.length ∧ i = .int .i64 k ∧ Hid (J (BL.take k) wr) ∧ Hid (wr.ownsRow W.heap.size 44 3 (.slice ao (blocksOf m P).length cp) (blocksOf m P).length (bcells (blocksOf m P))))
    (fun i _ => BL.length - (intOf i).toNat)
  case atStart => exact ⟨0, Nat.zero_le _, rfl, HJ.out _ _ _ none H0.out K1.out.toGrownNone (by simp), O1.out⟩
  case round =>
    obtain ⟨k, hk, rfl, hJs, hO⟩ := hrel
    have hN := HLEN.out
    by_cases hlt : k < BL.length
    · have hltI : (k : Int) < ((blocksOf m P).length : Int) := by omega
      have hx : (blocksOf m P)[k]'(by omega) = BL[k].1 := by
        have := HB.out
        simp only [← this, List.getElem_map]
      obtain ⟨x, hxx⟩ : ∃ x, BL[k] = x := ⟨_, rfl⟩
      rw [hxx] at hx
      rcases hO.out.2 with ⟨-, hz⟩ | ⟨gg, cap', cur, hvv, hbg, hgg, hnc, hcm, hcs, htake⟩
      · omega
      · simp only [Value.slice.injEq, true_and] at hvv
        obtain ⟨rfl, rfl⟩ := hvv
        have hcl := bcells_at (blocksOf m P) k (by omega)
        rw [hx] at hcl
        have c0 := hO.out.cellAt (k * 3) (by omega)
        have c1 := hO.out.cellAt (k * 3 + 1) (by omega)
        have c2 := hO.out.cellAt (k * 3 + 2) (by omega)
        rw [hcl.1] at c0
        rw [hcl.2.1] at c1
        rw [hcl.2.2] at c2
        have TK := hid (show BL.take (k + 1) = BL.take k ++ [x] by rw [List.take_succ_eq_append_getElem hlt, hxx])
        have hJ2 := HJ.out _ _ (wr.alloc (.cells #[.int .i64 x.1.1, .int .i64 x.1.2.1, .bool x.1.2.2] 44)) none hJs.out (World.grownBy_alloc wr _ none) (by simp)
        have KA := hid (Kc.of_kp (D := D) (Kp.alloc wr (.cells #[.int .i64 x.1.1, .int .i64 x.1.2.1, .bool x.1.2.2] 44) []) (by simp))
        obtain ⟨fn, tmps, assign, body, hy, hR⟩ := HY.out _ x _ hJ2 (by simp; omega)
        unfold bval at hy
        have HR := hid hR
        have hg1 : gg < wr.heap.size := lt_of_block hgg
        have hDW : W.heap.size ≤ wr.heap.size := by omega
        clear hx hxx hgg htake hnc hcm hcs hcl hJ2 hR
        gi_wp2
        refine HR.out.mono ?_
        rintro e W3 (⟨rfl, hJ3, hk3⟩ | ⟨rfl, hJx3⟩)
        · have O3 := hid (hk3.own (KA.out.own hO.out hD) hD)
          have J3 := hid hJ3
          clear hJ3 hk3
          gi_wp2
          go_roundw
          case rel => exact ⟨k + 1, by omega, by simp, by rw [TK.out]; exact J3.out, O3.out⟩
          case measure => simp [intOf]; omega
        · have JX := hid hJx3
          clear hJx3
          gi_wp2
          refine bodyPost_ret (results_none rfl _ _ _) rfl ?_
          exact ⟨⟨_, rfl⟩, .inr ⟨_, by rw [← TK.out]; exact List.take_prefix _ _, JX.out⟩⟩
    · have hltI : ¬ (k : Int) < ((blocksOf m P).length : Int) := by omega
      have hJe := hJs.out
      rw [List.take_of_length_le (by omega)] at hJe
      have JE := hid hJe
      clear hJe
      gi_wp2
      go_end0
      exact ⟨⟨_, rfl⟩, .inl JE.out⟩

/-- The iterator's contract. -/
theorem all_stops_q (q : Bk → Prop) (n : Nat) (hn : 1 ≤ n) (D bx hb rb mb pb m : Nat) (g : Mem) (c : Int) (P : Pcs) (BL : List (Bq q)) (hBL : BL.map (·.1) = blocksOf m P) (w : World) (hH : Hp w hb rb mb pb m g c P) (hP : Okp m P) (hl : P.length ≤ 65536) (hD : D ≤ w.heap.size)
    (hbx : w.cell? ⟨bx, 0, none⟩ = some (.pointer (some ⟨hb, 0, none⟩))) :
    SeqStopsK Fence.wide n Tryz.prog 91 #[.pointer (some ⟨bx, 0, none⟩)] (fun x : Bq q => #[bval x.1]) (Kc D) (fun xs => xs = BL) (fun pre => pre <+: BL) BL.length w := fun l J Jx W hW hJ _ hY h0 => by
  have hk : Kp w W [] := Kp.of_below hW
  exact all1_q q n hn l D bx hb rb mb pb m g c P BL hBL J Jx W (hH.same hk) hP hl (Nat.le_trans hD hk.size) (hk.cell hbx (by simp)) hJ hY h0

end Go.Proofs.YtgefmnnkpffpcaaGreatDoor
