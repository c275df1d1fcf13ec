/- blocks: the walk. -/
import Derived.Test.YtgefmnnkpffpcaaGreatDoorHhasJ
namespace Go.Proofs.YtgefmnnkpffpcaaGreatDoor
open Go.RowKit Go.Maps

/-- blocks' state behind k keys. -/
structure Bst (w wr : World) (P : Pcs) (kao : Option Addr) (kcap kb base k : Nat) : Prop where
  f : Fl wr (w.heap.size + 1) w.heap.size base (bst (P.take k)).1 (bst (P.take k)).2
  o : wr.ownsRow kb 3 1 (.slice kao P.length kcap) P.length (P.map fun p => .int .i64 p.1)
  k : Kp w wr []
theorem Kp.of_fr {w wr w' : World} {base ap : Nat} (hk : Kp w wr []) (h : Fr wr w' base ap) (hb : w.heap.size ≤ base) (ha : w.heap.size ≤ ap) : Kp w w' [] :=
  ⟨h.os.trans hk.os, h.tape.trans hk.tape, h.output.trans hk.output, Nat.le_trans hk.size h.size, fun k hk' _ => (h.block k (by omega) (by omega)).trans (hk.block k hk' (by simp))⟩

theorem own_keep {w w' : World} {base e s n : Nat} {v : Value} {xs : List Value} (h : w.ownsRow base e s v n xs) (hk : ∀ k, v.ownBlock = some k → w'.heap[k]? = w.heap[k]?) : w'.ownsRow base e s v n xs := by
  refine ⟨h.1, ?_⟩
  rcases h.2 with ⟨rfl, h0⟩ | ⟨g, cap, cur, rfl, x1, x2, x3⟩
  · exact .inl ⟨rfl, h0⟩
  · exact .inr ⟨g, cap, cur, rfl, x1, (hk g rfl).trans x2, x3⟩
theorem Fl.regap {w : World} {gp ap base : Nat} {gap x : Int} {l : List Bk} (h : Fl w gp ap base gap l) : Fl (w.setCell ⟨gp, 0, none⟩ (.int .i64 x)) gp ap base x l := by
  have hb := h.hb
  obtain ⟨v, a1, a2⟩ := h.a
  refine ⟨set_one h.g, ⟨v, ?_, own_keep a2 fun k hk => ?_⟩, hb, by have := h.hw; simp; omega⟩
  · rw [Below.heap_setCell _ _ _ _ (by simp; omega)]; exact a1
  · have := (own_ge a2 k hk).1
    exact Below.heap_setCell _ _ _ _ (by simp; omega)

set_option maxRecDepth 100000 in
set_option maxHeartbeats 4000000 in
theorem blocks_any (w : World) (hb rb mb pb n : Nat) (g : Mem) (c : Int) (P : Pcs) (h : Hp w hb rb mb pb n g c P) (hP : Okp n P) (hl : P.length ≤ 65536) :
    Calls Tryz.prog 92 #[.pointer (some ⟨hb, 0, none⟩)] w fun e w' => ∃ v, e = .returned v ∧ w'.ownsRow w.heap.size 44 3 v (blocksOf n P).length (bcells (blocksOf n P)) ∧ Kp w w' [] := by
  obtain ⟨i0, hi, hz0, hz1, hz2⟩ := info_parts Tryz.info44
  have hlt := h.lt
  have hn := h.nb
  have HL := hid hlt
  have W1 := hid ((Kp.alloc w (.cells #[.slice none 0 0] 38) []).trans (Kp.alloc _ (.cells #[.int .i64 112] 3) []))
  obtain ⟨W2, hW2⟩ : ∃ W2, (w.alloc (.cells #[.slice none 0 0] 38)).alloc (.cells #[.int .i64 112] 3) = W2 := ⟨_, rfl⟩
  have hs2 : W2.heap.size = w.heap.size + 2 := by rw [← hW2]; simp
  have HW2 := hid hW2
  have S2 := hid hs2
  have K2 := hid (show Kp w W2 [] by rw [← hW2]; exact W1.out)
  have H2 := hid (h.same K2.out)
  have HP := hid hP
  have H0 := hid h
  have F2 := hid (show Fl W2 (w.heap.size + 1) w.heap.size (w.heap.size + 2) 112 [] from by
    refine ⟨?_, ⟨.slice none 0 0, ?_, World.ownsRow_nil _ _ _ _⟩, by omega, by omega⟩
    · have := heap_alloc_new (w.alloc (.cells #[.slice none 0 0] 38)) (.cells #[.int .i64 112] 3)
      rw [show (w.alloc (.cells #[.slice none 0 0] 38)).heap.size = w.heap.size + 1 by simp, hW2] at this
      exact this
    · rw [← hW2, Below.heap_alloc _ _ _ (by simp)]
      exact heap_alloc_new w _)
  have q0 := h.c0cell
  have q1 := h.c1cell
  obtain ⟨BL, hBL⟩ : ∃ BL, blocksOf n P = BL := ⟨_, rfl⟩
  rw [hBL]
  have HB := hid hBL
  clear h hP hW2 hs2 hBL
  go_enter Tryz.func92, Tryz.ntmps92
  go_wp2_with (go_at_call 51; go_in)
  rw [HW2.out]
  refine (keys_any pb W2).mono ?_
  rintro e w3 ⟨rfl, hE3⟩
  have K3 := hid (show Kp W2 w3 [] by rw [hE3]; exact Kp.alloc _ _ _)
  rw [hE3]
  have HE3 := hid hE3
  clear hE3
  go_wp2_with fail
  refine (sorted_any pb P W2 H2.out.mp hl).mono ?_
  rintro e w4 ⟨kv, rfl, hown4, hK4⟩
  have hsz4 : w.heap.size + 3 ≤ w4.heap.size := by have := hK4.size; have := S2.out; simp at *; omega
  rw [← HE3.out] at hK4
  have K4 := hid (K3.out.trans hK4)
  have H4 := hid (H2.out.same K4.out)
  have F4 := hid (show Fl w4 (w.heap.size + 1) w.heap.size w4.heap.size 112 [] from
    ⟨(K4.out.block _ (lt_of_block F2.out.g) (by simp)).trans F2.out.g, (by obtain ⟨v, a1, a2⟩ := F2.out.a; exact ⟨v, (K4.out.block _ (lt_of_block a1) (by simp)).trans a1, by
      have e : v = .slice none 0 0 := by
        rcases a2.2 with ⟨e, -⟩ | ⟨gg, cap, cur, rfl, x1, x2, x3⟩
        · exact e
        · have := F2.out.hw; have := S2.out; have := lt_of_block x2; omega
      subst e; exact World.ownsRow_nil _ _ _ _⟩), by omega, Nat.le_refl _⟩)
  have KW := hid (K2.out.trans K4.out)
  obtain ⟨kao, kcap, rfl⟩ := owns_shape hown4
  have O4 := hid hown4
  clear hown4 hK4
  go_wp2_with fail
  go_loopw [20] (fun i wr => ∃ k : Nat, k ≤ P.length ∧ i = .int .i64 k ∧ Hid (Bst w wr P kao kcap (W2.heap.size + 1) w4.heap.size k)) (fun i _ => P.length - (intOf i).toNat)
  case atStart => exact ⟨0, Nat.zero_le _, rfl, ⟨F4.out, O4.out, KW.out⟩⟩
  case round =>
    obtain ⟨k, hk, rfl, hB⟩ := hrel
    obtain ⟨bl, bg, bd⟩ := bst_bounds HP.out k hk
    by_cases hlt' : k < P.length
    · have hltI : (k : Int) < (P.length : Int) := by omega
      have hp := HP.out P[k] (List.getElem_mem hlt')
      obtain ⟨o, ho⟩ : ∃ o, P[k].1 = o := ⟨_, rfl⟩
      obtain ⟨z, hz⟩ : ∃ z, P[k].2 = z := ⟨_, rfl⟩
      have HG := hid (show getP P o = z by rw [← ho, ← hz]; exact getP_at H2.out.mp.rises hlt')
      have ST := hid (show bst (P.take (k + 1)) = (o - 8 + z, filled (bst (P.take k)).1 (o - 8) (bst (P.take k)).2 ++ [(o - 8, z, false)]) by rw [bst_take hlt', ← ho, ← hz]; rfl)
      rw [ho, hz] at hp
      have ho0 : 120 ≤ o ∧ o ≤ 65600 ∧ 16 ≤ z ∧ z ≤ 65536 := by omega
      rcases hB.out.o.2 with ⟨-, h0⟩ | ⟨gg, cap', cur, hvv, hbg, hgg, hnc, hcm, hcs, htake⟩
      · omega
      · simp only [Value.slice.injEq, true_and] at hvv
        obtain ⟨rfl, rfl⟩ := hvv
        have hcl := hB.out.o.cellAt k (by omega)
        rw [List.getElem?_eq_getElem (by simpa using hlt')] at hcl
        have hcl' : wr.cell? ⟨gg, k, none⟩ = some (.int .i64 o) := by rw [hcl]; simp [ho]
        obtain ⟨gap, hgap⟩ : ∃ gap, (bst (P.take k)).1 = gap := ⟨_, rfl⟩
        obtain ⟨l, hll⟩ : ∃ l, (bst (P.take k)).2 = l := ⟨_, rfl⟩
        have FB := hB.out.f
        rw [hgap] at bl bg FB
        rw [hll] at bd FB
        have STE := ST.out
        rw [hgap, hll] at STE
        have ST2 := hid STE
        have F5 := hid FB
        have GG := hid hgg
        have hgne : gg ≠ w.heap.size ∧ gg ≠ w.heap.size + 1 := by have := S2.out; omega
        have HWR := hid (H0.out.same hB.out.k)
        have m1 := HWR.out.c1cell
        have lk := HWR.out.mp.look1 (k := o) (by omega) (by omega)
        rw [HG.out] at lk
        have SK := hid (show ∀ W, Kp wr W [] → W.cell? ⟨hb, 1, none⟩ = some (.map (some pb)) ∧ (Instr.lookup 65 (.map (some pb)) (.int .i64 o) false).run Tryz.prog W = .ok (.int .i64 z) W from fun W hW => ⟨hW.cell m1 (by simp), by
          have := (HWR.out.same hW).mp.look1 (k := o) (by omega) (by omega); rw [HG.out] at this; exact this⟩)
        clear hgap hll FB STE ho hz hcl hgg htake hcs hcm lk m1 ST hp
        go_wp2_with fail
        have w8 : IntKind.i64.wrap (o - 8) = o - 8 := IntWalk.i64_in _ ⟨by omega, by omega⟩
        go_region_held (fun w' => w'.cell? ⟨hb, 1, none⟩ = some (.map (some pb)) ∧ (Instr.lookup 65 (.map (some pb)) (.int .i64 o) false).run Tryz.prog w' = .ok (.int .i64 z) w')
          (exact SK.out _ (Kp.drew _ _))
          (fail)
        have F6 := hid (show Fl wr.drew (w.heap.size + 1) w.heap.size w4.heap.size gap l from ⟨F5.out.g, F5.out.a, F5.out.hb, F5.out.hw⟩)
        go_wp2_with fail
        refine (fill_any _ _ _ _ gap (o - 8) l F6.out (by omega) (by omega) (by omega) (by omega) (by omega)).mono ?_
        rintro e w6 ⟨rfl, hF6, hR6⟩
        have HB6 := hid (show Kp w w6 [] from (hB.out.k.trans (Kp.drew _ _)).of_fr hR6 (by omega) (by omega))
        have F7 := hid hF6
        have R6 := hid hR6
        have HL7 := filled_length gap (o - 8) l
        obtain ⟨l2, hl2⟩ : ∃ l2, filled gap (o - 8) l = l2 := ⟨_, rfl⟩
        have hF7 := hF6
        rw [hl2] at HL7 hF7
        obtain ⟨v, hv, hown⟩ := hF7.a
        have q6 := cell_one hv
        have f6 := free_one hv
        have HV := hid hv
        have HO := hid hown
        have HF := hid hF7
        have L2 := hid hl2
        have hbb := hF7.hb
        have hww := hF7.hw
        obtain ⟨ao, cp, rfl⟩ := owns_shape HO.out
        have hcg := cell_one hF7.g
        have hfg := free_one hF7.g
        have hnea : w.heap.size < w6.heap.size := by omega
        have hneb : w.heap.size + 1 < w6.heap.size := by omega
        clear hF6 hR6 hF7 hv hown hl2 F7 hcl' w8
        go_wp2_with (at_builtin; refine wpList_append_own _ rfl _ _ 38 rfl w4.heap.size 44 i0 (.agg #[.int .i64 0, .int .i64 0, .bool false]) 3 24 Tryz.underlying38 hi hz0 hz1 hz2 rfl (by decide) _ _ _ rfl (HO.out.alloc _) ⟨w6.heap.size, 0, none⟩ 1 1 [.int .i64 (o - 8), .int .i64 z, .bool false] rfl rfl cell3_new (bk_one _ _ _) (by unfold maxLen; omega) (by omega) (by simp; omega) ?_; intro v' w7 hown' hg hnil; obtain ⟨X1, X2, X3⟩ := HF.out.push (b := (o - 8, z, false)) HV.out HO.out hown' hg; have Y1 := hid X1; have Y2 := hid X2; have q7 := cell_one X3; have f7 := free_one X3; obtain ⟨ao', cp', rfl⟩ := owns_shape hown'; have q8 := cell_one X1.g; have f8 := free_one X1.g; clear X1 X2 X3 hnil hown' hg q6 f6)
        have RR := hid (Y1.out.regap (x := o - 8 + z))
        have gl := (own_ge O4.out gg rfl).2
        have KY := HB6.out.of_fr Y2.out (by omega) (Nat.le_refl _)
        refine ⟨⟨k + 1, by omega, by go_num, (⟨?_, ?_, ?_⟩ : Bst _ _ _ _ _ _ _ _)⟩, by simp [intOf]; omega⟩
        · rw [ST2.out, L2.out]; exact RR.out
        · refine own_keep hB.out.o fun j hj => ?_
          simp [Value.ownBlock] at hj
          subst hj
          rw [Below.heap_setCell _ _ _ _ (by simp; omega)]
          exact (Y2.out.block gg gl (by omega)).trans (R6.out.block gg gl (by omega))
        · exact KY.past (Kp.setCell _ ⟨w.heap.size + 1, 0, none⟩ _) (by intro j hj hlt; simp at hj; omega)
    · have hkP : k = P.length := by omega
      have hltI : ¬ (k : Int) < (P.length : Int) := by omega
      have HWR := hid (H0.out.same hB.out.k)
      have m0 := HWR.out.c0cell
      have FB := hB.out.f
      rw [hkP, List.take_length] at FB bl bg bd
      have F5 := hid FB
      have SZ := hid HWR.out.sized
      clear FB hkP
      go_wp2_with fail
      refine SZ.out.mono ?_
      rintro e w' ⟨rfl, hE⟩
      rw [hE]
      clear hE
      go_wp2_with fail
      refine (fill_any wr _ _ _ _ n _ F5.out (by omega) (by omega) (by omega) (by omega) (by omega)).mono ?_
      rintro e w6 ⟨rfl, hF6, hR6⟩
      have HB6 := hid (show Kp w w6 [] from hB.out.k.of_fr hR6 (by omega) (by omega))
      have hF7 : Fl w6 (w.heap.size + 1) w.heap.size w4.heap.size (bst P).1 BL := by rw [← HB.out]; exact hF6
      obtain ⟨v, hv, hown⟩ := hF7.a
      have q6 := cell_one hv
      have HO := hid hown
      obtain ⟨ao, cp, rfl⟩ := owns_shape HO.out
      clear hF6 hR6 hF7 hv hown
      go_wp2
      go_ret
      refine ⟨_, rfl, ?_, HB6.out⟩
      rcases HO.out.2 with ⟨e0, h0⟩ | ⟨g', cap', cur', hv', x1, x2, x3⟩
      · exact ⟨HO.out.1, .inl ⟨e0, h0⟩⟩
      · exact ⟨HO.out.1, .inr ⟨g', cap', cur', hv', by omega, x2, x3⟩⟩
end Go.Proofs.YtgefmnnkpffpcaaGreatDoor
