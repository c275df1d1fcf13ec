/- WheelNil's walk. -/
import Derived.Test.YtoaceeddcnijoaaMarks
namespace Go.Proofs.Ytoaceeddcnijoaa
open Go.RowKit Go.Shelf Go.Lib Go.Sort
set_option linter.unusedSimpArgs false
attribute [local go_sem] Oper.semAt_some

theorem fn_not_nil (b : Nat) (W : World) : (binOp .eql 58 (itv b) .nilFunc).run Try.prog W = .ok (.bool false) W := by kernel_rfl

/-- What WheelNil has laid down. -/
structure Nl (w W : World) (bb zb lb : Nat) (v : Bool) : Prop where
  box : W.heap[bb]? = some (.cells #[.bool v] 4 (0, 0))
  zw : W.cell? ⟨zb, 64, none⟩ = some (.bool false)
  row : W.heap[lb]? = some (.cells #[.pointer none, .pointer (some ⟨zb, 0, none⟩)] 24 (0, 0))
  kp : Kp w W []
theorem Nl.keep {w W W' : World} {bb zb lb : Nat} {v : Bool} (h : Nl w W bb zb lb v) (hk : Kp W W' []) : Nl w W' bb zb lb v :=
  ⟨(hk.block bb (lt_of_block h.box) (by simp)).trans h.box, hk.cell h.zw (by simp), (hk.block lb (lt_of_block h.row) (by simp)).trans h.row, h.kp.trans hk⟩
theorem Nl.p {w W : World} {bb zb lb : Nat} {v : Bool} (h : Nl w W bb zb lb v) (t : Nat) (ht : t < 2) : ∃ p, W.cell? ⟨lb, t, none⟩ = some (.pointer p) ∧ Zw W p := by
  rcases (show t = 0 ∨ t = 1 by omega) with rfl | rfl
  · exact ⟨none, by rw [cell_of_row W lb 0 _ _ _ h.row]; rfl, .inl rfl⟩
  · exact ⟨some ⟨zb, 0, none⟩, by rw [cell_of_row W lb 1 _ _ _ h.row]; rfl, .inr ⟨zb, rfl, h.zw⟩⟩

set_option maxRecDepth 100000 in
set_option maxHeartbeats 8000000 in
theorem nil_walk (w : World) : Calls Try.prog 6 #[] w fun e w' => e = .returned (.bool true) ∧ Kp w w' [] := by
  refine (callsIn_wide (n := 6)).1 ?_
  refine callsIn_of_wp_marks Try.func6 rfl trivial ?_ rfl
  simp only [Try.ntmps6, List.size_toArray, List.length_cons, List.length_nil, Nat.reduceAdd, Nat.reduceSub, Array.replicate_succ, Array.replicate_zero, List.push_toArray, List.append_toArray, List.nil_append, List.cons_append]
  refine wpIn_wide.2 ?_
  have hz := zero50 (w.alloc (.cells #[.bool false] 4))
  have NL := hid (show Nl w (((w.alloc (.cells #[.bool false] 4)).alloc (.cells (vcl (fun _ => Value.slice none 0 0) 64 0 ++ [Value.bool false]).toArray 50)).alloc (.cells #[.pointer none, .pointer (some ⟨w.heap.size + 1, 0, none⟩)] 24)) w.heap.size (w.heap.size + 1) (w.heap.size + 1 + 1) false by
    refine ⟨?_, ?_, ?_, ((Kp.alloc _ _ _).trans (Kp.alloc _ _ _)).trans (Kp.alloc _ _ _)⟩
    · rw [Below.heap_alloc _ _ _ (by simp; omega), Below.heap_alloc _ _ _ (by simp)]; exact heap_alloc_new w _
    · have h1 := heap_alloc_new (w.alloc (.cells #[.bool false] 4)) (.cells (vcl (fun _ => Value.slice none 0 0) 64 0 ++ [Value.bool false]).toArray 50)
      rw [World.size_alloc] at h1
      have h2 := (Below.heap_alloc ((w.alloc (.cells #[.bool false] 4)).alloc (.cells (vcl (fun _ => Value.slice none 0 0) 64 0 ++ [Value.bool false]).toArray 50)) (.cells #[.pointer none, .pointer (some ⟨w.heap.size + 1, 0, none⟩)] 24) _ (by simp)).trans h1
      rw [cell_of_row _ _ 64 _ _ _ h2]
      rfl
    · have h1 := heap_alloc_new ((w.alloc (.cells #[.bool false] 4)).alloc (.cells (vcl (fun _ => Value.slice none 0 0) 64 0 ++ [Value.bool false]).toArray 50)) (.cells #[.pointer none, .pointer (some ⟨w.heap.size + 1, 0, none⟩)] 24)
      simpa using h1)
  go_wp2_with fail
  obtain ⟨AG, hAG⟩ : ∃ AG, Value.agg (vcl (fun _ => Value.slice none 0 0) 64 0 ++ [Value.bool false]).toArray = AG := ⟨_, rfl⟩
  obtain ⟨W0, hW0⟩ : ∃ W0, ((w.alloc (.cells #[.bool false] 4)).alloc (.cells (vcl (fun _ => Value.slice none 0 0) 64 0 ++ [Value.bool false]).toArray 50)).alloc (.cells #[.pointer none, .pointer (some ⟨w.heap.size + 1, 0, none⟩)] 24) = W0 := ⟨_, rfl⟩
  rw [hW0] at NL ⊢
  rw [hAG]
  clear hz hW0 hAG
  obtain ⟨bb, hbb⟩ : ∃ bb, w.heap.size = bb := ⟨_, rfl⟩
  obtain ⟨zb, hzb⟩ : ∃ zb, bb + 1 = zb := ⟨_, rfl⟩
  obtain ⟨lb, hlb⟩ : ∃ lb, zb + 1 = lb := ⟨_, rfl⟩
  rw [hbb, hzb, hlb] at NL ⊢
  have HBB := hid hbb
  clear hbb hzb hlb
  refine (wpIn_wide (n := 6)).1 ?_
  refine wpIn_loop (fun a W => ∃ (t : Nat) (Ds : List Nat) (x3 x4 x5 x6 x7 x8 x9 x13 x14 x15 x16 x17 x18 x19 x20 x21 x22 x23 x24 x25 x26 x27 x28 x29 x30 x31 x32 x33 x34 x35 x36 x37 x38 x39 x40 x41 x42 x43 x44 x45 x46 x47 x48 x49 x50 x51 x52 x53 x54 x55 x56 x57 x58 x59 x60 x61 x62 x63 x64 x65 x66 x67 x68 x69 x70 x71 x72 x73 x74 : Value), t ≤ 2 ∧ Ds.length = t ∧ a = { tmps := #[.pointer (some ⟨bb, 0, none⟩), .slice (some ⟨lb, 0, none⟩) 2 2, .int .i64 t, x3, x4, x5, x6, x7, x8, x9, AG, .pointer (some ⟨zb, 0, none⟩), .slice (some ⟨lb, 0, none⟩) 2 2, x13, x14, x15, x16, x17, x18, x19, x20, x21, x22, x23, x24, x25, x26, x27, x28, x29, x30, x31, x32, x33, x34, x35, x36, x37, x38, x39, x40, x41, x42, x43, x44, x45, x46, x47, x48, x49, x50, x51, x52, x53, x54, x55, x56, x57, x58, x59, x60, x61, x62, x63, x64, x65, x66, x67, x68, x69, x70, x71, x72, x73, x74, undef, undef, undef, undef, undef, undef, undef, undef, undef, undef, undef, undef, undef, undef, undef, undef, undef, undef, undef], defers := marks Ds } ∧ Live bb W Ds ∧ Nl w W bb zb lb false)
    (fun a _ => 2 - a.defers.length) ⟨0, [], _, _, _, _, _, _, _, _, _, _, _, _, _, _, _, _, _, _, _, _, _, _, _, _, _, _, _, _, _, _, _, _, _, _, _, _, _, _, _, _, _, _, _, _, _, _, _, _, _, _, _, _, _, _, _, _, _, _, _, _, _, _, _, _, _, _, _, _, _, by decide, rfl, rfl, ⟨by simp, by simp, by simp⟩, NL.out⟩ ?_
  rintro a W ⟨t, Ds, x3, x4, x5, x6, x7, x8, x9, x13, x14, x15, x16, x17, x18, x19, x20, x21, x22, x23, x24, x25, x26, x27, x28, x29, x30, x31, x32, x33, x34, x35, x36, x37, x38, x39, x40, x41, x42, x43, x44, x45, x46, x47, x48, x49, x50, x51, x52, x53, x54, x55, x56, x57, x58, x59, x60, x61, x62, x63, x64, x65, x66, x67, x68, x69, x70, x71, x72, x73, x74, ht, hDs, rfl, hLive, hNl⟩
  have HLV := hid hLive
  have HNL := hid hNl
  have HDS := hid hDs
  clear hLive hNl hDs NL
  by_cases ht2 : t = 2
  · subst ht2
    have c1 : W.cell? ⟨lb, 1, none⟩ = some (.pointer (some ⟨zb, 0, none⟩)) := by rw [cell_of_row W lb 1 _ _ _ HNL.out.row]; rfl
    gi_wp2
    go_wp2_with fail
    refine (zsame W none (some ⟨zb, 0, none⟩) (.inl rfl) (.inr ⟨zb, rfl, HNL.out.zw⟩)).mono ?_
    rintro e y1 ⟨rfl, k1⟩
    have K1 := hid k1
    clear k1 c1
    go_wp2_with fail
    refine (wnew y1).mono ?_
    rintro e y2 ⟨rfl, hw2, k2⟩
    have K2 := hid (K1.out.trans k2)
    have W2 := hid hw2
    clear k2 hw2
    go_wp2_with fail
    obtain ⟨D2, hD2, -⟩ := W2.out
    refine (zsame_left y2 none y1.heap.size _ D2 (.inl rfl) hD2).mono ?_
    rintro e y3 ⟨rfl, rfl⟩
    clear hD2
    go_wp2_with fail
    refine (wnew _).mono ?_
    rintro e y4 ⟨rfl, hw4, k4⟩
    have K4 := hid (K2.out.trans k4)
    have W4 := hid hw4
    clear k4 hw4
    go_wp2_with fail
    refine (wnew _).mono ?_
    rintro e y5 ⟨rfl, hw5, k5⟩
    have K5 := hid (K4.out.trans k5)
    have W5 := hid hw5
    have W4' := hid (W4.out.same k5)
    clear k5 hw5
    go_wp2_with fail
    refine (wsame _ _ _ _ _ _ _ W4'.out W5.out).mono ?_
    rintro e y6 ⟨rfl, k6⟩
    rw [show decide (([] : List Dl) = []) = true from rfl]
    have K6 := hid (K5.out.trans k6)
    clear k6
    go_wp2_with fail
    refine (known_any _).mono ?_
    rintro e y7 ⟨rfl, k7⟩
    have K7 := hid (K6.out.trans k7)
    have LV7 := hid (show Live bb y7 Ds from ⟨fun E hE => (K7.out.block E (lt_of_block (HLV.out.1 E hE)) (by simp)).trans (HLV.out.1 E hE), HLV.out.2⟩)
    have N7 := hid (HNL.out.keep K7.out)
    have c0 := cell_one N7.out.box
    have f0 := free_one N7.out.box
    clear k7
    go_wp2
    refine leaves_marks Ds _ (LV7.out.set N7.out.box (.bool true)) ?_
    have KZ := kp_shutR (rows := [bb]) Ds _ (LV7.out.set N7.out.box (.bool true)) (w := w) (by have := HBB.out; omega) (N7.out.kp.past' (Kp.setCell y7 ⟨bb, 0, none⟩ (.bool true)))
    have hcell := cell_one (shut_cells Ds _ (LV7.out.set N7.out.box (.bool true)) (set_one (x := .bool true) N7.out.box))
    refine ⟨.bool true, by simp [results, Try.results6, go_sem, hcell], rfl, ?_⟩
    exact KZ.mono (by intro k hk hl; have := HBB.out; simp at hk; omega)
  · have ht1 : (t : Int) < 2 := by omega
    obtain ⟨p, cp, zp⟩ := HNL.out.p t (by omega)
    have Z0 := hid zp
    clear zp
    refine wpIn_wide.2 ?_
    go_wp2_with fail
    refine (at_any W p 0 [] (by simp) (fun W' hk => zall W' p (Z0.out.keep hk))).mono ?_
    rintro e y1 ⟨rfl, k1⟩
    rw [show atV 0 [] = 0 from rfl, show hasV 0 [] = false from rfl]
    have Z1 := hid (Z0.out.keep k1)
    have K1 := hid k1
    clear k1 Z0
    go_wp2_with fail
    refine (first_any y1 p [] (by simp) (fun W' hk => zall W' p (Z1.out.keep hk))).mono ?_
    rintro e y2 ⟨rfl, k2⟩
    rw [show (([] : List Dl).headD (0, 0)).1 = 0 from rfl, show (([] : List Dl).headD (0, 0)).2 = 0 from rfl, show (!([] : List Dl).isEmpty) = false from rfl]
    have Z2 := hid (Z1.out.keep k2)
    have K2 := hid (K1.out.trans k2)
    clear k2 Z1 K1
    go_wp2_with fail
    refine (zset y2 p Z2.out (-1) 0).mono ?_
    rintro e y3 ⟨rfl, rfl⟩
    go_wp2_with fail
    refine (zcancel _ p Z2.out (-1)).mono ?_
    rintro e y3 ⟨rfl, rfl⟩
    go_wp2_with fail
    refine (zdue _ p Z2.out 9).mono ?_
    rintro e y3 ⟨rfl, k3⟩
    have Z3 := hid (Z2.out.keep k3)
    have K3 := hid (K2.out.trans k3)
    clear k3 Z2 K2
    go_wp2_with fail
    refine (zlen _ p Z3.out).mono ?_
    rintro e y4 ⟨rfl, rfl⟩
    go_wp2_with fail
    refine (zcopy _ p Z3.out).mono ?_
    rintro e y4 ⟨rfl, rfl⟩
    go_wp2_with fail
    refine (zall _ p Z3.out).mono ?_
    rintro e y5 ⟨⟨x, rfl, hI⟩, k5⟩
    have I5 := hid hI
    have K5 := hid (K3.out.trans k5)
    have hnn := fn_not_nil
    clear hI k5 Z3 K3
    go_wp2_with fail
    obtain ⟨bs, hbs⟩ : ∃ bs, _ = bs ∧ It y5 bs x [] := ⟨_, rfl, I5.out⟩
    refine (wpIn_wide (n := 6)).1 ?_
    refine range_seqs (K := Kc bs) (show 1 ≤ 6 by decide) (gf := 34) (lb := #[.pointer (some ⟨x, 0, none⟩)]) rfl (enters_of Try.func34 (by kernel_rfl) rfl)
      (it_seqs 5 (by decide) bs x [] (by simp) (Kc bs) (fun A B v hk hd => dr_kc hk hd) y5 hbs.2) Kc.trans (kc_put _) (Below.refl _ _) (fun _ => rfl)
      (fun _ V => Below y5.heap.size y5 V)
      (fun _ _ _ => False)
      (ownFrom_below (Nat.le_refl _) (Nat.le_refl _))
      (fun cc s A B row hs hg hr => hs.elim)
      (Below.refl _ _)
      (fun _ => { tmps := #[], defers := [] })
      ?assign ?body ?done ?stop
    case assign =>
      intro l x W K hx
      cases hx
    case body =>
      rintro l pre x W hpre
      have := hpre.length_le
      simp at this
    case done =>
      rintro D V hD hi hK
      have KV := hid (K5.out.trans (Kp.of_below hi))
      have LV := hid (show Live bb V Ds from ⟨fun E hE => (KV.out.block E (lt_of_block (HLV.out.1 E hE)) (by simp)).trans (HLV.out.1 E hE), HLV.out.2⟩)
      have HK := hid hK
      have DL := hid (show ∀ E ∈ Ds, E < D from fun E hE => by have := lt_of_block (HLV.out.1 E hE); have := K5.out.size; omega)
      clear hi hK
      gi_wp2
      go_wp2
      refine ⟨⟨t + 1, D :: Ds, _, _, _, _, _, _, _, _, _, _, _, _, _, _, _, _, _, _, _, _, _, _, _, _, _, _, _, _, _, _, _, _, _, _, _, _, _, _, _, _, _, _, _, _, _, _, _, _, _, _, _, _, _, _, _, _, _, _, _, _, _, _, _, _, _, _, _, _, _, by omega, by simp [HDS.out], rfl, LV.out.more HK.out DL.out (by have := K5.out.size; have := lt_of_block HNL.out.box; omega), HNL.out.keep KV.out⟩, by simp [marks, HDS.out]; omega⟩
    case stop =>
      rintro D cc pre V hD hpre hx
      exact hx.elim
end Go.Proofs.Ytoaceeddcnijoaa
