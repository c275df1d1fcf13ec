/- The reference: put. -/
import Derived.Test.YtgefmnnkpffpcaaGreatDoorRheap
namespace Go.Proofs.YtgefmnnkpffpcaaGreatDoor
open Go.RowKit Go.Maps

theorem kl_cls {z : Int} (h : 16 ≤ z) (h' : z < 65536) : cls z = ((kl z : Nat) : Int) ∧ kl z < 24 := by
  obtain ⟨k, hk, e⟩ := cls_bd h h'
  unfold kl
  omega
theorem Is.rs {w : World} {base : Nat} {V : Value} {l : List Int} (h : Is w base V l) : Rs w V l := by
  obtain ⟨ao, cap, rfl⟩ := h.slice
  have hc := h.cap
  refine ⟨ao, cap, rfl, fun e => ?_, fun hne => ?_⟩
  · subst e
    rcases h.2 with ⟨hv, -⟩ | ⟨g, cap', cur, hv, -⟩
    · simp only [Value.slice.injEq] at hv
      exact hv.2.2
    · cases hv
  · obtain ⟨g, rfl⟩ := hc.2.2 hne
    refine ⟨g, 0, rfl, fun j x hj => ?_⟩
    obtain ⟨g', e, -, -, hcell⟩ := h.at hj
    cases e
    rw [Nat.zero_add]
    exact hcell
theorem Is.one (W : World) (x : Int) : Is (W.alloc (.cells #[.int .i64 x] 3)) W.heap.size (.slice (some ⟨W.heap.size, 0, none⟩) 1 1) [x] :=
  ⟨rfl, .inr ⟨W.heap.size, 1, _, rfl, Nat.le_refl _, heap_alloc_new W _, Nat.le_refl _, by unfold maxLen; omega, rfl, rfl⟩⟩
theorem wpList_joinI {w : World} {ops : Array Oper} {rest : List Oper} {o : Oper} {a : Act} {Q : Exit → Act → World → Prop} (hgd : o.guard = none) (s x : Operand) (ho : o.op = .call { callee := .builtin .append, args := #[s, x], argTypes := #[29, 29] })
    (base : Nat) (V VX : Value) (l m : List Int) (hs : a.eval s = V) (hV : Is w base V l) (hx : a.eval x = VX) (hX : Rs w VX m) (hl : l.length ≤ 100000) (hm : m.length ≤ 100000) (hb : base ≤ w.heap.size)
    (h : ∀ v' w', Is w' base v' (l ++ m) → w.grownBy w' V.ownBlock → wpList Tryz.prog ops Q rest (a.put o.dst v') w') : wpList Tryz.prog ops Q (o :: rest) a w :=
  wpList_plain hgd fun _ hK => wp_join s x ho base V VX l m hs hV hx hX hl hm hb fun v' w' h1 h2 => hK _ _ (h v' w' h1 h2)
theorem Is.low {w : World} {base base' : Nat} {V : Value} {l : List Int} (h : Is w base V l) (hb : base' ≤ base) : Is w base' V l := owns_low h hb
theorem grown_over {W w' : World} {base : Nat} {V : Value} {l : List Int} (hN : Is W base V l) (hG : W.grownBy w' V.ownBlock) {w : World} (hk : Kp w W []) (hb : w.heap.size ≤ base) : Kp w w' [] :=
  hk.past (Kp.ofGrown (rows := V.ownBlock.toList) hG (by intro g hg; simp [hg])) (by
    intro g hg hl
    simp at hg
    have := (owns_block hN hg).1
    omega)
set_option maxRecDepth 100000 in
set_option maxHeartbeats 1000000 in
theorem rput_any (w : World) (hb : Nat) (V mv : Value) (G : Nat → Value) (B : List Bl) (F : Nat → List Int) (i : Nat) (a z : Int) (f : Bool) (h : Rh w hb V G mv B F) (hl : B.length ≤ 100000) (hi : i < B.length) (e : B[i]! = (a, z, f)) (hz : 16 ≤ z) (hz2 : z < 65536) (hF : (F (kl z)).length ≤ 10000) :
    Calls Tryz.prog 32 #[.pointer (some ⟨hb, 0, none⟩), .int .i64 i] w fun e w' => e = .returned (.tuple #[]) ∧ Rg w w' hb V G mv (B.set i (a, z, true)) (adF F (kl z) a) := by
  have cc := h.b
  obtain ⟨ao, cap, rfl⟩ := h.row.slice
  obtain ⟨g, rfl, c1, c2, c3, ff, -, hg⟩ := h.row.at hi e
  have fi := ff (i * 3 + 2)
  obtain ⟨N, hN⟩ : ∃ N, B.length = N := ⟨_, rfl⟩
  have hiN : (i : Int) < N := by omega
  have h1 := h.inrow (h.row.flag hi e true)
  have hi1 : i < (B.set i (a, z, true)).length := by simpa using hi
  have e1 : (B.set i (a, z, true))[i]! = (a, z, true) := by rw [getElem!_pos _ i hi1]; simp
  obtain ⟨g', eg, d1, d2, -, -, -, -⟩ := h1.row.at hi1 e1
  cases eg
  have dc := h1.b
  rw [hN] at cc dc
  have hlN : N ≤ 100000 := by omega
  obtain ⟨hk, hk24⟩ := kl_cls hz hz2
  have hk32 : kl z < 32 := by omega
  have dl := h1.l hk32
  have HL := hid (h1.lst _ hk32)
  obtain ⟨la, lc, hG⟩ := HL.out.slice
  rw [hG] at dl HL
  have H1 := hid h1
  have HR := hid (show ∀ w2, Rg (w.setCell ⟨g, i * 3 + 2, none⟩ (.bool true)) w2 hb (.slice (some ⟨g, 0, none⟩) B.length cap) G mv (B.set i (a, z, true)) (adF F (kl z) a) → Rg w w2 hb (.slice (some ⟨g, 0, none⟩) B.length cap) G mv (B.set i (a, z, true)) (adF F (kl z) a) from fun w2 q => Rg.past ((Kp.setCell w ⟨g, i * 3 + 2, none⟩ (.bool true)).mono (by intro k hk _; simp at hk; simp [hk, Value.ownBlock])) Nw.refl q)
  have hm1 : (F (kl z)).length ≤ 100000 := by omega
  obtain ⟨M, hM⟩ : ∃ M, (F (kl z)).length = M := ⟨_, rfl⟩
  rw [hM] at dl HL
  have HM := hid hM
  have HC := hid (rclass_any (w.setCell ⟨g, i * 3 + 2, none⟩ (.bool true)) z hz (by omega))
  rw [hk] at HC
  obtain ⟨c, hc⟩ : ∃ c, kl z = c := ⟨_, rfl⟩
  simp only [hc] at *
  clear h h1 hG ff e e1 hi1 c1 hN hM hk hc
  go_enter Tryz.func32, Tryz.ntmps32
  go_wp2_with fail
  refine HC.out.mono ?_
  rintro e w' ⟨rfl, rfl⟩
  clear HC cc c2 c3 fi hg
  generalize w.setCell ⟨g, i * 3 + 2, none⟩ (.bool true) = w' at *
  have hc32 : (c : Int) < 32 := by omega
  have CK := hid (fun (w1 : World) (hk : Kp w' w1 []) => show w1.cell? ⟨hb, 1 + c, none⟩ = some (.slice la M lc) ∧ w1.frozen? ⟨hb, 1 + c, none⟩ = false from ⟨hk.cell dl (by simp), (H1.out.same hk).free _⟩)
  have N1 := hid (show Is (World.drew (w'.alloc (.cells #[.int .i64 a] 3))) w'.heap.size (.slice (some ⟨w'.heap.size, 0, none⟩) 1 1) [a] from (Is.one w' a).keep (Kp.drew _ []))
  have K1 := hid (show Kp w' (World.drew (w'.alloc (.cells #[.int .i64 a] 3))) [] from (Kp.alloc w' _ []).trans (Kp.drew _ []))
  have cA := (CK.out _ (Kp.alloc w' (.cells #[.int .i64 a] 3) [])).1
  go_wp2_with fail
  go_region_law
    ((refine step_join (by rfl) _ _ (by rfl) 38 (by rfl) w'.heap.size _ _ [a] (F c) (by rfl) N1.out (by rfl) (HL.out.rs.kp K1.out) (by simp) hm1 (by have := K1.out.size; exact this) ?_; intro v2 w2 hN2 hG2; obtain ⟨ao2, cp2, rfl⟩ := hN2.slice; have K2 := grown_over N1.out hG2 K1.out (Nat.le_refl _); obtain ⟨c2, f2⟩ := CK.out _ K2))
  all_goals (
    have hV : Is w2 0 (.slice ao2 ([a] ++ F c).length cp2) (a :: F c) := hN2.low (Nat.zero_le _)
    have HS := hid (H1.out.put K2 hk32 hV)
    have HK := hid K2
    have HF := hid (fun g q => (owns_block hN2 (g := g) q).1)
    clear hN2 hG2 K2 c2 f2 hV
    go_wp2
    try rw [Exit.noGoto_normal]
    refine bodyPost_end (results_none rfl _ _ _) rfl ?_
    exact ⟨rfl, HR.out _ ⟨_, _, HS.out, (HK.out.nil).trans ((Kp.setCell _ _ _).mono (by simp)), Nw.list HF.out⟩⟩)
end Go.Proofs.YtgefmnnkpffpcaaGreatDoor

/- The reference: out. -/
namespace Go.Proofs.YtgefmnnkpffpcaaGreatDoor
open Go.RowKit Go.Maps

theorem kp_drewN (w : World) (k : Nat) (rows : List Nat) : Kp w (w.drewN k) rows := ⟨rfl, rfl, rfl, Nat.le_refl _, fun _ _ _ => rfl⟩
theorem filt_le (l : List Int) (k : Nat) (a : Int) : ((l.take k).filter fun x => x != a).length ≤ l.length :=
  Nat.le_trans (List.length_filter_le _ _) (by rw [List.length_take]; omega)
theorem take_at (l : List Int) (k : Nat) {x : Int} (h : l[k]? = some x) : l.take (k + 1) = l.take k ++ [x] := by
  rw [List.take_add_one, h]; rfl
set_option maxRecDepth 100000 in
set_option maxHeartbeats 1000000 in
theorem rout_any (w : World) (hb : Nat) (V mv : Value) (G : Nat → Value) (B : List Bl) (F : Nat → List Int) (i : Nat) (a z : Int) (f : Bool) (h : Rh w hb V G mv B F) (hl : B.length ≤ 100000) (hi : i < B.length) (e : B[i]! = (a, z, f)) (hz : 16 ≤ z) (hz2 : z < 65536) (hF : (F (kl z)).length ≤ 10000) :
    Calls Tryz.prog 83 #[.pointer (some ⟨hb, 0, none⟩), .int .i64 i] w fun e w' => e = .returned (.tuple #[]) ∧ Rg w w' hb V G mv (B.set i (a, z, false)) (rmF F (kl z) a) := by
  have cc := h.b
  obtain ⟨ao, cap, rfl⟩ := h.row.slice
  obtain ⟨g, rfl, c1, c2, c3, ff, -, hg⟩ := h.row.at hi e
  have fi := ff (i * 3 + 2)
  obtain ⟨N, hN⟩ : ∃ N, B.length = N := ⟨_, rfl⟩
  have hiN : (i : Int) < N := by omega
  have h1 := h.inrow (h.row.flag hi e false)
  have hi1 : i < (B.set i (a, z, false)).length := by simpa using hi
  have e1 : (B.set i (a, z, false))[i]! = (a, z, false) := by rw [getElem!_pos _ i hi1]; simp
  obtain ⟨g', eg, d1, d2, -, -, -, -⟩ := h1.row.at hi1 e1
  cases eg
  have dc := h1.b
  rw [hN] at cc dc
  have hlN : N ≤ 100000 := by omega
  obtain ⟨hk, hk24⟩ := kl_cls hz hz2
  have hk32 : kl z < 32 := by omega
  have dl := h1.l hk32
  have HL := hid (h1.lst _ hk32)
  obtain ⟨la, lc, hG⟩ := HL.out.slice
  rw [hG] at dl HL
  have H1 := hid h1
  have HR := hid (show ∀ w2, Rg (w.setCell ⟨g, i * 3 + 2, none⟩ (.bool false)) w2 hb (.slice (some ⟨g, 0, none⟩) B.length cap) G mv (B.set i (a, z, false)) (rmF F (kl z) a) → Rg w w2 hb (.slice (some ⟨g, 0, none⟩) B.length cap) G mv (B.set i (a, z, false)) (rmF F (kl z) a) from fun w2 q => Rg.past ((Kp.setCell w ⟨g, i * 3 + 2, none⟩ (.bool false)).mono (by intro k hk _; simp at hk; simp [hk, Value.ownBlock])) Nw.refl q)
  obtain ⟨M, hM⟩ : ∃ M, (F (kl z)).length = M := ⟨_, rfl⟩
  have hm1 : M ≤ 10000 := by omega
  rw [hM] at dl HL
  have HM := hid hM
  have HC := hid (rclass_any (w.setCell ⟨g, i * 3 + 2, none⟩ (.bool false)) z hz (by omega))
  rw [hk] at HC
  obtain ⟨c, hc⟩ : ∃ c, kl z = c := ⟨_, rfl⟩
  simp only [hc] at *
  clear h h1 hG ff e e1 hi1 c1 hN hM hk hc hF
  go_enter Tryz.func83, Tryz.ntmps83
  go_wp2_with fail
  refine HC.out.mono ?_
  rintro e w' ⟨rfl, rfl⟩
  clear HC cc c2 c3 fi hg
  generalize w.setCell ⟨g, i * 3 + 2, none⟩ (.bool false) = w' at *
  have hc32 : (c : Int) < 32 := by omega
  go_wp2_with fail
  go_loopw [5, 6] (fun vl vk wr => ∃ (k : Nat), k ≤ M ∧ vk = .int .i64 k ∧ Hid (Is wr w'.heap.size vl (((F c).take k).filter fun x => x != a)) ∧ Hid (Kp w' wr [])) (fun _ vk _ => M - (intOf vk).toNat)
  case atStart => exact ⟨0, by omega, rfl, hid (Is.nil _ _), hid (Kp.refl _ _)⟩
  case round =>
    obtain ⟨k, hk, rfl, hI, hK⟩ := hrel
    rename_i vl wr
    obtain ⟨vo, vc, hvl⟩ := hI.out.slice
    obtain ⟨m, hm⟩ : ∃ m, (((F c).take k).filter fun x => x != a).length = m := ⟨_, rfl⟩
    rw [hm] at hvl
    subst hvl
    have cB := hK.out.cell dc (by simp)
    have cA := hK.out.cell d1 (by simp)
    have cL := hK.out.cell dl (by simp)
    have fL := (H1.out.same hK.out).free (1 + c)
    have hml := filt_le (F c) k a
    rw [hm, HM.out] at hml
    by_cases hlt : k < M
    · have hltI : (k : Int) < M := by omega
      obtain ⟨x, hx⟩ : ∃ x, (F c)[k]? = some x := ⟨(F c)[k]'(by have := HM.out; omega), List.getElem?_eq_getElem _⟩
      obtain ⟨gl, rfl, -, -, cx⟩ := HL.out.at hx
      have cX := hK.out.cell cx (by simp)
      have HT := hid (take_at _ _ hx)
      by_cases he : x = a
      · have heI : (x != a) = false := by simp [he]
        have heJ : (x == a) = true := by simp [he]
        have HI2 := hid (show Is wr w'.heap.size (.slice vo m vc) (((F c).take (k + 1)).filter fun x => x != a) by
          rw [HT.out, List.filter_append]
          simp only [List.filter_cons, heI, List.filter_nil, List.append_nil, if_false, Bool.false_eq_true]
          exact hI.out)
        clear he hx cx
        go_wp2_with fail
        go_quiet (fail)
        go_wp2
        go_roundw
        case rel => exact ⟨k + 1, by omega, by simp, hid (HI2.out.keep (kp_drewN _ _ _)), hid (hK.out.trans (kp_drewN _ _ _))⟩
        case measure => simp [intOf]; omega
      · have heI : (x != a) = true := by simp [he]
        have heJ : (x == a) = false := by simp [he]
        have HE := hid (show ((F c).take (k + 1)).filter (fun x => x != a) = (((F c).take k).filter fun x => x != a) ++ [x] by
          rw [HT.out, List.filter_append]
          simp only [List.filter_cons, heI, List.filter_nil, if_true])
        have HB := hid (hK.out.size)
        have HM2 := hid hm
        clear he hx cx hm
        go_wp2_with fail
        go_quiet (fail)
        go_wp2_with (refine wpList_push rfl _ _ rfl w'.heap.size (.slice vo m vc) _ x rfl (hI.out.keep (kp_drewN _ _ _)) rfl (by have := HM2.out; omega) HB.out ?_; intro v2 w2 hN2 hG2; obtain ⟨ao2, cp2, hv2⟩ := hN2.slice; have K2 := grown_kp (hI.out.keep (kp_drewN _ _ _)) hG2 (hK.out.trans (kp_drewN _ _ _)) (Nat.le_refl _))
        go_roundw
        case rel => exact ⟨k + 1, by omega, by simp, by rw [HE.out]; rw [List.length_append] at hv2; rw [hv2] at hN2; exact hid hN2, hid K2⟩
        case measure => simp [intOf]; omega
    · have hltI : ¬ (k : Int) < M := by omega
      have HI2 := hid (show Is wr 0 (.slice vo m vc) ((F c).filter fun x => x != a) by
        have := hI.out
        rw [List.take_of_length_le (by have := HM.out; omega)] at this
        exact this.low (Nat.zero_le _))
      have HS := hid (H1.out.put hK.out hk32 HI2.out)
      go_wp2
      try rw [Exit.noGoto_normal]
      refine bodyPost_end (results_none rfl _ _ _) rfl ?_
      exact ⟨rfl, HR.out _ ⟨_, _, HS.out, (hK.out.nil).trans ((Kp.setCell _ _ _).mono (by simp)), Nw.list (fun g q => (owns_block hI.out (g := g) q).1)⟩⟩
end Go.Proofs.YtgefmnnkpffpcaaGreatDoor

/- The reference: join. -/
namespace Go.Proofs.YtgefmnnkpffpcaaGreatDoor
open Go.RowKit Go.Maps

theorem join_list (B : List Bl) (i : Nat) (x : Bl) (hi : i < B.length) : (B.set i x).take (i + 1) ++ (B.set i x).drop (i + 2) = B.take i ++ x :: B.drop (i + 2) := by
  have e : B.set i x = B.take i ++ x :: B.drop (i + 1) := by rw [List.set_eq_take_append_cons_drop, if_pos hi]
  have hl : (B.take i).length = i := by rw [List.length_take]; omega
  have e2 : (B.take i).drop (i + 2) = [] := List.drop_eq_nil_of_le (by omega)
  rw [e, List.take_append, List.drop_append, hl, List.take_of_length_le (by omega), e2, show i + 1 - i = 1 by omega, show i + 2 - i = 2 by omega]
  simp
theorem grown_overB {W w' : World} {base : Nat} {V : Value} {l : List Bl} (hN : Br W base V l) (hG : W.grownBy w' V.ownBlock) {w : World} (hk : Kp w W []) (hb : w.heap.size ≤ base) : Kp w w' [] :=
  hk.past (Kp.ofGrown (rows := V.ownBlock.toList) hG (by intro g hg; simp [hg])) (by
    intro g hg hl
    simp at hg
    have := (owns_block hN hg).1
    omega)
set_option maxRecDepth 100000 in
set_option maxHeartbeats 1000000 in
theorem rjoin_any (w : World) (hb : Nat) (V mv : Value) (G : Nat → Value) (B : List Bl) (F : Nat → List Int) (i : Nat) (a z a2 z2 : Int) (f f2 : Bool) (h : Rh w hb V G mv B F) (hl : B.length ≤ 100000) (hi : i + 1 < B.length) (e : B[i]! = (a, z, f)) (e2 : B[i + 1]! = (a2, z2, f2)) (hz : 0 ≤ z) (hz2 : z ≤ 1000000) (hy : 0 ≤ z2) (hy2 : z2 ≤ 1000000) :
    Calls Tryz.prog 84 #[.pointer (some ⟨hb, 0, none⟩), .int .i64 i] w fun e w' => e = .returned (.tuple #[]) ∧ Rg w w' hb V G mv (B.take i ++ (a, z + z2, f) :: B.drop (i + 2)) F := by
  have cc := h.b
  obtain ⟨ao, cap, rfl⟩ := h.row.slice
  obtain ⟨g, rfl, c1, c2, c3, ff, -, hg⟩ := h.row.at (by omega) e
  obtain ⟨g', eg, b1, b2, b3, -, -, -⟩ := h.row.at hi e2
  cases eg
  have fi := ff (i * 3 + 1)
  obtain ⟨N, hN⟩ : ∃ N, B.length = N := ⟨_, rfl⟩
  have h1 := h.inrow (h.row.size (by omega) e (z + z2))
  have hcap := (h.row.open (by rintro rfl; simp at hi)).choose_spec.choose_spec.2.2.2.2.1
  obtain ⟨i1, hi1⟩ : ∃ i1, i + 1 = i1 := ⟨_, rfl⟩
  obtain ⟨i2, hi2⟩ : ∃ i2, i + 2 = i2 := ⟨_, rfl⟩
  rw [hi1] at b2
  have hiN : (i : Int) < N := by omega
  have hi1N : (i1 : Int) < N := by omega
  have hi2N : (i2 : Int) ≤ N := by omega
  rw [hN] at cc hcap
  have hlN : N ≤ 100000 := by omega
  have hw1 : IntKind.i64.wrap ((i : Int) + 1) = (i1 : Int) := by rw [← hi1]; exact IntWalk.i64_in _ ⟨by omega, by omega⟩
  have hw2 : IntKind.i64.wrap ((i : Int) + 2) = (i2 : Int) := by rw [← hi2]; exact IntWalk.i64_in _ ⟨by omega, by omega⟩
  have hwz : IntKind.i64.wrap (z + z2) = z + z2 := IntWalk.i64_in _ ⟨by omega, by omega⟩
  have H1 := hid h1
  have I12 := hid (And.intro hi1 hi2)
  have HN := hid hN
  have HI := hid hi
  clear h e e2 h1 hi1 hi2 hN hi c1 c3 b1 b3 ff hl
  go_enter Tryz.func84, Tryz.ntmps84
  go_wp2_with fail
  go_region
  go_wp2_with fail
  obtain ⟨B1, hB1⟩ : ∃ B1, B.set i (a, z + z2, f) = B1 := ⟨_, rfl⟩
  have HR := hid (show ∀ w2, Rg (World.drew (w.setCell ⟨g, i * 3 + 1, none⟩ (.int .i64 (z + z2)))) w2 hb (.slice (some ⟨g, 0, none⟩) B.length cap) G mv (B1.take i1 ++ B1.drop i2) F → Rg w w2 hb (.slice (some ⟨g, 0, none⟩) B.length cap) G mv (B.take i ++ (a, z + z2, f) :: B.drop (i + 2)) F from fun w2 q => by
    have e := join_list B i (a, z + z2, f) (by have := HI.out; omega)
    rw [I12.out.1, I12.out.2, hB1] at e
    rw [I12.out.2, ← e]
    exact Rg.past (((Kp.setCell w ⟨g, i * 3 + 1, none⟩ (.int .i64 (z + z2))).trans (Kp.drew _ _)).mono (by intro k hk _; simp at hk; simp [hk, Value.ownBlock])) Nw.refl q)
  have H2 := hid (H1.out.same (Kp.drew _ []))
  rw [hB1] at H2
  have hl1 : B1.length = N := by rw [← hB1, List.length_set]; exact HN.out
  rw [HN.out] at H2
  clear H1 hB1 cc c2 b2 fi hg
  generalize World.drew (w.setCell ⟨g, i * 3 + 1, none⟩ (.int .i64 (z + z2))) = w' at *
  have cc := H2.out.b
  have hcI : (i1 : Int) ≤ cap := by omega
  have CK := hid (fun (w1 : World) (hk : Kp w' w1 []) => show w1.cell? ⟨hb, 0, none⟩ = some (.slice (some ⟨g, 0, none⟩) N cap) ∧ w1.frozen? ⟨hb, 0, none⟩ = false from ⟨hk.cell cc (by simp), (H2.out.same hk).free _⟩)
  have RF := hid (H2.out.row.front (k := i1) (by omega))
  have HL1 := hid hl1
  have HT := hid (show (B1.take i1).length ≤ 1000000 ∧ (B1.drop i2).length ≤ 1000000 by simp; omega)
  refine (Classical.em (cap = i2)).elim (fun hcp => ?tight) (fun hcp => ?wide)
  case' tight =>
    have hcq : (cap = i2) = True := eq_true hcp
    have RB := hid (show Bv w' (.slice (some ⟨g, 0, none⟩) (N - i2) (cap - i2)) (B1.drop i2) by
      have e0 : B1.drop i2 = [] := List.drop_eq_nil_of_le (by omega)
      rw [e0, show N - i2 = 0 by omega]
      exact bv_empty _ _ _ _)
    clear hcp hl1
  case' wide =>
    have hcq : (cap = i2) = False := eq_false hcp
    have RB := hid (show Bv w' (.slice (some ⟨g, i2 * 3, none⟩) (N - i2) (cap - i2)) (B1.drop i2) from H2.out.row.back (by omega))
    clear hcp hl1
  all_goals (
    go_region_law
      (first
        | (have _hh := hI6; refine step_joinB (by rfl) _ _ (by rfl) 45 (by rfl) w'.heap.size _ _ (B1.take i1) (B1.drop i2) (by rfl) hI6 (by rfl) (RB.out.kp K6) HT.out.1 HT.out.2 K6.size ?_; intro v7 w7 hI7 hG7; obtain ⟨c7, f7⟩ := CK.out _ (grown_overB hI6 hG7 K6 (Nat.le_refl _)); obtain ⟨ao7, cp7, hv7⟩ := hI7.slice; obtain ⟨m7, hm7⟩ : ∃ m7, (B1.take i1 ++ B1.drop i2).length = m7 := ⟨_, rfl⟩; rw [hm7] at hv7; subst hv7)
        | (refine step_joinB (by rfl) _ _ (by rfl) 37 (by rfl) w'.heap.size _ _ [] (B1.take i1) (by rfl) (Br.nil _ _) (by rfl) (RF.out.kp (Kp.drew _ _)) (by simp) HT.out.1 (Nat.le_refl _) ?_; intro v6 w6 hI6 hG6; have K6 : Kp w' w6 [] := (Kp.drew w' []).trans (Kp.ofGrown hG6 (by intro g hg; simp [Value.ownBlock] at hg)); rw [List.nil_append] at hI6; obtain ⟨c6, f6⟩ := CK.out _ K6)))
  all_goals (
    have K7 := hid (grown_overB hI6 hG7 K6 (Nat.le_refl _))
    have HS := hid (H2.out.newrow K7.out (hI7.low (Nat.zero_le _)))
    have HF := hid (fun g q => (owns_block hI7 (g := g) q).1)
    clear hI7 hI6 hG7 hG6 K6 hm7 RB RF
    go_wp2
    try rw [Exit.noGoto_normal]
    refine bodyPost_end (results_none rfl _ _ _) rfl ?_
    exact ⟨rfl, HR.out _ ⟨_, _, HS.out, (K7.out.nil).trans ((Kp.setCell _ _ _).mono (by simp)), Nw.row HF.out⟩⟩)
end Go.Proofs.YtgefmnnkpffpcaaGreatDoor
