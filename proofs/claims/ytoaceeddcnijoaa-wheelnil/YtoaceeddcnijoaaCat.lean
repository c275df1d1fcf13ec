/- Deadlines laid behind others; Grow, Concat. -/
import Derived.Test.YtoaceeddcnijoaaOwn
import Derived.Lib.AppendZerosOnto
import Derived.Lib.Walk
namespace Go.Proofs.Ytoaceeddcnijoaa
open Go.RowKit Go.Shelf Go.Lib Go.Sort

theorem Try.infoD : (Try.prog.info? 69).map (fun i => (i.zero, i.size, i.bytes)) = some (some (.agg #[.int .i64 0, .int .i64 0]), 2, 16) := by kernel_rfl
theorem Dr.some_of {w : World} {base : Nat} {ad : Addr} {m cap : Nat} {l : List Dl} (h : Dr w base (.slice (some ad) m cap) l) : ∃ g, ad = ⟨g, 0, none⟩ := by
  rcases h.2 with ⟨hv, -⟩ | ⟨g, cap', cur, hv, -⟩
  · cases hv
  · simp only [Value.slice.injEq, Option.some.injEq] at hv
    exact ⟨g, hv.1⟩
theorem Dr.none_of {w : World} {base : Nat} {m cap : Nat} {l : List Dl} (h : Dr w base (.slice none m cap) l) : l = [] ∧ m = 0 ∧ cap = 0 := by
  rcases h.2 with ⟨hv, h0⟩ | ⟨g, cap', cur, hv, -⟩
  · simp only [Value.slice.injEq, true_and] at hv
    exact ⟨List.eq_nil_of_length_eq_zero h0, hv.1, hv.2⟩
  · cases hv
theorem Dr.cells {w : World} {base : Nat} {ad : Addr} {m cap : Nat} {l : List Dl} (h : Dr w base (.slice (some ad) m cap) l) : ∀ (j : Nat) (u : Value), (dcells l)[j]? = some u → w.cell? (ad.add j) = some u := by
  intro j u hu
  rcases h.2 with ⟨hv, -⟩ | ⟨g', cap', cur, hv, hb, h2, h3, h4, h5, h6⟩
  · cases hv
  · simp only [Value.slice.injEq, Option.some.injEq] at hv
    obtain ⟨rfl, rfl, rfl⟩ := hv
    have hj : j < l.length * 2 := by
      have := (List.getElem?_eq_some_iff.1 hu).1
      rw [dcells_length] at this; exact this
    rw [Addr.add_lit]
    simp only [World.cell?, h2, Nat.zero_add, Option.isSome_none, Bool.false_eq_true, if_false]
    rw [← Array.getElem?_toList, ← List.getElem?_take_of_lt hj, h6]
    exact hu
theorem wp_joinD {w : World} {o : Oper} {a : Act} {K : Act → World → Prop} {Q : Exit → Act → World → Prop} (s x : Operand) (ho : o.op = .call { callee := .builtin .append, args := #[s, x], argTypes := #[47, 47] })
    (base b2 : Nat) (V VX : Value) (l m : List Dl) (hs : a.eval s = V) (hV : Dr w base V l) (hx : a.eval x = VX) (hX : Dr w b2 VX m) (hl : l.length ≤ 1000000) (hm : m.length ≤ 1000000) (hb : base ≤ w.heap.size)
    (h : ∀ v' w', Dr w' base v' (l ++ m) → w.grownBy w' V.ownBlock → K (a.put o.dst v') w') : o.wp Try.prog a w K Q := by
  obtain ⟨i0, hi, hz0, hz1, hz2⟩ := info_parts Try.infoD
  obtain ⟨ao, cap, rfl⟩ := hX.slice
  cases ao with
  | none =>
    obtain ⟨rfl, -, rfl⟩ := hX.none_of
    have hrun := run_append_owned_none (P := Try.prog) (w := w) base 47 o.type 69 i0 2 Try.underlying47 hi V l.length (dcells l) hV
    unfold Oper.wp
    simp [execOp, ho, resolve, invoke, builtin, hs, hx, hrun, Result.andThen]
    exact h V w (by rw [List.append_nil]; exact hV) (World.grownBy.refl _ _)
  | some ad =>
    exact wp_append_own w s x 47 ho base 69 i0 (.agg #[.int .i64 0, .int .i64 0]) 2 16 Try.underlying47 hi hz0 hz1 hz2 rfl (by decide) V l.length (dcells l) hs hV ad m.length cap (dcells m) hx (dcells_length m) hX.cells (dcells_one m) (by unfold maxLen; omega) (by omega) hb
        fun v' w' a1 a2 _ => h v' w' (by unfold Dr; rw [List.length_append, dcells_append]; exact a1) a2
theorem wpList_joinD {w : World} {ops : Array Oper} {rest : List Oper} {o : Oper} {a : Act} {Q : Exit → Act → World → Prop} (hgd : o.guard = none) (s x : Operand) (ho : o.op = .call { callee := .builtin .append, args := #[s, x], argTypes := #[47, 47] })
    (base b2 : Nat) (V VX : Value) (l m : List Dl) (hs : a.eval s = V) (hV : Dr w base V l) (hx : a.eval x = VX) (hX : Dr w b2 VX m) (hl : l.length ≤ 1000000) (hm : m.length ≤ 1000000) (hb : base ≤ w.heap.size)
    (h : ∀ v' w', Dr w' base v' (l ++ m) → w.grownBy w' V.ownBlock → wpList Try.prog ops Q rest (a.put o.dst v') w') : wpList Try.prog ops Q (o :: rest) a w :=
  wpList_plain hgd fun _ hK => wp_joinD s x ho base b2 V VX l m hs hV hx hX hl hm hb fun v' w' h1 h2 => hK _ _ (h v' w' h1 h2)
theorem step_joinD {w : World} {ops : Array Oper} {o : Oper} {a : Act} {K : Act → World → Prop} {Q : Exit → Act → World → Prop} {E : Prop} (hgd : o.guard = none) (s x : Operand) (ho : o.op = .call { callee := .builtin .append, args := #[s, x], argTypes := #[47, 47] }) (D : Nat) (hD : o.dst = some D)
    (base b2 : Nat) (V VX : Value) (l m : List Dl) (hs : a.eval s = V) (hV : Dr w base V l) (hx : a.eval x = VX) (hX : Dr w b2 VX m) (hl : l.length ≤ 1000000) (hm : m.length ≤ 1000000) (hb : base ≤ w.heap.size)
    (h : ∀ v' w', Dr w' base v' (l ++ m) → w.grownBy w' V.ownBlock → K (a.put (some D) v') w') :
    if Region.wanted o (yielded ops a.tmps) = true then Oper.wp Try.prog o a w K Q else E := by
  have hw : Region.wanted o (yielded ops a.tmps) = true := by simp [Region.wanted, hgd]
  rw [if_pos hw]
  rw [← hD] at h
  exact wp_joinD s x ho base b2 V VX l m hs hV hx hX hl hm hb h
/-- What lies below a row's base is kept when the row grows. -/
theorem grown_kp {W w' : World} {base : Nat} {V : Value} {l : List Dl} (hN : Dr W base V l) (hG : W.grownBy w' V.ownBlock) {w : World} (hk : Kp w W []) (hb : w.heap.size ≤ base) : Kp w w' [] :=
  hk.past (Kp.ofGrown (rows := V.ownBlock.toList) hG (by intro g hg; simp [hg])) (by
    intro g hg hl
    simp at hg
    have := (owns_block hN hg).1
    omega)
/-- One deadline, in a new row. -/
theorem Dr.one (W : World) (x1 x2 : Int) : Dr (W.alloc (.cells #[.int .i64 x1, .int .i64 x2] 69)) W.heap.size (.slice (some ⟨W.heap.size, 0, none⟩) 1 1) [(x1, x2)] :=
  ⟨rfl, .inr ⟨W.heap.size, 1, _, rfl, Nat.le_refl _, heap_alloc_new W _, Nat.le_refl _, by unfold maxLen; omega, rfl, rfl⟩⟩

set_option maxRecDepth 100000 in
theorem grow_zero (w : World) : Calls Try.prog 44 #[.slice none 0 0, .int .i64 0] w fun e w' => e = .returned (.slice none 0 0) ∧ w' = w := by
  go_enter Try.func44, Try.ntmps44
  go_wp2
  go_ret
  exact ⟨rfl, rfl⟩
theorem zero_cells_size (n : Nat) : (Builtin.zeroCells #[.int .i64 0, .int .i64 0] n).size = n * 2 := by simp [Builtin.zeroCells]
set_option maxRecDepth 100000 in
set_option maxHeartbeats 1000000 in
theorem grow_nil (w : World) (n : Nat) (h0 : 0 < n) (h1 : n ≤ 1000000) : Calls Try.prog 44 #[.slice none 0 0, .int .i64 n] w fun e w' => ∃ v, e = .returned v ∧ Dr w' w.heap.size v [] ∧ Kp w w' [] := by
  obtain ⟨i0, hi, hz0, hz1, hz2⟩ := info_parts Try.infoD
  have hrz : ∀ ty, (Builtin.append_ #[47, 3] ty #[.slice none 0 0, .int .i64 (n : Int)]).run Try.prog w = .ok (.slice (some ⟨w.heap.size, 0, none⟩) n (grownCap w n 0 69)) (w.drew.alloc (.cells (#[] ++ Builtin.zeroCells #[.int .i64 0, .int .i64 0] n ++ Builtin.zeroCells #[.int .i64 0, .int .i64 0] (grownCap w n 0 69 - n)) 69)) := fun ty => by
    have h := Lib.run_append_grow_zeros (P := Try.prog) w 47 3 ty 69 i0 (.agg #[.int .i64 0, .int .i64 0]) .i64 .i64 Try.underlying47 Try.underlying3 hi hz0 none 0 0 [] (run_firstCells_none w.drew i0.size 0 0 0) n h0 (by omega) (by omega) (by omega) (by rw [hz2]; omega) (by rw [hz2]; exact growslice_fits (by omega) (by omega))
    rw [Nat.zero_add] at h
    exact h
  have hGn : n ≤ grownCap w n 0 69 := grownCap_ge w _ _ _
  have hGm : grownCap w n 0 69 ≤ maxLen := grownCap_le_maxLen w n 0 69 (by unfold maxLen; omega)
  obtain ⟨G, hG⟩ : ∃ G, G = grownCap w n 0 69 := ⟨_, rfl⟩
  rw [← hG] at hrz hGn hGm
  have HM := hid hGm
  have hG63 : G ≤ 9223372036854775807 := by unfold maxLen at hGm; omega
  clear hG hGm hi hz0 hz1 hz2
  have h1' : (n : Int) ≤ 1000000 := by omega
  have h0' : (0 : Int) < n := by omega
  go_enter Try.func44, Try.ntmps44
  go_wp2_with (at_builtin; refine Lib.wpList_append_run _ rfl _ _ _ _ rfl _ _ rfl rfl _ _ (hrz _) ?_)
  all_goals (
    go_ret
    refine ⟨_, rfl, ⟨rfl, .inr ⟨w.heap.size, G, _, rfl, Nat.le_refl _, heap_alloc_new w.drew _, Nat.zero_le _, HM.out, ?_, rfl⟩⟩, (Kp.drew w []).trans (Kp.alloc _ _ _)⟩
    rw [Array.size_append, zero_cells_size, zero_cells_size]
    omega)

/-- Rings' deadlines, one behind the other. -/
def cat (D : Nat → List Dl) : Nat → List Dl
  | 0 => []
  | k + 1 => cat D k ++ D k
theorem cat_le (D : Nat → List Dl) {k n : Nat} (h : k ≤ n) : (cat D k).length ≤ (cat D n).length := by
  induction n with
  | zero => obtain rfl : k = 0 := by omega
            exact Nat.le_refl _
  | succ n ih =>
    rcases Nat.lt_or_ge k (n + 1) with q | q
    · have := ih (by omega)
      simp only [cat, List.length_append]; omega
    · obtain rfl : k = n + 1 := by omega
      exact Nat.le_refl _

set_option maxRecDepth 100000 in
set_option maxHeartbeats 2000000 in
theorem concat_any (W : World) (wb : Nat) (F : Nat → Value) (D : Nat → List Dl) (hc : ∀ s, s < 64 → W.cell? ⟨wb, s, none⟩ = some (F s)) (hD : ∀ s, s < 64 → Dr W 0 (F s) (D s)) (ht : (cat D 64).length ≤ 100000) :
    Calls Try.prog 39 #[.slice (some ⟨wb, 0, none⟩) 64 64] W fun e w' => (∃ v, e = .returned v ∧ Dr w' W.heap.size v (cat D 64)) ∧ Kp W w' [] := by
  have HC := hid hc
  have HD := hid hD
  have HT := hid ht
  obtain ⟨CT, hCT⟩ : ∃ CT, cat D 64 = CT := ⟨_, rfl⟩
  rw [hCT]
  have HCT := hid hCT
  clear hc hD ht hCT
  go_enter Try.func39, Try.ntmps39
  go_wp2_with fail
  go_loopw [3, 11] (fun vs vi wr => ∃ k t : Nat, k ≤ 64 ∧ vi = .int .i64 k ∧ vs = .int .i64 t ∧ t ≤ 100000 ∧ Hid (t = (cat D k).length) ∧ wr = W) (fun _ vi _ => 64 - (intOf vi).toNat)
  case atStart => exact ⟨0, 0, by omega, rfl, rfl, by omega, rfl, rfl⟩
  case round =>
    obtain ⟨k, t, hk, rfl, rfl, ht, hT, hW⟩ := hrel
    have hW := hW.symm
    subst hW
    by_cases hlt : k < 64
    · have hltI : (k : Int) < 64 := by omega
      have hck := HC.out k hlt
      obtain ⟨ao, cap, hF⟩ := (HD.out k hlt).slice
      rw [hF] at hck
      obtain ⟨m, hm⟩ : ∃ m, (D k).length = m := ⟨_, rfl⟩
      rw [hm] at hck
      obtain ⟨s, hs⟩ : ∃ s, t + m = s := ⟨_, rfl⟩
      have hs1 : (t : Int) + m = (s : Int) := by omega
      have HS := hid (show s = (cat D (k + 1)).length ∧ s ≤ 100000 by
        have h1 := cat_le D (k := k + 1) (n := 64) (by omega)
        have h2 : (cat D (k + 1)).length = (cat D k).length + (D k).length := by simp [cat]
        have := HT.out
        have := hT.out
        omega)
      have hsb : (s : Int) ≤ 100000 := by have := HS.out; omega
      have hsn : ¬ (s : Int) < 0 := by omega
      have hmb : m ≤ 100000 := by have := HS.out; omega
      clear hs hm hF
      go_wp2
      go_roundw
      case rel => exact ⟨k + 1, s, by omega, by simp, by simp, HS.out.2, HS.out.1, trivial⟩
      case measure => simp [intOf]; omega
    · have hltI : ¬ (k : Int) < 64 := by omega
      have hk64 := hid (show t = (cat D 64).length by rw [hT.out, show k = 64 by omega])
      go_wp2_with fail
      have hG : Calls Try.prog 44 #[.slice none 0 0, .int .i64 t] W fun e w' => ∃ ao cap, e = .returned (.slice ao 0 cap) ∧ Dr w' W.heap.size (.slice ao 0 cap) [] ∧ Kp W w' [] := by
        by_cases h0 : t = 0
        · subst h0
          exact (grow_zero W).mono fun e w' ⟨he, hw⟩ => by subst he hw; exact ⟨none, 0, rfl, Dr.nil _ _, Kp.refl _ _⟩
        · exact (grow_nil W t (by omega) (by omega)).mono fun e w' ⟨v, he, hd, hk⟩ => by
            obtain ⟨ao, cap, rfl⟩ := hd.slice
            exact ⟨ao, cap, he, hd, hk⟩
      refine hG.mono ?_
      rintro e w2 ⟨ao, cap, rfl, hd, hkp⟩
      have H2 := hid (And.intro hd hkp)
      clear hd hkp hG
      go_wp2_with fail
      go_loopw [6, 27] (fun vn vi wx => ∃ (k m cap : Nat) (ao : Option Addr), k ≤ 64 ∧ vi = .int .i64 k ∧ vn = .slice ao m cap ∧ Hid (m = (cat D k).length ∧ Dr wx W.heap.size (.slice ao m cap) (cat D k) ∧ Kp W wx [])) (fun _ vi _ => 64 - (intOf vi).toNat)
      case atStart => exact ⟨0, 0, cap, ao, by omega, rfl, rfl, rfl, H2.out.1, H2.out.2⟩
      case round =>
        obtain ⟨k, m, cap, ao, hk, rfl, rfl, hR⟩ := hrel
        by_cases hlt2 : k < 64
        · have hltI2 : (k : Int) < 64 := by omega
          have hck := hR.out.2.2.cell (HC.out k hlt2) (by simp)
          have hDk := (HD.out k hlt2).keep hR.out.2.2
          obtain ⟨ak, ck, hF⟩ := hDk.slice
          rw [hF] at hck hDk
          obtain ⟨mk, hmk⟩ : ∃ mk, (D k).length = mk := ⟨_, rfl⟩
          rw [hmk] at hck hDk
          have HDK := hid hDk
          have HB := hid (show (cat D k).length ≤ 100000 ∧ (D k).length ≤ 100000 by
            have h1 := cat_le D (k := k + 1) (n := 64) (by omega)
            have h2 : (cat D (k + 1)).length = (cat D k).length + (D k).length := by simp [cat]
            have := HT.out
            omega)
          have hsz : W.heap.size ≤ wr.heap.size := hR.out.2.2.size
          clear hDk hF hmk
          go_wp2_with (refine wpList_joinD rfl (.tmp 31) (.tmp 32) rfl W.heap.size 0 (.slice ao m cap) (.slice ak mk ck) (cat D k) (D k) rfl hR.out.2.1 rfl HDK.out (by have := HB.out; omega) (by have := HB.out; omega) hsz ?_; intro v3 w3 hd3 hg3; obtain ⟨a3, c3, hv3⟩ := hd3.slice; have H3 := hid (show Dr w3 W.heap.size v3 (cat D (k + 1)) ∧ Kp W w3 [] from ⟨hd3, grown_kp hR.out.2.1 hg3 hR.out.2.2 (Nat.le_refl _)⟩); rw [show (cat D k ++ D k).length = (cat D (k + 1)).length from rfl] at hv3; obtain ⟨m3, hm3⟩ : ∃ m3, (cat D (k + 1)).length = m3 := ⟨_, rfl⟩; rw [hm3] at hv3; subst hv3; have HM3 := hid hm3; clear hd3 hg3 hm3)
          go_roundw
          case rel => exact ⟨k + 1, m3, c3, a3, by omega, by simp, rfl, HM3.out.symm, H3.out.1, H3.out.2⟩
          case measure => simp [intOf]; omega
        · have hltI2 : ¬ (k : Int) < 64 := by omega
          have HF := hid (show Dr wr W.heap.size (.slice ao m cap) CT ∧ Kp W wr [] by
            have h1 := hR.out
            rw [show k = 64 by omega, HCT.out] at h1
            exact h1.2)
          go_wp2
          go_ret
          exact ⟨⟨_, rfl, HF.out.1⟩, HF.out.2⟩
end Go.Proofs.Ytoaceeddcnijoaa
