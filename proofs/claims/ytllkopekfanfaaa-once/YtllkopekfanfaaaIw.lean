/- slices.Insert of one message: its walks. -/
import Derived.BigQuiet
import Derived.Test.YtllkopekfanfaaaIs
namespace Go.Proofs.Ytllkopekfanfaaa
open Go.RowKit Go.Shelf Go.Lib Go.Sort Go.Maps
attribute [local go_sem] Oper.semAt_some

set_option maxHeartbeats 4000000 in
set_option maxRecDepth 100000 in
/-- At the end. -/
theorem ins_end (w : World) (V : Value) (l : Ml) (vb : Nat) (x : Int × Int) (hV : Mr w 0 V l) (hX : Mr w 0 (.slice (some ⟨vb, 0, none⟩) 1 1) [x]) (hl : l.length ≤ 1000) :
    Calls Try.prog 87 #[V, .int .i64 l.length, .slice (some ⟨vb, 0, none⟩) 1 1] w fun e w' => ∃ V', e = .returned V' ∧ Mr w' 0 V' (l ++ [x]) ∧ w.grownBy w' V.ownBlock ∧ (V'.ownBlock = V.ownBlock ∨ V'.ownBlock = some w.heap.size) := by
  have HP := hid (fun ty => push_whereM (w := w) ty V l hV ⟨vb, 0, none⟩ [x] 1 hX (by simp) (by omega) (by simp))
  obtain ⟨ao, cap, rfl⟩ := hV.slice
  have hle := hV.le.2
  have hcm : cap ≤ 9223372036854775807 := by
    rcases hV.2 with ⟨e, -⟩ | ⟨g, cp, cur, e, -, -, -, h, -⟩
    · simp at e; omega
    · simp at e; unfold maxLen at h; omega
  cases ao with
  | none =>
    obtain ⟨rfl, h0, rfl⟩ := hV.none_of
    clear hV hX hl hle hcm
    go_enter Try.func87, Try.ntmps87
    go_wp2_with (at_builtin; refine wpList_plain rfl fun _ hK => ?_; obtain ⟨v', w', hr, r1, r2, r3⟩ := HP.out 60; refine Lib.wp_append_run _ _ _ _ _ rfl _ _ rfl rfl _ _ hr ?_; refine hK _ _ ?_)
    all_goals (
      go_ret
      exact ⟨_, rfl, r1, r2, r3⟩)
  | some ad =>
    obtain ⟨g, rfl⟩ := hV.some_of
    generalize l.length = n at *
    clear hV hX hl
    go_enter Try.func87, Try.ntmps87
    go_wp2_with (at_builtin; refine wpList_plain rfl fun _ hK => ?_; obtain ⟨v', w', hr, r1, r2, r3⟩ := HP.out 60; refine Lib.wp_append_run _ _ _ _ _ rfl _ _ rfl rfl _ _ hr ?_; refine hK _ _ ?_)
    all_goals (
      go_ret
      exact ⟨_, rfl, r1, r2, r3⟩)
theorem shapeM {w : World} {b : Nat} {c : Array Value} (h : w.heap[b]? = some (.cells c 34 (0, 0))) : w.shape? b = some (34, c.size) := by simp [World.shape?, h]
theorem frozenM {w : World} {b : Nat} {c : Array Value} (h : w.heap[b]? = some (.cells c 34 (0, 0))) (i : Nat) : w.frozen? ⟨b, i, none⟩ = false := by simp [World.frozen?, h]
theorem cells_of {w : World} {b : Nat} {c : Array Value} (h : w.heap[b]? = some (.cells c 34 (0, 0))) {j : Nat} {v : Value} (e : c.toList[j]? = some v) : w.cell? ⟨b, j, none⟩ = some v := by
  simp only [World.cell?, h, Option.isSome_none, Bool.false_eq_true, if_false]
  rw [← Array.getElem?_toList]
  exact e
set_option maxHeartbeats 4000000 in
set_option maxRecDepth 100000 in
/-- Where there is room. -/
theorem ins_shift (w : World) (g cap i n : Nat) (cur : Array Value) (A B : Ml) (vb : Nat) (x : Int × Int) (hg : w.heap[g]? = some (.cells cur 34 (0, 0))) (hv : w.heap[vb]? = some (.cells #[.int .i64 x.1, .int .i64 x.2] 34 (0, 0))) (hne : vb ≠ g)
    (hT : cur.toList.take ((A ++ B).length * 2) = mcells (A ++ B)) (hsz : cur.size = cap * 2) (hn : (A ++ B).length = n) (hi : A.length = i) (hB : 0 < B.length) (hroom : n + 1 ≤ cap) (hcm : cap ≤ 9223372036854775807) :
    Calls Try.prog 87 #[.slice (some ⟨g, 0, none⟩) n cap, .int .i64 i, .slice (some ⟨vb, 0, none⟩) 1 1] w fun e w' => e = .returned (.slice (some ⟨g, 0, none⟩) (n + 1) cap) ∧ Kp w w' [g] ∧ ∃ c2, w'.heap[g]? = some (.cells c2 34 (0, 0)) ∧ c2.size = cap * 2 ∧ c2.toList.take ((A ++ x :: B).length * 2) = mcells (A ++ x :: B) := by
  obtain ⟨c1, hc1, hl1, hl2, ht2⟩ := shift_cells cur.toList A B x i hi.symm hT (by simp only [Array.length_toList]; omega)
  have hnAB : n = A.length + B.length := by rw [← hn, List.length_append]
  have hlA := mcells_length A
  have hlB := mcells_length B
  have hdr : (mcells B).length = (n - i) * 2 := by rw [hlB]; congr 1; omega
  have hsrcB : ∀ j v, (mcells B)[j]? = some v → w.cell? ⟨g, i * 2 + j, none⟩ = some v := fun j v hj => by
    refine cells_of hg ?_
    have hj' : j < B.length * 2 := by
      have := (List.getElem?_eq_some_iff.1 hj).1
      omega
    rw [← List.getElem?_take_of_lt (j := (A ++ B).length * 2) (by rw [List.length_append]; omega), hT, mcells_append, List.getElem?_append_right (by omega), hlA, hi, Nat.add_sub_cancel_left]
    exact hj
  have hcp1 : ∀ (W : World), W.heap = w.heap → ∀ ty dc sc, (Builtin.copy_ #[60, 60] ty #[.slice (some ⟨g, (i + 1) * 2, none⟩) (n - i) dc, .slice (some ⟨g, i * 2, none⟩) (n + 1 - i) sc]).run Try.prog W = .ok (.int .i64 (n - i : Nat)) (W.setRow g c1.toArray) := fun W hW ty dc sc => by
    rw [hc1]
    exact run_copy_row2 W ty g ((i + 1) * 2) (n - i) dc ⟨g, i * 2, none⟩ (n + 1 - i) sc cur 34 (mcells B) (n - i) (by rw [hW]; exact hg) (by simp only [Nat.min_def]; split <;> omega) hdr
      (fun j v hj => by rw [Addr.add_lit]; have := hsrcB j v hj; simp only [World.cell?, hW] at this ⊢; exact this) (by omega) (mcells_one B)
  have hcp2 : ∀ (W : World), W.heap = (w.setRow g c1.toArray).heap → ∀ ty dc, (Builtin.copy_ #[60, 60] ty #[.slice (some ⟨g, i * 2, none⟩) (n + 1 - i) dc, .slice (some ⟨vb, 0, none⟩) 1 1]).run Try.prog W = .ok (.int .i64 (1 : Nat)) (W.setRow g (c1.take (i * 2) ++ encM x ++ c1.drop (i * 2 + (encM x).length)).toArray) := fun W hW ty dc => by
    have hg1 : W.heap[g]? = some (.cells c1.toArray 34 (0, 0)) := by rw [hW]; exact setRow_heap w g cur c1.toArray 34 _ hg
    have hv1 : W.heap[vb]? = some (.cells #[.int .i64 x.1, .int .i64 x.2] 34 (0, 0)) := by rw [hW, ((Kp.setRow w g c1.toArray).block vb (lt_of_block hv) (by simpa using hne))]; exact hv
    exact run_copy_row2 W ty g (i * 2) (n + 1 - i) dc ⟨vb, 0, none⟩ 1 1 c1.toArray 34 (encM x) 1 hg1 (by simp only [Nat.min_def]; split <;> omega) rfl
      (fun j v hj => by rw [Addr.add_lit, Nat.zero_add]; exact cells_of hv1 hj) (by simp only [Array.length_toList, List.size_toArray, hl1]; show i * 2 + 2 ≤ _; omega) (mcells_one [x])
  have hov : ∀ lb cb, (callFunc 90 #[.slice (some ⟨vb, 0, none⟩) 1 1, .slice (some ⟨g, (i + 1) * 2, none⟩) lb cb]).run Try.prog w = .ok (.value (.bool false)) w := fun lb cb => by
    obtain ⟨i0, hi0, hz0, hz1, hz2⟩ := info_parts Try.infoM
    rw [run_callFunc_extern Try.func90 (by kernel_rfl) (by kernel_rfl) (by kernel_rfl) (e := Extern.SlicesOverlaps.overlaps #[60, 60] #[4]) (by kernel_rfl),
      Lib.run_overlaps_apart w 60 4 34 Try.underlying60 2 (fun w => by simp [sizeOf, typeInfo, hi0, hz1]) ⟨vb, 0, none⟩ ⟨g, (i + 1) * 2, none⟩ 1 1 lb cb hne 34 34 2 cur.size (shapeM hv) (shapeM hg) (by omega) (frozenM hv 0) (frozenM hv 2)]
    rfl
  have hfin : ∀ w', w' = ((w.drew.setRow g c1.toArray).setRow g (c1.take (i * 2) ++ encM x ++ c1.drop (i * 2 + (encM x).length)).toArray) → Kp w w' [g] ∧ ∃ c2, w'.heap[g]? = some (.cells c2 34 (0, 0)) ∧ c2.size = cap * 2 ∧ c2.toList.take ((A ++ x :: B).length * 2) = mcells (A ++ x :: B) := by
    rintro w' rfl
    refine ⟨((Kp.drew w [g]).trans (Kp.setRow w.drew g _)).trans (Kp.setRow _ g _), _, setRow_heap _ g c1.toArray _ 34 _ (setRow_heap w.drew g cur c1.toArray 34 _ hg), ?_, by simpa using ht2⟩
    rw [List.size_toArray, hl2, Array.length_toList, hsz]
  have HF := hid hfin
  have mixed : Try.prog.follows .mixedOrders = true := by kernel_rfl
  have hz2 : ¬ ((i : Int) = (n : Int)) := by omega
  have hw1 : IntKind.i64.wrap ((i : Int) + 1) = (i : Int) + 1 := by rw [IntKind.wrap_i64]; omega
  have hw2 : IntKind.i64.wrap ((n : Int) + 1) = (n : Int) + 1 := by rw [IntKind.wrap_i64]; omega
  have hin : i ≤ n := by omega
  have htn : ((i : Int) + 1).toNat = i + 1 := by omega
  have htn2 : ((n : Int) + 1).toNat = n + 1 := by omega
  have hb1 : (0 : Int) ≤ (i : Int) + 1 := by omega
  have hb2 : ¬ (cap = i + 1) := by omega
  have hb3 : (i : Int) + 1 ≤ (n : Int) + 1 := by omega
  have hb4 : ¬ (cap = i) := by omega
  have hb5 : (i : Int) ≤ (n : Int) + 1 := by omega
  have hb6 : (i : Int) ≤ (n : Int) := by omega
  have hb7 : ¬ ((cap : Int) < (n : Int) + 1) := by omega
  have hb8 : (n : Int) + 1 ≤ (cap : Int) := by omega
  have hb9 : (0 : Int) ≤ (n : Int) + 1 := by omega
  have hb10 : (0 : Int) ≤ (i : Int) := by omega
  clear hg hv hne hT hsz hn hi hB hroom hc1 hl1 hl2 ht2 hnAB hlA hlB hdr hsrcB hfin
  generalize c1.toArray = C1 at *
  generalize (c1.take (i * 2) ++ encM x ++ c1.drop (i * 2 + (encM x).length)).toArray = C2 at *
  go_enter Try.func87, Try.ntmps87
  go_wp2_with (simp only [hov])
  go_region_law_o (refine step_copy_runI rfl _ _ 60 60 rfl (.slice (some ⟨g, (i + 1) * 2, none⟩) (n - i) (cap - (i + 1))) (.slice (some ⟨g, i * 2, none⟩) (n + 1 - i) (cap - i)) (by simp [Act.eval, Act.put]) (by simp [Act.eval, Act.put]) (hcp1 w.drew rfl 3 (cap - (i + 1)) (cap - i)) ?_)
  have hc2 := fun dc => hcp2 (w.drew.setRow g C1) rfl 3 dc
  go_wp2
  go_ret
  exact ⟨rfl, HF.out _ rfl⟩
set_option maxHeartbeats 4000000 in
set_option maxRecDepth 100000 in
/-- Where there is none. -/
theorem ins_grow (w : World) (g cap i n : Nat) (cur : Array Value) (A B : Ml) (vb : Nat) (x : Int × Int) (hg : w.heap[g]? = some (.cells cur 34 (0, 0))) (hv : w.heap[vb]? = some (.cells #[.int .i64 x.1, .int .i64 x.2] 34 (0, 0)))
    (hT : cur.toList.take ((A ++ B).length * 2) = mcells (A ++ B)) (hn : (A ++ B).length = n) (hi : A.length = i) (hB : 0 < B.length) (hnc : n ≤ cap) (hroom : cap < n + 1) (hbig : n ≤ 1000) :
    Calls Try.prog 87 #[.slice (some ⟨g, 0, none⟩) n cap, .int .i64 i, .slice (some ⟨vb, 0, none⟩) 1 1] w fun e w' => ∃ G, e = .returned (.slice (some ⟨w.heap.size, 0, none⟩) (n + 1) G) ∧ n + 1 ≤ G ∧ G ≤ maxLen ∧ Kp w w' [] ∧ ∃ c2, w'.heap[w.heap.size]? = some (.cells c2 34 (0, 0)) ∧ c2.size = G * 2 ∧ c2.toList.take ((A ++ x :: B).length * 2) = mcells (A ++ x :: B) := by
  obtain ⟨i0, hi0, hz0, hz1, hz2⟩ := info_parts Try.infoM
  have hnAB : n = A.length + B.length := by rw [← hn, List.length_append]
  have hlA := mcells_length A
  have hlB := mcells_length B
  have hbw : g < w.heap.size := lt_of_block hg
  have hvw : vb < w.heap.size := lt_of_block hv
  have hsrc : ∀ j v, (mcells (A ++ B))[j]? = some v → w.cell? ⟨g, j, none⟩ = some v := fun j v hj => by
    refine cells_of hg ?_
    have hj' : j < (A ++ B).length * 2 := by
      have := (List.getElem?_eq_some_iff.1 hj).1
      rw [mcells_length] at this
      exact this
    rw [← List.getElem?_take_of_lt hj', hT]
    exact hj
  have hsrcA : ∀ j v, (mcells A)[j]? = some v → w.cell? ⟨g, j, none⟩ = some v := fun j v hj => hsrc j v (by
    rw [mcells_append, List.getElem?_append_left (List.getElem?_eq_some_iff.1 hj).1]
    exact hj)
  have hsrcB : ∀ j v, (mcells B)[j]? = some v → w.cell? ⟨g, i * 2 + j, none⟩ = some v := fun j v hj => hsrc _ v (by
    rw [mcells_append, List.getElem?_append_right (by omega), hlA, hi, Nat.add_sub_cancel_left]
    exact hj)
  have hold : (Builtin.firstCells i0.size i (.slice (some ⟨g, 0, none⟩) i cap)).run Try.prog w.drew = .ok (mcells A).toArray w.drew := by
    rw [hz1]
    exact run_firstCells_some w.drew 2 i ⟨g, 0, none⟩ i cap (mcells A) (by rw [hlA, hi]) (fun j v hj => by
      rw [Addr.add_lit, Nat.zero_add]
      exact hsrcA j v hj)
  have hkk : (n : Int) + 1 - (i : Int) = ((n + 1 - i : Nat) : Int) := by omega
  have hik : i + (n + 1 - i) = n + 1 := by omega
  obtain ⟨G, hG⟩ : ∃ G, G = grownCap w (n + 1) cap 34 := ⟨_, rfl⟩
  obtain ⟨ROW, hROW⟩ : ∃ ROW : Array Value, ROW = (mcells A).toArray ++ Builtin.zeroCells (Value.agg #[.int .i64 0, .int .i64 0]).cells (n + 1 - i) ++ Builtin.zeroCells (Value.agg #[.int .i64 0, .int .i64 0]).cells (G - (n + 1)) := ⟨_, rfl⟩
  have hrz : ∀ ty, (Builtin.append_ #[60, 3] ty #[.slice (some ⟨g, 0, none⟩) i cap, .int .i64 ((n : Int) + 1 - (i : Int))]).run Try.prog w = .ok (.slice (some ⟨w.heap.size, 0, none⟩) (n + 1) G) (w.drew.alloc (.cells ROW 34)) := fun ty => by
    have h := Lib.run_append_grow_zeros w 60 3 ty 34 i0 _ .i64 .i64 Try.underlying60 Try.underlying3 hi0 hz0 (some ⟨g, 0, none⟩) i cap (mcells A) hold (n + 1 - i) (by omega) (by omega) (by omega) (by omega) (by rw [hz2]; omega) (by rw [hz2, hik]; exact growslice_fits hroom (by omega))
    rw [hik] at h
    rw [hkk, hROW, hG]
    exact h
  have hGn : n + 1 ≤ G := by rw [hG]; exact grownCap_ge w _ _ _
  have hGm : G ≤ maxLen := by rw [hG]; exact grownCap_le_maxLen w (n + 1) cap 34 (by unfold maxLen; omega)
  have hG63 : G ≤ 9223372036854775807 := by unfold maxLen at hGm; omega
  have hRs : ROW.size = G * 2 := by
    rw [hROW]
    simp [Builtin.zeroCells, Value.cells, hlA]
    omega
  have hRt : ROW.toList.take (i * 2) = mcells A := by
    rw [hROW]
    simp only [Array.toList_append, List.append_assoc]
    rw [List.take_append_of_le_length (by omega), List.take_of_length_le (by omega)]
  have he : (encM x).length = 2 := rfl
  obtain ⟨c1, hc1⟩ : ∃ c1, c1 = ROW.toList.take (i * 2) ++ encM x ++ ROW.toList.drop (i * 2 + (encM x).length) := ⟨_, rfl⟩
  have hc1l : c1.length = G * 2 := by
    rw [hc1]
    simp only [List.length_append, List.length_take, List.length_drop, Array.length_toList, he]
    omega
  have hc1t : c1.take ((i + 1) * 2) = mcells A ++ encM x := by
    rw [hc1, hRt, List.take_append_of_le_length (by simp only [List.length_append, he]; omega), List.take_of_length_le (by simp only [List.length_append, he]; omega)]
  obtain ⟨c2, hc2⟩ : ∃ c2, c2 = c1.take ((i + 1) * 2) ++ mcells B ++ c1.drop ((i + 1) * 2 + (mcells B).length) := ⟨_, rfl⟩
  have hc2l : c2.length = G * 2 := by
    rw [hc2]
    simp only [List.length_append, List.length_take, List.length_drop, hlB]
    omega
  have hc2t : c2.take ((A ++ x :: B).length * 2) = mcells (A ++ x :: B) := by
    rw [hc2, hc1t, mcells_append, show mcells (x :: B) = encM x ++ mcells B from rfl, List.append_assoc (mcells A)]
    rw [List.take_append_of_le_length (by simp only [List.length_append, List.length_cons, hlA, hlB, he]; omega), List.take_of_length_le (by simp only [List.length_append, List.length_cons, hlA, hlB, he]; omega)]
  have hdr : (mcells B).length = (n - i) * 2 := by rw [hlB]; congr 1; omega
  obtain ⟨W1, hW1⟩ : ∃ W1 : World, W1 = (w.alloc (.cells ROW 34)).drew := ⟨_, rfl⟩
  have hn1 : W1.heap[w.heap.size]? = some (.cells ROW 34 (0, 0)) := by rw [hW1]; exact heap_alloc_new w _
  have hk1 : Kp w W1 [] := by rw [hW1]; exact (Kp.alloc w _ []).trans (Kp.drew _ [])
  have hcpA : ∀ ty dc, (Builtin.copy_ #[60, 60] ty #[.slice (some ⟨w.heap.size, i * 2, none⟩) (n + 1 - i) dc, .slice (some ⟨vb, 0, none⟩) 1 1]).run Try.prog W1 = .ok (.int .i64 (1 : Nat)) (W1.setRow w.heap.size c1.toArray) := fun ty dc => by
    rw [hc1]
    exact run_copy_row2 W1 ty w.heap.size (i * 2) (n + 1 - i) dc ⟨vb, 0, none⟩ 1 1 ROW 34 (encM x) 1 hn1 (by simp only [Nat.min_def]; split <;> omega) rfl
      (fun j v hj => by rw [Addr.add_lit, Nat.zero_add]; exact cells_of ((hk1.block vb hvw (by simp)).trans hv) hj) (by rw [hRs, he]; omega) (mcells_one [x])
  have hk2 : Kp W1 (W1.setRow w.heap.size c1.toArray) [w.heap.size] := Kp.setRow _ _ _
  have hn2 : (W1.setRow w.heap.size c1.toArray).heap[w.heap.size]? = some (.cells c1.toArray 34 (0, 0)) := setRow_heap W1 _ _ _ 34 _ hn1
  have hg2 : ∀ j v, (mcells B)[j]? = some v → (W1.setRow w.heap.size c1.toArray).drew.cell? ⟨g, i * 2 + j, none⟩ = some v := fun j v hj => by
    have h1 := hk1.cell (hsrcB j v hj) (by simp)
    exact hk2.cell h1 (by simp; omega)
  have hcpB : ∀ ty dc sc, (Builtin.copy_ #[60, 60] ty #[.slice (some ⟨w.heap.size, (i + 1) * 2, none⟩) (n - i) dc, .slice (some ⟨g, i * 2, none⟩) (n - i) sc]).run Try.prog (W1.setRow w.heap.size c1.toArray).drew = .ok (.int .i64 (n - i : Nat)) ((W1.setRow w.heap.size c1.toArray).drew.setRow w.heap.size c2.toArray) := fun ty dc sc => by
    rw [hc2]
    exact run_copy_row2 _ ty w.heap.size ((i + 1) * 2) (n - i) dc ⟨g, i * 2, none⟩ (n - i) sc c1.toArray 34 (mcells B) (n - i) hn2 (by simp) hdr
      (fun j v hj => by rw [Addr.add_lit]; exact hg2 j v hj) (by simp only [List.size_toArray, hc1l, hdr]; omega) (mcells_one B)
  have hfin : ∀ w', w' = (W1.setRow w.heap.size c1.toArray).drew.setRow w.heap.size c2.toArray → Kp w w' [] ∧ ∃ c2 : Array Value, w'.heap[w.heap.size]? = some (.cells c2 34 (0, 0)) ∧ c2.size = G * 2 ∧ c2.toList.take ((A ++ x :: B).length * 2) = mcells (A ++ x :: B) := by
    rintro w' rfl
    refine ⟨hk1.past (((Kp.setRow W1 _ _).trans (Kp.drew _ _)).trans (Kp.setRow _ w.heap.size _)) (fun k hk hl => by simp at hk; omega), c2.toArray, setRow_heap _ _ c1.toArray _ 34 _ hn2, by simpa using hc2l, by simpa using hc2t⟩
  have HF := hid hfin
  have mixed : Try.prog.follows .mixedOrders = true := by kernel_rfl
  have hz2 : ¬ ((i : Int) = (n : Int)) := by omega
  have hw1 : IntKind.i64.wrap ((i : Int) + 1) = (i : Int) + 1 := by rw [IntKind.wrap_i64]; omega
  have hw2 : IntKind.i64.wrap ((n : Int) + 1) = (n : Int) + 1 := by rw [IntKind.wrap_i64]; omega
  have hw3 : IntKind.i64.wrap ((n : Int) + 1 - (i : Int)) = (n : Int) + 1 - (i : Int) := by rw [IntKind.wrap_i64]; omega
  have hin : i ≤ n := by omega
  have htn : ((i : Int) + 1).toNat = i + 1 := by omega
  have hb1 : (0 : Int) ≤ (i : Int) + 1 := by omega
  have hb3 : (i : Int) + 1 ≤ (n : Int) + 1 := by omega
  have hb4 : ¬ (cap = i) := by omega
  have hb5 : (i : Int) ≤ (n : Int) + 1 := by omega
  have hb6 : (i : Int) ≤ (n : Int) := by omega
  have hb7 : (cap : Int) < (n : Int) + 1 := by omega
  have hb10 : (0 : Int) ≤ (i : Int) := by omega
  have hic : i ≤ cap := by omega
  have hcm : cap ≤ 9223372036854775807 := by omega
  have hGi : ¬ (G = i) := by omega
  have hGim : ¬ (G = i + 1) := by omega
  clear hg hv hT hn hi hB hnc hroom hbig hc1 hc2 hc1l hc1t hc2l hc2t hnAB hlA hlB hdr hsrc hsrcA hsrcB hfin hold hkk hik hG hROW hRs hRt he hn1 hk1 hk2 hn2 hg2 hbw hvw hi0 hz0 hz1
  generalize c1.toArray = C1 at *
  generalize c2.toArray = C2 at *
  subst hW1
  go_enter Try.func87, Try.ntmps87
  go_wp2_with (at_builtin; refine Lib.wpList_append_run _ rfl _ _ _ _ rfl _ _ rfl rfl _ _ (hrz _) ?_)
  go_region_law_o (refine step_copy_runI rfl _ _ 60 60 rfl (.slice (some ⟨w.heap.size, (i + 1) * 2, none⟩) (n - i) (G - (i + 1))) (.slice (some ⟨g, i * 2, none⟩) (n - i) (cap - i)) (by simp [Act.eval, Act.put]) (by simp [Act.eval, Act.put]) (hcpB 3 (G - (i + 1)) (cap - i)) ?_)
  go_wp2
  go_ret
  exact ⟨G, rfl, hGn, hGm, HF.out _ rfl⟩
/-- One message is put in. -/
theorem insM_any (w : World) (V : Value) (A B : Ml) (i : Nat) (vb : Nat) (x : Int × Int) (hV : Mr w 0 V (A ++ B)) (hi : A.length = i) (hv : w.heap[vb]? = some (.cells #[.int .i64 x.1, .int .i64 x.2] 34 (0, 0))) (hne : ∀ g, V.ownBlock = some g → vb ≠ g) (hl : (A ++ B).length ≤ 1000) :
    Calls Try.prog 87 #[V, .int .i64 i, .slice (some ⟨vb, 0, none⟩) 1 1] w fun e w' => ∃ V', e = .returned V' ∧ Mr w' 0 V' (A ++ x :: B) ∧ Kp w w' V.ownBlock.toList ∧ (V'.ownBlock = V.ownBlock ∨ V'.ownBlock = some w.heap.size) := by
  cases B with
  | nil =>
    rw [List.append_nil] at hV hl
    subst hi
    have hX : Mr w 0 (.slice (some ⟨vb, 0, none⟩) 1 1) [x] := ⟨rfl, .inr ⟨vb, 1, _, rfl, Nat.zero_le _, hv, Nat.le_refl _, by unfold maxLen; omega, rfl, rfl⟩⟩
    refine (ins_end w V A vb x hV hX hl).mono ?_
    rintro e w' ⟨V', rfl, h1, h2, h3⟩
    exact ⟨V', rfl, h1, Kp.ofGrown h2 (fun g hg => by simp [hg]), h3⟩
  | cons y B =>
    have hn0 : 0 < (A ++ y :: B).length := by simp only [List.length_append, List.length_cons]; omega
    rcases hV.2 with ⟨-, h0⟩ | ⟨g, cap, cur, rfl, -, hg, hnc, hcm, hcs, hT⟩
    · omega
    · have hg' := hne g rfl
      by_cases hroom : (A ++ y :: B).length + 1 ≤ cap
      · refine (ins_shift w g cap i _ cur A (y :: B) vb x hg hv hg' hT hcs rfl hi (by simp) hroom (by unfold maxLen at hcm; omega)).mono ?_
        rintro e w' ⟨rfl, hk, c2, h1, h2, h3⟩
        have hll : (A ++ x :: y :: B).length = (A ++ y :: B).length + 1 := by simp only [List.length_append, List.length_cons]; omega
        refine ⟨_, rfl, ⟨mcells_length _, .inr ⟨g, cap, c2, by rw [hll], Nat.zero_le _, h1, by omega, hcm, h2, h3⟩⟩, hk, .inl rfl⟩
      · refine (ins_grow w g cap i _ cur A (y :: B) vb x hg hv hT rfl hi (by simp) hnc (by omega) hl).mono ?_
        rintro e w' ⟨G, rfl, hG1, hG2, hk, c2, h1, h2, h3⟩
        have hll : (A ++ x :: y :: B).length = (A ++ y :: B).length + 1 := by simp only [List.length_append, List.length_cons]; omega
        refine ⟨_, rfl, ⟨mcells_length _, .inr ⟨w.heap.size, G, c2, by rw [hll], Nat.zero_le _, h1, by omega, hG2, h2, h3⟩⟩, hk.nil, .inr rfl⟩
end Go.Proofs.Ytllkopekfanfaaa
