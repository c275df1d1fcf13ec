/- What is asked of pieces; IndexFunc, DeleteFunc. -/
import Derived.Test.YtojcmnanapeooaaCat
import Derived.Lib.SliceRun
namespace Go.Proofs.Ytojcmnanapeooaa
open Go.RowKit Go.Shelf
open Go.Lib hiding intOf

/-- A function that asks p of a deadline; what it has captured stands in block cb. -/
structure Prd (g cb : Nat) (c : Int) (p : Dl → Bool) : Prop where
  call : ∀ (W : World) (x1 x2 : Int), W.cell? ⟨cb, 0, none⟩ = some (.int .i64 c) → Calls Try.prog g #[.agg #[.int .i64 x1, .int .i64 x2], .pointer (some ⟨cb, 0, none⟩)] W fun e w' => e = .returned (.bool (p (x1, x2))) ∧ Kp W w' []
  ent : ∀ args w, (callFunc g args).run Try.prog w = .ok (.enter g args) w
abbrev pv (g cb : Nat) : Value := .func (.func g) #[] #[.pointer (some ⟨cb, 0, none⟩)]
set_option maxRecDepth 100000 in
theorem prd_due (cb : Nat) (c : Int) : Prd 33 cb c (fun x => decide (x.1 ≤ c)) where
  call W x1 x2 h := by
    go_enter Try.func33, Try.ntmps33
    have hlt := World.block_lt_of_cell? W _ h
    have hne : cb ≠ W.heap.size := by have : cb < W.heap.size := hlt; omega
    go_wp2
    go_ret
    exact ⟨rfl, Kp.alloc _ _ _⟩
  ent := enters_of Try.func33 (by kernel_rfl) rfl
theorem Dr.at {w : World} {base : Nat} {ao : Option Addr} {m cap : Nat} {l : List Dl} (h : Dr w base (.slice ao m cap) l) {k : Nat} (hk : k < l.length) {x1 x2 : Int} (e : l[k]! = (x1, x2)) :
    ∃ g, ao = some ⟨g, 0, none⟩ ∧ w.cell? ⟨g, k * 2, none⟩ = some (.int .i64 x1) ∧ w.cell? ⟨g, k * 2 + 1, none⟩ = some (.int .i64 x2) ∧ w.frozen? ⟨g, k * 2, none⟩ = false ∧ w.frozen? ⟨g, k * 2 + 1, none⟩ = false := by
  cases ao with
  | none => obtain ⟨rfl, -⟩ := h.none_of; simp at hk
  | some ad =>
    obtain ⟨g, rfl⟩ := h.some_of
    have := h.hk.1.cells hk
    rw [e] at this
    exact ⟨g, rfl, this⟩

/-- What IndexFunc tells. -/
def Idx (l : List Dl) (p : Dl → Bool) (r : Int) : Prop := (r = -1 ∧ l.any p = false) ∨ ∃ i : Nat, r = i ∧ i < l.length ∧ p l[i]! = true ∧ ∀ x ∈ l.take i, p x = false

set_option maxRecDepth 100000 in
set_option maxHeartbeats 2000000 in
theorem idx_any (w : World) (base : Nat) (v : Value) (l : List Dl) (g cb : Nat) (c : Int) (p : Dl → Bool) (h : Dr w base v l) (hp : Prd g cb c p) (hc : w.cell? ⟨cb, 0, none⟩ = some (.int .i64 c)) (hl : l.length ≤ 100000) :
    Calls Try.prog 38 #[v, pv g cb] w fun e w' => (∃ r : Int, e = .returned (.int .i64 r) ∧ Idx l p r) ∧ Kp w w' [] := by
  obtain ⟨ao, cap, rfl⟩ := h.slice
  obtain ⟨N, hN⟩ : ∃ N, l.length = N := ⟨_, rfl⟩
  have H := hid h
  have HN := hid hN
  have HP := hid hp
  have HC := hid hc
  have eg := hp.ent
  rw [hN] at hl ⊢
  clear h hN hp hc
  go_enter Try.func38, Try.ntmps38
  go_wp2_with fail
  go_loopw [8] (fun vi wr => ∃ k : Nat, k ≤ N ∧ vi = .int .i64 k ∧ Hid ((∀ x ∈ l.take k, p x = false) ∧ Kp w wr [])) (fun vi _ => N - (intOf vi).toNat)
  case atStart => exact ⟨0, Nat.zero_le _, rfl, by simp, Kp.refl _ _⟩
  case round =>
    obtain ⟨k, hk, rfl, hR⟩ := hrel
    by_cases hlt : k < N
    · have hltI : (k : Int) < N := by omega
      have hkl : k < l.length := by have := HN.out; omega
      obtain ⟨x1, x2, hx⟩ : ∃ x1 x2, l[k]! = (x1, x2) := ⟨l[k]!.1, l[k]!.2, rfl⟩
      obtain ⟨gb, rfl, c1, c2, -, -⟩ := (H.out.keep hR.out.2).at hkl hx
      have HX := hid hx
      cases hpx : p (x1, x2) with
      | true =>
        have HPX := hid hpx
        clear hx hpx
        go_wp2_with fail
        refine (HP.out.call wr x1 x2 (hR.out.2.cell HC.out (by simp))).mono ?_
        rintro e w2 ⟨rfl, k2⟩
        rw [HPX.out]
        have K2 := hid (hR.out.2.trans k2)
        clear k2
        go_wp2
        go_ret
        exact ⟨⟨(k : Int), rfl, .inr ⟨k, rfl, by have := HN.out; omega, by rw [HX.out]; exact HPX.out, hR.out.1⟩⟩, K2.out⟩
      | false =>
        have HPX := hid hpx
        clear hx hpx
        go_wp2_with fail
        refine (HP.out.call wr x1 x2 (hR.out.2.cell HC.out (by simp))).mono ?_
        rintro e w2 ⟨rfl, k2⟩
        rw [HPX.out]
        have K2 := hid (show (∀ x ∈ l.take (k + 1), p x = false) ∧ Kp w w2 [] by
          refine ⟨fun x hx => ?_, hR.out.2.trans k2⟩
          rw [take_get hkl, HX.out] at hx
          rcases List.mem_append.1 hx with q | q
          · exact hR.out.1 x q
          · rw [List.mem_singleton.1 q]; exact HPX.out)
        clear k2
        go_wp2
        go_roundw
        case rel => exact ⟨k + 1, by omega, by simp, K2⟩
        case measure => simp [intOf]; omega
    · have hltI : ¬ (k : Int) < N := by omega
      have HF := hid (show l.any p = false by
        have := hR.out.1
        rw [List.take_of_length_le (by have := HN.out; omega)] at this
        rw [List.any_eq_false]
        intro x hx
        rw [this x hx]; simp)
      go_wp2
      go_ret
      exact ⟨⟨-1, rfl, .inl ⟨rfl, HF.out⟩⟩, hR.out.2⟩
theorem dcells_set : ∀ (l : List Dl) (i : Nat) (x1 x2 : Int), i < l.length → ((dcells l).set (i * 2) (.int .i64 x1)).set (i * 2 + 1) (.int .i64 x2) = dcells (l.set i (x1, x2))
  | [], _, _, _, h => by simp at h
  | y :: r, 0, x1, x2, _ => rfl
  | y :: r, i + 1, x1, x2, h => by
    have ih := dcells_set r i x1 x2 (by simpa using h)
    have e : dcells (y :: r) = .int .i64 y.1 :: .int .i64 y.2 :: dcells r := rfl
    have e2 : dcells ((y :: r).set (i + 1) (x1, x2)) = .int .i64 y.1 :: .int .i64 y.2 :: dcells (r.set i (x1, x2)) := rfl
    rw [e, e2, ← ih, show (i + 1) * 2 = i * 2 + 1 + 1 by omega]
    rfl
theorem dcells_take : ∀ (l : List Dl) (k : Nat), (dcells l).take (k * 2) = dcells (l.take k)
  | _, 0 => by simp [dcells]
  | [], k + 1 => by simp [dcells]
  | y :: r, k + 1 => by
    have ih := dcells_take r k
    have e : dcells (y :: r) = .int .i64 y.1 :: .int .i64 y.2 :: dcells r := rfl
    have e2 : dcells ((y :: r).take (k + 1)) = .int .i64 y.1 :: .int .i64 y.2 :: dcells (r.take k) := rfl
    rw [e, e2, ← ih, show (k + 1) * 2 = k * 2 + 1 + 1 by omega]
    rfl
/-- A row's parts, written out. -/
theorem Dr.open {w : World} {base g m cap : Nat} {l : List Dl} (h : Dr w base (.slice (some ⟨g, 0, none⟩) m cap) l) : ∃ cur, m = l.length ∧ base ≤ g ∧ w.heap[g]? = some (.cells cur 45 (0, 0)) ∧ l.length ≤ cap ∧ cap ≤ maxLen ∧ cur.size = cap * 2 ∧ cur.toList.take (l.length * 2) = dcells l := by
  rcases h.2 with ⟨hv, -⟩ | ⟨g', cap', cur, hv, hb, h2, h3, h4, h5, h6⟩
  · cases hv
  · simp only [Value.slice.injEq, Option.some.injEq, Addr.mk.injEq] at hv
    obtain ⟨⟨rfl, -⟩, rfl, rfl⟩ := hv
    exact ⟨cur, rfl, hb, h2, h3, h4, h5, h6⟩
theorem Dr.make {w : World} {base g cap : Nat} {l : List Dl} {cur : Array Value} (hb : base ≤ g) (h2 : w.heap[g]? = some (.cells cur 45 (0, 0))) (h3 : l.length ≤ cap) (h4 : cap ≤ maxLen) (h5 : cur.size = cap * 2) (h6 : cur.toList.take (l.length * 2) = dcells l) : Dr w base (.slice (some ⟨g, 0, none⟩) l.length cap) l :=
  ⟨dcells_length l, .inr ⟨g, cap, cur, rfl, hb, h2, h3, h4, h5, h6⟩⟩
theorem Dr.put {w : World} {base g m cap : Nat} {l : List Dl} (h : Dr w base (.slice (some ⟨g, 0, none⟩) m cap) l) {i : Nat} (hi : i < l.length) (x1 x2 : Int) : Dr ((w.setCell ⟨g, i * 2, none⟩ (.int .i64 x1)).setCell ⟨g, i * 2 + 1, none⟩ (.int .i64 x2)) base (.slice (some ⟨g, 0, none⟩) m cap) (l.set i (x1, x2)) := by
  obtain ⟨cur, rfl, hb, h2, h3, h4, h5, h6⟩ := h.open
  have e1 := heap_setCell_same w g (i * 2) _ _ (.int .i64 x1) h2
  have e2 := heap_setCell_same _ g (i * 2 + 1) _ _ (.int .i64 x2) e1
  have e3 : l.length = (l.set i (x1, x2)).length := by simp
  have := Dr.make (l := l.set i (x1, x2)) hb e2 (by rw [← e3]; exact h3) h4 (by simp [h5]) (by
    rw [← e3, ← dcells_set l i x1 x2 hi, ← h6]
    simp only [Array.toList_setIfInBounds, List.take_set])
  rw [← e3] at this
  exact this
theorem Dr.far {w : World} {base g m cap : Nat} {l : List Dl} (h : Dr w base (.slice (some ⟨g, 0, none⟩) m cap) l) {j : Nat} (hj : l.length * 2 ≤ j) (u : Value) : Dr (w.setCell ⟨g, j, none⟩ u) base (.slice (some ⟨g, 0, none⟩) m cap) l := by
  obtain ⟨cur, rfl, hb, h2, h3, h4, h5, h6⟩ := h.open
  have e1 := heap_setCell_same w g j _ _ u h2
  exact Dr.make hb e1 h3 h4 (by simp [h5]) (by
    rw [← h6]
    simp only [Array.toList_setIfInBounds]
    rw [List.take_set_of_le hj])
theorem Dr.clear {base g m cap : Nat} {l : List Dl} : ∀ (vs : List Value) (w : World) (j : Nat), Dr w base (.slice (some ⟨g, 0, none⟩) m cap) l → l.length * 2 ≤ j → Dr (w.setCells g j vs) base (.slice (some ⟨g, 0, none⟩) m cap) l
  | [], _, _, h, _ => h
  | u :: vs, w, j, h, hj => Dr.clear vs _ (j + 1) (h.far hj u) (by omega)
theorem kp_setCells {g : Nat} : ∀ (vs : List Value) (w : World) (j : Nat), Kp w (w.setCells g j vs) [g]
  | [], _, _ => Kp.refl _ _
  | u :: vs, w, j => (Kp.setCell w ⟨g, j, none⟩ u).trans (kp_setCells vs _ (j + 1))
theorem Dr.cut {w : World} {base g m cap : Nat} {l : List Dl} (h : Dr w base (.slice (some ⟨g, 0, none⟩) m cap) l) {k : Nat} (hk : k ≤ l.length) : Dr w base (.slice (some ⟨g, 0, none⟩) k cap) (l.take k) := by
  obtain ⟨cur, rfl, hb, h2, h3, h4, h5, h6⟩ := h.open
  have e3 : k = (l.take k).length := by rw [List.length_take]; omega
  have := Dr.make (l := l.take k) hb h2 (by omega) h4 h5 (by rw [← e3, ← dcells_take, ← h6, List.take_take, Nat.min_eq_left (by omega)])
  rw [← e3] at this
  exact this
theorem zero_cells (n : Nat) : (Builtin.zeroCells #[.int .i64 0, .int .i64 0] n).toList = List.replicate (n * 2) (.int .i64 0) := by
  apply List.ext_getElem
  · simp [Builtin.zeroCells]
  · intro i h1 h2
    simp only [Builtin.zeroCells, List.getElem_replicate]
    have : i % 2 = 0 ∨ i % 2 = 1 := by omega
    rcases this with e | e <;> simp [e]
/-- clear of a part of a row. -/
theorem run_clear {w : World} {base g m cap : Nat} {l : List Dl} (h : Dr w base (.slice (some ⟨g, 0, none⟩) m cap) l) (i c : Nat) (hi : i < l.length) (ty : TypeId) :
    (Builtin.clear_ #[42] ty #[.slice (some ⟨g, i * 2, none⟩) (l.length - i) c]).run Try.prog w = .ok (.tuple #[]) (w.setCells g (i * 2) (List.replicate ((l.length - i) * 2) (.int .i64 0))) := by
  have hH := h.hk.1
  have hcell : ∀ j, j < (l.length - i) * 2 → (w.cell? ⟨g, i * 2 + j, none⟩).isSome = true ∧ w.frozen? ⟨g, i * 2 + j, none⟩ = false := fun j hj => by
    have := hH (i * 2 + j) (by omega)
    exact ⟨by rw [this.1, List.getElem?_eq_getElem (by rw [dcells_length]; omega)]; rfl, this.2⟩
  have hst := run_storeCells_cells (P := Try.prog) g (i * 2) (List.replicate ((l.length - i) * 2) (.int .i64 0)) 0 w (by simpa using fun j hj => (hcell j hj).1) (by simpa using fun j hj => (hcell j hj).2) (by intro v hv'; rw [List.eq_of_mem_replicate hv']; rfl)
  simp only [Nat.add_zero] at hst
  obtain ⟨k, hk⟩ : ∃ k, l.length - i = k + 1 := ⟨l.length - i - 1, by omega⟩
  rw [hk] at hst ⊢
  have hz := zero_cells (k + 1)
  simp [Builtin.clear_, run_underlying Try.underlying42, Try.zeroValue45, Value.cells, hz, hst]

/-- Those that are not wanted. -/
def rest (p : Dl → Bool) (l : List Dl) : List Dl := l.filter fun x => !p x
theorem rest_snoc (p : Dl → Bool) (l : List Dl) (x : Dl) : rest p (l ++ [x]) = if p x then rest p l else rest p l ++ [x] := by
  unfold rest
  rw [List.filter_append]
  cases h : p x <;> simp [h]
theorem rest_none {p : Dl → Bool} {l : List Dl} (h : ∀ x ∈ l, p x = false) : rest p l = l := by
  unfold rest
  rw [List.filter_eq_self]
  intro x hx
  simp [h x hx]
theorem set_mid (A : List Dl) (y : Dl) (G R : List Dl) (x : Dl) (i : Nat) (hi : i = A.length) : (A ++ (y :: G) ++ R).set i x = (A ++ [x]) ++ G ++ R := by
  subst hi
  simp

/-- DeleteFunc, under way. -/
structure Cut (w wr : World) (base gb N cap : Nat) (l : List Dl) (p : Dl → Bool) (i j : Nat) : Prop where
  ex : ∃ G : List Dl, i = (rest p (l.take j)).length ∧ G.length = j - i ∧ Dr wr base (.slice (some ⟨gb, 0, none⟩) N cap) (rest p (l.take j) ++ G ++ l.drop j)
  kp : Kp w wr [gb]

set_option maxRecDepth 100000 in
set_option maxHeartbeats 4000000 in
theorem del_any (w : World) (base : Nat) (gb N cap : Nat) (l : List Dl) (g cb : Nat) (c : Int) (p : Dl → Bool) (h : Dr w base (.slice (some ⟨gb, 0, none⟩) N cap) l) (hp : Prd g cb c p) (hc : w.cell? ⟨cb, 0, none⟩ = some (.int .i64 c)) (hl : l.length ≤ 100000) (hne : cb ≠ gb) (ha : l.any p = true) :
    Calls Try.prog 34 #[.slice (some ⟨gb, 0, none⟩) N cap, pv g cb] w fun e w' => (∃ m, e = .returned (.slice (some ⟨gb, 0, none⟩) m cap) ∧ Dr w' base (.slice (some ⟨gb, 0, none⟩) m cap) (rest p l)) ∧ Kp w w' [gb] := by
  have ci := idx_any w base _ l g cb c p h hp hc hl
  have hN := h.hk.2.1
  have H := hid h
  have HN := hid hN
  have HP := hid hp
  have HC := hid hc
  have HA := hid ha
  have HI := hid ci
  have eg := hp.ent
  have hNl : N ≤ 100000 := by omega
  have hcapN : N ≤ cap := by obtain ⟨cur, -, -, -, q, -⟩ := h.open; omega
  obtain ⟨LR, hLR⟩ : ∃ LR, rest p l = LR := ⟨_, rfl⟩
  rw [hLR]
  have HLR := hid hLR
  clear h hp hc ha ci hN hLR
  go_enter Try.func34, Try.ntmps34
  go_wp2_with fail
  refine HI.out.mono ?_
  rintro e w1 ⟨⟨r, rfl, hr⟩, hK1⟩
  have K1 := hid hK1
  rcases hr with ⟨rfl, hf⟩ | ⟨i0, rfl, hi0, hpi, hnone⟩
  · have := HA.out
    rw [hf] at this
    cases this
  have C0 := hid (show Cut w w1 base gb N cap l p i0 (i0 + 1) by
    refine ⟨⟨[l[i0]!], ?_, by simp, ?_⟩, K1.out.nil⟩
    · rw [take_get hi0, rest_snoc, hpi, if_pos rfl, rest_none hnone, List.length_take]; omega
    · have e1 : rest p (l.take (i0 + 1)) ++ [l[i0]!] ++ l.drop (i0 + 1) = l := by
        rw [take_get hi0, rest_snoc, hpi, if_pos rfl, rest_none hnone]
        have := part_at hi0
        simpa using this.symm
      rw [e1]
      exact H.out.keep K1.out)
  have hi0N : i0 < N := by have := HN.out; omega
  have hne1 : ((i0 : Int) == -1) = false := by rw [beq_eq_false_iff_ne]; omega
  obtain ⟨j0, hj0⟩ : ∃ j0, i0 + 1 = j0 := ⟨_, rfl⟩
  have hj1 : (i0 : Int) + 1 = (j0 : Int) := by omega
  rw [hj0] at C0
  have HJ0 := hid (show i0 < j0 ∧ j0 ≤ N by omega)
  clear hK1 K1 hi0 hpi hnone hj0
  go_wp2_with fail
  go_loopw [5, 6] (fun vi vj wr => ∃ i j : Nat, i < j ∧ j ≤ N ∧ vi = .int .i64 i ∧ vj = .int .i64 j ∧ Hid (Cut w wr base gb N cap l p i j)) (fun _ vj _ => N - (intOf vj).toNat)
  case atStart => exact ⟨i0, j0, HJ0.out.1, HJ0.out.2, rfl, by simp, C0⟩
  case round =>
    obtain ⟨i, j, hij, hjN, rfl, rfl, hC⟩ := hrel
    clear hj1 hne1
    obtain ⟨G, hi, hG, hD⟩ := hC.out.ex
    by_cases hlt : j < N
    · have hltI : (j : Int) < N := by omega
      have hjl : j < l.length := by have := HN.out; omega
      obtain ⟨x1, x2, hx⟩ : ∃ x1 x2, l[j]! = (x1, x2) := ⟨l[j]!.1, l[j]!.2, rfl⟩
      have hRj : (rest p (l.take j) ++ G ++ l.drop j)[j]! = (x1, x2) := by
        rw [get_mid _ _ _ (by simp; omega), show j - (rest p (l.take j) ++ G).length = 0 by simp; omega, drop_get hjl, hx]; rfl
      have hRl : (rest p (l.take j) ++ G ++ l.drop j).length = N := by have := HN.out; simp; omega
      obtain ⟨gg, hgg, c1, c2, -, -⟩ := hD.at (k := j) (by omega) hRj
      cases hgg
      have hlg : gb < wr.heap.size := hD.hk.2.2.2
      have A1 := hid (Kp.alloc wr (.cells #[.int .i64 x1, .int .i64 x2] 45) [])
      have hcb := hC.out.kp.cell HC.out (show cb ∉ [gb] by simpa using hne)
      have HX := hid hx
      obtain ⟨y1, y2, hy⟩ : ∃ y1 y2, (rest p (l.take j) ++ G ++ l.drop j)[i]! = (y1, y2) := ⟨((rest p (l.take j) ++ G ++ l.drop j)[i]!).1, ((rest p (l.take j) ++ G ++ l.drop j)[i]!).2, rfl⟩
      have HY := hid hy
      have HD := hid hD
      have HI2 := hid (And.intro hi hG)
      have HRL := hid hRl
      have hiI : (i : Int) < N := by omega
      have hii : (i : Int) + 1 ≤ N := by omega
      clear hx hRj hy hD hi hG hRl
      cases hpx : p (x1, x2) with
      | true =>
        have HPX := hid hpx
        clear hpx
        go_wp2_with fail
        refine (HP.out.call _ x1 x2 (A1.out.cell hcb (by simp))).mono ?_
        rintro e w2 ⟨rfl, k2⟩
        rw [HPX.out]
        have K2 := hid (show Cut w w2 base gb N cap l p i (j + 1) by
          have kk := A1.out.trans k2
          refine ⟨⟨G ++ [(x1, x2)], ?_, by have := HI2.out; simp; omega, ?_⟩, hC.out.kp.trans kk.nil⟩
          · rw [take_get hjl, HX.out, rest_snoc, HPX.out, if_pos rfl]; exact HI2.out.1
          · have := HD.out.keep kk
            rw [drop_get hjl, HX.out] at this
            rw [take_get hjl, HX.out, rest_snoc, HPX.out, if_pos rfl]
            simpa using this)
        clear k2
        go_wp2
        go_roundw
        case rel => exact ⟨i, j + 1, by omega, by omega, rfl, by simp, K2⟩
        case measure => simp [intOf]; omega
      | false =>
        have HPX := hid hpx
        clear hpx
        go_wp2_with fail
        refine (HP.out.call _ x1 x2 (A1.out.cell hcb (by simp))).mono ?_
        rintro e w2 ⟨rfl, k2⟩
        rw [HPX.out]
        have kk := A1.out.trans k2
        obtain ⟨gg, hgg, d1, d2, f1, f2⟩ := (HD.out.keep kk).at (k := i) (by have := HRL.out; omega) HY.out
        cases hgg
        have b1 := k2.cell (show (wr.alloc (.cells #[.int .i64 x1, .int .i64 x2] 45)).cell? ⟨wr.heap.size, 0, none⟩ = some (.int .i64 x1) by simp) (by simp)
        have b2 := k2.cell (show (wr.alloc (.cells #[.int .i64 x1, .int .i64 x2] 45)).cell? ⟨wr.heap.size, 1, none⟩ = some (.int .i64 x2) by simp) (by simp)
        have K2 := hid (show Cut w ((w2.setCell ⟨gb, i * 2, none⟩ (.int .i64 x1)).setCell ⟨gb, i * 2 + 1, none⟩ (.int .i64 x2)) base gb N cap l p (i + 1) (j + 1) by
          obtain ⟨hi, hG⟩ := HI2.out
          refine ⟨?_, (hC.out.kp.trans kk.nil).trans ((Kp.setCell w2 ⟨gb, i * 2, none⟩ _).trans (Kp.setCell _ ⟨gb, i * 2 + 1, none⟩ _))⟩
          cases G with
          | nil => simp at hG; omega
          | cons u G =>
            refine ⟨G ++ [(x1, x2)], ?_, by simp at hG ⊢; omega, ?_⟩
            · rw [take_get hjl, HX.out, rest_snoc, HPX.out, if_neg (by simp), List.length_append, ← hi]; rfl
            · have h1 := (HD.out.keep kk).put (i := i) (by have := HRL.out; omega) x1 x2
              rw [set_mid _ _ _ _ _ _ hi, drop_get hjl, HX.out] at h1
              rw [take_get hjl, HX.out, rest_snoc, HPX.out, if_neg (by simp)]
              simpa using h1)
        clear k2 kk c1 c2
        go_wp2
        go_roundw
        case rel => exact ⟨i + 1, j + 1, by omega, by omega, by simp, by simp, K2⟩
        case measure => simp [intOf]; omega
    · have hltI : ¬ (j : Int) < N := by omega
      have hjl : j = N := by omega
      have hRl : (rest p (l.take j) ++ G ++ l.drop j).length = N := by have := HN.out; simp; omega
      have hcl := fun ty => run_clear hD i (cap - i) (by omega) ty
      rw [hRl] at hcl
      have HD := hid hD
      have HF := hid (show rest p (l.take j) = LR by rw [hjl, List.take_of_length_le (by have := HN.out; omega)]; exact HLR.out)
      have HI2 := hid hi
      have hiN : (i : Int) ≤ N := by omega
      have hic : (i : Int) ≤ cap := by omega
      have hcq : (cap = i) = False := eq_false (by omega)
      have HE := hid (show Dr (wr.setCells gb (i * 2) (List.replicate ((N - i) * 2) (.int .i64 0))) base (.slice (some ⟨gb, 0, none⟩) i cap) LR ∧ Kp w (wr.setCells gb (i * 2) (List.replicate ((N - i) * 2) (.int .i64 0))) [gb] by
        have h1 := hD.cut (k := i) (by omega)
        rw [List.append_assoc, List.take_left' hi.symm, HF.out] at h1
        exact ⟨h1.clear _ _ _ (by rw [← HF.out, ← hi]; omega), hC.out.kp.trans (kp_setCells _ _ _)⟩)
      clear hD hi hG hRl hjl
      go_wp2
      go_ret
      exact ⟨⟨i, rfl, HE.out.1⟩, HE.out.2⟩
end Go.Proofs.Ytojcmnanapeooaa
