/- For, Copy, Same. -/
import Derived.Test.YtomdnppnabncaaaFor
import Derived.Test.YtomdnppnabncaaaEq
import Derived.Shelf.RegionOpen
import Derived.Deep.WholeRow
namespace Go.Proofs.Ytomdnppnabncaaa
open Go.RowKit Go.Shelf
open Go.Lib hiding intOf

theorem fi_nil (w : World) : Fi (w.alloc (.cells #[.slice none 0 0] 35)) w.heap.size (w.alloc (.cells #[.slice none 0 0] 35)).heap.size w.heap.size [] :=
  ⟨_, World.alloc_heap_new w _, Ns.nil _ _, fun g hg => by cases hg⟩
set_option maxRecDepth 100000 in
theorem for_zero (w : World) (p : Option Addr) (t : Int) (h : Zg0 w p) : Calls Try.prog 21 #[.pointer p, .int .i64 t] w fun e w' => (∃ f lb, e = .returned (.func (.func f) #[] lb) ∧ Itr w.heap.size w' f lb []) ∧ Kp w w' [] := by
  have HZ := hid (may_zero (w.alloc (.cells #[.slice none 0 0] 35)) p t (h.keep (Kp.alloc _ _ _)))
  have HI := hid (fi_itr (by simp) (fi_nil w))
  clear h
  go_enter Try.func21, Try.ntmps21
  go_wp2_with (first | (go_at_call 29; refine HZ.out.mono ?_; rintro e w1 ⟨rfl, rfl⟩))
  go_ret
  exact ⟨⟨_, _, rfl, HI.out⟩, Kp.alloc _ _ _⟩
set_option maxRecDepth 100000 in
theorem for0 (w : World) (gb : Nat) (G : Gs) (t : Int) (h : Gr0 w gb G) : Calls Try.prog 21 #[.pointer (some ⟨gb, 0, none⟩), .int .i64 t] w fun e w' => (∃ f lb, e = .returned (.func (.func f) #[] lb) ∧ Itr w.heap.size w' f lb (forL G t)) ∧ Kp w w' [] := by
  have h1 := h.still (Kp.alloc w (.cells #[.slice none 0 0] 35) [])
  have CM := may_any _ gb G t h1
  by_cases ht : mayT G t
  · rw [show decide (mayT G t) = true by simp [ht]] at CM
    have HM := hid CM
    have HC := hid (waiting_any _ gb G t h1)
    have HL := hid (forK_all ht)
    have HLL := hid (show (forL G t).length ≤ 100000 by have := forL_len G t; have := h.ok.n2; omega)
    have HB := hid (World.alloc_heap_new w (.cells #[.slice none 0 0] 35))
    obtain ⟨W, hW⟩ : ∃ W, w.alloc (.cells #[.slice none 0 0] 35) = W := ⟨_, rfl⟩
    have hk : Kp w W [] := by rw [← hW]; exact Kp.alloc _ _ _
    have hlt : w.heap.size < W.heap.size := by rw [← hW]; simp
    have HK := hid hk
    have HLT := hid hlt
    rw [hW] at HM HC HB
    clear CM h1 ht h hk hlt
    go_enter Try.func21, Try.ntmps21
    go_wp2_with (first | (go_at_call 29; refine HM.out.mono ?_; rintro e w1 ⟨rfl, hw1⟩; obtain rfl := hw1.symm; clear hw1) | (go_at_call 35; refine HC.out.mono ?_; rintro e w1 ⟨⟨v, rfl, hN⟩, hk1⟩; rw [HL.out] at hN; have hb1 := (hk1.block w.heap.size HLT.out (by simp)).trans HB.out; have c1 := cell_one hb1; have f1 := free_one hb1; have HS := hid (show Itr w.heap.size (w1.setCell ⟨w.heap.size, 0, none⟩ v) 36 #[.pointer (some ⟨w.heap.size, 0, none⟩)] (forL G t) ∧ Kp w (w1.setCell ⟨w.heap.size, 0, none⟩ v) [] from ⟨fi_itr HLL.out ⟨v, set_one hb1, (hN.low (Nat.le_of_lt HLT.out)).kp (Kp.setCell _ _ _) (by intro g hg; have := (owns_block hN hg).1; have := HLT.out; simp; omega), fun g hg => by { obtain ⟨-, cur, hc⟩ := owns_block hN hg; have := lt_of_block hc; simp; exact this }⟩, (HK.out.trans hk1).past (Kp.setCell _ _ _) (by intro j hj hl; simp at hj; omega)⟩); obtain ⟨ao, cap, hv⟩ := hN.slice; subst hv; clear hN hk1 hb1))

    go_ret
    exact ⟨⟨_, _, rfl, HS.out.1⟩, HS.out.2⟩
  · rw [show decide (mayT G t) = false by simp [ht]] at CM
    have HM := hid CM
    have HI := hid (fi_itr (by simp) (fi_nil w))
    have HE := hid (forL_no ht)
    clear CM h1 ht h
    go_enter Try.func21, Try.ntmps21
    go_wp2_with (first | (go_at_call 29; refine HM.out.mono ?_; rintro e w1 ⟨rfl, rfl⟩))
    go_ret
    exact ⟨⟨_, _, rfl, by rw [HE.out]; exact HI.out⟩, Kp.alloc _ _ _⟩
theorem wpList_store_new {P : Program} {ops : Array Oper} {rest : List Oper} {op : Oper} {a : Act} {w : World} {Q : Exit → Act → World → Prop} (hgd : op.guard = none) (ty : TypeId) (x y : Operand) (ho : op.op = .store ty x y)
    (t : TypeId) (c c' : Array Value) (hx : a.eval x = .pointer (some ⟨w.heap.size, 0, none⟩)) (hy : a.eval y = .agg c')
    (hi : (P.info? ty).map (·.size) = some c'.size) (hs : c.size = c'.size) (h1 : c'.all (·.oneCell') = true)
    (h : wpList P ops Q rest (a.put op.dst undef) (w.alloc (.cells c' t))) : wpList P ops Q (op :: rest) a (w.alloc (.cells c t)) :=
  wpList_plain hgd fun _ hK => wp_store_row ty x y ho w.heap.size c' hx hy t c (heap_alloc_last w _) hi hs h1 (by rw [World.setRow_alloc_new]; exact hK _ _ h)
theorem size54 (F : Nat → Value) : (Try.prog.info? 54).map (·.size) = some (vcl F 49 0).toArray.size := by
  rw [List.size_toArray, vcl_length]
  kernel_rfl
theorem pV_one (n : Nat) (b c o : Nat → Int) (i : Nat) : (pV n b c o i).oneCell' = true := by
  unfold pV
  split
  · rfl
  split
  · rfl
  split <;> rfl
theorem vcl_mem {F : Nat → Value} {v : Value} : ∀ (k i : Nat), v ∈ vcl F k i → ∃ j, v = F j
  | 0, _, h => by simp [vcl] at h
  | k + 1, i, h => by
    simp only [vcl, List.mem_cons] at h
    rcases h with h | h
    · exact ⟨i, h⟩
    · exact vcl_mem k (i + 1) h
theorem one54 (n : Nat) (b c o : Nat → Int) : (vcl (pV n b c o) 49 0).toArray.all (·.oneCell') = true := all_oneCell_toArray (fun v hv => by
  obtain ⟨j, rfl⟩ := vcl_mem _ _ hv
  exact pV_one n b c o j)
set_option maxRecDepth 100000 in
theorem copy_zero (w : World) (p : Option Addr) (h : Zg0 w p) : Calls Try.prog 19 #[.pointer p] w fun e w' => e = .returned (.pointer none) ∧ Kp w w' [] := by
  have HZ := hid (zero_yes w p h)
  clear h
  go_enter Try.func19, Try.ntmps19
  go_wp2_with (first | (go_at_call 26; refine HZ.out.mono ?_; rintro e w1 ⟨rfl, rfl⟩))
  go_ret
  exact ⟨rfl, Kp.refl _ _⟩
set_option maxRecDepth 100000 in
theorem copy0 (w : World) (gb : Nat) (G : Gs) (h : Gr0 w gb G) : Calls Try.prog 19 #[.pointer (some ⟨gb, 0, none⟩)] w fun e w' => (∃ cb, e = .returned (.pointer (some ⟨cb, 0, none⟩)) ∧ w.heap.size ≤ cb ∧ Gr0 w' cb G) ∧ Kp w w' [] := by
  have HZ := hid (zero_no w gb G h)
  have HT := hid h.c
  have HF := hid (show Gr0 (w.alloc (.cells (vcl (pV G.n G.b G.c (ow G)) 49 0).toArray 54)) w.heap.size G from ⟨World.alloc_heap_new w _, h.ok, h.out⟩)
  clear h
  go_enter Try.func19, Try.ntmps19
  go_wp2_with (first | (go_at_call 26; refine HZ.out.mono ?_; rintro e w1 ⟨rfl, hw1⟩; obtain rfl := hw1.symm; clear hw1) | (refine wpList_load_row rfl 54 (.tmp 7) rfl gb rfl 54 (vcl (pV G.n G.b G.c (ow G)) 49 0).toArray (0, 0) _ HT.out Try.underlying54 rfl (size54 _) ?_) | (refine wpList_store_new rfl 54 (.tmp 3) (.tmp 8) rfl 54 _ (vcl (pV G.n G.b G.c (ow G)) 49 0).toArray rfl rfl (size54 _) (by simp [vcl_length]) (one54 _ _ _ _) ?_))
  go_ret
  exact ⟨⟨_, rfl, Nat.le_refl _, HF.out⟩, Kp.alloc _ _ _⟩
/-! ### Same -/
abbrev vT (n : Nat) (b c o : Nat → Int) : List Value := vcl (pV n b c o) 48 1
theorem Gc.range {w : World} {gb n : Nat} {b c o : Nat → Int} (h : Gc w gb n b c o) : w.rangeAt gb 1 (vT n b c o) := by
  intro j v hv
  have hj : j < 48 := by
    rcases Nat.lt_or_ge j 48 with h' | h'
    · exact h'
    · rw [List.getElem?_eq_none (by rw [vcl_length]; exact h')] at hv; cases hv
  rw [vcl_at _ 48 1 j hj] at hv
  rw [vcl_cell h (1 + j) (by omega)]
  exact hv
theorem size52 (F : Nat → Value) : (Try.prog.info? 52).map (·.size) = some (vcl F 48 1).length := by
  rw [vcl_length]
  kernel_rfl
def sameT (b c o b' c' o' : Nat → Int) : Bool := (List.range 16).all fun i => decide (b i = b' i) && (decide (c i = c' i) && decide (o i = o' i))
theorem thread_part (n : Nat) (b c o : Nat → Int) (k : Nat) (hk : k < 16) (w : World) : (part 51 (vT n b c o).toArray (k * 3)).run Try.prog w = .ok (.agg #[.int .i64 (b k), .int .i64 (c k), .int .i64 (o k)]) w := by
  have h3 : (isAgg 51).run Try.prog w = .ok true w := Try.isAgg51 w
  have h4 : (sizeOf 51).run Try.prog w = .ok 3 w := Try.sizeOf51 w
  have e : (vT n b c o).toArray.extract (k * 3) (k * 3 + 3) = #[.int .i64 (b k), .int .i64 (c k), .int .i64 (o k)] := by
    apply Array.ext_getElem?
    intro j
    have hsz : (vT n b c o).toArray.size = 48 := by simp [vcl_length]
    rw [Array.getElem?_extract]
    match j with
    | 0 =>
      rw [if_pos (by omega)]
      have := vcl_at (pV n b c o) 48 1 (k * 3) (by omega)
      simp only [List.getElem?_toArray, Nat.add_zero, this, pV_b]
      rfl
    | 1 =>
      rw [if_pos (by omega)]
      have := vcl_at (pV n b c o) 48 1 (k * 3 + 1) (by omega)
      rw [show 1 + (k * 3 + 1) = 1 + k * 3 + 1 by omega] at this
      simp only [List.getElem?_toArray, this, pV_c]
      rfl
    | 2 =>
      rw [if_pos (by omega)]
      have := vcl_at (pV n b c o) 48 1 (k * 3 + 2) (by omega)
      rw [show 1 + (k * 3 + 2) = 1 + k * 3 + 2 by omega] at this
      simp only [List.getElem?_toArray, this, pV_o]
      rfl
    | j + 3 =>
      rw [if_neg (by omega)]
      simp
  simp only [part, Sem.run_bind, h3, h4, Result.andThen_ok, if_true, Sem.run_pure, e]
theorem fields51 : ∃ f0 f1 f2 : Field, (Try.prog.fieldsOf 51).toList = [f0, f1, f2] ∧ (f0.name ≠ "_" ∧ f0.type = 3 ∧ f0.offset = 0) ∧ (f1.name ≠ "_" ∧ f1.type = 3 ∧ f1.offset = 1) ∧ (f2.name ≠ "_" ∧ f2.type = 3 ∧ f2.offset = 2) :=
  ⟨_, _, _, rfl, ⟨by decide, rfl, rfl⟩, ⟨by decide, rfl, rfl⟩, ⟨by decide, rfl, rfl⟩⟩
theorem thread_eq (x y z x' y' z' : Int) (w : World) : (Op.equalIn 9999 51 (.agg #[.int .i64 x, .int .i64 y, .int .i64 z]) (.agg #[.int .i64 x', .int .i64 y', .int .i64 z'])).run Try.prog w = .ok (decide (x = x') && (decide (y = y') && decide (z = z'))) w := by
  rw [run_equalIn_struct w 9998 51 _ _ (by kernel_rfl) (by kernel_rfl)]
  obtain ⟨f0, f1, f2, e, ⟨a0, b0, c0⟩, ⟨a1, b1, c1⟩, ⟨a2, b2, c2⟩⟩ := fields51
  have h3 : (isAgg 3).run Try.prog w = .ok false w := Try.isAgg3 w
  have p0 : ∀ x y z : Int, (part 3 #[.int .i64 x, .int .i64 y, .int .i64 z] 0).run Try.prog w = .ok (.int .i64 x) w := fun x y z => by simp [part, Sem.run_bind, h3]
  have p1 : ∀ x y z : Int, (part 3 #[.int .i64 x, .int .i64 y, .int .i64 z] 1).run Try.prog w = .ok (.int .i64 y) w := fun x y z => by simp [part, Sem.run_bind, h3]
  have p2 : ∀ x y z : Int, (part 3 #[.int .i64 x, .int .i64 y, .int .i64 z] 2).run Try.prog w = .ok (.int .i64 z) w := fun x y z => by simp [part, Sem.run_bind, h3]
  have hq : ∀ x y : Int, (Op.equalIn 9998 3 (.int .i64 x) (.int .i64 y)).run Try.prog w = .ok (decide (x = y)) w := fun x y => by
    have e : (x == y) = decide (x = y) := by rw [Bool.eq_iff_iff]; simp
    rw [← e]
    exact run_equalIn_int w 9997 3 .i64 .i64 _ _ Try.underlying3
  rw [e,
    eqF_step (d := 9998) a0 (by rw [b0, c0]; exact p0 x y z) (by rw [b0, c0]; exact p0 x' y' z') (by rw [b0]; exact hq _ _),
    eqF_step (d := 9998) a1 (by rw [b1, c1]; exact p1 x y z) (by rw [b1, c1]; exact p1 x' y' z') (by rw [b1]; exact hq _ _),
    eqF_step (d := 9998) a2 (by rw [b2, c2]; exact p2 x y z) (by rw [b2, c2]; exact p2 x' y' z') (by rw [b2]; exact hq _ _), eqF_nil]
  generalize decide (x = x') = B0
  generalize decide (y = y') = B1
  generalize decide (z = z') = B2
  cases B0 <;> cases B1 <;> cases B2 <;> simp
theorem threads_eq (n n' : Nat) (b c o b' c' o' : Nat → Int) (w : World) : ∀ is : List Nat, (∀ i ∈ is, i < 16) → (Op.eqItems 9999 51 3 (vT n b c o).toArray (vT n' b' c' o').toArray is).run Try.prog w = .ok (is.all fun i => decide (b i = b' i) && (decide (c i = c' i) && decide (o i = o' i))) w
  | [], _ => by simp [Op.eqItems]
  | i :: is, h => by
    have hi := h i (by simp)
    have ih := threads_eq n n' b c o b' c' o' w is (fun j hj => h j (by simp [hj]))
    simp only [Op.eqItems, Sem.run_bind, thread_part n b c o i hi, thread_part n' b' c' o' i hi, thread_eq, Result.andThen_ok, List.all_cons]
    generalize (decide (b i = b' i) && (decide (c i = c' i) && decide (o i = o' i))) = B
    cases B <;> simp [ih]
theorem arr_eql (n n' : Nat) (b c o b' c' o' : Nat → Int) (w : World) : (binOp .eql 52 (.agg (vT n b c o).toArray) (.agg (vT n' b' c' o').toArray)).run Try.prog w = .ok (.bool (sameT b c o b' c' o')) w := by
  rw [run_eql_struct]
  obtain ⟨i0, hi⟩ : ∃ i0, Try.prog.info? 51 = some i0 := ⟨_, rfl⟩
  have hc : Try.prog.cellsOf 51 = 3 := by kernel_rfl
  have h := run_equalIn_array (P := Try.prog) w 9999 (vT n b c o).toArray (vT n' b' c' o').toArray Try.underlying52 hi
  rw [hc, threads_eq n n' b c o b' c' o' w _ (by simp)] at h
  rw [h]
  rfl
theorem yieldsIf_eqlT {P : Program} {ops : Array Oper} {Sw : World → Prop} {op : Oper} {a : Act} (hw : Region.wanted op (yielded ops a.tmps) = true) (t : TypeId) (x y : Operand) (k : TypeId) (ho : op.op = .binOp .eql t x y k) (xs ys : Array Value)
    (hx : a.eval x = .agg xs) (hy : a.eval y = .agg ys) (b : Bool) (hg : ∀ w, (eqGuard .eql t x y (.agg xs) (.agg ys)).run P w = .ok () w) (he : ∀ w, (binOp .eql t (.agg xs) (.agg ys)).run P w = .ok (.bool b) w) : YieldsIf P ops Sw op (.bool b) a :=
  .inl ⟨hw, fun w _ => by
    unfold execOp
    simp only [ho, hx, hy, Sem.run_bind, hg, he, Result.andThen_ok, Sem.run_pure]⟩
theorem sameT_same {w w' : World} {g1 g2 : Nat} {G H : Gs} (h : Gr0 w g1 G) (h' : Gr0 w' g2 H) (hn : G.n = H.n) : sameT G.b G.c (ow G) H.b H.c (ow H) = sameG G H := by
  rw [Bool.eq_iff_iff, sameG_iff]
  simp only [sameT, List.all_eq_true, List.mem_range, Bool.and_eq_true, decide_eq_true_eq]
  constructor
  · intro q
    refine ⟨hn, fun t ht => ?_⟩
    obtain ⟨q1, q2, q3⟩ := q t ht
    refine ⟨q1, q2, ?_⟩
    unfold ow at q3
    by_cases e : t < G.n
    · rw [if_pos e, if_pos (by omega)] at q3
      exact q3
    · rw [(h.out t (by omega) ht).2.2, (h'.out t (by omega) ht).2.2]
  · rintro ⟨-, q⟩ t ht
    obtain ⟨q1, q2, q3⟩ := q t ht
    refine ⟨q1, q2, ?_⟩
    unfold ow
    rw [q3, hn]
set_option maxRecDepth 100000 in
theorem same_zero (w : World) (p q : Option Addr) (h : Zg0 w p) (h' : Zg0 w q) : Calls Try.prog 20 #[.pointer p, .pointer q] w fun e w' => e = .returned (.bool true) ∧ Kp w w' [] := by
  have HZ := hid (zero_yes w p h)
  have HY := hid (zero_yes w q h')
  clear h h'
  go_enter Try.func20, Try.ntmps20
  go_wp2_with fail
  refine HZ.out.mono ?_
  rintro e w1 ⟨rfl, hw1⟩
  obtain rfl := hw1.symm
  clear hw1
  go_wp2_with fail
  refine HZ.out.mono ?_
  rintro e w1 ⟨rfl, hw1⟩
  obtain rfl := hw1.symm
  clear hw1
  go_wp2_with fail
  refine HY.out.mono ?_
  rintro e w1 ⟨rfl, hw1⟩
  obtain rfl := hw1.symm
  clear hw1
  go_wp2_with fail
  go_ret
  exact ⟨rfl, Kp.refl _ _⟩
set_option maxRecDepth 100000 in
theorem same_one0 (w : World) (p : Option Addr) (gb : Nat) (G : Gs) (h : Zg0 w p) (h' : Gr0 w gb G) : Calls Try.prog 20 #[.pointer p, .pointer (some ⟨gb, 0, none⟩)] w fun e w' => e = .returned (.bool false) ∧ Kp w w' [] := by
  have HZ := hid (zero_yes w p h)
  have HY := hid (zero_no w gb G h')
  clear h h'
  go_enter Try.func20, Try.ntmps20
  go_wp2_with fail
  refine HZ.out.mono ?_
  rintro e w1 ⟨rfl, hw1⟩
  obtain rfl := hw1.symm
  clear hw1
  go_wp2_with fail
  refine HZ.out.mono ?_
  rintro e w1 ⟨rfl, hw1⟩
  obtain rfl := hw1.symm
  clear hw1
  go_wp2_with fail
  refine HY.out.mono ?_
  rintro e w1 ⟨rfl, hw1⟩
  obtain rfl := hw1.symm
  clear hw1
  go_wp2_with fail
  go_ret
  exact ⟨rfl, Kp.refl _ _⟩
set_option maxRecDepth 100000 in
set_option maxHeartbeats 1000000 in
theorem same0 (w : World) (g1 g2 : Nat) (G H : Gs) (h : Gr0 w g1 G) (h' : Gr0 w g2 H) : Calls Try.prog 20 #[.pointer (some ⟨g1, 0, none⟩), .pointer (some ⟨g2, 0, none⟩)] w fun e w' => e = .returned (.bool (sameG G H)) ∧ ∃ k, w' = w.drewN k := by
  have HZ := hid (zero_no w g1 G h)
  have HY := hid (zero_no w g2 H h')
  have hse := arr_eql G.n H.n G.b G.c (ow G) H.b H.c (ow H)
  have hgd := fun (w : World) (x y : Operand) (xs ys : Array Value) => run_eqGuard_agg (P := Try.prog) w .eql 52 x y xs ys (by kernel_rfl)
  have HS := hid (fun (W : World) (hk : Kp w W []) => show W.cell? ⟨g1, 0, none⟩ = some (.int .i64 (G.n : Nat)) ∧ W.rangeAt g1 1 (vT G.n G.b G.c (ow G)) ∧ W.cell? ⟨g2, 0, none⟩ = some (.int .i64 (H.n : Nat)) ∧ W.rangeAt g2 1 (vT H.n H.b H.c (ow H)) from
    ⟨(h.still hk).c.cnt, (h.still hk).c.range, (h'.still hk).c.cnt, (h'.still hk).c.range⟩)
  obtain ⟨B, hB⟩ : ∃ B, sameG G H = B := ⟨_, rfl⟩
  by_cases hq : G.n = H.n
  case neg =>
    have hqI : ((G.n : Int) == (H.n : Int)) = false := by simp; omega
    have hBf : B = false := by
      rw [← hB]
      simp [sameG, hq]
    rw [hB, hBf]
    clear h h' hB hBf
    go_enter Try.func20, Try.ntmps20
    go_wp2_with fail
    refine HZ.out.mono ?_
    rintro e w1 ⟨rfl, hw1⟩
    obtain rfl := hw1.symm
    clear hw1
    go_wp2_with fail
    refine HY.out.mono ?_
    rintro e w1 ⟨rfl, hw1⟩
    obtain rfl := hw1.symm
    clear hw1
    go_wp2_with fail
    rename_i QQ KK hKK
    refine wp_region_held_drew (S := fun W : World => W.cell? ⟨g1, 0, none⟩ = some (.int .i64 (G.n : Nat)) ∧ W.rangeAt g1 1 (vT G.n G.b G.c (ow G)) ∧ W.cell? ⟨g2, 0, none⟩ = some (.int .i64 (H.n : Nat)) ∧ W.rangeAt g2 1 (vT H.n H.b H.c (ow H))) (by kernel_rfl) (HS.out _ (Kp.drew _ _)) (fun hHeld => ?_)
    refine wpAnyH_take (i := 0) (v := .pointer (some ⟨g1, 0, none⟩)) rfl (by kernel_rfl) (by kernel_rfl) (by kernel_rfl) (fun _ _ _ h => h) (Or.inl ⟨by kernel_rfl, fun w _ => by kernel_rfl⟩) hHeld ?_
    refine wpAnyH_take (i := 1) (v := .pointer (some ⟨g1, 0, none⟩)) rfl (by kernel_rfl) (by kernel_rfl) (by kernel_rfl) (fun _ _ _ h => h) (Or.inl ⟨by kernel_rfl, fun w _ => by kernel_rfl⟩) hHeld ?_
    refine wpAnyH_take (i := 2) (v := .pointer (some ⟨g1, 0, none⟩)) rfl (by kernel_rfl) (by kernel_rfl) (by kernel_rfl) (fun _ _ _ h => h) (Or.inl ⟨by kernel_rfl, fun w _ => by kernel_rfl⟩) hHeld ?_
    refine wpAnyH_take (i := 3) (v := .int .i64 (G.n : Nat)) rfl (by kernel_rfl) (by kernel_rfl) (by kernel_rfl) (fun _ _ _ h => h) (Or.inl ⟨by kernel_rfl, by intro w hSw; obtain ⟨s1, s2, s3, s4⟩ := hSw; go_simp⟩) hHeld ?_
    refine wpAnyH_take (i := 4) (v := .pointer (some ⟨g2, 0, none⟩)) rfl (by kernel_rfl) (by kernel_rfl) (by kernel_rfl) (fun _ _ _ h => h) (Or.inl ⟨by kernel_rfl, fun w _ => by kernel_rfl⟩) hHeld ?_
    refine wpAnyH_take (i := 5) (v := .pointer (some ⟨g2, 0, none⟩)) rfl (by kernel_rfl) (by kernel_rfl) (by kernel_rfl) (fun _ _ _ h => h) (Or.inl ⟨by kernel_rfl, fun w _ => by kernel_rfl⟩) hHeld ?_
    refine wpAnyH_take (i := 6) (v := .pointer (some ⟨g2, 0, none⟩)) rfl (by kernel_rfl) (by kernel_rfl) (by kernel_rfl) (fun _ _ _ h => h) (Or.inl ⟨by kernel_rfl, fun w _ => by kernel_rfl⟩) hHeld ?_
    refine wpAnyH_take (i := 7) (v := .int .i64 (H.n : Nat)) rfl (by kernel_rfl) (by kernel_rfl) (by kernel_rfl) (fun _ _ _ h => h) (Or.inl ⟨by kernel_rfl, by intro w hSw; obtain ⟨s1, s2, s3, s4⟩ := hSw; go_simp⟩) hHeld ?_
    refine wpAnyH_take (i := 8) (v := .bool false) rfl (by kernel_rfl) (by kernel_rfl) (by kernel_rfl) (fun _ _ _ h => h) (Or.inl ⟨by kernel_rfl, by intro w hSw; obtain ⟨s1, s2, s3, s4⟩ := hSw; go_simp⟩) hHeld ?_
    refine wpAnyH_take (i := 9) (v := .bool false) rfl (by kernel_rfl) (by kernel_rfl) (by kernel_rfl) (fun _ _ _ h => h) (Or.inl ⟨by kernel_rfl, fun w _ => by kernel_rfl⟩) hHeld ?_
    refine wpAnyH_take (i := 10) (v := undef) rfl (by kernel_rfl) (by kernel_rfl) (by kernel_rfl) (fun _ _ _ h => h) (Or.inr ⟨by kernel_rfl, rfl⟩) hHeld ?_
    refine wpAnyH_take (i := 11) (v := undef) rfl (by kernel_rfl) (by kernel_rfl) (by kernel_rfl) (fun _ _ _ h => h) (Or.inr ⟨by kernel_rfl, rfl⟩) hHeld ?_
    refine wpAnyH_take (i := 12) (v := undef) rfl (by kernel_rfl) (by kernel_rfl) (by kernel_rfl) (fun _ _ _ h => h) (Or.inr ⟨by kernel_rfl, rfl⟩) hHeld ?_
    refine wpAnyH_take (i := 13) (v := undef) rfl (by kernel_rfl) (by kernel_rfl) (by kernel_rfl) (fun _ _ _ h => h) (Or.inr ⟨by kernel_rfl, rfl⟩) hHeld ?_
    refine wpAnyH_take (i := 14) (v := undef) rfl (by kernel_rfl) (by kernel_rfl) (by kernel_rfl) (fun _ _ _ h => h) (Or.inr ⟨by kernel_rfl, rfl⟩) hHeld ?_
    refine wpAnyH_take (i := 15) (v := undef) rfl (by kernel_rfl) (by kernel_rfl) (by kernel_rfl) (fun _ _ _ h => h) (Or.inr ⟨by kernel_rfl, rfl⟩) hHeld ?_
    refine wpAnyH_take (i := 16) (v := undef) rfl (by kernel_rfl) (by kernel_rfl) (by kernel_rfl) (fun _ _ _ h => h) (Or.inr ⟨by kernel_rfl, rfl⟩) hHeld ?_
    refine wpAnyH_take (i := 17) (v := undef) rfl (by kernel_rfl) (by kernel_rfl) (by kernel_rfl) (fun _ _ _ h => h) (Or.inr ⟨by kernel_rfl, rfl⟩) hHeld ?_
    refine wpAnyH_take (i := 18) (v := undef) rfl (by kernel_rfl) (by kernel_rfl) (by kernel_rfl) (fun _ _ _ h => h) (Or.inr ⟨by kernel_rfl, rfl⟩) hHeld ?_
    refine wpAnyH_take (i := 19) (v := .bool false) rfl (by kernel_rfl) (by kernel_rfl) (by kernel_rfl) (fun _ _ _ h => h) (Or.inl ⟨by kernel_rfl, fun w _ => by kernel_rfl⟩) hHeld ?_
    refine wpAnyH_take (i := 20) (v := .bool false) rfl (by kernel_rfl) (by kernel_rfl) (by kernel_rfl) (fun _ _ _ h => h) (Or.inl ⟨by kernel_rfl, fun w _ => by kernel_rfl⟩) hHeld ?_
    refine wpAnyH_done (by kernel_rfl) ?_ _
    refine hKK _ _ (wp_ret ?_)
    exact bodyPost_ret (v := .bool false) (by kernel_rfl) rfl ⟨rfl, 1, rfl⟩
  have hqI : ((G.n : Int) == (H.n : Int)) = true := by simp [hq]
  rw [sameT_same h h' hq, hB] at hse
  rw [hB]
  clear h h' hB hq
  case pos =>
    go_enter Try.func20, Try.ntmps20
    go_wp2_with fail
    refine HZ.out.mono ?_
    rintro e w1 ⟨rfl, hw1⟩
    obtain rfl := hw1.symm
    clear hw1
    go_wp2_with fail
    refine HY.out.mono ?_
    rintro e w1 ⟨rfl, hw1⟩
    obtain rfl := hw1.symm
    clear hw1
    go_wp2_with fail
    rename_i QQ KK hKK
    refine wp_region_held_drew (S := fun W : World => W.cell? ⟨g1, 0, none⟩ = some (.int .i64 (G.n : Nat)) ∧ W.rangeAt g1 1 (vT G.n G.b G.c (ow G)) ∧ W.cell? ⟨g2, 0, none⟩ = some (.int .i64 (H.n : Nat)) ∧ W.rangeAt g2 1 (vT H.n H.b H.c (ow H))) (by kernel_rfl) (HS.out _ (Kp.drew _ _)) (fun hHeld => ?_)
    refine wpAnyH_take (i := 0) (v := .pointer (some ⟨g1, 0, none⟩)) rfl (by kernel_rfl) (by kernel_rfl) (by kernel_rfl) (fun _ _ _ h => h) (Or.inl ⟨by kernel_rfl, fun w _ => by kernel_rfl⟩) hHeld ?_
    refine wpAnyH_take (i := 1) (v := .pointer (some ⟨g1, 0, none⟩)) rfl (by kernel_rfl) (by kernel_rfl) (by kernel_rfl) (fun _ _ _ h => h) (Or.inl ⟨by kernel_rfl, fun w _ => by kernel_rfl⟩) hHeld ?_
    refine wpAnyH_take (i := 2) (v := .pointer (some ⟨g1, 0, none⟩)) rfl (by kernel_rfl) (by kernel_rfl) (by kernel_rfl) (fun _ _ _ h => h) (Or.inl ⟨by kernel_rfl, fun w _ => by kernel_rfl⟩) hHeld ?_
    refine wpAnyH_take (i := 3) (v := .int .i64 (G.n : Nat)) rfl (by kernel_rfl) (by kernel_rfl) (by kernel_rfl) (fun _ _ _ h => h) (Or.inl ⟨by kernel_rfl, by intro w hSw; obtain ⟨s1, s2, s3, s4⟩ := hSw; go_simp⟩) hHeld ?_
    refine wpAnyH_take (i := 4) (v := .pointer (some ⟨g2, 0, none⟩)) rfl (by kernel_rfl) (by kernel_rfl) (by kernel_rfl) (fun _ _ _ h => h) (Or.inl ⟨by kernel_rfl, fun w _ => by kernel_rfl⟩) hHeld ?_
    refine wpAnyH_take (i := 5) (v := .pointer (some ⟨g2, 0, none⟩)) rfl (by kernel_rfl) (by kernel_rfl) (by kernel_rfl) (fun _ _ _ h => h) (Or.inl ⟨by kernel_rfl, fun w _ => by kernel_rfl⟩) hHeld ?_
    refine wpAnyH_take (i := 6) (v := .pointer (some ⟨g2, 0, none⟩)) rfl (by kernel_rfl) (by kernel_rfl) (by kernel_rfl) (fun _ _ _ h => h) (Or.inl ⟨by kernel_rfl, fun w _ => by kernel_rfl⟩) hHeld ?_
    refine wpAnyH_take (i := 7) (v := .int .i64 (H.n : Nat)) rfl (by kernel_rfl) (by kernel_rfl) (by kernel_rfl) (fun _ _ _ h => h) (Or.inl ⟨by kernel_rfl, by intro w hSw; obtain ⟨s1, s2, s3, s4⟩ := hSw; go_simp⟩) hHeld ?_
    refine wpAnyH_take (i := 8) (v := .bool true) rfl (by kernel_rfl) (by kernel_rfl) (by kernel_rfl) (fun _ _ _ h => h) (Or.inl ⟨by kernel_rfl, by intro w hSw; obtain ⟨s1, s2, s3, s4⟩ := hSw; go_simp⟩) hHeld ?_
    refine wpAnyH_take (i := 9) (v := .bool true) rfl (by kernel_rfl) (by kernel_rfl) (by kernel_rfl) (fun _ _ _ h => h) (Or.inl ⟨by kernel_rfl, fun w _ => by kernel_rfl⟩) hHeld ?_
    refine wpAnyH_take (i := 10) (v := .pointer (some ⟨g1, 0, none⟩)) rfl (by kernel_rfl) (by kernel_rfl) (by kernel_rfl) (fun _ _ _ h => h) (Or.inl ⟨by kernel_rfl, fun w _ => by kernel_rfl⟩) hHeld ?_
    refine wpAnyH_take (i := 11) (v := .pointer (some ⟨g1, 0, none⟩)) rfl (by kernel_rfl) (by kernel_rfl) (by kernel_rfl) (fun _ _ _ h => h) (Or.inl ⟨by kernel_rfl, fun w _ => by kernel_rfl⟩) hHeld ?_
    refine wpAnyH_take (i := 12) (v := .pointer (some ⟨g1, 1, none⟩)) rfl (by kernel_rfl) (by kernel_rfl) (by kernel_rfl) (fun _ _ _ h => h) (Or.inl ⟨by kernel_rfl, fun w _ => by kernel_rfl⟩) hHeld ?_
    refine wpAnyH_take (i := 13) (v := .agg (vT G.n G.b G.c (ow G)).toArray) rfl (by kernel_rfl) (by kernel_rfl) (by kernel_rfl) (fun _ _ _ h => h) (yieldsIf_load_mid (by kernel_rfl) 52 (.tmp 29) rfl g1 1 (by kernel_rfl) _ _ (fun _ hw => hw.2.1) Try.underlying52 rfl (size52 _)) hHeld ?_
    refine wpAnyH_take (i := 14) (v := .pointer (some ⟨g2, 0, none⟩)) rfl (by kernel_rfl) (by kernel_rfl) (by kernel_rfl) (fun _ _ _ h => h) (Or.inl ⟨by kernel_rfl, fun w _ => by kernel_rfl⟩) hHeld ?_
    refine wpAnyH_take (i := 15) (v := .pointer (some ⟨g2, 0, none⟩)) rfl (by kernel_rfl) (by kernel_rfl) (by kernel_rfl) (fun _ _ _ h => h) (Or.inl ⟨by kernel_rfl, fun w _ => by kernel_rfl⟩) hHeld ?_
    refine wpAnyH_take (i := 16) (v := .pointer (some ⟨g2, 1, none⟩)) rfl (by kernel_rfl) (by kernel_rfl) (by kernel_rfl) (fun _ _ _ h => h) (Or.inl ⟨by kernel_rfl, fun w _ => by kernel_rfl⟩) hHeld ?_
    refine wpAnyH_take (i := 17) (v := .agg (vT H.n H.b H.c (ow H)).toArray) rfl (by kernel_rfl) (by kernel_rfl) (by kernel_rfl) (fun _ _ _ h => h) (yieldsIf_load_mid (by kernel_rfl) 52 (.tmp 33) rfl g2 1 (by kernel_rfl) _ _ (fun _ hw => hw.2.2.2) Try.underlying52 rfl (size52 _)) hHeld ?_
    refine wpAnyH_take (i := 18) (v := .bool B) rfl (by kernel_rfl) (by kernel_rfl) (by kernel_rfl) (fun _ _ _ h => h) (yieldsIf_eqlT (by kernel_rfl) 52 (.tmp 30) (.tmp 34) 52 rfl _ _ (by kernel_rfl) (by kernel_rfl) _ (fun w => hgd w _ _ _ _) hse) hHeld ?_
    refine wpAnyH_take (i := 19) (v := .bool B) rfl (by kernel_rfl) (by kernel_rfl) (by kernel_rfl) (fun _ _ _ h => h) (Or.inl ⟨by kernel_rfl, fun w _ => by kernel_rfl⟩) hHeld ?_
    refine wpAnyH_take (i := 20) (v := .bool B) rfl (by kernel_rfl) (by kernel_rfl) (by kernel_rfl) (fun _ _ _ h => h) (Or.inl ⟨by kernel_rfl, fun w _ => by kernel_rfl⟩) hHeld ?_
    refine wpAnyH_done (by kernel_rfl) ?_ _
    refine hKK _ _ (wp_ret ?_)
    exact bodyPost_ret (v := .bool B) (by kernel_rfl) rfl ⟨rfl, 1, rfl⟩
end Go.Proofs.Ytomdnppnabncaaa
