/- Lists of numbers in memory; List. -/
import Derived.Test.YtclbphnelfacfaaLen
import Derived.Laws.AppendOwn
import Derived.Laws.OwnMore
import Derived.OneCell
namespace Go.Proofs.Ytclbphnelfacfaa
open Go.RowKit Go.Shelf
attribute [local go_sem] Oper.semAt_some

theorem Try.infoI : (Try.prog.info? 3).map (fun i => (i.zero, i.size, i.bytes)) = some (some (.int .i64 0), 1, 8) := by kernel_rfl
abbrev ni (l : List Nat) : List Value := l.map fun x => Value.int .i64 (x : Nat)
theorem owns_shape {w : World} {base e s : Nat} {v : Value} {n : Nat} {xs : List Value} (h : w.ownsRow base e s v n xs) : ∃ ao cap, v = .slice ao n cap := by
  rcases h.2 with ⟨rfl, rfl⟩ | ⟨g, cap, cur, rfl, -⟩
  · exact ⟨_, _, rfl⟩
  · exact ⟨_, _, rfl⟩
theorem owns_block {w : World} {base e s : Nat} {v : Value} {n : Nat} {xs : List Value} (h : w.ownsRow base e s v n xs) {g : Nat} (hg : v.ownBlock = some g) : base ≤ g ∧ ∃ cur, w.heap[g]? = some (.cells cur e (0, 0)) := by
  rcases h.2 with ⟨rfl, rfl⟩ | ⟨g', cap, cur, rfl, h1, h2, -⟩
  · simp [Value.ownBlock] at hg
  · simp [Value.ownBlock] at hg
    subst hg
    exact ⟨h1, cur, h2⟩
/-- Kept where its block is. -/
theorem owns_kp {w w' : World} {base e s : Nat} {v : Value} {n : Nat} {xs : List Value} {rows : List Nat} (h : w.ownsRow base e s v n xs) (hk : Kp w w' rows) (hr : ∀ g, v.ownBlock = some g → g ∉ rows) : w'.ownsRow base e s v n xs := by
  refine ⟨h.1, ?_⟩
  rcases h.2 with ⟨rfl, h0⟩ | ⟨g, cap, cur, rfl, h1, h2, h3⟩
  · exact .inl ⟨rfl, h0⟩
  · exact .inr ⟨g, cap, cur, rfl, h1, (hk.block g (lt_of_block h2) (hr g rfl)).trans h2, h3⟩
theorem owns_own {A B : World} {base e s : Nat} {v : Value} {n : Nat} {xs : List Value} {row : Option Nat} {E : Nat} (h : A.ownsRow base e s v n xs) (hg : A.grownBy B row) (hr : ∀ r, row = some r → E ≤ r ∧ ∃ o : Obj, A.heap[r]? = some o ∧ o.isCells = false) : B.ownsRow base e s v n xs := by
  refine ⟨h.1, ?_⟩
  rcases h.2 with ⟨rfl, h0⟩ | ⟨g, cap, cur, rfl, h1, h2, h3⟩
  · exact .inl ⟨rfl, h0⟩
  · exact .inr ⟨g, cap, cur, rfl, h1, cells_kept h2 hg hr, h3⟩
theorem owns_low {w : World} {base base' e s : Nat} {v : Value} {n : Nat} {xs : List Value} (h : w.ownsRow base e s v n xs) (hb : base' ≤ base) : w.ownsRow base' e s v n xs := by
  refine ⟨h.1, ?_⟩
  rcases h.2 with h0 | ⟨g, cap, cur, rfl, h1, h2, h3⟩
  · exact .inl h0
  · exact .inr ⟨g, cap, cur, rfl, Nat.le_trans hb h1, h2, h3⟩
/-- Blocks of unlike types are apart. -/
theorem block_ne {w : World} {b g t e : Nat} {c cur : Array Value} (h : w.heap[b]? = some (.cells c t (0, 0))) (h' : w.heap[g]? = some (.cells cur e (0, 0))) (hne : t ≠ e) : b ≠ g := by
  rintro rfl
  rw [h] at h'
  simp at h'
  exact hne h'.2
theorem Kp.ofGrown {w w' : World} {row : Option Nat} (h : w.grownBy w' row) {rows : List Nat} (hr : ∀ g, row = some g → g ∈ rows) : Kp w w' rows :=
  ⟨h.os, h.tape, h.output, h.size, fun k hk hn => h.block k hk (fun e => hn (hr k e.symm))⟩
theorem Kp.toGrown {w w' : World} (h : Kp w w' []) : w.grownBy w' none := ⟨h.os, h.tape, h.output, h.size, fun k hk _ => h.block k hk (by simp)⟩

/-- The slice value V reads as the numbers l; none are nil. -/
def Ns (w : World) (base : Nat) (V : Value) (l : List Nat) : Prop := w.ownsRow base 3 1 V l.length (ni l) ∧ (l = [] → V = .slice none 0 0)
theorem Ns.nil (w : World) (base : Nat) : Ns w base (.slice none 0 0) [] := ⟨⟨rfl, .inl ⟨rfl, rfl⟩⟩, fun _ => rfl⟩
theorem Ns.kp {w w' : World} {base : Nat} {V : Value} {l : List Nat} {rows : List Nat} (h : Ns w base V l) (hk : Kp w w' rows) (hr : ∀ g, V.ownBlock = some g → g ∉ rows) : Ns w' base V l := ⟨owns_kp h.1 hk hr, h.2⟩
theorem Ns.keep {w w' : World} {base : Nat} {V : Value} {l : List Nat} (h : Ns w base V l) (hk : Kp w w' []) : Ns w' base V l := h.kp hk (by simp)
theorem Ns.low {w : World} {base base' : Nat} {V : Value} {l : List Nat} (h : Ns w base V l) (hb : base' ≤ base) : Ns w base' V l := ⟨owns_low h.1 hb, h.2⟩
theorem Ns.slice {w : World} {base : Nat} {V : Value} {l : List Nat} (h : Ns w base V l) : ∃ ao cap, V = .slice ao l.length cap := owns_shape h.1
theorem Ns.at {w : World} {base : Nat} {ao : Option Addr} {m cap : Nat} {l : List Nat} (h : Ns w base (.slice ao m cap) l) {k x : Nat} (hk : l[k]? = some x) :
    ∃ g, ao = some ⟨g, 0, none⟩ ∧ m = l.length ∧ base ≤ g ∧ w.cell? ⟨g, k, none⟩ = some (.int .i64 (x : Nat)) := by
  have hkl : k < l.length := by
    rcases Nat.lt_or_ge k l.length with h' | h'
    · exact h'
    · rw [List.getElem?_eq_none h'] at hk; cases hk
  have h1 := h.1
  rcases h1.2 with ⟨-, h0⟩ | ⟨g, cap', cur, hv, hb, h2, h3⟩
  · omega
  · simp only [Value.slice.injEq] at hv
    obtain ⟨rfl, rfl, rfl⟩ := hv
    refine ⟨g, rfl, rfl, hb, ?_⟩
    rw [h1.cellAt k (by omega)]
    simp [ni, hk]

theorem one_cell {W : World} {x : Nat} : ∀ (j : Nat) (u : Value), [Value.int .i64 (x : Nat)][j]? = some u → (W.alloc (.cells #[.int .i64 (x : Nat)] 3)).cell? ((⟨W.heap.size, 0, none⟩ : Addr).add j) = some u := by
  intro j u hu
  match j with
  | 0 =>
    simp at hu
    subst hu
    rw [Addr.add_mid, cell_of_row _ _ _ _ _ _ (heap_alloc_last W _)]
    rfl
  | j + 1 => simp at hu
theorem Ns.push {W w' : World} {base : Nat} {V v' : Value} {l : List Nat} {x : Nat} (h1 : w'.ownsRow base 3 1 v' (l.length + 1) (ni l ++ [.int .i64 (x : Nat)])) (_ : Ns W base V l) : Ns w' base v' (l ++ [x]) :=
  ⟨by simpa [ni] using h1, by simp⟩

theorem wpListIn_push {F : Fence} {n : Nat} {ops : Array Oper} {rest : List Oper} {o : Oper} {a : Act} {W : World} {Q : Exit → Act → World → Prop} (hgd : o.guard = none) (s x : Operand)
    (ho : o.op = .call { callee := .builtin .append, args := #[s, x], argTypes := #[40, 40] }) (base : Nat) (V : Value) (l : List Nat) (h : Nat)
    (hs : a.eval s = V) (hown : Ns W base V l) (hx : a.eval x = .slice (some ⟨W.heap.size, 0, none⟩) 1 1) (hm : l.length ≤ 100000) (hb : base ≤ W.heap.size)
    (K : ∀ v' w', Ns w' base v' (l ++ [h]) → (W.alloc (.cells #[.int .i64 (h : Nat)] 3)).grownBy w' V.ownBlock → wpListIn F n Try.prog ops Q rest (a.put o.dst v') w') :
    wpListIn F n Try.prog ops Q (o :: rest) a (W.alloc (.cells #[.int .i64 (h : Nat)] 3)) := by
  obtain ⟨i0, hi, hz0, hz1, hz2⟩ := info_parts Try.infoI
  exact wpListIn_append_own _ hgd s x 40 ho base 3 i0 (.int .i64 0) 1 8 Try.underlying40 hi hz0 hz1 hz2 rfl (by decide) V l.length (ni l) hs (owns_kp hown.1 (Kp.alloc W _ []) (by simp)) ⟨W.heap.size, 0, none⟩ 1 1 [.int .i64 (h : Nat)] hx rfl one_cell (by simp; rfl) (by unfold maxLen; omega) (by omega) (by simp; omega) (fun v' w' h1 h2 _ => K v' w' (Ns.push h1 hown) h2)
theorem wpList_push {ops : Array Oper} {rest : List Oper} {o : Oper} {a : Act} {W : World} {Q : Exit → Act → World → Prop} (hgd : o.guard = none) (s x : Operand)
    (ho : o.op = .call { callee := .builtin .append, args := #[s, x], argTypes := #[40, 40] }) (base : Nat) (V : Value) (l : List Nat) (h : Nat)
    (hs : a.eval s = V) (hown : Ns W base V l) (hx : a.eval x = .slice (some ⟨W.heap.size, 0, none⟩) 1 1) (hm : l.length ≤ 100000) (hb : base ≤ W.heap.size)
    (K : ∀ v' w', Ns w' base v' (l ++ [h]) → (W.alloc (.cells #[.int .i64 (h : Nat)] 3)).grownBy w' V.ownBlock → wpList Try.prog ops Q rest (a.put o.dst v') w') :
    wpList Try.prog ops Q (o :: rest) a (W.alloc (.cells #[.int .i64 (h : Nat)] 3)) := by
  obtain ⟨i0, hi, hz0, hz1, hz2⟩ := info_parts Try.infoI
  exact wpList_append_own _ hgd s x 40 ho base 3 i0 (.int .i64 0) 1 8 Try.underlying40 hi hz0 hz1 hz2 rfl (by decide) V l.length (ni l) hs (owns_kp hown.1 (Kp.alloc W _ []) (by simp)) ⟨W.heap.size, 0, none⟩ 1 1 [.int .i64 (h : Nat)] hx rfl one_cell (by simp; rfl) (by unfold maxLen; omega) (by omega) (by simp; omega) (fun v' w' h1 h2 _ => K v' w' (Ns.push h1 hown) h2)

/-- What lies below a row's base is kept when the row grows. -/
theorem grown_box {W w' : World} {base : Nat} {V : Value} {l : List Nat} {o o' : Obj} {b : Nat} (hN : Ns W base V l) (hG : (W.alloc o).grownBy w' V.ownBlock) (hb : b < base) (h : W.heap[b]? = some o') : w'.heap[b]? = some o' := by
  have h1 : (W.alloc o).heap[b]? = some o' := (Below.heap_alloc _ _ _ (lt_of_block h)).trans h
  refine (hG.block b (lt_of_block h1) (fun e => ?_)).trans h1
  have := (owns_block hN.1 e.symm).1
  omega
theorem grown_kp {W w' : World} {base : Nat} {V : Value} {l : List Nat} {o : Obj} (hN : Ns W base V l) (hG : (W.alloc o).grownBy w' V.ownBlock) {w : World} (hk : Kp w W []) (hb : w.heap.size ≤ base) : Kp w w' [] :=
  (hk.trans (Kp.alloc W o [])).past (Kp.ofGrown (rows := V.ownBlock.toList) hG (by intro g hg; simp [hg])) (by
    intro g hg hl
    simp at hg
    have := (owns_block hN.1 hg).1
    omega)
theorem keeps_grown {W w' : World} {base B : Nat} {V : Value} {l : List Nat} {o : Obj} (hN : Ns W base V l) (hG : (W.alloc o).grownBy w' V.ownBlock) : KeepsFrom B W w' :=
  ⟨Nat.le_trans (by simp) hG.size, fun k o' _ hk ho => by
    have h1 : (W.alloc o).heap[k]? = some o' := (Below.heap_alloc _ _ _ (lt_of_block hk)).trans hk
    refine (hG.block k (lt_of_block h1) (fun e => ?_)).trans h1
    obtain ⟨-, cur, hc⟩ := owns_block hN.1 e.symm
    rw [hk] at hc
    cases hc
    simp [Obj.isCells] at ho⟩
/-- The links that lie at block x are kept. -/
def Kx (x : Nat) (A B : World) : Prop := ∀ c : Array Value, A.heap[x]? = some (.cells c 77 (0, 0)) → B.heap[x]? = some (.cells c 77 (0, 0))
theorem Kx.trans {x : Nat} {A B C : World} (h : Kx x A B) (h' : Kx x B C) : Kx x A C := fun c hc => h' c (h c hc)
theorem kx_put (x : Nat) (W : World) (l : Nat) (o o' : Obj) (h : W.heap[l]? = some o) (hc : o.isCells = false) : Kx x W (W.putObj l o') := fun c hx => by
  have hne : x ≠ l := by
    rintro rfl
    rw [h] at hx
    cases hx
    simp [Obj.isCells] at hc
  exact (World.putObj_heap_other hne).trans hx

set_option maxRecDepth 100000 in
theorem list_no (w : World) (p : Option Addr) (k : Int) (hk : ¬ (1 ≤ k ∧ k ≤ 31)) : Calls Try.prog 45 #[.pointer p, .int .i64 k] w fun e w' => e = .returned (.slice none 0 0) ∧ w' = w := by
  refine (callsIn_wide (n := 6)).1 ?_
  have cm := mayP_any w k
  rw [show decide (1 ≤ k ∧ k ≤ 31) = false by simp only [hk, decide_false]] at cm
  clear hk
  refine callsIn_of_wp_marks Try.func45 rfl trivial ?_ rfl
  simp only [Try.ntmps45, List.size_toArray, List.length_cons, List.length_nil, Nat.reduceAdd, Nat.reduceSub, Array.replicate_succ, Array.replicate_zero, List.push_toArray, List.append_toArray, List.nil_append, List.cons_append]
  refine wpIn_wide.2 ?_
  go_wp2_with (go_at_call 68; refine cm.mono ?_; rintro e w' ⟨rfl, rfl⟩)
  exact ⟨_, results_tmp rfl _ _ _, rfl, rfl⟩

set_option maxRecDepth 100000 in
set_option maxHeartbeats 4000000 in
theorem list_vw (w : World) (p : Option Addr) (c : Nat → Nat) (L : Nat → List Nat) (hV : Vw w p c L) (k : Nat) (hk1 : 1 ≤ k) (hk2 : k ≤ 31) (hlen : (L k).length ≤ 1000) :
    Calls Try.prog 45 #[.pointer p, .int .i64 (k : Nat)] w fun e w' => (∃ V, e = .returned V ∧ Ns w' w.heap.size V (L k)) ∧ Kp w w' [] := by
  refine (callsIn_wide (n := 6)).1 ?_
  have h1 : 1 ≤ 6 := by decide
  have cm := mayP_any w k
  rw [show decide (1 ≤ (k : Int) ∧ (k : Int) ≤ 31) = true by simp; omega] at cm
  have V1 := hV.keep (Kp.alloc w (.cells #[.slice none 0 0] 40) [])
  have cr := V1.rings
  have cs := seq_any ((w.alloc (.cells #[.slice none 0 0] 40)).alloc (.cells (arr c) 77)) c (k : Int)
  have HV := hid hV
  clear V1 hV
  refine callsIn_of_wp_marks Try.func45 rfl trivial ?_ rfl
  simp only [Try.ntmps45, List.size_toArray, List.length_cons, List.length_nil, Nat.reduceAdd, Nat.reduceSub, Array.replicate_succ, Array.replicate_zero, List.push_toArray, List.append_toArray, List.nil_append, List.cons_append]
  refine wpIn_wide.2 ?_
  go_wp2_with (first | (go_at_call 68; refine cm.mono ?_; rintro e w' ⟨rfl, rfl⟩) | (go_at_call 69; refine cr.mono ?_; rintro e w' ⟨rfl, rfl⟩) | (go_at_call 70; refine cs.mono ?_; rintro e w' ⟨rfl, rfl⟩))
  have A0 := hid ((((Kp.alloc w' (.cells #[.slice none 0 0] 40) []).trans (Kp.alloc _ (.cells (arr c) 77) [])).trans (Kp.alloc _ (.cells (arr c) 77) [])).trans (Kp.alloc _ (.cells #[.int .i64 (k : Nat)] 3) []))
  have B0 := hid (((Below.heap_alloc _ (.cells #[.int .i64 (k : Nat)] 3) _ (by simp; omega)).trans ((Below.heap_alloc _ (.cells (arr c) 77) _ (by simp; omega)).trans (Below.heap_alloc _ (.cells (arr c) 77) _ (by simp)))).trans (heap_alloc_new w' (.cells #[.slice none 0 0] 40)))
  have B1 := heap_alloc_new ((w'.alloc (.cells #[.slice none 0 0] 40)).alloc (.cells (arr c) 77)) (.cells (arr c) 77)
  have B2 := (Below.heap_alloc _ (.cells #[.int .i64 (k : Nat)] 3) _ (by simp)).trans B1
  have B3 := heap_alloc_new (((w'.alloc (.cells #[.slice none 0 0] 40)).alloc (.cells (arr c) 77)).alloc (.cells (arr c) 77)) (.cells #[.int .i64 (k : Nat)] 3)
  simp only [World.size_alloc] at B2 B3
  have B2 := hid B2
  have B3 := hid B3
  obtain ⟨W0, hW0⟩ : ∃ W0, (((w'.alloc (.cells #[.slice none 0 0] 40)).alloc (.cells (arr c) 77)).alloc (.cells (arr c) 77)).alloc (.cells #[.int .i64 (k : Nat)] 3) = W0 := ⟨_, rfl⟩
  have hsz : W0.heap.size = w'.heap.size + 4 := by rw [← hW0]; simp
  rw [hW0] at A0 B0 B2 B3 ⊢
  clear cm cr cs B1 hW0
  refine (wpIn_wide (n := 6)).1 ?_
  refine range_seqs (K := Kx (w'.heap.size + 1 + 1)) h1 (gf := 79) (lb := #[.pointer (some ⟨w'.heap.size + 1 + 1, 0, none⟩), .pointer (some ⟨w'.heap.size + 1 + 1 + 1, 0, none⟩)]) rfl (enters_of Try.func79 (by kernel_rfl) rfl)
    (seq1_seqs 5 (by decide) c k (by omega) (L k) (HV.out.run k hk1 hk2) (HV.out.lt k) (HV.out.nod k) _ _ _ (fun _ _ hk c h => hk c h) W0 B2.out B3.out) Kx.trans (kx_put _) (Below.refl _ _) (fun _ => rfl)
    (fun pre W => (∃ V, W.heap[w'.heap.size]? = some (.cells #[V] 40 (0, 0)) ∧ Ns W W0.heap.size V pre) ∧ Below w'.heap.size w' W ∧ W0.heap.size ≤ W.heap.size)
    (fun _ _ _ => False)
    (fun s A B row hs hg hr => by
      obtain ⟨⟨V, h1, h2⟩, h3, h4⟩ := hs
      exact ⟨⟨V, cells_kept h1 hg hr, owns_own h2.1 hg hr, h2.2⟩, ownFrom_below (β := Unit) (Nat.le_refl _) (show w'.heap.size ≤ W0.heap.size by omega) () A B row h3 hg hr, Nat.le_trans h4 hg.size⟩)
    (fun _ _ _ _ _ hs _ _ => hs)
    ⟨⟨_, B0.out, Ns.nil _ _⟩, A0.out.below, Nat.le_refl _⟩
    (fun t => { tmps := #[.pointer p, .int .i64 (k : Nat), undef, undef, .slice none 0 0, .pointer (some ⟨w'.heap.size, 0, none⟩), .int .i64 (t : Nat), .int .i64 (k : Nat), .bool true, .bool false, .pointer p, .agg (arr c), .int .i64 (k : Nat), .func (.func 79) #[] #[.pointer (some ⟨w'.heap.size + 1 + 1, 0, none⟩), .pointer (some ⟨w'.heap.size + 1 + 1 + 1, 0, none⟩)], .int .i64 (t : Nat), undef, undef, undef, undef, undef], defers := [] })
    ?assign ?body ?done ?stop
  case assign =>
    intro l x W K _ hK
    have HK := hid hK
    clear hK
    gi_wp2
    first
      | exact HK.out
      | (simp; exact HK.out)
  case body =>
    rintro l pre x W hpre ⟨⟨V, hi1, hi2⟩, hi3, hi4⟩
    obtain ⟨ao, cap, rfl⟩ := hi2.slice
    have u1 := cell_one hi1
    have f1 := free_one hi1
    have H1 := hid hi1
    have H2 := hid hi2
    have H3 := hid hi3
    have hle : pre.length ≤ 1000 := by have := hpre.length_le; simp at this; omega
    clear hi1 hi2 hpre hi3
    gi_wp2_with (refine wpListIn_push rfl (.tmp 15) (.tmp 17) rfl W0.heap.size _ pre x rfl H2.out rfl (by omega) hi4 ?_; intro v' w3 hN hG; obtain ⟨ao', cap', rfl⟩ := hN.slice; have b3 := grown_box H2.out hG (show w'.heap.size < W0.heap.size by omega) H1.out; have u3 := cell_one b3; have f3 := free_one b3; have HN := hid hN; have HG := hid hG; have HB3 := hid b3; clear hN hG b3)
    have hk3 := grown_kp H2.out HG.out (Kp.of_below H3.out) (show w'.heap.size ≤ W0.heap.size by omega)
    refine ⟨?_, ?_, ⟨_, set_one HB3.out, ?_⟩, ?_, ?_⟩
    · have h1 := keeps_grown (B := W0.heap.size) H2.out HG.out
      exact ⟨by have := h1.size; simpa using this, fun j o hj h0 ho => (Below.heap_setCell w3 ⟨w'.heap.size, 0, none⟩ _ j (by simp; omega)).trans (h1.same j o hj h0 ho)⟩
    · intro cc hcc
      have h1 := grown_box H2.out HG.out (show w'.heap.size + 1 + 1 < W0.heap.size by omega) hcc
      exact (Below.heap_setCell w3 ⟨w'.heap.size, 0, none⟩ _ (w'.heap.size + 1 + 1) (by simp; omega)).trans h1
    · rw [show pre.length + 1 = (pre ++ [x]).length by simp]
      refine HN.out.kp (Kp.setCell w3 ⟨w'.heap.size, 0, none⟩ _) ?_
      intro g hg
      have := (owns_block HN.out.1 hg).1
      simp
      omega
    · exact (hk3.past (Kp.setCell w3 ⟨w'.heap.size, 0, none⟩ _) (by intro j hj hl; simp at hj; omega)).below
    · have h1 := (keeps_grown (B := W0.heap.size) H2.out HG.out).size
      simp
      omega
  case done =>
    rintro D W hD ⟨⟨V, hi1, hi2⟩, hi3, hi4⟩ hK
    obtain ⟨ao, cap, rfl⟩ := hi2.slice
    have u1 := cell_one hi1
    have H2 := hid hi2
    have HI2 := hid hi3
    have HK := hid hK
    clear hK hi2 hi1 hi3
    gi_wp2
    go_wp2
    refine ⟨by simp, .inl ⟨_, _, rfl, run_takeDeferred HK.out, ⟨_, results_tmp rfl _ _ _, ⟨_, rfl, ?_⟩, ?_⟩⟩⟩
    · refine Ns.low (base := W0.heap.size) ⟨owns_own H2.out.1 (E := W0.heap.size) (row := some D) (grownBy_putObj' W D _) (fun r e => by cases e; exact ⟨hD, _, HK.out, rfl⟩), H2.out.2⟩ (by omega)
    · have hk := Kp.of_below HI2.out
      exact ⟨hk.os, hk.tape, hk.output, by have := hk.size; simp [World.putObj]; exact this, fun k hk' _ => (World.putObj_heap_other (by omega)).trans (hk.block k hk' (by simp))⟩
  case stop =>
    rintro D cc pre W _ _ hx _
    exact hx.elim
end Go.Proofs.Ytclbphnelfacfaa
