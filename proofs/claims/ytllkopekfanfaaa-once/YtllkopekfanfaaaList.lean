/- List, Take, Clear. -/
import Derived.Test.YtllkopekfanfaaaFirst
namespace Go.Proofs.Ytllkopekfanfaaa
open Go.RowKit Go.Shelf Go.Lib Go.Sort Go.Maps
attribute [local go_sem] Oper.semAt_some

theorem wpListIn_pushI {F : Fence} {n : Nat} {ops : Array Oper} {rest : List Oper} {o : Oper} {a : Act} {W : World} {Q : Exit → Act → World → Prop} (hgd : o.guard = none) (s x : Operand)
    (ho : o.op = .call { callee := .builtin .append, args := #[s, x], argTypes := #[54, 54] }) (base : Nat) (V : Value) (l : List Int) (h : Int) (g : Nat)
    (hs : a.eval s = V) (hown : Ns W base V l) (hx : a.eval x = .slice (some ⟨g, 0, none⟩) 1 1) (hc : W.cell? ⟨g, 0, none⟩ = some (.int .i64 h)) (hm : l.length ≤ 100000) (hb : base ≤ W.heap.size)
    (K : ∀ v' w', Ns w' base v' (l ++ [h]) → W.grownBy w' V.ownBlock → wpListIn F n Try.prog ops Q rest (a.put o.dst v') w') :
    wpListIn F n Try.prog ops Q (o :: rest) a W := by
  obtain ⟨i0, hi, hz0, hz1, hz2⟩ := info_parts Try.infoI
  exact wpListIn_append_own _ hgd s x 54 ho base 3 i0 (.int .i64 0) 1 8 Try.underlying54 hi hz0 hz1 hz2 rfl (by decide) V l.length (icells l) hs hown ⟨g, 0, none⟩ 1 1 [.int .i64 h] hx rfl (by
      intro j u hu
      match j with
      | 0 =>
        simp at hu
        subst hu
        rw [Addr.add_lit]
        exact hc
      | j + 1 => simp at hu) (by simp; rfl) (by unfold maxLen; omega) (by omega) hb (fun v' w' h1 h2 _ => K v' w' (Ns.push h1) h2)
theorem owns_kept {W W' : World} {row : Option Nat} {B base e s n : Nat} {v : Value} {xs : List Value} (h : W.ownsRow base e s v n xs) (hg : W.grownBy W' row) (hr : ∀ r, row = some r → B ≤ r ∧ ∃ o : Obj, W.heap[r]? = some o ∧ o.isCells = false) : W'.ownsRow base e s v n xs := by
  refine ⟨h.1, ?_⟩
  rcases h.2 with q | ⟨g, cap, cur, rfl, h1, h2, h3⟩
  · exact .inl q
  · exact .inr ⟨g, cap, cur, rfl, h1, cells_kept h2 hg hr, h3⟩
theorem owns_putObj {W : World} {E base e s n : Nat} {v : Value} {xs : List Value} {o o' : Obj} (h : W.ownsRow base e s v n xs) (hE : W.heap[E]? = some o) (hc : o.isCells = false) : (W.putObj E o').ownsRow base e s v n xs := by
  refine ⟨h.1, ?_⟩
  rcases h.2 with q | ⟨g, cap, cur, rfl, h1, h2, h3⟩
  · exact .inl q
  · exact .inr ⟨g, cap, cur, rfl, h1, (World.putObj_heap_other (by rintro rfl; rw [h2] at hE; cases hE; simp [Obj.isCells] at hc)).trans h2, h3⟩
theorem keeps_kp {B : Nat} {W W' : World} {rows : List Nat} (h : Kp W W' rows) (hr : ∀ k ∈ rows, ∃ c t f, W.heap[k]? = some (.cells c t f)) : KeepsFrom B W W' := by
  refine ⟨h.size, fun k o hk ho hc => (h.block k (lt_of_block ho) (fun hm => ?_)).trans ho⟩
  obtain ⟨c, t, f, e⟩ := hr k hm
  rw [e] at ho
  cases ho
  simp [Obj.isCells] at hc
/-- The list under way: its box, and what it holds. -/
structure Bl (w W : World) (s : Nat) (l : List Int) : Prop where
  ex : ∃ ao n cap, W.heap[s]? = some (.cells #[.slice ao n cap] 54 (0, 0)) ∧ Ns W (s + 1) (.slice ao n cap) l
  be : Below w.heap.size w W
theorem Bl.push {w W w3 : World} {s n cap : Nat} {ao : Option Addr} {l : List Int} {t : Int} (hs : w.heap.size ≤ s) (hb : W.heap[s]? = some (.cells #[.slice ao n cap] 54 (0, 0))) (hn : Ns W (s + 1) (.slice ao n cap) l) (hbe : Below w.heap.size w W) {a3 : Option Addr} {n3 c3 : Nat}
    (h3 : Ns w3 (s + 1) (.slice a3 n3 c3) (l ++ [t])) (hk : Kp W w3 (Value.ownBlock (.slice ao n cap)).toList) :
    KeepsFrom w.heap.size W (w3.setCell ⟨s, 0, none⟩ (.slice a3 n3 c3)) ∧ (∀ D, Kc D W (w3.setCell ⟨s, 0, none⟩ (.slice a3 n3 c3))) ∧ Bl w (w3.setCell ⟨s, 0, none⟩ (.slice a3 n3 c3)) s (l ++ [t]) ∧ w3.cell? ⟨s, 0, none⟩ = some (.slice ao n cap) ∧ w3.frozen? ⟨s, 0, none⟩ = false := by
  have hso : ∀ g, Value.ownBlock (.slice ao n cap) = some g → s + 1 ≤ g ∧ ∃ cur, W.heap[g]? = some (.cells cur 3 (0, 0)) := fun g hg => owns_block hn hg
  have hb3 : w3.heap[s]? = some (.cells #[.slice ao n cap] 54 (0, 0)) := (hk.block s (lt_of_block hb) (fun hm => by
    simp at hm
    have := (hso s hm).1
    omega)).trans hb
  have kk : Kp W (w3.setCell ⟨s, 0, none⟩ (.slice a3 n3 c3)) (s :: (Value.ownBlock (.slice ao n cap)).toList) := (hk.mono (by intro k h _; simp at h; simp [h])).trans ((Kp.setCell w3 ⟨s, 0, none⟩ (.slice a3 n3 c3)).mono (by simp))
  have hrow : ∀ k ∈ s :: (Value.ownBlock (.slice ao n cap)).toList, ∃ c t, t ≠ 103 ∧ W.heap[k]? = some (.cells c t (0, 0)) := by
    intro k hm
    rcases List.mem_cons.1 hm with rfl | hm
    · exact ⟨_, 54, by decide, hb⟩
    · simp at hm
      obtain ⟨-, cur, hc⟩ := hso k hm
      exact ⟨cur, 3, by decide, hc⟩
  refine ⟨keeps_kp kk (fun k hm => by obtain ⟨c, t, -, h⟩ := hrow k hm; exact ⟨c, t, _, h⟩), fun D => Kc.of_kp kk (fun k hm c f e => by
    obtain ⟨c', t', hne, h⟩ := hrow k hm
    rw [h] at e
    simp at e
    exact hne e.2.1), ⟨⟨a3, n3, c3, set_one hb3, ?_⟩, ?_⟩, cell_one hb3, free_one hb3⟩
  · exact h3.kp (Kp.setCell w3 ⟨s, 0, none⟩ _) (fun g hg => by
      have := (owns_block h3 hg).1
      simp; omega)
  · have k2 : Kp w (w3.setCell ⟨s, 0, none⟩ (.slice a3 n3 c3)) [] := (Kp.of_below hbe).past kk (by
      intro k hm hl
      rcases List.mem_cons.1 hm with rfl | hm
      · omega
      · simp at hm
        have := (hso k hm).1
        omega)
    exact k2.below
set_option maxRecDepth 100000 in
theorem list_any (w : World) (p : Option Addr) (L : List Dl) (h : Vw w p L) :
    Calls Try.prog 55 #[.pointer p] w fun e w' => ∃ v, e = .returned v ∧ Ns w' w.heap.size v ((ordL L).map (·.1)) ∧ Kp w w' [] := by
  have H := hid h
  have HS := hid (fun W x (hI : It W x L) => it_seqs 5 (by decide) x L W hI)
  have hlen : (ordL L).length ≤ 16 := by rw [ord_len h.ok]; exact h.ok.len
  generalize ordL L = Z at HS hlen ⊢
  clear h
  refine (callsIn_wide (n := 6)).1 ?_
  have h1 : 1 ≤ 6 := by decide
  refine callsIn_of_wp_marks Try.func55 rfl trivial ?_ rfl
  simp only [Try.ntmps55, List.size_toArray, List.length_cons, List.length_nil, Nat.reduceAdd, Nat.reduceSub, Array.replicate_succ, Array.replicate_zero, List.push_toArray, List.append_toArray, List.nil_append, List.cons_append]
  refine wpIn_wide.2 ?_
  go_wp2_with fail
  have k0 := Kp.alloc w (.cells #[.slice none 0 0] 54) []
  obtain ⟨W0, hW0⟩ : ∃ W0, w.alloc (.cells #[.slice none 0 0] 54) = W0 := ⟨_, rfl⟩
  have hsz : W0.heap.size = w.heap.size + 1 := by rw [← hW0]; simp
  have hbx : W0.heap[w.heap.size]? = some (.cells #[.slice none 0 0] 54 (0, 0)) := by rw [← hW0]; exact heap_alloc_new w _
  rw [hW0] at k0 ⊢
  clear hW0
  have HBX := hid hbx
  have K0 := hid k0
  refine (all_any W0 p).mono ?_
  rintro e w1 ⟨rfl, hw1⟩
  have HI := hid (show It w1 W0.heap.size L by rw [hw1]; exact It.new (H.out.keep K0.out))
  have HK := hid (show Kp W0 w1 [] by rw [hw1]; exact Kp.alloc _ _ _)
  clear hw1 hbx k0
  obtain ⟨x, hx⟩ : ∃ x, W0.heap.size = x := ⟨_, rfl⟩
  rw [hx] at HI hsz ⊢
  have HXX := hid (And.intro hx hsz)
  clear hx hsz
  go_wp2_with fail
  have hB1 : Bl w w1 w.heap.size [] := ⟨⟨none, 0, 0, (HK.out.block _ (by have := HXX.out; have := HXX.out.2; omega) (by simp)).trans HBX.out, Ns.nil _ _⟩, (K0.out.trans HK.out).below⟩
  have hs1 : w.heap.size + 1 ≤ w1.heap.size := by have := HK.out.size; have := HXX.out; have := HXX.out.2; omega
  have HB1 := hid hB1
  clear hB1
  refine (wpIn_wide (n := 6)).1 ?_
  refine range_seqs (K := Kc w1.heap.size) h1 (gf := 88) (lb := #[.pointer (some ⟨x, 0, none⟩)]) rfl (enters_of Try.func88 (by kernel_rfl) rfl)
    (HS.out w1 x HI.out) Kc.trans (kc_put _) (kc_alloc _) (Below.refl _ _) (fun _ => rfl)
    (fun pre W => Bl w W w.heap.size (pre.map (·.1)))
    (fun _ _ _ => False)
    (fun s A B row hs hg hr => ?own)
    (fun cc s A B row hs hg hr => hs)
    HB1.out
    (fun d => .cells #[.int .i64 d.1, .int .i64 d.2] 103)
    (fun d b => { tmps := #[.pointer p, undef, .slice none 0 0, .pointer (some ⟨w.heap.size, 0, none⟩), .pointer (some ⟨b, 0, none⟩), .pointer p, itv x, dv d, undef, undef, undef, undef, undef, undef], defers := [] })
    ?assign ?body ?done ?stop
  case own =>
    obtain ⟨ao, n, cap, h1, h2⟩ := hs.ex
    exact ⟨⟨ao, n, cap, cells_kept h1 hg hr, owns_kept h2 hg hr⟩, ownFrom_below (β := List Dl) (Nat.le_refl _) (by omega) s A B row hs.be hg hr⟩
  case assign =>
    intro l d W K _ hK
    have HK := hid hK
    clear hK
    gi_wp2
    exact HK.out
  case body =>
    rintro l pre d b W hpre hbb hI hob
    obtain ⟨ao, n, cap, hb, hn⟩ := hI.ex
    have u0 := cell_one hb
    have f0 := free_one hb
    have v0 := cell_two0 hob
    have hblt : b < W.heap.size := lt_of_block hob
    have ka := Kp.alloc W (.cells #[.int .i64 d.1] 3) []
    have HN := hid (hn.keep ka)
    have HI := hid (And.intro hb (And.intro hn hI.be))
    have KA := hid ka
    have hln : (pre.map (·.1)).length ≤ 100000 := by
      obtain ⟨t, ht⟩ := hpre
      have := congrArg List.length ht
      simp at this
      simp
      omega
    have hsW : w.heap.size + 1 ≤ (W.alloc (.cells #[.int .i64 d.1] 3)).heap.size := by have := lt_of_block hb; simp; omega
    have HP := hid (And.intro hln hsW)
    clear hb hn hpre hob hI ka hln hsW
    gi_wp2_with (refine wpListIn_pushI rfl (.tmp 8) (.tmp 11) rfl (w.heap.size + 1) (.slice ao n cap) (pre.map (·.1)) d.1 _ rfl HN.out rfl (by simp) HP.out.1 HP.out.2 ?_; intro v3 w3 hN3 hG3; obtain ⟨a3, c3, hv3⟩ := hN3.slice; obtain ⟨m3, hm3⟩ : ∃ m3, (pre.map (·.1) ++ [d.1]).length = m3 := ⟨_, rfl⟩; rw [hm3] at hv3; subst hv3; have R := hid (Bl.push (Nat.le_refl _) HI.out.1 HI.out.2.1 HI.out.2.2 hN3 (KA.out.nil.trans (Kp.ofGrown hG3 (by intro g hg; simp [hg])))); have q1 := R.out.2.2.2.1; have q2 := R.out.2.2.2.2; clear hN3 hG3 hm3)
    refine ⟨?_, R.out.2.1 _, ?_⟩
    · have := R.out.1
      exact ⟨this.size, fun k o hk => this.same k o (by omega)⟩
    · have := R.out.2.2.1
      show Bl w _ w.heap.size ((pre ++ [d]).map (·.1))
      rw [List.map_append]
      exact this
  case done =>
    rintro E W hE hI hK
    obtain ⟨ao, n, cap, hb, hn⟩ := hI.ex
    have u0 := cell_one hb
    have HN := hid (And.intro hn hI.be)
    have HK := hid hK
    clear hK hb hn hI
    gi_wp2
    go_wp2
    refine ⟨by simp, .inl ⟨_, _, rfl, run_takeDeferred HK.out, ?_⟩⟩
    refine ⟨.slice ao n cap, by simp [results, go_sem], _, rfl, Ns.low (owns_putObj HN.out.1 HK.out rfl) (by omega), ?_⟩
    have hk := Kp.of_below HN.out.2
    exact ⟨hk.os, hk.tape, hk.output, by have := hk.size; simp [World.putObj] at this ⊢; exact this, fun k hk' _ => (World.putObj_heap_other (by omega)).trans (hk.block k hk' (by simp))⟩
  case stop =>
    rintro E cc pre W hE hpre hf hK
    exact hf.elim
theorem fst_has {L : List Dl} (h : okL L) (hb : fstB L = true) : hasP L (fstT L) = true := by
  unfold fstB at hb
  unfold fstT
  cases hz : ordL L with
  | nil => rw [hz] at hb; simp at hb
  | cons x r =>
    exact mem_has.2 ⟨x, (ord_mem h).1 (by rw [hz]; simp), rfl⟩
/-- What Take leaves. -/
noncomputable def takeL (L : List Dl) : List Dl := if fstB L then delP L (fstT L) else L
set_option maxRecDepth 100000 in
theorem take_any (w : World) (wb pb : Nat) (V : Value) (L : List Dl) (h : Wt w wb pb V L) :
    Calls Try.prog 47 #[.pointer (some ⟨wb, 0, none⟩)] w fun e w' => e = .returned (.tuple #[.int .i64 (fstT L), .bool (fstB L)]) ∧ Turn w w' wb pb V (takeL L) := by
  have H := hid h
  have HF := hid (first_any w _ L h.vw)
  have HH := hid (fst_has h.ok)
  unfold takeL
  obtain ⟨t, ht⟩ : ∃ t, fstT L = t := ⟨_, rfl⟩
  rw [ht] at HF HH ⊢
  clear h ht
  cases hB : fstB L with
  | false =>
    rw [hB] at HF
    clear hB HH
    simp only [Bool.false_eq_true, if_false]
    go_enter Try.func47, Try.ntmps47
    go_wp2_with fail
    refine HF.out.mono ?_
    rintro e w1 ⟨rfl, hk⟩
    have HK := hid hk
    clear hk
    go_wp2
    go_ret2
    exact ⟨rfl, Turn.same H.out HK.out⟩
  | true =>
    rw [hB] at HF
    have HB := hid (HH.out hB)
    clear hB HH
    simp only [if_true]
    go_enter Try.func47, Try.ntmps47
    go_wp2_with fail
    refine HF.out.mono ?_
    rintro e w1 ⟨rfl, hk⟩
    have HK := hid hk
    clear hk
    go_wp2_with fail
    refine (drop_any w1 wb pb V L t (H.out.same HK.out) HB.out).mono ?_
    rintro e w2 ⟨rfl, V', hW, hV, hk2⟩
    have T2 := hid (show Turn w w2 wb pb V (delP L t) from ⟨V', hW, fun g hg => .inl (hV g hg), HK.out.nil.trans hk2⟩)
    clear hW hV hk2
    go_wp2
    go_ret2
    exact ⟨rfl, T2.out⟩
/-- The list without the first i of the order. -/
def lessL (L : List Dl) (l : List Int) : List Dl := l.foldl delP L
theorem less_snoc (L : List Dl) (l : List Int) (t : Int) : lessL L (l ++ [t]) = delP (lessL L l) t := by simp [lessL]
theorem mem_less {x : Dl} : ∀ (l : List Int) (L : List Dl), x ∈ lessL L l ↔ x ∈ L ∧ x.1 ∉ l
  | [], L => by simp [lessL]
  | t :: l, L => by
    show x ∈ lessL (delP L t) l ↔ _
    rw [mem_less l (delP L t)]
    simp only [delP, List.mem_filter, List.mem_cons, not_or, Bool.not_eq_true', beq_eq_false_iff_ne, ne_eq]
    constructor
    · rintro ⟨⟨a, b⟩, c⟩; exact ⟨a, b, c⟩
    · rintro ⟨a, b, c⟩; exact ⟨⟨a, b⟩, c⟩
theorem St.keys {l z : List Dl} (h : St l z) (hn : (l.map (·.1)).Nodup) : (z.map (·.1)).Nodup := (h.perm.map (·.1)).nodup_iff.2 hn
theorem ord_keys {L : List Dl} (h : okL L) : ((ordL L).map (·.1)).Nodup := St.keys (ord_st h) h.one
theorem less_all {L Z : List Dl} (hz : St L Z) : lessL L (Z.map (·.1)) = [] := by
  rw [List.eq_nil_iff_forall_not_mem]
  intro x hx
  obtain ⟨h1, h2⟩ := (mem_less _ _).1 hx
  exact h2 (List.mem_map.2 ⟨x, hz.mem.2 h1, rfl⟩)
theorem less_has {L Z : List Dl} (h : okL L) (hz : St L Z) {i : Nat} (hi : i < (Z.map (·.1)).length) : hasP (lessL L ((Z.map (·.1)).take i)) (Z.map (·.1))[i]! = true := by
  have hn := hz.keys h.one
  have hm : (Z.map (·.1))[i]! ∈ Z.map (·.1) := by rw [getElem!_pos _ i hi]; exact List.getElem_mem hi
  obtain ⟨x, hx, e⟩ := List.mem_map.1 hm
  refine mem_has.2 ⟨x, (mem_less _ _).2 ⟨hz.mem.1 hx, fun hq => ?_⟩, e⟩
  rw [e, getElem!_pos _ i hi] at hq
  obtain ⟨j, hj, ej⟩ := List.getElem_of_mem hq
  rw [List.getElem_take] at ej
  have hj' : j < i := by rw [List.length_take] at hj; omega
  exact (List.pairwise_iff_getElem.1 hn) j i (by omega) hi hj' ej
theorem okL.less {L : List Dl} (h : okL L) : ∀ l : List Int, okL (lessL L l) := fun l => by
  induction l generalizing L with
  | nil => exact h
  | cons t l ih => exact ih (h.del t)
end Go.Proofs.Ytllkopekfanfaaa
