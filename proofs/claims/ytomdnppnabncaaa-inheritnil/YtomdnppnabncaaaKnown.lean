/- The chapter's rows. -/
import Derived.Test.YtomdnppnabncaaaBl
namespace Go.Proofs.Ytomdnppnabncaaa
open Go.RowKit Go.Shelf
open Go.Lib hiding intOf
attribute [local go_sem] Oper.semAt_some

/-- The chapter's graph, row by row. -/
def kg (n : Nat) : Gs := match n with
  | 0 => newG 4
  | 1 => baG (newG 4) 0 1
  | 2 => baG (baG (newG 4) 0 1) 1 5
  | 3 => baG (baG (baG (newG 4) 0 1) 1 5) 2 3
  | 4 => baG (baG (baG (baG (newG 4) 0 1) 1 5) 2 3) 3 2
  | 5 => waG (baG (baG (baG (baG (newG 4) 0 1) 1 5) 2 3) 3 2) 1 0
  | 6 => waG (waG (baG (baG (baG (baG (newG 4) 0 1) 1 5) 2 3) 3 2) 1 0) 0 3
  | 7 => waG (waG (waG (baG (baG (baG (baG (newG 4) 0 1) 1 5) 2 3) 3 2) 1 0) 0 3) 2 3
  | 8 => ceG (waG (waG (waG (baG (baG (baG (baG (newG 4) 0 1) 1 5) 2 3) 3 2) 1 0) 0 3) 2 3) 3 7
  | _ => waG (ceG (waG (waG (waG (baG (baG (baG (baG (newG 4) 0 1) 1 5) 2 3) 3 2) 1 0) 0 3) 2 3) 3 7) 3 0
theorem kg_a5 : Eff (kg 5) [5, 5, 3, 2] := eff_of (by decide)
theorem kg_a7 : Eff (kg 7) [5, 5, 3, 5] := eff_of (by decide)
theorem kg_a8 : Eff (kg 8) [5, 5, 3, 7] := eff_of (by decide)
theorem kg_a9 : Eff (kg 9) [7, 5, 3, 7] := eff_of (by decide)
theorem kg_for : forL (kg 7) 3 = [0, 2] := by decide
theorem kg_ring : Rg (kg 9) 3 [3, 0] true := .inl ⟨rfl, 2, by decide, by decide, fun j j0 j1 => by
  have : j = 1 := by omega
  subst this
  decide, by decide⟩
/-- A graph that was made in this call. -/
structure Kn (Gr : World → Nat → Gs → Prop) (w W : World) (gb : Nat) (G : Gs) : Prop where
  gr : Gr W gb G
  g0 : w.heap.size ≤ gb
  kp : Kp w W []
section
variable {Gr : World → Nat → Gs → Prop} {w W W' : World} {gb : Nat} {G H : Gs}
theorem Kn.same (P : Prg Gr) (h : Kn Gr w W gb G) (hk : Kp W W' []) : Kn Gr w W' gb G := ⟨P.still h.gr hk, h.g0, h.kp.trans hk⟩
theorem Kn.base (P : Prg Gr) (h : Kn Gr w W gb G) (t p v : Int) (e1 : baE G t p = v) (e2 : baG G t p = H) : Calls Try.prog 15 #[.pointer (some ⟨gb, 0, none⟩), .int .i64 t, .int .i64 p] W fun e w' => e = .returned (.int .i64 v) ∧ Kn Gr w w' gb H ∧ Kp W w' [gb] := by
  subst e1; subst e2
  exact (P.base W gb G t p h.gr).mono fun e w' ⟨a, b, c⟩ => ⟨a, ⟨b, h.g0, h.kp.past c (by intro k hk hl; have := h.g0; simp at hk; omega)⟩, c⟩
theorem Kn.ceil (P : Prg Gr) (h : Kn Gr w W gb G) (t p v : Int) (e1 : baE G t p = v) (e2 : ceG G t p = H) : Calls Try.prog 16 #[.pointer (some ⟨gb, 0, none⟩), .int .i64 t, .int .i64 p] W fun e w' => e = .returned (.int .i64 v) ∧ Kn Gr w w' gb H ∧ Kp W w' [gb] := by
  subst e1; subst e2
  exact (P.ceil W gb G t p h.gr).mono fun e w' ⟨a, b, c⟩ => ⟨a, ⟨b, h.g0, h.kp.past c (by intro k hk hl; have := h.g0; simp at hk; omega)⟩, c⟩
theorem Kn.waits (P : Prg Gr) (h : Kn Gr w W gb G) (t p v : Int) (e1 : waE G t p = v) (e2 : waG G t p = H) : Calls Try.prog 17 #[.pointer (some ⟨gb, 0, none⟩), .int .i64 t, .int .i64 p] W fun e w' => e = .returned (.int .i64 v) ∧ Kn Gr w w' gb H ∧ Kp W w' [gb] := by
  subst e1; subst e2
  exact (P.waits W gb G t p h.gr).mono fun e w' ⟨a, b, c⟩ => ⟨a, ⟨b, h.g0, h.kp.past c (by intro k hk hl; have := h.g0; simp at hk; omega)⟩, c⟩
theorem Kn.all (P : Prg Gr) (h : Kn Gr w W gb G) {L : List Int} (hL : Eff G L) : Calls Try.prog 13 #[.pointer (some ⟨gb, 0, none⟩)] W fun e w' => (∃ v, e = .returned v ∧ Ns w' W.heap.size v L) ∧ Kn Gr w w' gb G ∧ Kp W w' [] := by
  refine (P.all W gb G h.gr).mono ?_
  rintro e w' ⟨⟨v, rfl, M, hM, hv⟩, k⟩
  rw [hM.one (P.ok h.gr) hL] at hv
  exact ⟨⟨v, rfl, hv⟩, h.same P k, k⟩
theorem ns_lit (w : World) (l : List Int) (h2 : l.length ≤ 100) : Ns (w.alloc (.cells (icells l).toArray 3)) w.heap.size (.slice (some ⟨w.heap.size, 0, none⟩) l.length l.length) l := by
  refine ⟨by simp [icells], .inr ⟨w.heap.size, l.length, (icells l).toArray, rfl, Nat.le_refl _, World.alloc_heap_new w _, Nat.le_refl _, by unfold maxLen; omega, by simp [icells], ?_⟩⟩
  rw [List.take_of_length_le (by simp [icells])]
end
section
variable {Gr : World → Nat → Gs → Prop}
set_option maxRecDepth 100000 in
set_option maxHeartbeats 8000000 in
theorem known_any (P : Prg Gr) : KnownOk := by
  intro w
  refine (callsIn_wide (n := 6)).1 ?_
  have h1 : 1 ≤ 6 := by decide
  refine callsIn_of_wp_marks Try.func10 rfl trivial ?_ rfl
  simp only [Try.ntmps10, List.size_toArray, List.length_nil, Nat.reduceSub, Array.replicate_succ, Array.replicate_zero, List.push_toArray, List.append_toArray, List.nil_append, List.cons_append]
  refine wpIn_wide.2 ?_
  go_wp2_with fail
  refine (P.new_ok w 4 (by decide) (by decide)).mono ?_
  rintro e W0 ⟨⟨gb, rfl, hg0, hg⟩, k0⟩
  have H := hid (show Kn Gr w W0 gb (kg 0) from ⟨hg, hg0, k0⟩)
  clear hg0 hg k0
  go_wp2_with fail
  refine (H.out.base P 0 1 0 (by decide) (show _ = kg 1 from rfl)).mono ?_
  rintro e W1 ⟨rfl, hh, -⟩
  have H := hid hh
  clear hh
  go_wp2_with fail
  refine (H.out.base P 1 5 0 (by decide) (show _ = kg 2 from rfl)).mono ?_
  rintro e W2 ⟨rfl, hh, -⟩
  have H := hid hh
  clear hh
  go_wp2_with fail
  refine (H.out.base P 2 3 0 (by decide) (show _ = kg 3 from rfl)).mono ?_
  rintro e W3 ⟨rfl, hh, -⟩
  have H := hid hh
  clear hh
  go_wp2_with fail
  refine (H.out.base P 3 2 0 (by decide) (show _ = kg 4 from rfl)).mono ?_
  rintro e W4 ⟨rfl, hh, -⟩
  have H := hid hh
  clear hh
  go_wp2_with fail
  refine (H.out.waits P 1 0 0 (by decide) (show _ = kg 5 from rfl)).mono ?_
  rintro e W5 ⟨rfl, hh, -⟩
  have H := hid hh
  clear hh
  go_wp2_with fail
  refine (H.out.all P kg_a5).mono ?_
  rintro e X5 ⟨⟨v5, rfl, hv⟩, hh, -⟩
  obtain ⟨vo5, vc5, hvv⟩ := hv.slice
  have HL := hid (ns_lit X5 [5, 5, 3, 2] (by simp))
  have KA := hid (Kp.alloc X5 (.cells (icells [5, 5, 3, 2]).toArray 3) [])
  have HV := hid (hv.keep KA.out)
  have H := hid (hh.same P KA.out)
  rw [show (icells [5, 5, 3, 2]).toArray = #[.int .i64 5, .int .i64 5, .int .i64 3, .int .i64 2] from rfl] at HL HV H
  simp only [List.length_cons, List.length_nil, Nat.reduceAdd, Nat.zero_add] at hvv HL
  subst hvv
  clear hv hh KA
  go_wp2_with fail
  refine (ints_any _ _ _ _ _ _ _ HV.out HL.out (by simp)).mono ?_
  rintro e Y5 ⟨rfl, nY, hY⟩
  have H := hid (show Kn Gr w Y5 gb (kg 5) by rw [hY]; exact H.out.same P (Kp.drewN _ _ _))
  rw [show decide (([5, 5, 3, 2] : List Int) = [5, 5, 3, 2]) = true by decide]
  clear hY HV HL
  go_wp2_with fail
  refine (H.out.waits P 0 3 0 (by decide) (show _ = kg 6 from rfl)).mono ?_
  rintro e W6 ⟨rfl, hh, -⟩
  have H := hid hh
  clear hh
  go_wp2_with fail
  refine (H.out.waits P 2 3 0 (by decide) (show _ = kg 7 from rfl)).mono ?_
  rintro e W7 ⟨rfl, hh, -⟩
  have H := hid hh
  clear hh
  go_wp2_with fail
  refine (H.out.all P kg_a7).mono ?_
  rintro e X7 ⟨⟨v7, rfl, hv⟩, hh, -⟩
  obtain ⟨vo7, vc7, hvv⟩ := hv.slice
  have HL := hid (ns_lit X7 [5, 5, 3, 5] (by simp))
  have KA := hid (Kp.alloc X7 (.cells (icells [5, 5, 3, 5]).toArray 3) [])
  have HV := hid (hv.keep KA.out)
  have H := hid (hh.same P KA.out)
  rw [show (icells [5, 5, 3, 5]).toArray = #[.int .i64 5, .int .i64 5, .int .i64 3, .int .i64 5] from rfl] at HL HV H
  simp only [List.length_cons, List.length_nil, Nat.reduceAdd, Nat.zero_add] at hvv HL
  subst hvv
  clear hv hh KA
  go_wp2_with fail
  refine (ints_any _ _ _ _ _ _ _ HV.out HL.out (by simp)).mono ?_
  rintro e Y7 ⟨rfl, nY, hY⟩
  have H := hid (show Kn Gr w Y7 gb (kg 7) by rw [hY]; exact H.out.same P (Kp.drewN _ _ _))
  rw [show decide (([5, 5, 3, 5] : List Int) = [5, 5, 3, 5]) = true by decide]
  clear hY HV HL
  go_wp2_with fail
  obtain ⟨Y, hYY⟩ : ∃ Y, Y7 = Y := ⟨_, rfl⟩
  rw [hYY] at H ⊢
  clear hYY
  have k8 := Kp.alloc Y (.cells #[.slice none 0 0] 35) []
  have b8 : (Y.alloc (.cells #[.slice none 0 0] 35)).heap[Y.heap.size]? = some (.cells #[.slice none 0 0] 35 (0, 0)) := World.alloc_heap_new Y _
  obtain ⟨W8, hW8⟩ : ∃ W8, Y.alloc (.cells #[.slice none 0 0] 35) = W8 := ⟨_, rfl⟩
  obtain ⟨lb, hlb⟩ : ∃ lb, Y.heap.size = lb := ⟨_, rfl⟩
  rw [hW8] at k8 b8 ⊢
  rw [hlb] at b8 ⊢
  have HLB := hid (show w.heap.size ≤ lb by rw [← hlb]; exact H.out.kp.size)
  have HY := H
  have HYL := hid (show Y.heap.size = lb from hlb)
  have K8 := hid k8
  have H := hid (H.out.same P k8)
  have B8 := hid b8
  have cf := P.for_ W8 gb (kg 7) 3 H.out.gr
  rw [kg_for] at cf
  clear hW8 hlb k8 b8
  refine cf.mono ?_
  rintro e W9 ⟨⟨f, fb, rfl, hI⟩, k9⟩
  have HI := hid hI
  have KYW := hid (K8.out.trans k9)
  have k89 := hid k9
  have H := hid (H.out.same P k9)
  have B9 := hid ((k9.block lb (lt_of_block B8.out) (by simp)).trans B8.out)
  have L8 := hid (show lb < W8.heap.size from lt_of_block B8.out)
  have hnn : ∀ W : World, (binOp .eql 57 (.func (.func f) #[] fb) .nilFunc).run Try.prog W = .ok (.bool false) W := fun W => by kernel_rfl
  clear cf hI k9 B8
  go_wp2_with fail
  obtain ⟨D, hD⟩ : ∃ D, W9.heap.size = D := ⟨_, rfl⟩
  have hBE : Below Y.heap.size Y W9 := KYW.out.below
  obtain ⟨hEn, hi, hhi, hSq⟩ := HI.out
  have hsq := hSq W9 (Kp.refl _ _) 5 (by decide)
  have HB := hid (show Bl Y W9 lb W9.heap.size [] from ⟨⟨none, 0, 0, B9.out, Ns.nil _ _⟩, hBE, Nat.le_refl _⟩)
  have HN := hid (And.intro HYL.out (And.intro L8.out (And.intro hhi k89.out.size)))
  clear hSq hBE hhi hD
  refine (wpIn_wide (n := 6)).1 ?_
  refine range_seqs (K := Kc W8.heap.size hi W9.heap.size) h1 (gf := f) (lb := fb) rfl hEn
    hsq Kc.trans (kc_put _ _ _) (Below.refl _ _) (fun _ => rfl)
    (fun pre W => Bl Y W lb W9.heap.size pre)
    (fun _ _ _ => False)
    (fun s A B row hs hg hr => ?own)
    (fun cc s A B row hs hg hr => hs)
    HB.out
    (fun d => { tmps := #[Value.bool false, Value.pointer (some { block := gb, off := 0 }), Value.int IntKind.i64 0, Value.pointer (some { block := lb, off := 0 }), Value.func (Fn.func f) #[] fb, Value.int IntKind.i64 d, undef, undef, undef, undef, Value.tuple #[Value.pointer (some { block := gb, off := 0 }), Value.int IntKind.i64 0], Value.tuple #[Value.pointer (some { block := gb, off := 0 }), Value.int IntKind.i64 0], Value.pointer (some { block := gb, off := 0 }), Value.int IntKind.i64 0, Value.int IntKind.i64 0, Value.bool false, Value.bool false, Value.pointer (some { block := gb, off := 0 }), Value.bool false, Value.bool false, Value.bool false, Value.pointer (some { block := gb, off := 0 }), Value.int IntKind.i64 0, Value.bool false, Value.bool false, Value.bool false, Value.pointer (some { block := gb, off := 0 }), Value.int IntKind.i64 0, Value.bool false, Value.bool false, Value.bool false, Value.pointer (some { block := gb, off := 0 }), Value.int IntKind.i64 0, Value.bool false, Value.bool false, Value.bool false, Value.pointer (some { block := gb, off := 0 }), Value.int IntKind.i64 0, Value.bool false, Value.bool false, Value.bool false, Value.pointer (some { block := gb, off := 0 }), Value.int IntKind.i64 0, Value.bool false, Value.bool false, Value.bool false, Value.pointer (some { block := gb, off := 0 }), Value.slice vo5 4 vc5, Value.slice (some { block := X5.heap.size, off := 0 }) 4 4, Value.bool true, Value.bool false, Value.bool false, Value.pointer (some { block := gb, off := 0 }), Value.int IntKind.i64 0, Value.bool false, Value.bool false, Value.pointer (some { block := gb, off := 0 }), Value.int IntKind.i64 0, Value.bool false, Value.bool false, Value.bool false, Value.pointer (some { block := gb, off := 0 }), Value.slice vo7 4 vc7, Value.slice (some { block := X7.heap.size, off := 0 }) 4 4, Value.bool true, Value.bool false, Value.bool false, Value.pointer (some { block := gb, off := 0 }), Value.func (Fn.func f) #[] fb, Value.func (Fn.func f) #[] fb, Value.bool false, Value.func (Fn.func f) #[] fb, Value.int IntKind.i64 d, undef, undef, undef, undef, undef, undef, undef, undef, undef, undef, undef, undef, undef, undef, undef, undef, undef, undef, undef, undef, undef, undef, undef, undef, undef, undef, undef, undef, undef, undef, undef, undef, undef, undef, undef, undef, undef, undef, undef, undef, undef, undef, undef, undef, undef, undef, undef, undef, undef, undef, undef, undef, undef, undef, undef, undef, undef, undef, undef, undef, undef], defers := [] })
    ?assign ?body ?done ?stop
  case own =>
    obtain ⟨ao, n, cap, h1, h2⟩ := hs.ex
    exact ⟨⟨ao, n, cap, cells_kept h1 hg hr, owns_kept h2 hg hr⟩, ownFrom_below (β := List Int) (Nat.le_refl _) (by have := HN.out; omega) s A B row hs.be hg hr, Nat.le_trans hs.sz hg.size⟩
  case assign =>
    intro l d W K _ hK
    have HK := hid hK
    clear hK
    gi_wp2
    exact HK.out
  case body =>
    rintro l pre d W hpre hIp
    obtain ⟨ao, n, cap, hb, hn⟩ := hIp.ex
    have u0 := cell_one hb
    have f0 := free_one hb
    have ka := Kp.alloc W (.cells #[.int .i64 d] 3) []
    have HN2 := hid (hn.keep ka)
    have HI2 := hid (And.intro hb (And.intro hn hIp.be))
    have KA := hid ka
    have hln : pre.length ≤ 100000 := by
      obtain ⟨t, ht⟩ := hpre
      have := congrArg List.length ht
      simp at this
      omega
    have hsW : W9.heap.size ≤ W.heap.size := hIp.sz
    have HP := hid (And.intro hln hsW)
    clear hb hn hpre hIp ka hln hsW
    gi_wp2_with (refine wpListIn_pushI rfl (.tmp 73) (.tmp 75) rfl W9.heap.size (.slice ao n cap) pre d _ rfl HN2.out rfl (by simp) HP.out.1 (by have := HP.out.2; simp; omega) ?_; intro v3 w3 hN3 hG3; obtain ⟨a3, c3, hv3⟩ := hN3.slice; obtain ⟨m3, hm3⟩ : ∃ m3, (pre ++ [d]).length = m3 := ⟨_, rfl⟩; rw [hm3] at hv3; subst hv3; have R := hid (Bl.push (lo := W8.heap.size) (hi := hi) (by have := HN.out.1; omega) HN.out.2.1 (by have := HN.out; omega) HN.out.2.2.1 HP.out.2 HI2.out.1 HI2.out.2.1 HI2.out.2.2 hN3 (KA.out.nil.trans (Kp.ofGrown hG3 (by intro g hg; simp [hg])))); have q1 := R.out.2.2.2.1; have q2 := R.out.2.2.2.2; clear hN3 hG3 hm3)
    refine ⟨?_, R.out.2.1, R.out.2.2.1⟩
    have := R.out.1
    exact ⟨this.size, fun k o hk => this.same k o (by have := HN.out; omega)⟩
  case done =>
    rintro E W hE hIp hK
    obtain ⟨ao, n, cap, hb, hn⟩ := hIp.ex
    have u0 := cell_one hb
    have kY := Kp.of_below hIp.be
    have H := hid (HY.out.same P kY)
    have KE := hid hK
    have HEG := hid (show E ≠ gb by have := P.lt HY.out.gr; have := HN.out; omega)
    have HEL := hid (show w.heap.size ≤ E by have := HY.out.kp.size; have := HN.out; omega)
    obtain ⟨ao2, cap2, hsl⟩ := hn.slice
    simp only [List.length_cons, List.length_nil, Nat.reduceAdd, Nat.zero_add, Value.slice.injEq] at hsl
    obtain ⟨rfl, rfl⟩ := hsl.2
    obtain ⟨rfl, -⟩ := hsl
    have HL := hid (ns_lit W [0, 2] (by simp))
    have KA := hid (Kp.alloc W (.cells (icells [0, 2]).toArray 3) [])
    have HV := hid (hn.keep KA.out)
    have H := hid (H.out.same P KA.out)
    have KE := hid ((KA.out.block E (lt_of_block KE.out) (by simp)).trans KE.out)
    rw [show (icells [0, 2]).toArray = #[.int .i64 0, .int .i64 2] from rfl] at HL HV H KE
    simp only [List.length_cons, List.length_nil, Nat.reduceAdd, Nat.zero_add] at HL
    clear hK hb hn hIp KA
    gi_wp2
    go_wp2_with fail
    refine (ints_any _ _ _ _ _ _ _ HV.out HL.out (by simp)).mono ?_
    rintro e Y2 ⟨rfl, nY, hY⟩
    have H := hid (show Kn Gr w Y2 gb (kg 7) by rw [hY]; exact H.out.same P (Kp.drewN _ _ _))
    have KE := hid (show Y2.heap[E]? = some (.deferred (some [])) by rw [hY]; exact KE.out)
    rw [show decide (([0, 2] : List Int) = [0, 2]) = true by decide]
    clear hY HV HL
    go_wp2_with fail
    refine (H.out.ceil P 3 7 0 (by decide) (show _ = kg 8 from rfl)).mono ?_
    rintro e Z ⟨rfl, hh, kk⟩
    have KE := hid ((kk.block E (lt_of_block KE.out) (by have := HEG.out; simp; omega)).trans KE.out)
    have H := hid hh
    clear hh kk
    go_wp2_with fail
    refine (H.out.all P kg_a8).mono ?_
    rintro e X ⟨⟨v, rfl, hv⟩, hh, kk⟩
    obtain ⟨vo, vc, hvv⟩ := hv.slice
    have HL := hid (ns_lit X [5, 5, 3, 7] (by simp))
    have KA := hid (Kp.alloc X (.cells (icells [5, 5, 3, 7]).toArray 3) [])
    have HV := hid (hv.keep KA.out)
    have H := hid (hh.same P KA.out)
    have KE := hid (((kk.trans KA.out).block E (lt_of_block KE.out) (by simp)).trans KE.out)
    rw [show (icells [5, 5, 3, 7]).toArray = #[.int .i64 5, .int .i64 5, .int .i64 3, .int .i64 7] from rfl] at HL HV H KE
    simp only [List.length_cons, List.length_nil, Nat.reduceAdd, Nat.zero_add] at hvv HL
    subst hvv
    clear hv hh KA kk
    go_wp2_with fail
    refine (ints_any _ _ _ _ _ _ _ HV.out HL.out (by simp)).mono ?_
    rintro e Y2 ⟨rfl, nY, hY⟩
    have H := hid (show Kn Gr w Y2 gb (kg 8) by rw [hY]; exact H.out.same P (Kp.drewN _ _ _))
    have KE := hid (show Y2.heap[E]? = some (.deferred (some [])) by rw [hY]; exact KE.out)
    rw [show decide (([5, 5, 3, 7] : List Int) = [5, 5, 3, 7]) = true by decide]
    clear hY HV HL
    go_wp2_with fail
    refine (H.out.waits P 3 0 0 (by decide) (show _ = kg 9 from rfl)).mono ?_
    rintro e Z ⟨rfl, hh, kk⟩
    have KE := hid ((kk.block E (lt_of_block KE.out) (by have := HEG.out; simp; omega)).trans KE.out)
    have H := hid hh
    clear hh kk
    go_wp2_with fail
    refine (H.out.all P kg_a9).mono ?_
    rintro e X ⟨⟨v, rfl, hv⟩, hh, kk⟩
    obtain ⟨vo, vc, hvv⟩ := hv.slice
    have HL := hid (ns_lit X [7, 5, 3, 7] (by simp))
    have KA := hid (Kp.alloc X (.cells (icells [7, 5, 3, 7]).toArray 3) [])
    have HV := hid (hv.keep KA.out)
    have H := hid (hh.same P KA.out)
    have KE := hid (((kk.trans KA.out).block E (lt_of_block KE.out) (by simp)).trans KE.out)
    rw [show (icells [7, 5, 3, 7]).toArray = #[.int .i64 7, .int .i64 5, .int .i64 3, .int .i64 7] from rfl] at HL HV H KE
    simp only [List.length_cons, List.length_nil, Nat.reduceAdd, Nat.zero_add] at hvv HL
    subst hvv
    clear hv hh KA kk
    go_wp2_with fail
    refine (ints_any _ _ _ _ _ _ _ HV.out HL.out (by simp)).mono ?_
    rintro e Y2 ⟨rfl, nY, hY⟩
    have H := hid (show Kn Gr w Y2 gb (kg 9) by rw [hY]; exact H.out.same P (Kp.drewN _ _ _))
    have KE := hid (show Y2.heap[E]? = some (.deferred (some [])) by rw [hY]; exact KE.out)
    rw [show decide (([7, 5, 3, 7] : List Int) = [7, 5, 3, 7]) = true by decide]
    clear hY HV HL
    go_wp2_with fail
    refine (P.ring _ gb (kg 9) 3 H.out.gr).mono ?_
    rintro e Z ⟨⟨v, b, rfl, R, hR, hv⟩, kk⟩
    obtain ⟨rfl, rfl⟩ := (hR.1 (by decide)).one kg_ring
    have H := hid (H.out.same P kk)
    have KE := hid ((kk.block E (lt_of_block KE.out) (by simp)).trans KE.out)
    obtain ⟨vo, vc, hvv⟩ := hv.slice
    simp only [List.length_cons, List.length_nil, Nat.reduceAdd, Nat.zero_add] at hvv
    subst hvv
    have HV := hid hv
    clear hv hR kk
    go_wp2_with fail
    refine (P.new_no _ 0 (by decide)).mono ?_
    rintro e Z2 ⟨rfl, kk⟩
    have KA := hid (kk.trans (Kp.alloc Z2 (.cells (icells [3, 0]).toArray 3) []))
    have HL := hid (ns_lit Z2 [3, 0] (by simp))
    have HV := hid (HV.out.keep KA.out)
    have H := hid (H.out.same P KA.out)
    have KE := hid ((KA.out.block E (lt_of_block KE.out) (by simp)).trans KE.out)
    rw [show (icells [3, 0]).toArray = #[.int .i64 3, .int .i64 0] from rfl] at HL HV H KE
    simp only [List.length_cons, List.length_nil, Nat.reduceAdd, Nat.zero_add] at HL
    clear kk KA
    go_wp2_with fail
    refine (ints_any _ _ _ _ _ _ _ HV.out HL.out (by simp)).mono ?_
    rintro e Y2 ⟨rfl, nY, hY⟩
    have H := hid (show Kn Gr w Y2 gb (kg 9) by rw [hY]; exact H.out.same P (Kp.drewN _ _ _))
    have KE := hid (show Y2.heap[E]? = some (.deferred (some [])) by rw [hY]; exact KE.out)
    rw [show decide (([3, 0] : List Int) = [3, 0]) = true by decide]
    clear hY HV HL
    go_wp2_with fail
    refine (H.out.waits P 0 4 2 (by decide) (show _ = kg 9 from rfl)).mono ?_
    rintro e Z ⟨rfl, hh, kk⟩
    have KE := hid ((kk.block E (lt_of_block KE.out) (by have := HEG.out; simp; omega)).trans KE.out)
    have H := hid hh
    clear hh kk
    go_wp2_with fail
    refine (H.out.base P 0 32 2 (by decide) (show _ = kg 9 from rfl)).mono ?_
    rintro e Z ⟨rfl, hh, kk⟩
    have KE := hid ((kk.block E (lt_of_block KE.out) (by have := HEG.out; simp; omega)).trans KE.out)
    have H := hid hh
    clear hh kk
    go_wp2_with fail
    refine leaves_marks (lo := w.heap.size) [E] _ ⟨by simpa using KE.out, by simp, by simpa using HEL.out⟩ ?_
    refine ⟨.bool true, by simp [results, Try.results10, go_sem], rfl, ?_⟩
    exact kp_shut (lo := w.heap.size) [E] _ ⟨by simpa using KE.out, by simp, by simpa using HEL.out⟩ (Nat.le_refl _) H.out.kp
  case stop =>
    rintro E cc pre W hE hpre hf hK
    exact hf.elim
end
end Go.Proofs.Ytomdnppnabncaaa
