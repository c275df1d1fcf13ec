/- first: the first one that waits for what is wanted. -/
import Derived.Test.YtcfjlmkeomiiaaaLm
namespace Go.Proofs.Ytcfjlmkeomiiaaa
open Go.RowKit Go.Shelf Go.Lib Go.Sort Go.Maps
attribute [local go_sem] Oper.semAt_some

theorem set_pair {W : World} {s : Nat} {a c a' c' : Value} {t : TypeId} (h : W.heap[s]? = some (.cells #[a, c] t (0, 0))) : ((W.setCell ⟨s, 0, none⟩ a').setCell ⟨s, 1, none⟩ c').heap[s]? = some (.cells #[a', c'] t (0, 0)) := by
  have h1 : (W.setCell ⟨s, 0, none⟩ a').heap[s]? = some (.cells #[a', c] t (0, 0)) := by rw [heap_setCell_same W s 0 _ t a' h]; rfl
  exact set_two1 h1

theorem fin79_0 (w W : World) (lb q : Nat) (x E : Nat) (a c : Int) (u5 u13 u14 u15 : Value) (h : W.heap[w.heap.size]? = some (.cells #[.int .i64 a, .int .i64 c] 96 (0, 0))) (hE : w.heap.size + 1 ≤ E) (hK : W.heap[E]? = some (.deferred (some []))) (hb : Below w.heap.size w W) :
    bodyPostM Fence.wide 6 Try.prog Try.f79 (fun e w' => e = .returned (.agg #[.int .i64 a, .int .i64 c]) ∧ Kp w w' []) .ret { tmps := #[.pointer (some ⟨lb, 0, none⟩), .int .i64 0, undef, undef, .pointer (some ⟨w.heap.size, 0, none⟩), u5, .pointer (some ⟨lb, 0, none⟩), .int .i64 0, .pointer (some ⟨lb, 0, none⟩), .pointer (some ⟨lb, 2, none⟩), .pointer (some ⟨lb, 2, none⟩), .pointer (some ⟨q, 0, none⟩), itv x, u13, u14, u15], defers := [{ target := .collected E, args := #[] }] } W := by
  refine ⟨by simp, .inl ⟨_, _, rfl, run_takeDeferred hK, ?_⟩⟩
  have h' := (World.putObj_heap_other (o := .deferred none) (show w.heap.size ≠ E by omega)).trans h
  have c0 := cell_two0 h'
  have c1 := cell_two1 h'
  refine ⟨.agg #[.int .i64 a, .int .i64 c], by simp [results, go_sem, c0, c1], rfl, ?_⟩
  have hk := Kp.of_below hb
  exact ⟨hk.os, hk.tape, hk.output, by have := hk.size; simp [World.putObj] at this ⊢; exact this, fun k hk' _ => (World.putObj_heap_other (by omega)).trans (hk.block k hk' (by simp))⟩
set_option maxRecDepth 100000 in
theorem lfirst0 (w : World) (lb mb a b : Nat) (Ra Rb : List Nat) (M : Lk) (h : Li2 w lb mb a b Ra Rb M) :
    Calls Try.prog 79 #[.pointer (some ⟨lb, 0, none⟩), .int .i64 0] w fun e w' => e = .returned (.agg #[.int .i64 (fstT M.r), .int .i64 (fstP M.r)]) ∧ Kp w w' [] := by
  have H := hid h.wr.vw
  have HS := hid (fun W x (hI : It W x M.r) => it_seqs 5 (by decide) x M.r W hI)
  have HC := hid (fun (z : World) (hk : Kp w z []) => hk.cell h.c2 (by simp))
  unfold fstT fstP
  generalize ordL M.r = Z at HS ⊢
  generalize M.r = L at H HS
  clear h
  refine (callsIn_wide (n := 6)).1 ?_
  have h1 : 1 ≤ 6 := by decide
  refine callsIn_of_wp_marks Try.func79 rfl trivial ?_ rfl
  simp only [Try.ntmps79, List.size_toArray, List.length_cons, List.length_nil, Nat.reduceAdd, Nat.reduceSub, Array.replicate_succ, Array.replicate_zero, List.push_toArray, List.append_toArray, List.nil_append, List.cons_append]
  refine wpIn_wide.2 ?_
  have cl := HC.out (w.alloc (.cells #[.int .i64 0, .int .i64 0] 96)) (Kp.alloc _ _ _)
  go_wp2_with fail
  have k0 := Kp.alloc w (.cells #[.int .i64 0, .int .i64 0] 96) []
  obtain ⟨W0, hW0⟩ : ∃ W0, w.alloc (.cells #[.int .i64 0, .int .i64 0] 96) = W0 := ⟨_, rfl⟩
  have hsz : W0.heap.size = w.heap.size + 1 := by rw [← hW0]; simp
  have hbx : W0.heap[w.heap.size]? = some (.cells #[.int .i64 0, .int .i64 0] 96 (0, 0)) := by rw [← hW0]; exact heap_alloc_new w _
  rw [hW0] at k0 ⊢
  clear hW0 cl
  have HBX := hid hbx
  have K0 := hid k0
  refine (all_any W0 (some ⟨a, 0, none⟩)).mono ?_
  rintro e w1 ⟨rfl, hw1⟩
  have HI := hid (show It w1 W0.heap.size L by rw [hw1]; exact It.new (H.out.keep K0.out))
  have HK := hid (show Kp W0 w1 [] by rw [hw1]; exact Kp.alloc _ _ _)
  clear hw1 hbx k0
  obtain ⟨x, hx⟩ : ∃ x, W0.heap.size = x := ⟨_, rfl⟩
  rw [hx] at HI hsz ⊢
  have HXX := hid (And.intro hx hsz)
  clear hx hsz
  go_wp2_with fail
  have hB1 : w1.heap[w.heap.size]? = some (.cells #[.int .i64 0, .int .i64 0] 96 (0, 0)) := (HK.out.block _ (by have := HXX.out; have := HXX.out.2; omega) (by simp)).trans HBX.out
  have hs1 : w.heap.size + 1 ≤ w1.heap.size := by have := HK.out.size; have := HXX.out; have := HXX.out.2; omega
  have HB1 := hid hB1
  have HW1 := hid (K0.out.trans HK.out)
  clear hB1
  refine (wpIn_wide (n := 6)).1 ?_
  refine range_seqs (K := Kc w1.heap.size) h1 (gf := 86) (lb := #[.pointer (some ⟨x, 0, none⟩)]) rfl (enters_of Try.func86 (by kernel_rfl) rfl)
    (HS.out w1 x HI.out) Kc.trans (kc_put _) (kc_alloc _) (Below.refl _ _) (fun _ => rfl)
    (fun pre W => (pre = [] ∧ W.heap[w.heap.size]? = some (.cells #[.int .i64 0, .int .i64 0] 96 (0, 0))) ∧ Below w.heap.size w W)
    (fun cc pre W => (cc = .ret ∧ ∃ d : Dl, pre = [d] ∧ W.heap[w.heap.size]? = some (.cells #[.int .i64 d.1, .int .i64 d.2] 96 (0, 0))) ∧ Below w.heap.size w W)
    (OwnFrom.and (fun s A B row hs hg hr => ⟨hs.1, cells_kept hs.2 hg hr⟩) (ownFrom_below (Nat.le_refl _) (by omega)))
    (fun cc => OwnFrom.and (fun s A B row hs hg hr => ⟨hs.1, hs.2.choose, hs.2.choose_spec.1, cells_kept hs.2.choose_spec.2 hg hr⟩) (ownFrom_below (Nat.le_refl _) (by omega)))
    ⟨⟨rfl, HB1.out⟩, HW1.out.below⟩
    (fun d => .cells #[.int .i64 d.1, .int .i64 d.2] 96)
    (fun d bx => { tmps := #[.pointer (some ⟨lb, 0, none⟩), .int .i64 0, undef, undef, .pointer (some ⟨w.heap.size, 0, none⟩), .pointer (some ⟨bx, 0, none⟩), .pointer (some ⟨lb, 0, none⟩), .int .i64 0, .pointer (some ⟨lb, 0, none⟩), .pointer (some ⟨lb, 2, none⟩), .pointer (some ⟨lb, 2, none⟩), .pointer (some ⟨a, 0, none⟩), itv x, dv d, undef, undef], defers := [] })
    ?assign ?body ?done ?stop
  case assign =>
    intro l d W K _ hK
    have HK := hid hK
    clear hK
    gi_wp2
    exact HK.out
  case body =>
    rintro l pre d b W hpre hbb ⟨⟨rfl, hb⟩, hbl⟩ hob
    have u0 := cell_two0 hb
    have u1 := cell_two1 hb
    have f0 := free_two hb 0
    have f1 := free_two hb 1
    have v0 := cell_two0 hob
    have v1 := cell_two1 hob
    have HB := hid hb
    have HL := hid hbl
    clear hb hbl hpre hob
    gi_wp2
    refine ⟨((KeepsOthers.setCell _ _ _).from _).trans ((KeepsOthers.setCell _ _ _).from _), ⟨rfl, d, rfl, set_pair HB.out⟩, ?_⟩
    exact (HL.out.setCell (p := ⟨w.heap.size, 0, none⟩) (Nat.le_refl _) _).setCell (p := ⟨w.heap.size, 1, none⟩) (Nat.le_refl _) _
  case done =>
    rintro E W hE ⟨⟨hz, hb⟩, hbl⟩ hK
    subst hz
    have u0 := cell_two0 hb
    have u1 := cell_two1 hb
    have f0 := free_two hb 0
    have f1 := free_two hb 1
    have HB := hid hb
    have HL := hid hbl
    have HK := hid hK
    clear hK hb hbl
    gi_wp2
    go_wp2
    refine fin79_0 w _ lb a x E 0 0 undef undef undef _ (set_pair HB.out) (by omega) ?_ ((HL.out.setCell (p := ⟨w.heap.size, 0, none⟩) (Nat.le_refl _) _).setCell (p := ⟨w.heap.size, 1, none⟩) (Nat.le_refl _) _)
    exact (Below.heap_setCell _ _ _ _ (by simp; omega)).trans ((Below.heap_setCell _ _ _ _ (by simp; omega)).trans HK.out)
  case stop =>
    rintro E cc pre W hE hpre ⟨⟨rfl, d, rfl, hb⟩, hbl⟩ hK
    have HB := hid hb
    have HL := hid hbl
    have HK := hid hK
    have HP := hid hpre
    clear hK hb hbl hpre
    gi_wp2
    obtain ⟨t, ht⟩ := HP.out
    rw [← ht]
    exact fin79_0 w _ lb a x E d.1 d.2 _ _ _ _ HB.out (by omega) HK.out HL.out

theorem fin79_1 (w W : World) (lb q : Nat) (x E : Nat) (a c : Int) (u5 u13 u14 u15 : Value) (h : W.heap[w.heap.size]? = some (.cells #[.int .i64 a, .int .i64 c] 96 (0, 0))) (hE : w.heap.size + 1 ≤ E) (hK : W.heap[E]? = some (.deferred (some []))) (hb : Below w.heap.size w W) :
    bodyPostM Fence.wide 6 Try.prog Try.f79 (fun e w' => e = .returned (.agg #[.int .i64 a, .int .i64 c]) ∧ Kp w w' []) .ret { tmps := #[.pointer (some ⟨lb, 0, none⟩), .int .i64 1, undef, undef, .pointer (some ⟨w.heap.size, 0, none⟩), u5, .pointer (some ⟨lb, 0, none⟩), .int .i64 1, .pointer (some ⟨lb, 0, none⟩), .pointer (some ⟨lb, 2, none⟩), .pointer (some ⟨lb, 3, none⟩), .pointer (some ⟨q, 0, none⟩), itv x, u13, u14, u15], defers := [{ target := .collected E, args := #[] }] } W := by
  refine ⟨by simp, .inl ⟨_, _, rfl, run_takeDeferred hK, ?_⟩⟩
  have h' := (World.putObj_heap_other (o := .deferred none) (show w.heap.size ≠ E by omega)).trans h
  have c0 := cell_two0 h'
  have c1 := cell_two1 h'
  refine ⟨.agg #[.int .i64 a, .int .i64 c], by simp [results, go_sem, c0, c1], rfl, ?_⟩
  have hk := Kp.of_below hb
  exact ⟨hk.os, hk.tape, hk.output, by have := hk.size; simp [World.putObj] at this ⊢; exact this, fun k hk' _ => (World.putObj_heap_other (by omega)).trans (hk.block k hk' (by simp))⟩
set_option maxRecDepth 100000 in
theorem lfirst1 (w : World) (lb mb a b : Nat) (Ra Rb : List Nat) (M : Lk) (h : Li2 w lb mb a b Ra Rb M) :
    Calls Try.prog 79 #[.pointer (some ⟨lb, 0, none⟩), .int .i64 1] w fun e w' => e = .returned (.agg #[.int .i64 (fstT M.q), .int .i64 (fstP M.q)]) ∧ Kp w w' [] := by
  have H := hid h.wq.vw
  have HS := hid (fun W x (hI : It W x M.q) => it_seqs 5 (by decide) x M.q W hI)
  have HC := hid (fun (z : World) (hk : Kp w z []) => hk.cell h.c3 (by simp))
  unfold fstT fstP
  generalize ordL M.q = Z at HS ⊢
  generalize M.q = L at H HS
  clear h
  refine (callsIn_wide (n := 6)).1 ?_
  have h1 : 1 ≤ 6 := by decide
  refine callsIn_of_wp_marks Try.func79 rfl trivial ?_ rfl
  simp only [Try.ntmps79, List.size_toArray, List.length_cons, List.length_nil, Nat.reduceAdd, Nat.reduceSub, Array.replicate_succ, Array.replicate_zero, List.push_toArray, List.append_toArray, List.nil_append, List.cons_append]
  refine wpIn_wide.2 ?_
  have cl := HC.out (w.alloc (.cells #[.int .i64 0, .int .i64 0] 96)) (Kp.alloc _ _ _)
  go_wp2_with fail
  have k0 := Kp.alloc w (.cells #[.int .i64 0, .int .i64 0] 96) []
  obtain ⟨W0, hW0⟩ : ∃ W0, w.alloc (.cells #[.int .i64 0, .int .i64 0] 96) = W0 := ⟨_, rfl⟩
  have hsz : W0.heap.size = w.heap.size + 1 := by rw [← hW0]; simp
  have hbx : W0.heap[w.heap.size]? = some (.cells #[.int .i64 0, .int .i64 0] 96 (0, 0)) := by rw [← hW0]; exact heap_alloc_new w _
  rw [hW0] at k0 ⊢
  clear hW0 cl
  have HBX := hid hbx
  have K0 := hid k0
  refine (all_any W0 (some ⟨b, 0, none⟩)).mono ?_
  rintro e w1 ⟨rfl, hw1⟩
  have HI := hid (show It w1 W0.heap.size L by rw [hw1]; exact It.new (H.out.keep K0.out))
  have HK := hid (show Kp W0 w1 [] by rw [hw1]; exact Kp.alloc _ _ _)
  clear hw1 hbx k0
  obtain ⟨x, hx⟩ : ∃ x, W0.heap.size = x := ⟨_, rfl⟩
  rw [hx] at HI hsz ⊢
  have HXX := hid (And.intro hx hsz)
  clear hx hsz
  go_wp2_with fail
  have hB1 : w1.heap[w.heap.size]? = some (.cells #[.int .i64 0, .int .i64 0] 96 (0, 0)) := (HK.out.block _ (by have := HXX.out; have := HXX.out.2; omega) (by simp)).trans HBX.out
  have hs1 : w.heap.size + 1 ≤ w1.heap.size := by have := HK.out.size; have := HXX.out; have := HXX.out.2; omega
  have HB1 := hid hB1
  have HW1 := hid (K0.out.trans HK.out)
  clear hB1
  refine (wpIn_wide (n := 6)).1 ?_
  refine range_seqs (K := Kc w1.heap.size) h1 (gf := 86) (lb := #[.pointer (some ⟨x, 0, none⟩)]) rfl (enters_of Try.func86 (by kernel_rfl) rfl)
    (HS.out w1 x HI.out) Kc.trans (kc_put _) (kc_alloc _) (Below.refl _ _) (fun _ => rfl)
    (fun pre W => (pre = [] ∧ W.heap[w.heap.size]? = some (.cells #[.int .i64 0, .int .i64 0] 96 (0, 0))) ∧ Below w.heap.size w W)
    (fun cc pre W => (cc = .ret ∧ ∃ d : Dl, pre = [d] ∧ W.heap[w.heap.size]? = some (.cells #[.int .i64 d.1, .int .i64 d.2] 96 (0, 0))) ∧ Below w.heap.size w W)
    (OwnFrom.and (fun s A B row hs hg hr => ⟨hs.1, cells_kept hs.2 hg hr⟩) (ownFrom_below (Nat.le_refl _) (by omega)))
    (fun cc => OwnFrom.and (fun s A B row hs hg hr => ⟨hs.1, hs.2.choose, hs.2.choose_spec.1, cells_kept hs.2.choose_spec.2 hg hr⟩) (ownFrom_below (Nat.le_refl _) (by omega)))
    ⟨⟨rfl, HB1.out⟩, HW1.out.below⟩
    (fun d => .cells #[.int .i64 d.1, .int .i64 d.2] 96)
    (fun d bx => { tmps := #[.pointer (some ⟨lb, 0, none⟩), .int .i64 1, undef, undef, .pointer (some ⟨w.heap.size, 0, none⟩), .pointer (some ⟨bx, 0, none⟩), .pointer (some ⟨lb, 0, none⟩), .int .i64 1, .pointer (some ⟨lb, 0, none⟩), .pointer (some ⟨lb, 2, none⟩), .pointer (some ⟨lb, 3, none⟩), .pointer (some ⟨b, 0, none⟩), itv x, dv d, undef, undef], defers := [] })
    ?assign ?body ?done ?stop
  case assign =>
    intro l d W K _ hK
    have HK := hid hK
    clear hK
    gi_wp2
    exact HK.out
  case body =>
    rintro l pre d b W hpre hbb ⟨⟨rfl, hb⟩, hbl⟩ hob
    have u0 := cell_two0 hb
    have u1 := cell_two1 hb
    have f0 := free_two hb 0
    have f1 := free_two hb 1
    have v0 := cell_two0 hob
    have v1 := cell_two1 hob
    have HB := hid hb
    have HL := hid hbl
    clear hb hbl hpre hob
    gi_wp2
    refine ⟨((KeepsOthers.setCell _ _ _).from _).trans ((KeepsOthers.setCell _ _ _).from _), ⟨rfl, d, rfl, set_pair HB.out⟩, ?_⟩
    exact (HL.out.setCell (p := ⟨w.heap.size, 0, none⟩) (Nat.le_refl _) _).setCell (p := ⟨w.heap.size, 1, none⟩) (Nat.le_refl _) _
  case done =>
    rintro E W hE ⟨⟨hz, hb⟩, hbl⟩ hK
    subst hz
    have u0 := cell_two0 hb
    have u1 := cell_two1 hb
    have f0 := free_two hb 0
    have f1 := free_two hb 1
    have HB := hid hb
    have HL := hid hbl
    have HK := hid hK
    clear hK hb hbl
    gi_wp2
    go_wp2
    refine fin79_1 w _ lb b x E 0 0 undef undef undef _ (set_pair HB.out) (by omega) ?_ ((HL.out.setCell (p := ⟨w.heap.size, 0, none⟩) (Nat.le_refl _) _).setCell (p := ⟨w.heap.size, 1, none⟩) (Nat.le_refl _) _)
    exact (Below.heap_setCell _ _ _ _ (by simp; omega)).trans ((Below.heap_setCell _ _ _ _ (by simp; omega)).trans HK.out)
  case stop =>
    rintro E cc pre W hE hpre ⟨⟨rfl, d, rfl, hb⟩, hbl⟩ hK
    have HB := hid hb
    have HL := hid hbl
    have HK := hid hK
    have HP := hid hpre
    clear hK hb hbl hpre
    gi_wp2
    obtain ⟨t, ht⟩ := HP.out
    rw [← ht]
    exact fin79_1 w _ lb b x E d.1 d.2 _ _ _ _ HB.out (by omega) HK.out HL.out
end Go.Proofs.Ytcfjlmkeomiiaaa
