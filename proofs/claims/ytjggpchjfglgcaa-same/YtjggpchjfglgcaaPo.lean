/- Pop: the one on top goes. -/
import Derived.BigQuiet
import Derived.Stop.RegionWithIn
import Derived.Test.YtjggpchjfglgcaaAl
import Derived.Test.YtjggpchjfglgcaaMarks
import Derived.Test.YtjggpchjfglgcaaRound
namespace Go.Proofs.Ytjggpchjfglgcaa
open Go.RowKit Go.Shelf Go.Lib
attribute [local go_sem] Oper.semAt_some

theorem cells_kept {W W' : World} {row : Option Nat} {b B : Nat} {c : Array Value} {t : TypeId} {f : Nat × Nat} (h : W.heap[b]? = some (.cells c t f)) (hg : W.grownBy W' row) (hr : ∀ r, row = some r → B ≤ r ∧ ∃ o : Obj, W.heap[r]? = some o ∧ o.isCells = false) : W'.heap[b]? = some (.cells c t f) := by
  refine (hg.block b (lt_of_block h) ?_).trans h
  intro e
  obtain ⟨-, o, ho, hc⟩ := hr b e.symm
  rw [h] at ho
  cases ho
  simp [Obj.isCells] at hc
theorem set_one {w : World} {b : Nat} {v x : Value} {t : TypeId} (h : w.heap[b]? = some (.cells #[v] t (0, 0))) : (w.setCell ⟨b, 0, none⟩ x).heap[b]? = some (.cells #[x] t (0, 0)) := by
  rw [heap_setCell_same w b 0 _ t x h]
  rfl
theorem KeepsFrom.of_kp {B : Nat} {A C : World} {rs : List Nat} (h : Kp A C rs) (hr : ∀ k ∈ rs, k < B) : KeepsFrom B A C := ⟨h.size, fun k o hk ho _ => (h.block k (lt_of_block ho) (fun hm => by have := hr k hm; omega)).trans ho⟩
theorem s2a {w : World} {r : Nat} {x a b : Value} {t : TypeId} (h : w.heap[r]? = some (.cells #[a, b] t (0, 0))) : (w.setCell ⟨r, 0, none⟩ x).heap[r]? = some (.cells #[x, b] t (0, 0)) := by
  rw [heap_setCell_same w r 0 _ t x h]
  rfl
theorem s2b {w : World} {r : Nat} {x a b : Value} {t : TypeId} (h : w.heap[r]? = some (.cells #[a, b] t (0, 0))) : (w.setCell ⟨r, 1, none⟩ x).heap[r]? = some (.cells #[a, x] t (0, 0)) := by
  rw [heap_setCell_same w r 1 _ t x h]
  rfl
/-- Under way: what was written is an old block. -/
def Tc (w W : World) (cb : Nat) (M : Cn) : Prop := Cc W cb M ∧ cb < w.heap.size ∧ Kp w W [cb]
theorem Tc.keep {w W W' : World} {cb : Nat} {M : Cn} {rs : List Nat} (h : Tc w W cb M) (hk : Kp W W' rs) (hr : ∀ k ∈ rs, w.heap.size ≤ k) : Tc w W' cb M :=
  ⟨Cw.keep h.1 hk (fun hm => by have := hr _ hm; have := h.2.1; omega), h.2.1, h.2.2.past hk (fun k hm hl => by have := hr k hm; omega)⟩
theorem Tc.grown {w W W' : World} {cb : Nat} {M : Cn} {row : Option Nat} {B : Nat} (h : Tc w W cb M) (hg : W.grownBy W' row) (hr : ∀ r, row = some r → B ≤ r ∧ ∃ o : Obj, W.heap[r]? = some o ∧ o.isCells = false) (hB : w.heap.size ≤ B) : Tc w W' cb M :=
  h.keep (Kp.ofGrown hg (rows := row.toList) (fun g e => by simp [e])) (fun k hk => by simp only [Option.mem_toList] at hk; have := (hr k hk).1; omega)
/-- The boxes of Pop. -/
structure B3 (W : World) (s : Nat) (p : Option Addr) (d : Int × Int) (c : Int) : Prop where
  b0 : W.heap[s]? = some (.cells #[.pointer p] 23 (0, 0))
  b1 : W.heap[s + 1]? = some (.cells #[.int .i64 d.1, .int .i64 d.2] 30 (0, 0))
  b2 : W.heap[s + 2]? = some (.cells #[.int .i64 c] 40 (0, 0))
theorem B3.kept {W W' : World} {s : Nat} {p : Option Addr} {d : Int × Int} {c : Int} {row : Option Nat} {B : Nat} (h : B3 W s p d c) (hg : W.grownBy W' row) (hr : ∀ r, row = some r → B ≤ r ∧ ∃ o : Obj, W.heap[r]? = some o ∧ o.isCells = false) : B3 W' s p d c :=
  ⟨cells_kept h.b0 hg hr, cells_kept h.b1 hg hr, cells_kept h.b2 hg hr⟩
theorem B3.keep {W W' : World} {s : Nat} {p : Option Addr} {d : Int × Int} {c : Int} {rs : List Nat} (h : B3 W s p d c) (hk : Kp W W' rs) (hr : ∀ k ∈ rs, k < s) : B3 W' s p d c := by
  have hn : ∀ j, s ≤ j → j ∉ rs := fun j hj hm => by have := hr j hm; omega
  exact ⟨(hk.block s (lt_of_block h.b0) (hn s (by omega))).trans h.b0, (hk.block _ (lt_of_block h.b1) (hn _ (by omega))).trans h.b1, (hk.block _ (lt_of_block h.b2) (hn _ (by omega))).trans h.b2⟩
theorem B3.set {W : World} {s : Nat} {p : Option Addr} {d : Int × Int} {c : Int} (h : B3 W s p d c) (d' : Int × Int) (c' : Int) : B3 (((W.setCell ⟨s + 1, 0, none⟩ (.int .i64 d'.1)).setCell ⟨s + 1, 1, none⟩ (.int .i64 d'.2)).setCell ⟨s + 2, 0, none⟩ (.int .i64 c')) s p d' c' := by
  have k1 := Kp.setCell W ⟨s + 1, 0, none⟩ (.int .i64 d'.1)
  have k2 := Kp.setCell (W.setCell ⟨s + 1, 0, none⟩ (.int .i64 d'.1)) ⟨s + 1, 1, none⟩ (.int .i64 d'.2)
  have k3 := Kp.setCell ((W.setCell ⟨s + 1, 0, none⟩ (.int .i64 d'.1)).setCell ⟨s + 1, 1, none⟩ (.int .i64 d'.2)) ⟨s + 2, 0, none⟩ (.int .i64 c')
  have e0 := ((k2.block s (by simpa using lt_of_block h.b0) (by simp)).trans (k1.block s (lt_of_block h.b0) (by simp))).trans h.b0
  have e1 := s2b (x := .int .i64 d'.2) (s2a (x := .int .i64 d'.1) h.b1)
  have e2 := ((k2.block _ (by simpa using lt_of_block h.b2) (by simp)).trans (k1.block _ (lt_of_block h.b2) (by simp))).trans h.b2
  exact ⟨(k3.block s (lt_of_block e0) (by simp)).trans e0, (k3.block _ (lt_of_block e1) (by simp)).trans e1, set_one e2⟩
theorem kp_set3 (W : World) (s : Nat) (x y z : Value) : Kp W (((W.setCell ⟨s + 1, 0, none⟩ x).setCell ⟨s + 1, 1, none⟩ y).setCell ⟨s + 2, 0, none⟩ z) [s + 1, s + 2] :=
  (((Kp.setCell W ⟨s + 1, 0, none⟩ x).mono (by simp)).trans ((Kp.setCell _ ⟨s + 1, 1, none⟩ y).mono (by simp))).trans ((Kp.setCell _ ⟨s + 2, 0, none⟩ z).mono (by simp))
theorem b3_new (w : World) (p : Option Addr) : B3 (((w.alloc (.cells #[.pointer p] 23)).alloc (.cells #[.int .i64 0, .int .i64 0] 30)).alloc (.cells #[.int .i64 0] 40)) w.heap.size p (0, 0) 0 ∧ Kp w (((w.alloc (.cells #[.pointer p] 23)).alloc (.cells #[.int .i64 0, .int .i64 0] 30)).alloc (.cells #[.int .i64 0] 40)) [] := by
  refine ⟨⟨?_, ?_, ?_⟩, ((Kp.alloc w _ []).trans (Kp.alloc _ _ [])).trans (Kp.alloc _ _ [])⟩
  · rw [Below.heap_alloc _ _ _ (by simp; omega), Below.heap_alloc _ _ _ (by simp)]; exact heap_alloc_new w _
  · rw [Below.heap_alloc _ _ _ (by simp)]
    have := heap_alloc_new (w.alloc (.cells #[.pointer p] 23)) (.cells #[.int .i64 0, .int .i64 0] 30)
    simpa using this
  · have := heap_alloc_new ((w.alloc (.cells #[.pointer p] 23)).alloc (.cells #[.int .i64 0, .int .i64 0] 30)) (.cells #[.int .i64 0] 40)
    simpa using this
theorem fin19 (w W : World) (s cb : Nat) (hs : w.heap.size = s) (M' : Cn) (x E : Nat) (d : Int × Int) (c : Int) (u4 u6 u7 u10 u11 u12 u13 u14 u15 u16 u17 u18 u19 u20 u21 u22 u23 u24 u25 u26 u27 u28 u29 u30 u31 u32 : Value) (h : B3 W s (some ⟨cb, 0, none⟩) d c) (hE : s + 3 ≤ E) (hK : W.heap[E]? = some (.deferred (some []))) (hT : Tc w W cb M') :
    bodyPostM Fence.wide 6 Try.prog Try.f19 (fun e w' => e = .returned (.tuple #[.agg #[.int .i64 d.1, .int .i64 d.2], .int .i64 c]) ∧ Cc w' cb M' ∧ Kp w w' [cb]) .ret { tmps := #[.pointer (some ⟨cb, 0, none⟩), .pointer (some ⟨s, 0, none⟩), .pointer (some ⟨s + 1, 0, none⟩), .pointer (some ⟨s + 2, 0, none⟩), u4, .pointer (some ⟨cb, 0, none⟩), u6, u7, .pointer (some ⟨cb, 0, none⟩), itc x, u10, u11, u12, u13, u14, u15, u16, u17, u18, u19, u20, u21, u22, u23, u24, u25, u26, u27, u28, u29, u30, u31, u32], defers := [{ target := .collected E, args := #[] }] } W := by
  refine ⟨by simp, .inl ⟨_, _, rfl, run_takeDeferred hK, ?_⟩⟩
  have c0 := cell_two0 ((World.putObj_heap_other (o := .deferred none) (show s + 1 ≠ E by omega)).trans h.b1)
  have c1 := cell_two1 ((World.putObj_heap_other (o := .deferred none) (show s + 1 ≠ E by omega)).trans h.b1)
  have c2 := cell_one ((World.putObj_heap_other (o := .deferred none) (show s + 2 ≠ E by omega)).trans h.b2)
  have hT2 := hT.keep (W' := W.putObj E (.deferred none)) (rs := [E]) ⟨rfl, rfl, rfl, by simp [World.putObj], fun k _ hn => World.putObj_heap_other (by simpa using hn)⟩ (by simp; omega)
  exact ⟨.tuple #[.agg #[.int .i64 d.1, .int .i64 d.2], .int .i64 c], by simp [results, go_sem, c0, c1, c2], rfl, hT2.1, hT2.2.2⟩
set_option maxRecDepth 100000 in
theorem pop_zero (w : World) (p : Option Addr) (h : Zc w p) : Calls Try.prog 19 #[.pointer p] w fun e w' => e = .returned (.tuple #[.agg #[.int .i64 0, .int .i64 0], .int .i64 1]) ∧ Kp w w' [] := by
  obtain ⟨s, hs⟩ : ∃ s, w.heap.size = s := ⟨_, rfl⟩
  obtain ⟨hbx, k0⟩ := b3_new w p
  obtain ⟨W0, hW0⟩ : ∃ W0, ((w.alloc (.cells #[.pointer p] 23)).alloc (.cells #[.int .i64 0, .int .i64 0] 30)).alloc (.cells #[.int .i64 0] 40) = W0 := ⟨_, rfl⟩
  rw [hW0] at hbx k0
  rw [hs] at hbx
  have HZ := hid (cz_yes W0 p (h.keep k0))
  have HB := hid (hbx.set (0, 0) 1)
  have HK := hid (show Kp w (((W0.setCell ⟨s + 1, 0, none⟩ (.int .i64 0)).setCell ⟨s + 1, 1, none⟩ (.int .i64 0)).setCell ⟨s + 2, 0, none⟩ (.int .i64 1)) [] from k0.past (kp_set3 W0 s _ _ _) (by simp; omega))
  have u0 := cell_one hbx.b0
  have u1 := cell_two0 hbx.b1
  have u2 := cell_two1 hbx.b1
  have u3 := cell_one hbx.b2
  have f0 := free_two hbx.b1
  have f3 := free_one hbx.b2
  clear h hbx k0
  go_enter Try.func19, Try.ntmps19
  go_wp2_with fail
  try simp only [Nat.add_assoc, Nat.reduceAdd]
  refine HZ.out.mono ?_
  rintro e w1 ⟨rfl, hw⟩; obtain rfl := hw.symm
  clear hw
  go_wp2_with fail
  have c0 := cell_two0 HB.out.b1
  have c1 := cell_two1 HB.out.b1
  have c2 := cell_one HB.out.b2
  simp only at c0 c1 c2
  refine bodyPost_ret (v := .tuple #[.agg #[.int .i64 0, .int .i64 0], .int .i64 1]) (by simp [results, go_sem, c0, c1, c2]) rfl ?_
  exact ⟨rfl, HK.out⟩
set_option maxRecDepth 100000 in
set_option maxHeartbeats 2000000 in
/-- Pop. -/
theorem pop_any {w : World} {cb : Nat} {M : Cn} (h : Cc w cb M) (hl : M.L.length ≤ 8) :
    Calls Try.prog 19 #[.pointer (some ⟨cb, 0, none⟩)] w fun e w' => e = .returned (.tuple #[.agg #[.int .i64 (popV M).1, .int .i64 (popV M).2], .int .i64 (popE M)]) ∧ Cc w' cb (popM M) ∧ Kp w w' [cb] := by
  have H := hid h
  have HL8 := hid hl
  have HQ := hid (show Tc w w cb M from ⟨h, h.cw.lt, Kp.refl _ _⟩)
  have HS := hid (fun W x (hI : Itc W x M.L.reverse) => itc_seqs 5 (by decide) x M.L.reverse W hI)
  clear h hl
  refine (callsIn_wide (n := 6)).1 ?_
  have h1 : 1 ≤ 6 := by decide
  refine callsIn_of_wp_marks Try.func19 rfl trivial ?_ rfl
  simp only [Try.ntmps19, List.size_toArray, List.length_cons, List.length_nil, Nat.reduceAdd, Nat.reduceSub, Array.replicate_succ, Array.replicate_zero, List.push_toArray, List.append_toArray, List.nil_append, List.cons_append]
  refine wpIn_wide.2 ?_
  go_wp2_with fail
  obtain ⟨s, hs⟩ : ∃ s, w.heap.size = s := ⟨_, rfl⟩
  obtain ⟨hbx, k0⟩ := b3_new w (some ⟨cb, 0, none⟩)
  obtain ⟨W0, hW0⟩ : ∃ W0, ((w.alloc (.cells #[.pointer (some ⟨cb, 0, none⟩)] 23)).alloc (.cells #[.int .i64 0, .int .i64 0] 30)).alloc (.cells #[.int .i64 0] 40) = W0 := ⟨_, rfl⟩
  have hsz : W0.heap.size = s + 3 := by rw [← hW0]; simp [hs]
  rw [hW0] at hbx k0
  rw [hs] at hbx
  simp only [hW0, hs, Nat.add_assoc, Nat.reduceAdd] 
  have HBX := hid hbx
  have K0 := hid k0
  have HSS := hid hs
  clear hW0 hbx k0
  refine (cz_no (H.out.same K0.out).cw).mono ?_
  rintro e w1 ⟨rfl, hw⟩; obtain rfl := hw.symm
  clear hw
  have u0 := cell_one HBX.out.b0
  go_wp2_with fail
  clear u0
  refine (all_any W0 _).mono ?_
  rintro e w1 ⟨rfl, hw1⟩
  have HI := hid (show Itc w1 W0.heap.size M.L.reverse by rw [hw1]; exact Itc.new (H.out.same K0.out).cv HL8.out)
  have HK := hid (show Kp W0 w1 [] by rw [hw1]; exact Kp.alloc _ _ _)
  clear hw1
  obtain ⟨x, hx⟩ : ∃ x, W0.heap.size = x := ⟨_, rfl⟩
  rw [hx] at HI hsz ⊢
  have HXX := hid (And.intro hx hsz)
  clear hx hsz
  go_wp2_with fail
  have hs1 : s + 3 ≤ w1.heap.size := by have := HK.out.size; have := HXX.out; have := HXX.out.2; omega
  have HB1 := hid (HBX.out.keep HK.out (by simp))
  have HW1 := hid (HQ.out.keep (K0.out.trans HK.out) (by simp))
  refine (wpIn_wide (n := 6)).1 ?_
  refine range_seqs (K := KcS w1.heap.size) h1 (gf := 44) (lb := #[.pointer (some ⟨x, 0, none⟩)]) rfl (enters_of Try.func44 (by kernel_rfl) rfl)
    (HS.out w1 x HI.out) KcS.trans (kcS_put _) (kcS_alloc _) (Below.refl _ _) (fun _ => rfl)
    (fun pre W => (pre = [] ∧ B3 W s (some ⟨cb, 0, none⟩) (0, 0) 0) ∧ Tc w W cb M)
    (fun cc pre W => (cc = .ret ∧ ∃ d : Int × Int, pre = [d] ∧ B3 W s (some ⟨cb, 0, none⟩) d 0) ∧ Tc w W cb (popM M))
    (OwnFrom.and (fun s A B row hs hg hr => ⟨hs.1, hs.2.kept hg hr⟩) (fun s A B row hs hg hr => hs.grown hg hr (by have := HSS.out; omega)))
    (fun cc => OwnFrom.and (fun s A B row hs hg hr => ⟨hs.1, hs.2.choose, hs.2.choose_spec.1, hs.2.choose_spec.2.kept hg hr⟩) (fun s A B row hs hg hr => hs.grown hg hr (by have := HSS.out; omega)))
    ⟨⟨rfl, HB1.out⟩, HW1.out⟩
    (fun d => .cells #[.int .i64 d.1, .int .i64 d.2] 30)
    (fun d b => { tmps := #[.pointer (some ⟨cb, 0, none⟩), .pointer (some ⟨s, 0, none⟩), .pointer (some ⟨s + 1, 0, none⟩), .pointer (some ⟨s + 2, 0, none⟩), .pointer (some ⟨b, 0, none⟩), .pointer (some ⟨cb, 0, none⟩), .bool false, undef, .pointer (some ⟨cb, 0, none⟩), itc x, .agg #[.int .i64 d.1, .int .i64 d.2], undef, undef, undef, undef, undef, undef, undef, undef, undef, undef, undef, undef, undef, undef, undef, undef, undef, undef, undef, undef, undef, undef], defers := [] })
    ?assign ?body ?done ?stop
  case assign =>
    intro l d W K _ hK
    have HK := hid hK
    clear hK
    simp only [encV]
    gi_wp2
    exact HK.out
  case body =>
    rintro l pre d b W hpre hbb ⟨⟨rfl, hb⟩, hT⟩ hob
    obtain ⟨tl, htl⟩ := hpre
    have htl : d :: tl = M.L.reverse := by simpa using htl
    have hML : M.L = tl.reverse ++ [d] := by
      have := congrArg List.reverse htl
      simpa using this.symm
    have hpm : popM M = { M with L := tl.reverse } := by unfold popM; rw [hML, List.dropLast_concat]
    obtain ⟨m, hm⟩ : ∃ m, tl.length = m := ⟨_, rfl⟩
    have hlen : M.L.length = m + 1 := by rw [hML]; simp [hm]
    have hm8 : m < 8 := by have := HL8.out; omega
    have hmI : (m : Int) < 8 := by omega
    have hm0 : (0 : Int) ≤ (m : Int) := by omega
    have hcc := hT.1
    unfold Cc at hcc
    rw [hlen] at hcc
    have c5 := hcc.c5
    rw [show ((m + 1 : Nat) : Int) = (m : Int) + 1 by omega] at c5
    have f5 := hcc.free 5
    have u0 := cell_one hb.b0
    have hwr : IntKind.i64.wrap ((m : Int) + 1 - 1) = (m : Int) := by rw [show (m : Int) + 1 - 1 = (m : Int) by omega]; exact IntWalk.i64_in _ ⟨by omega, by omega⟩
    have hwr2 : IntKind.i64.wrap (m : Int) = (m : Int) := IntWalk.i64_in _ ⟨by omega, by omega⟩
    have HB := hid hb
    have HOB := hid hob
    have HT := hid hT
    have HC := hid hcc
    have HP := hid (And.intro hML (And.intro hpm (And.intro hm hlen)))
    clear hb hob hT hcc htl hML hpm hm hlen
    gi_wp2
    have hc1 := HC.out.s5 m
    have hk1 := Kp.setCell W ⟨cb, 5, none⟩ (.int .i64 (m : Nat))
    obtain ⟨W1, hW1⟩ : ∃ W1, W.setCell ⟨cb, 5, none⟩ (.int .i64 (m : Nat)) = W1 := ⟨_, rfl⟩
    rw [hW1] at hc1 hk1
    try simp only [hW1]
    have hcs : cb < s := by have := HT.out.2.1; have := HSS.out; omega
    have hb1 := HB.out.keep hk1 (by simpa using hcs)
    have ho1 := (hk1.block b (lt_of_block HOB.out) (by simp; omega)).trans HOB.out
    have HC1 := hid hc1
    have HK1 := hid hk1
    have HB1' := hid hb1
    have HO1 := hid ho1
    have HCS := hid hcs
    have u0 := cell_one hb1.b0
    have c5 := hc1.c5
    have p0 := hc1.p0 hm8
    have p1 := hc1.p1 hm8
    have fr := hc1.free
    clear f5 hW1 hc1 hk1 hb1 ho1 HC HB HOB hwr hwr2
    have hmx : Try.prog.follows .mixedOrders = true := by kernel_rfl
    have D0 := hid (show (fun W : World => W.cell? ⟨s, 0, none⟩ = some (.pointer (some ⟨cb, 0, none⟩)) ∧ W.cell? ⟨cb, 5, none⟩ = some (.int .i64 (m : Nat))) W1.drew from ⟨u0, c5⟩)
    have D1 := hid (show (fun W : World => W.cell? ⟨s, 0, none⟩ = some (.pointer (some ⟨cb, 0, none⟩)) ∧ W.cell? ⟨cb, 5, none⟩ = some (.int .i64 (m : Nat))) ((W1.drew.setCell ⟨cb, 6 + m * 2, none⟩ (.int .i64 0)).setCell ⟨cb, 6 + m * 2 + 1, none⟩ (.int .i64 0)) from by
      have h9 := (HC1.out.keep (Kp.drew W1 []) (by simp)).put (x := (0, 0)) (L := tl.reverse) hm8 (fun j hj => by
        have h9 := HP.out.1
        have h8 := HP.out.2.2.1
        rw [h9, atL_append, List.length_reverse, h8]
        by_cases e : j = m
        · rw [if_pos e, atL_out (by simp; omega)]
        · rw [if_neg e, if_neg e])
      have hk9 : Kp W1 ((W1.drew.setCell ⟨cb, 6 + m * 2, none⟩ (.int .i64 0)).setCell ⟨cb, 6 + m * 2 + 1, none⟩ (.int .i64 0)) [cb] := ((Kp.drew W1 [cb]).trans (Kp.setCell _ ⟨cb, 6 + m * 2, none⟩ _)).trans (Kp.setCell _ ⟨cb, 6 + m * 2 + 1, none⟩ _)
      exact ⟨hk9.cell u0 (by simp; omega), h9.c5⟩)
    refine Code.wpIn_mono (Q := fun e a' w' => e = .normal ∧ a' = { tmps := #[.pointer (some ⟨cb, 0, none⟩), .pointer (some ⟨s, 0, none⟩), .pointer (some ⟨s + 1, 0, none⟩), .pointer (some ⟨s + 2, 0, none⟩), .pointer (some ⟨b, 0, none⟩), .pointer (some ⟨cb, 0, none⟩), .bool false, undef, .pointer (some ⟨cb, 0, none⟩), itc x, .agg #[.int .i64 d.1, .int .i64 d.2], .pointer (some ⟨cb, 0, none⟩), .pointer (some ⟨cb, 0, none⟩), .pointer (some ⟨cb, 5, none⟩), .pointer (some ⟨cb, 5, none⟩), .int .i64 ((m : Nat) + 1), .int .i64 (m : Nat), .pointer (some ⟨cb, 0, none⟩), .pointer (some ⟨cb, 5, none⟩), .pointer (some ⟨cb, 5, none⟩), .pointer (some ⟨cb, 0, none⟩), .pointer (some ⟨cb, 0, none⟩), .pointer (some ⟨cb, 0, none⟩), .pointer (some ⟨cb, 5, none⟩), .pointer (some ⟨cb, 5, none⟩), .int .i64 (m : Nat), .agg #[.int .i64 0, .int .i64 0], .pointer (some ⟨cb, 0, none⟩), .pointer (some ⟨cb, 5, none⟩), .pointer (some ⟨cb, 6, none⟩), .pointer (some ⟨cb, 6 + m * 2, none⟩), undef, undef], defers := [] } ∧ w' = (W1.drew.setCell ⟨cb, 6 + m * 2, none⟩ (.int .i64 0)).setCell ⟨cb, 6 + m * 2 + 1, none⟩ (.int .i64 0)) ?_ ?_
    rotate_left
    · refine region_round (S := fun W : World => W.cell? ⟨s, 0, none⟩ = some (.pointer (some ⟨cb, 0, none⟩)) ∧ W.cell? ⟨cb, 5, none⟩ = some (.int .i64 (m : Nat))) l _ hmx (noDefer_spec (by kernel_rfl)) (fun ⟨_, _, h⟩ => by cases h.1) ?_
      have hHeld := D0.out
      refine wpAnyH_take (i := 0) (v := .pointer (some ⟨cb, 0, none⟩)) rfl (by kernel_rfl) (by kernel_rfl) (by kernel_rfl) (fun _ _ _ h => by cases h.1) (Or.inl ⟨by kernel_rfl, by intro w hSw; obtain ⟨s0, s1⟩ := hSw; go_simp⟩) hHeld ?_
      refine wpAnyH_take (i := 1) (v := .pointer (some ⟨cb, 0, none⟩)) rfl (by kernel_rfl) (by kernel_rfl) (by kernel_rfl) (fun _ _ _ h => by cases h.1) (Or.inl ⟨by kernel_rfl, by intro w hSw; obtain ⟨s0, s1⟩ := hSw; go_simp⟩) hHeld ?_
      refine wpAnyH_take (i := 2) (v := .pointer (some ⟨cb, 0, none⟩)) rfl (by kernel_rfl) (by kernel_rfl) (by kernel_rfl) (fun _ _ _ h => by cases h.1) (Or.inl ⟨by kernel_rfl, fun w _ => by kernel_rfl⟩) hHeld ?_
      refine wpAnyH_take (i := 3) (v := .pointer (some ⟨cb, 5, none⟩)) rfl (by kernel_rfl) (by kernel_rfl) (by kernel_rfl) (fun _ _ _ h => by cases h.1) (Or.inl ⟨by kernel_rfl, fun w _ => by kernel_rfl⟩) hHeld ?_
      refine wpAnyH_take (i := 4) (v := .pointer (some ⟨cb, 5, none⟩)) rfl (by kernel_rfl) (by kernel_rfl) (by kernel_rfl) (fun _ _ _ h => by cases h.1) (Or.inl ⟨by kernel_rfl, fun w _ => by kernel_rfl⟩) hHeld ?_
      refine wpAnyH_take (i := 5) (v := .int .i64 (m : Nat)) rfl (by kernel_rfl) (by kernel_rfl) (by kernel_rfl) (fun _ _ _ h => by cases h.1) (Or.inl ⟨by kernel_rfl, by intro w hSw; obtain ⟨s0, s1⟩ := hSw; go_simp⟩) hHeld ?_
      refine wpAnyH_take (i := 6) (v := .agg #[.int .i64 0, .int .i64 0]) rfl (by kernel_rfl) (by kernel_rfl) (by kernel_rfl) (fun _ _ _ h => by cases h.1) (Or.inl ⟨by kernel_rfl, fun w _ => by kernel_rfl⟩) hHeld ?_
      refine wpAnyH_take (i := 7) (v := .pointer (some ⟨cb, 0, none⟩)) rfl (by kernel_rfl) (by kernel_rfl) (by kernel_rfl) (fun _ _ _ h => by cases h.1) (Or.inl ⟨by kernel_rfl, fun w _ => by kernel_rfl⟩) hHeld ?_
      refine wpAnyH_take (i := 8) (v := .pointer (some ⟨cb, 5, none⟩)) rfl (by kernel_rfl) (by kernel_rfl) (by kernel_rfl) (fun _ _ _ h => by cases h.1) (Or.inl ⟨by kernel_rfl, fun w _ => by kernel_rfl⟩) hHeld ?_
      refine wpAnyH_take (i := 9) (v := .pointer (some ⟨cb, 6, none⟩)) rfl (by kernel_rfl) (by kernel_rfl) (by kernel_rfl) (fun _ _ _ h => by cases h.1) (Or.inl ⟨by kernel_rfl, fun w _ => by kernel_rfl⟩) hHeld ?_
      refine wpAnyH_take (i := 10) (v := .pointer (some ⟨cb, 6 + m * 2, none⟩)) rfl (by kernel_rfl) (by kernel_rfl) (by kernel_rfl) (fun _ _ _ h => by cases h.1) (Or.inl ⟨by kernel_rfl, fun w _ => by go_simp⟩) hHeld ?_
      refine wpAnyH_ready (rs := [11]) (by kernel_rfl) (by simp) ?_
      refine AllReadyH.cons rfl (fun K hK => ?_) AllReadyH.nil
      go_simp
      refine hK.out _ _ (D1.out) (fun hHeld => ?_)
      refine wpAnyH_done (by kernel_rfl) ?_ _
      exact ⟨rfl, by kernel_rfl, rfl⟩
    rintro e a' V2 ⟨rfl, rfl, rfl⟩
    have hc2 := (HC1.out.keep (Kp.drew W1 []) (by simp)).put (x := (0, 0)) (L := tl.reverse) hm8 (fun j hj => by
      have h9 := HP.out.1
      have h8 := HP.out.2.2.1
      rw [h9, atL_append, List.length_reverse, h8]
      by_cases e : j = m
      · rw [if_pos e, atL_out (by simp; omega)]
      · rw [if_neg e, if_neg e])
    obtain ⟨W2, hW2⟩ : ∃ W2, (W1.drew.setCell ⟨cb, 6 + m * 2, none⟩ (.int .i64 0)).setCell ⟨cb, 6 + m * 2 + 1, none⟩ (.int .i64 0) = W2 := ⟨_, rfl⟩
    have hk2 : Kp W1 W2 [cb] := by rw [← hW2]; exact ((Kp.drew W1 [cb]).trans (Kp.setCell _ ⟨cb, 6 + m * 2, none⟩ _)).trans (Kp.setCell _ ⟨cb, 6 + m * 2 + 1, none⟩ _)
    simp only [hW2] at hc2
    try simp only [hW2]
    have hb2 := HB1'.out.keep hk2 (by simpa using HCS.out)
    have ho2 := (hk2.block b (lt_of_block HO1.out) (by simp; have := HCS.out; omega)).trans HO1.out
    have hkk := HK1.out.trans hk2
    have HT2 := hid (show Tc w W2 cb (popM M) from ⟨by
      rw [HP.out.2.1]
      unfold Cc
      simp only [List.length_reverse, HP.out.2.2.1]
      exact hc2, HT.out.2.1, HT.out.2.2.trans hkk⟩)
    have v0 := cell_two0 ho2
    have v1 := cell_two1 ho2
    have u1 := cell_two0 hb2.b1
    have u2 := cell_two1 hb2.b1
    have u3 := cell_one hb2.b2
    have f1 := free_two hb2.b1
    have f3 := free_one hb2.b2
    have HB2 := hid hb2
    have HKK := hid hkk
    clear u0 c5 p0 p1 fr hc2 hW2 hk2 hb2 ho2 hkk HC1 HK1 HB1' HO1
    gi_wp2
    refine ⟨KeepsFrom.of_kp ((HKK.out.mono (r2 := [cb, s + 1, s + 2]) (by simp)).trans ((kp_set3 W2 s (.int .i64 d.1) (.int .i64 d.2) (.int .i64 0)).mono (by simp))) (fun k hk => ?_), ⟨rfl, d.1, d.2, rfl, HB2.out.set d 0⟩, HT2.out.keep (kp_set3 W2 s (.int .i64 d.1) (.int .i64 d.2) (.int .i64 0)) (by simp; have := HSS.out; omega)⟩
    simp at hk
    have := HCS.out
    omega
  case done =>
    rintro E W hE ⟨⟨hz, hb⟩, hT⟩ hK
    have hz' : M.L = [] := by simpa using hz
    have u1 := cell_two0 hb.b1
    have u2 := cell_two1 hb.b1
    have u3 := cell_one hb.b2
    have f0 := free_two hb.b1
    have f3 := free_one hb.b2
    have HB := hid (hb.set (0, 0) 6)
    have hT2 := hT.keep (kp_set3 W s (.int .i64 0) (.int .i64 0) (.int .i64 6)) (by simp; have := HSS.out; omega)
    have HEQ := hid (show popM M = M ∧ popV M = (0, 0) ∧ popE M = 6 by
      unfold popM popV popE
      obtain ⟨a, e, o, u, L⟩ := M
      simp only at hz'
      subst hz'
      exact ⟨rfl, rfl, rfl⟩)
    have HT := hid hT2
    have HK := hid (((kp_set3 W s (.int .i64 0) (.int .i64 0) (.int .i64 6)).block E (lt_of_block hK) (by simp; omega)).trans hK)
    clear hK hb hT hz hz' hT2
    gi_wp2
    go_wp2
    rw [HEQ.out.1, HEQ.out.2.1, HEQ.out.2.2]
    exact fin19 w _ s cb HSS.out _ x E (0, 0) 6 _ _ _ _ _ _ _ _ _ _ _ _ _ _ _ _ _ _ _ _ _ _ _ _ _ _ HB.out (by omega) HK.out HT.out
  case stop =>
    rintro E cc pre W hE hpre ⟨⟨rfl, d, rfl, hb⟩, hT⟩ hK
    have HB := hid hb
    have HL := hid hT
    have HK := hid hK
    obtain ⟨t, ht⟩ := hpre
    have HEQ := hid (show popV M = d ∧ popE M = 0 by
      have ht : d :: t = M.L.reverse := by simpa using ht
      have hML : M.L = t.reverse ++ [d] := by
        have := congrArg List.reverse ht
        simpa using this.symm
      unfold popV popE
      rw [hML]
      simp)
    clear hK hb hT ht
    gi_wp2
    rw [HEQ.out.1, HEQ.out.2]
    exact fin19 w W s cb HSS.out _ x E d 0 _ _ _ _ _ _ _ _ _ _ _ _ _ _ _ _ _ _ _ _ _ _ _ _ _ _ HB.out (by omega) HK.out HL.out
end Go.Proofs.Ytjggpchjfglgcaa
