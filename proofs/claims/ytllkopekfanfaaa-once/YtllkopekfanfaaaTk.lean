/- take: the first message goes. -/
import Derived.BigQuiet
import Derived.Stop.RegionWithIn
import Derived.Test.YtllkopekfanfaaaPu
namespace Go.Proofs.Ytllkopekfanfaaa
open Go.RowKit Go.Shelf Go.Lib Go.Sort Go.Maps
attribute [local go_sem] Oper.semAt_some

variable {w w' : World} {qb mb a b : Nat} {V : Value} {Ra Rb R : List Nat} {M : Qs}
/-- The messages have changed, and are stored: in their place. -/
theorem msgs_qi {V' : Value} {L' : Ml} (h : Qi w qb mb a b V Ra Rb M) (hk : Kp w w' V.ownBlock.toList) (hm : Mr w' 0 V' L') (hv : V'.ownBlock = V.ownBlock) (hl : (L'.length : Int) ≤ M.n) : Qi (w'.setCell ⟨qb, 1, none⟩ V') qb mb a b V' Ra Rb { M with L := L' } ∧ Kp w (w'.setCell ⟨qb, 1, none⟩ V') (qrows qb mb V Ra Rb) := by
  have hq := h.offq
  have hlt := h.lt
  have hs := Kp.setCell w' ⟨qb, 1, none⟩ V'
  have hoff : ∀ k ∈ mb :: (Ra ++ Rb), k ∉ V.ownBlock.toList := fun k hm hv => by
    simp only [Option.mem_toList] at hv
    have := h.offv hv
    simp only [List.mem_cons, List.mem_append] at hm
    rcases hm with e | hm | hm
    · exact this.1 e
    · exact this.2.1 hm
    · exact this.2.2 hm
  have hb : w'.heap[qb]? = some (.cells (qcells M.n V mb a b) 64 (0, 0)) := (hk.block qb (hlt qb (by simp)) (by simp only [Option.mem_toList]; exact fun hv => hq.2.2.2 qb hv rfl)).trans h.hh
  have hqa : ∀ k ∈ mb :: (Ra ++ Rb), k ∉ [qb] := fun k hm e => by
    simp only [List.mem_singleton] at e
    subst e
    simp only [List.mem_cons, List.mem_append] at hm
    rcases hm with e | hm | hm
    · exact hq.1 e
    · exact hq.2.1 hm
    · exact hq.2.2.1 hm
  have hvq : ∀ g, V'.ownBlock = some g → g ≠ qb := fun g hg => hq.2.2.2 g (hv ▸ hg)
  refine ⟨⟨set_five1 hb, hm.kp hs (fun g hg e => by simp only [List.mem_singleton] at e; exact hvq g hg e),
    (h.mp.keep hk (hoff mb (by simp))).keep hs (hqa mb (by simp)), (h.wa.keep hk (fun k hm => hoff k (by simp [hm]))).keep hs (fun k hm => hqa k (by simp [hm])), (h.wb.keep hk (fun k hm => hoff k (by simp [hm]))).keep hs (fun k hm => hqa k (by simp [hm])),
    h.na, h.nb, h.ap, h.lo, h.hi, hl⟩, ?_⟩
  refine (hk.mono (fun k hm _ => by simp only [List.mem_cons, List.mem_append]; exact .inr (.inr (.inl hm)))).trans (hs.mono (fun k hm _ => ?_))
  simp only [List.mem_singleton] at hm
  simp [hm]
theorem KeepsFrom.of_kp {B : Nat} {A C : World} {rs : List Nat} (h : Kp A C rs) (hr : ∀ k ∈ rs, k < B) : KeepsFrom B A C := ⟨h.size, fun k o hk ho _ => (h.block k (lt_of_block ho) (fun hm => by have := hr k hm; omega)).trans ho⟩
/-- A queue under way: its blocks are old ones. -/
def Tq (w W : World) (qb : Nat) (R : List Nat) (M : Qs) : Prop := ∃ R', Qc W qb R' M ∧ (∀ k ∈ R', k ∈ R) ∧ (∀ k ∈ R, k < w.heap.size) ∧ Kp w W R
theorem Tq.keep {W W' : World} {rs : List Nat} (h : Tq w W qb R M) (hk : Kp W W' rs) (hr : ∀ k ∈ rs, w.heap.size ≤ k) : Tq w W' qb R M := by
  obtain ⟨R', h1, h2, h3, h4⟩ := h
  refine ⟨R', h1.keep hk (fun k hm hx => ?_), h2, h3, h4.past hk (fun k hm hl => ?_)⟩
  · have := h3 k (h2 k hm)
    have := hr k hx
    omega
  · have := hr k hm
    omega
theorem Tq.to {W : World} (h : Tq w W qb R M) : To w W qb R M := by
  obtain ⟨R', h1, h2, h3, h4⟩ := h
  exact ⟨R', h1, fun k hk => .inl (h2 k hk), h4⟩
theorem Tq.grown {W W' : World} {row : Option Nat} {B : Nat} (h : Tq w W qb R M) (hg : W.grownBy W' row) (hr : ∀ r, row = some r → B ≤ r ∧ ∃ o : Obj, W.heap[r]? = some o ∧ o.isCells = false) (hB : w.heap.size ≤ B) : Tq w W' qb R M :=
  h.keep (Kp.ofGrown hg (rows := row.toList) (fun g e => by simp [e])) (fun k hk => by simp only [Option.mem_toList] at hk; have := (hr k hk).1; omega)
theorem s2a {w : World} {r : Nat} {x a b : Value} {t : TypeId} (h : w.heap[r]? = some (.cells #[a, b] t (0, 0))) : (w.setCell ⟨r, 0, none⟩ x).heap[r]? = some (.cells #[x, b] t (0, 0)) := by
  rw [heap_setCell_same w r 0 _ t x h]
  rfl
theorem s2b {w : World} {r : Nat} {x a b : Value} {t : TypeId} (h : w.heap[r]? = some (.cells #[a, b] t (0, 0))) : (w.setCell ⟨r, 1, none⟩ x).heap[r]? = some (.cells #[a, x] t (0, 0)) := by
  rw [heap_setCell_same w r 1 _ t x h]
  rfl
/-- The boxes of take. -/
structure B3 (W : World) (s : Nat) (p : Option Addr) (d : Int × Int) (c : Bool) : Prop where
  b0 : W.heap[s]? = some (.cells #[.pointer p] 23 (0, 0))
  b1 : W.heap[s + 1]? = some (.cells #[.int .i64 d.1, .int .i64 d.2] 34 (0, 0))
  b2 : W.heap[s + 2]? = some (.cells #[.bool c] 4 (0, 0))
theorem B3.kept {W W' : World} {s : Nat} {p : Option Addr} {d : Int × Int} {c : Bool} {row : Option Nat} {B : Nat} (h : B3 W s p d c) (hg : W.grownBy W' row) (hr : ∀ r, row = some r → B ≤ r ∧ ∃ o : Obj, W.heap[r]? = some o ∧ o.isCells = false) : B3 W' s p d c :=
  ⟨cells_kept h.b0 hg hr, cells_kept h.b1 hg hr, cells_kept h.b2 hg hr⟩
theorem B3.keep {W W' : World} {s : Nat} {p : Option Addr} {d : Int × Int} {c : Bool} {rs : List Nat} (h : B3 W s p d c) (hk : Kp W W' rs) (hr : ∀ k ∈ rs, k < s) : B3 W' s p d c := by
  have hn : ∀ j, s ≤ j → j ∉ rs := fun j hj hm => by have := hr j hm; omega
  exact ⟨(hk.block s (lt_of_block h.b0) (hn s (by omega))).trans h.b0, (hk.block _ (lt_of_block h.b1) (hn _ (by omega))).trans h.b1, (hk.block _ (lt_of_block h.b2) (hn _ (by omega))).trans h.b2⟩
theorem B3.set {W : World} {s : Nat} {p : Option Addr} {d : Int × Int} {c : Bool} (h : B3 W s p d c) (d' : Int × Int) (c' : Bool) : B3 (((W.setCell ⟨s + 1, 0, none⟩ (.int .i64 d'.1)).setCell ⟨s + 1, 1, none⟩ (.int .i64 d'.2)).setCell ⟨s + 2, 0, none⟩ (.bool c')) s p d' c' := by
  have k1 := Kp.setCell W ⟨s + 1, 0, none⟩ (.int .i64 d'.1)
  have k2 := Kp.setCell (W.setCell ⟨s + 1, 0, none⟩ (.int .i64 d'.1)) ⟨s + 1, 1, none⟩ (.int .i64 d'.2)
  have k3 := Kp.setCell ((W.setCell ⟨s + 1, 0, none⟩ (.int .i64 d'.1)).setCell ⟨s + 1, 1, none⟩ (.int .i64 d'.2)) ⟨s + 2, 0, none⟩ (.bool c')
  have e0 := ((k2.block s (by simpa using lt_of_block h.b0) (by simp)).trans (k1.block s (lt_of_block h.b0) (by simp))).trans h.b0
  have e1 := s2b (x := .int .i64 d'.2) (s2a (x := .int .i64 d'.1) h.b1)
  have e2 := ((k2.block _ (by simpa using lt_of_block h.b2) (by simp)).trans (k1.block _ (lt_of_block h.b2) (by simp))).trans h.b2
  exact ⟨(k3.block s (lt_of_block e0) (by simp)).trans e0, (k3.block _ (lt_of_block e1) (by simp)).trans e1, set_one e2⟩
theorem kp_set3 (W : World) (s : Nat) (x y z : Value) : Kp W (((W.setCell ⟨s + 1, 0, none⟩ x).setCell ⟨s + 1, 1, none⟩ y).setCell ⟨s + 2, 0, none⟩ z) [s + 1, s + 2] :=
  (((Kp.setCell W ⟨s + 1, 0, none⟩ x).mono (by simp)).trans ((Kp.setCell _ ⟨s + 1, 1, none⟩ y).mono (by simp))).trans ((Kp.setCell _ ⟨s + 2, 0, none⟩ z).mono (by simp))
theorem fin50 (w W : World) (s qb : Nat) (hs : w.heap.size = s) (R : List Nat) (M' : Qs) (x E : Nat) (d : Int × Int) (c : Bool) (u4 u7 u8 u9 u10 u11 u12 u13 u14 u15 u16 u17 : Value) (h : B3 W s (some ⟨qb, 0, none⟩) d c) (hE : s + 3 ≤ E) (hK : W.heap[E]? = some (.deferred (some []))) (hT : Tq w W qb R M') :
    bodyPostM Fence.wide 6 Try.prog Try.f50 (fun e w' => e = .returned (.tuple #[mv d, .bool c]) ∧ To w w' qb R M') .ret { tmps := #[.pointer (some ⟨qb, 0, none⟩), .pointer (some ⟨s, 0, none⟩), .pointer (some ⟨s + 1, 0, none⟩), .pointer (some ⟨s + 2, 0, none⟩), u4, .pointer (some ⟨qb, 0, none⟩), itm x, u7, u8, u9, u10, u11, u12, u13, u14, u15, u16, u17], defers := [{ target := .collected E, args := #[] }] } W := by
  refine ⟨by simp, .inl ⟨_, _, rfl, run_takeDeferred hK, ?_⟩⟩
  have c0 := cell_two0 ((World.putObj_heap_other (o := .deferred none) (show s + 1 ≠ E by omega)).trans h.b1)
  have c1 := cell_two1 ((World.putObj_heap_other (o := .deferred none) (show s + 1 ≠ E by omega)).trans h.b1)
  have c2 := cell_one ((World.putObj_heap_other (o := .deferred none) (show s + 2 ≠ E by omega)).trans h.b2)
  refine ⟨.tuple #[mv d, .bool c], by simp [results, go_sem, c0, c1, c2, mv], rfl, (hT.keep (rs := [E]) ?_ (by simp; omega)).to⟩
  exact ⟨rfl, rfl, rfl, by simp [World.putObj], fun k _ hn => World.putObj_heap_other (by simpa using hn)⟩
theorem tail_nil {M : Qs} (h : M.L = []) : ({ M with L := M.L.tail } : Qs) = M := by
  obtain ⟨n, L, f, s, r⟩ := M
  simp only at h
  subst h
  rfl
theorem cell5 {w : World} {r : Nat} {a b c d e : Value} {t : TypeId} (h : w.heap[r]? = some (.cells #[a, b, c, d, e] t (0, 0))) : w.cell? ⟨r, 1, none⟩ = some b := by simp [World.cell?, h]
theorem free5 {w : World} {r : Nat} {a b c d e : Value} {t : TypeId} (h : w.heap[r]? = some (.cells #[a, b, c, d, e] t (0, 0))) : w.frozen? ⟨r, 1, none⟩ = false := by simp [World.frozen?, h]
set_option maxRecDepth 100000 in
set_option maxHeartbeats 2000000 in
/-- take. -/
theorem take_qany (w : World) (qb : Nat) (R : List Nat) (M : Qs) (h : Qc w qb R M) :
    Calls Try.prog 50 #[.pointer (some ⟨qb, 0, none⟩)] w fun e w' => e = .returned (.tuple #[mv (M.L.headD (0, 0)), .bool (!M.L.isEmpty)]) ∧ To w w' qb R { M with L := M.L.tail } := by
  have H := hid h
  have HQ := hid (show Tq w w qb R M from ⟨R, h, fun _ h => h, h.lt, Kp.refl _ _⟩)
  have HM := hid (show ∀ W, Qc W qb R M → Qv W (some ⟨qb, 0, none⟩) M.L from fun W h => .inl ⟨qb, R, M, rfl, h, rfl⟩)
  have HS := hid (fun W x (hI : Itq W x M.L) => itM_seqs 5 (by decide) x M.L W hI)
  clear h
  refine (callsIn_wide (n := 6)).1 ?_
  have h1 : 1 ≤ 6 := by decide
  refine callsIn_of_wp_marks Try.func50 rfl trivial ?_ rfl
  simp only [Try.ntmps50, List.size_toArray, List.length_cons, List.length_nil, Nat.reduceAdd, Nat.reduceSub, Array.replicate_succ, Array.replicate_zero, List.push_toArray, List.append_toArray, List.nil_append, List.cons_append]
  refine wpIn_wide.2 ?_
  go_wp2_with fail
  obtain ⟨s, hs⟩ : ∃ s, w.heap.size = s := ⟨_, rfl⟩
  have k0 := ((Kp.alloc w (.cells #[.pointer (some ⟨qb, 0, none⟩)] 23) []).trans (Kp.alloc _ (.cells #[.int .i64 0, .int .i64 0] 34) [])).trans (Kp.alloc _ (.cells #[.bool false] 4) [])
  obtain ⟨W0, hW0⟩ : ∃ W0, ((w.alloc (.cells #[.pointer (some ⟨qb, 0, none⟩)] 23)).alloc (.cells #[.int .i64 0, .int .i64 0] 34)).alloc (.cells #[.bool false] 4) = W0 := ⟨_, rfl⟩
  have hsz : W0.heap.size = s + 3 := by rw [← hW0]; simp [hs]
  have hbx : B3 W0 s (some ⟨qb, 0, none⟩) (0, 0) false := by
    subst hs
    refine ⟨?_, ?_, ?_⟩
    · rw [← hW0, Below.heap_alloc _ _ _ (by simp; omega), Below.heap_alloc _ _ _ (by simp)]; exact heap_alloc_new w _
    · rw [← hW0, Below.heap_alloc _ _ _ (by simp)]
      have := heap_alloc_new (w.alloc (.cells #[.pointer (some ⟨qb, 0, none⟩)] 23)) (.cells #[.int .i64 0, .int .i64 0] 34)
      simpa using this
    · rw [← hW0]
      have := heap_alloc_new ((w.alloc (.cells #[.pointer (some ⟨qb, 0, none⟩)] 23)).alloc (.cells #[.int .i64 0, .int .i64 0] 34)) (.cells #[.bool false] 4)
      simpa using this
  simp only [hW0, hs, Nat.add_assoc, Nat.reduceAdd] at k0 ⊢
  have HBX := hid hbx
  have K0 := hid k0
  have HSS := hid hs
  clear hW0 hbx k0
  refine (allM_any W0 _).mono ?_
  rintro e w1 ⟨rfl, hw1⟩
  have HI := hid (show Itq w1 W0.heap.size M.L by rw [hw1]; exact Itq.new (HM.out _ (H.out.same K0.out)))
  have HK := hid (show Kp W0 w1 [] by rw [hw1]; exact Kp.alloc _ _ _)
  clear hw1
  obtain ⟨x, hx⟩ : ∃ x, W0.heap.size = x := ⟨_, rfl⟩
  rw [hx] at HI hsz ⊢
  have HXX := hid (And.intro hx hsz)
  clear hx hsz
  go_wp2_with fail
  have hs1 : s + 3 ≤ w1.heap.size := by have := HK.out.size; have := HXX.out; have := HXX.out.2; omega
  have HB1 := hid (HBX.out.keep HK.out (by simp))
  have HW1 := hid (HQ.out.keep (K0.out.trans HK.out) (by simp))
  refine (wpIn_wide (n := 6)).1 ?_
  refine range_seqs (K := KcM w1.heap.size) h1 (gf := 67) (lb := #[.pointer (some ⟨x, 0, none⟩)]) rfl (enters_of Try.func67 (by kernel_rfl) rfl)
    (HS.out w1 x HI.out) KcM.trans (kcM_put _) (kcM_alloc _) (Below.refl _ _) (fun _ => rfl)
    (fun pre W => (pre = [] ∧ B3 W s (some ⟨qb, 0, none⟩) (0, 0) false) ∧ Tq w W qb R M)
    (fun cc pre W => (cc = .ret ∧ ∃ d : Int × Int, pre = [d] ∧ B3 W s (some ⟨qb, 0, none⟩) d true) ∧ Tq w W qb R { M with L := M.L.tail })
    (OwnFrom.and (fun s A B row hs hg hr => ⟨hs.1, hs.2.kept hg hr⟩) (fun s A B row hs hg hr => hs.grown hg hr (by have := HSS.out; omega)))
    (fun cc => OwnFrom.and (fun s A B row hs hg hr => ⟨hs.1, hs.2.choose, hs.2.choose_spec.1, hs.2.choose_spec.2.kept hg hr⟩) (fun s A B row hs hg hr => hs.grown hg hr (by have := HSS.out; omega)))
    ⟨⟨rfl, HB1.out⟩, HW1.out⟩
    (fun d => .cells #[.int .i64 d.1, .int .i64 d.2] 34)
    (fun d b => { tmps := #[.pointer (some ⟨qb, 0, none⟩), .pointer (some ⟨s, 0, none⟩), .pointer (some ⟨s + 1, 0, none⟩), .pointer (some ⟨s + 2, 0, none⟩), .pointer (some ⟨b, 0, none⟩), .pointer (some ⟨qb, 0, none⟩), itm x, .agg #[.int .i64 d.1, .int .i64 d.2], undef, undef, undef, undef, undef, undef, undef, undef, undef, undef], defers := [] })
    ?assign ?body ?done ?stop
  case assign =>
    intro l d W K _ hK
    have HK := hid hK
    clear hK
    simp only [encV, mv]
    gi_wp2
    exact HK.out
  case body =>
    rintro l pre d b W hpre hbb ⟨⟨rfl, hb⟩, hT⟩ hob
    obtain ⟨tl, htl⟩ := hpre
    have htl : d :: tl = M.L := by simpa using htl
    have u0 := cell_one hb.b0
    have u1 := cell_two0 hb.b1
    have u2 := cell_two1 hb.b1
    have u3 := cell_one hb.b2
    have v0 := cell_two0 hob
    have v1 := cell_two1 hob
    obtain ⟨R', hq, hR, hRl, hk⟩ := hT
    have hmem := hq.mem
    obtain ⟨mb, a, b', V, Ra, Rb, rfl, hq⟩ := hq
    have c1 := hq.c1
    have f1 := hq.free 1
    have hqs : qb < s := by have := hRl _ (hR _ hmem); have := HSS.out; omega
    have HD := hid (fun (z : World) (hz : Kp W z []) => (((callsIn_wide (n := 3)).2 (delM_any z V d tl (by rw [htl]; exact (hq.same hz).ms))).inRound l))
    have HF := hid (fun (z w3 : World) (V' : Value) (hz : Kp W z []) (hm : Mr w3 0 V' tl) (hk3 : Kp z w3 V.ownBlock.toList) (hv : V'.ownBlock = V.ownBlock) => msgs_qi (hq.same hz) hk3 hm hv (by have h1 := hq.len; rw [← htl] at h1; simp at h1; omega))
    have HV := hid (show qb ∉ V.ownBlock.toList from fun e => hq.offq.2.2.2 qb (by simpa using e) rfl)
    have HQQ := hid hq.hh
    have HVL := hid (show ∀ k ∈ V.ownBlock.toList, k < s from fun k e => by
      have := hRl k (hR k (by simp only [List.mem_cons, List.mem_append]; exact .inr (.inr (.inl e))))
      have := HSS.out
      omega)
    have hn1 : ¬ qb = b := by omega
    have hn2 : ¬ b = qb := by omega
    have hn3 : ¬ qb = s + 1 := by omega
    have hn4 : ¬ s + 1 = qb := by omega
    have hn5 : ¬ qb = s + 2 := by omega
    have hn6 : ¬ s + 2 = qb := by omega
    have HVS := hid (show s ∉ V.ownBlock.toList from fun e => by
      have := hRl s (hR s (by simp only [List.mem_cons, List.mem_append]; exact .inr (.inr (.inl e))))
      have := HSS.out
      omega)
    have HOB := hid hob
    have HN := hid (show ∀ w' V', Qi w' qb mb a b' V' Ra Rb { M with L := tl } → V'.ownBlock = V.ownBlock → Kp W w' (qrows qb mb V Ra Rb) → Tq w w' qb R { M with L := M.L.tail } from fun w' V' h1 h2 h3 => ⟨_, by rw [← htl]; exact h1.qc, fun k hm => hR k (by rw [show qrows qb mb V' Ra Rb = qrows qb mb V Ra Rb by unfold qrows; rw [h2]] at hm; exact hm), hRl, hk.past h3 (fun k hm _ => hR k hm)⟩)
    have HRR := hid (And.intro hR hRl)
    have HB := hid hb
    obtain ⟨ao, cap, rfl⟩ := hq.ms.slice
    clear hb hob hq hk
    have hf77 : Fence.wide.fn 77 := trivial
    gi_wp2
    gi_region_with (gi_at_call 77; refine (HD.out _ (by exact Kp.drew _ _)).mono ?_; rintro e w3 ⟨V', rfl, hm, hk3, hv⟩; obtain ⟨ao', cap', rfl⟩ := hm.slice; have HX := hid (HF.out _ w3 _ (Kp.drew W []) hm hk3 hv); have HVV := hid hv; have HB3 := hid ((hk3.block qb (lt_of_block HQQ.out) HV.out).trans HQQ.out); have p1 := cell5 HB3.out; have p2 := free5 HB3.out; have hkW := (Kp.drew W (Value.slice ao (List.length M.L) cap).ownBlock.toList).trans hk3; have hb3 := HB.out.keep hkW HVL.out; have ho3 := (hkW.block b (lt_of_block HOB.out) (fun e => by have := HVL.out b e; omega)).trans HOB.out; have p3 := cell_one hb3.b0; have u1 := cell_two0 hb3.b1; have u2 := cell_two1 hb3.b1; have u3 := cell_one hb3.b2; have f1 := free_two hb3.b1; have f3 := free_one hb3.b2; have v0 := cell_two0 ho3; have v1 := cell_two1 ho3; have HB4 := hid hb3; have hkw := hid hkW; clear hm hk3 hv hb3 ho3 hkW)
    all_goals (
      have hkk := (Kp.drew W (qrows qb mb (.slice ao (List.length M.L) cap) Ra Rb)).trans HX.out.2
      have hT4 := HN.out _ _ HX.out.1 HVV.out hkk
      have hoff : ∀ k, s ≤ k → k ∉ qrows qb mb (.slice ao (List.length M.L) cap) Ra Rb := fun k hk hm => by
        have := HRR.out.2 k (HRR.out.1 k hm)
        have := HSS.out
        omega
      have hb4 := HB.out.keep hkk (fun k hm => Nat.lt_of_not_le (fun hl => hoff k hl hm))
      have HE := hid (And.intro hkk (And.intro hT4 hb4))
      have HOF := hid hoff
      clear hkk hT4 hoff hb4
      gi_wp2
      refine ⟨KeepsFrom.of_kp ((HE.out.1.mono (r2 := qrows qb mb (.slice ao (List.length M.L) cap) Ra Rb ++ [s + 1, s + 2]) (fun k hk _ => List.mem_append.2 (.inl hk))).trans ((kp_set3 _ s (.int .i64 d.1) (.int .i64 d.2) (.bool true)).mono (fun k hk _ => List.mem_append.2 (.inr hk)))) (fun k hk => ?_), ⟨rfl, d, rfl, HE.out.2.2.set d true⟩, HE.out.2.1.keep (kp_set3 _ s (.int .i64 d.1) (.int .i64 d.2) (.bool true)) (by simp; have := HSS.out; omega)⟩
      rcases List.mem_append.1 hk with hk | hk
      · have := Nat.lt_of_not_le (fun hl => HOF.out k hl hk)
        omega
      · simp at hk
        omega)
  case done =>
    rintro E W hE ⟨⟨hz, hb⟩, hT⟩ hK
    have u1 := cell_two0 hb.b1
    have u2 := cell_two1 hb.b1
    have u3 := cell_one hb.b2
    have f0 := free_two hb.b1
    have f3 := free_one hb.b2
    have HB := hid (hb.set (0, 0) false)
    have hT2 := hT.keep (kp_set3 W s (.int .i64 0) (.int .i64 0) (.bool false)) (by simp; have := HSS.out; omega)
    rw [← tail_nil hz] at hT2
    have HT := hid hT2
    have HK := hid (((kp_set3 W s (.int .i64 0) (.int .i64 0) (.bool false)).block E (lt_of_block hK) (by simp; omega)).trans hK)
    have HEQ := hid (show M.L.headD (0, 0) = (0, 0) ∧ (!M.L.isEmpty) = false by rw [hz]; exact ⟨rfl, rfl⟩)
    clear hK hb hT hz hT2
    gi_wp2
    go_wp2
    rw [HEQ.out.1, HEQ.out.2]
    exact fin50 w _ s qb HSS.out R _ x E (0, 0) false _ _ _ _ _ _ _ _ _ _ _ _ HB.out (by omega) HK.out HT.out
  case stop =>
    rintro E cc pre W hE hpre ⟨⟨rfl, d, rfl, hb⟩, hT⟩ hK
    have HB := hid hb
    have HL := hid hT
    have HK := hid hK
    obtain ⟨t, ht⟩ := hpre
    have HEQ := hid (show M.L.headD (0, 0) = d ∧ (!M.L.isEmpty) = true by rw [← ht]; exact ⟨rfl, rfl⟩)
    clear hK hb hT ht
    gi_wp2
    rw [HEQ.out.1, HEQ.out.2]
    exact fin50 w W s qb HSS.out R _ x E d true _ _ _ _ _ _ _ _ _ _ _ _ HB.out (by omega) HK.out HL.out
end Go.Proofs.Ytllkopekfanfaaa
