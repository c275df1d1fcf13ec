/- All: priorities, falling, and the threads of each. -/
import Derived.Test.YtclbphnelfacfaaSeq
namespace Go.Proofs.Ytclbphnelfacfaa
open Go.RowKit Go.Shelf
attribute [local go_sem] Oper.semAt_some

/-! ### Marks of loops that are over -/
def Live (lo : Nat) (W : World) (Ds : List Nat) : Prop := (∀ D ∈ Ds, W.heap[D]? = some (.deferred (some []))) ∧ Ds.Nodup ∧ ∀ D ∈ Ds, lo ≤ D
def marks (Ds : List Nat) : List Deferred := Ds.map fun D => { target := .collected D, args := #[] }
theorem Live.own {lo : Nat} {A B : World} {row : Option Nat} {Ds : List Nat} {D0 : Nat} (h : Live lo A Ds) (hD : ∀ D ∈ Ds, D < D0) (hg : A.grownBy B row) (hr : ∀ r, row = some r → D0 ≤ r) : Live lo B Ds :=
  ⟨fun D hm => (hg.block D (lt_of_block (h.1 D hm)) (fun e => by have := hr D e.symm; have := hD D hm; omega)).trans (h.1 D hm), h.2⟩
theorem Live.keeps {lo : Nat} {A B : World} {Ds : List Nat} (h : Live lo A Ds) (hk : KeepsFrom lo A B) : Live lo B Ds :=
  ⟨fun D hm => hk.same D _ (h.2.2 D hm) (h.1 D hm) rfl, h.2⟩
theorem Live.set {lo : Nat} {A : World} {Ds : List Nat} (h : Live lo A Ds) {b : Nat} {c : Array Value} {t : TypeId} {f : Nat × Nat} (hb : A.heap[b]? = some (.cells c t f)) (v : Value) : Live lo (A.setCell ⟨b, 0, none⟩ v) Ds :=
  ⟨fun D hm => (Below.heap_setCell _ _ _ _ (fun e => by
    have := h.1 D hm
    simp only at e
    rw [e, hb] at this
    simp at this)).trans (h.1 D hm), h.2⟩
theorem Live.alloc {lo : Nat} {A : World} {Ds : List Nat} (h : Live lo A Ds) (o : Obj) : Live lo (A.alloc o) Ds :=
  ⟨fun D hm => (Below.heap_alloc _ _ _ (lt_of_block (h.1 D hm))).trans (h.1 D hm), h.2⟩
theorem Live.more {lo : Nat} {A : World} {Ds : List Nat} {D : Nat} (h : Live lo A Ds) (hD : A.heap[D]? = some (.deferred (some []))) (hn : ∀ E ∈ Ds, E < D) (hl : lo ≤ D) : Live lo A (D :: Ds) :=
  ⟨by intro E hE; rcases List.mem_cons.1 hE with rfl | hE; exact hD; exact h.1 E hE, List.nodup_cons.2 ⟨fun hm => by have := hn D hm; omega, h.2.1⟩, by intro E hE; rcases List.mem_cons.1 hE with rfl | hE; exact hl; exact h.2.2 E hE⟩
/-- All marks are come to. -/
def shut (W : World) : List Nat → World
  | [] => W
  | D :: Ds => shut (W.putObj D (.deferred none)) Ds
theorem Live.tl {lo : Nat} {W : World} {D : Nat} {Ds : List Nat} (h : Live lo W (D :: Ds)) : Live lo (W.putObj D (.deferred none)) Ds := by
  have hn := List.nodup_cons.1 h.2.1
  refine ⟨fun E hE => ?_, hn.2, fun E hE => h.2.2 E (by simp [hE])⟩
  have : E ≠ D := by rintro rfl; exact hn.1 hE
  exact (World.putObj_heap_other this).trans (h.1 E (by simp [hE]))
theorem leaves_marks {F : Fence} {n : Nat} {P : Program} {fn : Func} {tmps : Array Value} {R : Ending → World → Prop} {lo : Nat} : ∀ (Ds : List Nat) (W : World), Live lo W Ds → LeavesIn F n P fn tmps R [] .returning (shut W Ds) → LeavesInM F n P fn tmps R (marks Ds) .returning W
  | [], _, _, h => h
  | D :: Ds, W, hL, h => ⟨by simp, .inl ⟨D, _, rfl, run_takeDeferred (hL.1 D (by simp)), leaves_marks Ds _ hL.tl h⟩⟩
theorem own_shut {β : Type} {B lo : Nat} {J : β → World → Prop} (hJ : OwnFrom B J) {s : β} (hB : B ≤ lo) : ∀ (Ds : List Nat) (W : World), Live lo W Ds → J s W → J s (shut W Ds)
  | [], _, _, h => h
  | D :: Ds, W, hL, h => own_shut hJ hB Ds _ hL.tl (hJ.putObj _ h (Nat.le_trans hB (hL.2.2 D (by simp))) (hL.1 D (by simp)) rfl)
theorem kp_shut {lo : Nat} : ∀ (Ds : List Nat) (W : World), Live lo W Ds → ∀ {w : World}, w.heap.size ≤ lo → Kp w W [] → Kp w (shut W Ds) []
  | [], _, _, _, _, h => h
  | D :: Ds, W, hL, w, hw, h => kp_shut Ds _ hL.tl hw ⟨h.os, h.tape, h.output, by have := h.size; simp [World.putObj] at this ⊢; exact this, fun k hk hn => (World.putObj_heap_other (by have := hL.2.2 D (by simp); omega)).trans (h.block k hk hn)⟩
theorem shut_cells {lo b : Nat} {c : Array Value} {t : TypeId} {f : Nat × Nat} : ∀ (Ds : List Nat) (W : World), Live lo W Ds → W.heap[b]? = some (.cells c t f) → (shut W Ds).heap[b]? = some (.cells c t f)
  | [], _, _, h => h
  | D :: Ds, W, hL, h => shut_cells Ds _ hL.tl ((World.putObj_heap_other (by rintro rfl; rw [hL.1 _ (by simp)] at h; cases h)).trans h)

theorem cells_kept {W W' : World} {row : Option Nat} {b B : Nat} {c : Array Value} {t : TypeId} {f : Nat × Nat} (h : W.heap[b]? = some (.cells c t f)) (hg : W.grownBy W' row) (hr : ∀ r, row = some r → B ≤ r ∧ ∃ o : Obj, W.heap[r]? = some o ∧ o.isCells = false) : W'.heap[b]? = some (.cells c t f) := by
  refine (hg.block b (lt_of_block h) ?_).trans h
  intro e
  obtain ⟨-, o, ho, hc⟩ := hr b e.symm
  rw [h] at ho
  cases ho
  simp [Obj.isCells] at hc
theorem free_one {w : World} {b : Nat} {v : Value} {t : TypeId} (h : w.heap[b]? = some (.cells #[v] t (0, 0))) : w.frozen? ⟨b, 0, none⟩ = false := by simp [World.frozen?, h]
theorem set_one {w : World} {b : Nat} {v x : Value} {t : TypeId} (h : w.heap[b]? = some (.cells #[v] t (0, 0))) : (w.setCell ⟨b, 0, none⟩ x).heap[b]? = some (.cells #[x] t (0, 0)) := by
  rw [heap_setCell_same w b 0 _ t x h]
  rfl

set_option maxRecDepth 100000 in
theorem all_any (w : World) (p : Option Addr) : Calls Try.prog 78 #[.pointer p] w fun e w' => e = .returned (.func (.func 81) #[] #[.pointer (some ⟨w.heap.size, 0, none⟩)]) ∧ w' = w.alloc (.cells #[.pointer p] 55) := by
  go_enter Try.func78, Try.ntmps78
  go_wp2
  go_ret
  exact ⟨rfl, rfl⟩

/-- The iterator's boxes: the round to be called, the links, the priority. -/
structure Ab (W : World) (l yb ab pb : Nat) (c : Nat → Nat) (k : Nat) : Prop where
  y : W.heap[yb]? = some (.cells #[.func (.yield l) #[] #[]] 46 (0, 0))
  a : W.heap[ab]? = some (.cells (arr c) 77 (0, 0))
  p : W.heap[pb]? = some (.cells #[.int .i64 (k : Nat)] 3 (0, 0))
section
variable {A B : World} {l yb ab pb : Nat} {c : Nat → Nat} {k : Nat}
theorem Ab.own {row : Option Nat} {E : Nat} (h : Ab A l yb ab pb c k) (hg : A.grownBy B row) (hr : ∀ r, row = some r → E ≤ r ∧ ∃ o : Obj, A.heap[r]? = some o ∧ o.isCells = false) : Ab B l yb ab pb c k :=
  ⟨cells_kept h.y hg hr, cells_kept h.a hg hr, cells_kept h.p hg hr⟩
theorem Ab.kc {D : Nat} (h : Ab A l yb ab pb c k) (hk : Kc D A B) (h1 : D ≤ yb) (h2 : D ≤ ab) (h3 : D ≤ pb) : Ab B l yb ab pb c k :=
  ⟨hk.same _ _ _ _ h1 h.y, hk.same _ _ _ _ h2 h.a, hk.same _ _ _ _ h3 h.p⟩
theorem Ab.alloc (h : Ab A l yb ab pb c k) (o : Obj) : Ab (A.alloc o) l yb ab pb c k := h.own (E := 0) (World.grownBy_alloc A o none) (by simp)
end
theorem own_le {β : Type} {B B' : Nat} {J : β → World → Prop} (h : OwnFrom B J) (hB : B ≤ B') : OwnFrom B' J := fun s X Y row hs hg hr => h s X Y row hs hg (fun r e => ⟨Nat.le_trans hB (hr r e).1, (hr r e).2⟩)
theorem seqs_pos (L : Nat → List Nat) {k : Nat} (hk : 1 ≤ k) : seqs L k = (L k).map (fun t => (k, t)) ++ seqs L (k - 1) := by
  obtain ⟨j, rfl⟩ : ∃ j, k = j + 1 := ⟨k - 1, by omega⟩
  rfl
theorem seqs_part {L : Nat → List Nat} {k : Nat} {pre : List (Nat × Nat)} {q : List Nat} (hk : 1 ≤ k) (hs : seqs L 31 = pre ++ seqs L k) (hq : q <+: L k) : pre ++ q.map (fun t => (k, t)) <+: seqs L 31 := by
  rw [hs, seqs_pos L hk]
  obtain ⟨r, hr⟩ := hq
  exact ⟨r.map (fun t => (k, t)) ++ seqs L (k - 1), by rw [← hr, List.map_append]; simp⟩

set_option maxRecDepth 100000 in
set_option maxHeartbeats 2000000 in
theorem all1_seqs (n : Nat) (hn : 4 ≤ n) (c : Nat → Nat) (L : Nat → List Nat) (hch : ∀ q, 1 ≤ q → q ≤ 31 → Run c q (L q)) (h16 : ∀ q t, t ∈ L q → t < 16) (hnd : ∀ q, (L q).Nodup) (p : Option Addr) (bx D : Nat) (w : World)
    (harr : ∀ W, Kp w W [] → Calls Try.prog 69 #[.pointer p] W fun e w' => e = .returned (.agg (arr c)) ∧ w' = W.alloc (.cells (arr c) 77)) (hbx : w.heap[bx]? = some (.cells #[.pointer p] 55 (0, 0))) (hD : D ≤ w.heap.size) :
    Seqs n Try.prog 81 #[.pointer (some ⟨bx, 0, none⟩)] (fun x : Nat × Nat => #[.int .i64 (x.1 : Nat), .int .i64 (x.2 : Nat)]) (Kc D) (seqs L 31) w := by
  intro l J Jx W hW hJ hJx hY h0
  have hk := Kp.of_below hW
  have hDW : D ≤ W.heap.size := Nat.le_trans hD hk.size
  have hA := hk.trans (Kp.alloc W (.cells #[.func (.yield l) #[] #[]] 46) [])
  have cb := cell_one ((hA.block bx (lt_of_block hbx) (by simp)).trans hbx)
  have ca := harr _ hA
  have HJ := hid hJ
  have HJX := hid hJx
  have HY := hid hY
  have H0 := hid h0
  have HC := hid hch
  have HD := hid hnd
  have HS := hid h16
  have z54 := (zero_of_info info54).1
  clear hW hJ hJx hY h0 hbx hk hA hch hnd h16 harr hD
  show CallsIn Fence.wide n Try.prog 81 #[.func (.yield l) #[] #[], .pointer (some ⟨bx, 0, none⟩)] W _
  refine callsIn_of_wp_marks Try.func81 rfl trivial ?_ rfl
  simp only [Try.ntmps81, List.size_toArray, List.length_cons, List.length_nil, Nat.reduceAdd, Nat.reduceSub, Array.replicate_succ, Array.replicate_zero, List.push_toArray, List.append_toArray, List.nil_append, List.cons_append]
  refine wpIn_wide.2 ?_
  go_wp2_with fail
  refine ca.mono ?_
  rintro e w1 ⟨rfl, rfl⟩
  go_wp2_with (refine wpList_store_new rfl 77 (.tmp 3) (.tmp 7) rfl 77 _ (arr c) (by show Value.pointer _ = Value.pointer _; simp) rfl (size54 c) (by simp [arr_size]) (one54 c) ?_)
  have A1 := hid (HJ.out.alloc (.cells #[.int .i64 31] 3) (HJ.out.alloc (.cells (arr c) 77) (HJ.out.alloc (.cells (arr c) 77) (HJ.out.alloc (.cells #[.func (.yield l) #[] #[]] 46) H0.out))))
  have B1 := hid (show Ab ((((W.alloc (.cells #[.func (.yield l) #[] #[]] 46)).alloc (.cells (arr c) 77)).alloc (.cells (arr c) 77)).alloc (.cells #[.int .i64 31] 3)) l W.heap.size (W.heap.size + 1 + 1) (W.heap.size + 1 + 1 + 1) c 31 from by
    refine ⟨?_, ?_, ?_⟩
    · exact (Below.heap_alloc _ _ _ (by simp; omega)).trans ((Below.heap_alloc _ _ _ (by simp; omega)).trans ((Below.heap_alloc _ _ _ (by simp)).trans (heap_alloc_new W _)))
    · refine (Below.heap_alloc _ _ _ (by simp)).trans ?_
      have := heap_alloc_new ((W.alloc (.cells #[.func (.yield l) #[] #[]] 46)).alloc (.cells (arr c) 77)) (.cells (arr c) 77)
      simp only [World.size_alloc] at this
      exact this
    · have := heap_alloc_new (((W.alloc (.cells #[.func (.yield l) #[] #[]] 46)).alloc (.cells (arr c) 77)).alloc (.cells (arr c) 77)) (.cells #[.int .i64 31] 3)
      simp only [World.size_alloc] at this
      exact this)
  obtain ⟨W1, hW1⟩ : ∃ W1, (((W.alloc (.cells #[.func (.yield l) #[] #[]] 46)).alloc (.cells (arr c) 77)).alloc (.cells (arr c) 77)).alloc (.cells #[.int .i64 31] 3) = W1 := ⟨_, rfl⟩
  obtain ⟨yb, hyb⟩ : ∃ yb, W.heap.size = yb := ⟨_, rfl⟩
  obtain ⟨ab, hab⟩ : ∃ ab, W.heap.size + 1 + 1 = ab := ⟨_, rfl⟩
  obtain ⟨pb1, hpb1⟩ : ∃ pb1, W.heap.size + 1 + 1 + 1 = pb1 := ⟨_, rfl⟩
  have hDy : D ≤ yb := by omega
  have hDa : D ≤ ab := by omega
  have hDp : D ≤ pb1 := by omega
  rw [hpb1, hab, hyb, hW1] at B1
  rw [hW1] at A1
  rw [hpb1, hab, hyb, hW1]
  rw [hyb] at HY HJ HJX
  clear hW1 ca cb hyb hab hpb1 hDW
  refine (wpIn_wide (n := n)).1 ?_
  refine wpIn_loop (fun a V => ∃ (k pb : Nat) (Ds : List Nat) (pre : List (Nat × Nat)) (x5 x8 x9 x10 x11 x12 x13 x14 x15 x16 x17 x18 x19 x20 x21 : Value), k ≤ 31 ∧ Ds.length = 31 - k ∧ D ≤ pb ∧ seqs L 31 = pre ++ seqs L k ∧
      a = { tmps := #[.func (.yield l) #[] #[], .pointer (some ⟨bx, 0, none⟩), .pointer (some ⟨yb, 0, none⟩), .pointer (some ⟨ab, 0, none⟩), .pointer (some ⟨pb, 0, none⟩), x5, .pointer p, .agg (arr c), x8, x9, x10, x11, x12, x13, x14, x15, x16, x17, x18, x19, x20, x21], defers := marks Ds } ∧ Live yb V Ds ∧ Ab V l yb ab pb c k ∧ J pre V)
    (fun a _ => 31 - a.defers.length) ⟨31, pb1, [], [], _, _, _, _, _, _, _, _, _, _, _, _, _, _, _, by decide, rfl, hDp, rfl, rfl, ⟨by simp, by simp, by simp⟩, B1.out, A1.out⟩ ?_
  clear A1 B1 hDp W1 pb1
  rintro a V ⟨k, pb, Ds, pre, x5, x8, x9, x10, x11, x12, x13, x14, x15, x16, x17, x18, x19, x20, x21, hk31, hDs, hDp, hsq, rfl, hLive, hAb, hJp⟩
  have cp := cell_one hAb.p
  have HV := hid hLive
  have HB := hid hAb
  have HP := hid hJp
  have HDS := hid hDs
  have HQ := hid hsq
  clear hLive hAb hJp hDs hsq
  refine wpIn_wide.2 ?_
  by_cases hk0 : k = 0
  · subst hk0
    have HE := hid (show seqs L 31 = pre by rw [HQ.out]; simp [seqs])
    go_wp2
    refine leaves_marks Ds V HV.out ?_
    refine ⟨_, results_none rfl _ _ _, ⟨_, rfl⟩, .inl ?_⟩
    rw [HE.out]
    exact own_shut HJ.out (Nat.le_refl _) Ds V HV.out HP.out
  · have hge : (1 : Int) ≤ (k : Int) := by omega
    have hk1 : 1 ≤ k := by omega
    have hcs := seq_any V c (k : Int)
    go_wp2_with (first | (go_at_call 70; refine hcs.mono ?_; rintro e w1 ⟨rfl, rfl⟩) | (refine wpList_load_row rfl 77 (.tmp 3) rfl ab rfl 77 (arr c) (0, 0) _ HB.out.a Try.underlying77 rfl (size54 c) ?_))
    have VB := hid ((HB.out.alloc (.cells (arr c) 77)).alloc (.cells #[.int .i64 (k : Nat)] 3))
    have VV := hid ((HV.out.alloc (.cells (arr c) 77)).alloc (.cells #[.int .i64 (k : Nat)] 3))
    have VJ := hid (HJ.out.alloc (.cells #[.int .i64 (k : Nat)] 3) (HJ.out.alloc (.cells (arr c) 77) HP.out))
    have VX := hid ((Below.heap_alloc (V.alloc (.cells (arr c) 77)) (.cells #[.int .i64 (k : Nat)] 3) _ (by simp)).trans (heap_alloc_new V (.cells (arr c) 77)))
    have VY := heap_alloc_new (V.alloc (.cells (arr c) 77)) (.cells #[.int .i64 (k : Nat)] 3)
    simp only [World.size_alloc] at VY
    have VY := hid VY
    have hVy : yb ≤ V.heap.size := Nat.le_of_lt (lt_of_block HB.out.y)
    have DL := hid (show ∀ E ∈ Ds, E < V.heap.size from fun E hE => lt_of_block (HV.out.1 E hE))
    obtain ⟨V2, hV2⟩ : ∃ V2, (V.alloc (.cells (arr c) 77)).alloc (.cells #[.int .i64 (k : Nat)] 3) = V2 := ⟨_, rfl⟩
    obtain ⟨xb, hxb⟩ : ∃ xb, V.heap.size = xb := ⟨_, rfl⟩
    have hs2 : V2.heap.size = xb + 2 := by rw [← hV2, ← hxb]; simp
    rw [hV2] at VB VV VJ VX VY
    rw [hV2, hxb]
    rw [hxb] at VX VY DL hVy
    clear hV2 hxb HB HV HP hcs cp
    refine (wpIn_wide (n := n)).1 ?_
    have hn2 : 1 ≤ n - 1 - 1 := by omega
    refine range_seqs (K := Kc D) (show 1 ≤ n by omega) (gf := 79) (lb := #[.pointer (some ⟨xb, 0, none⟩), .pointer (some ⟨xb + 1, 0, none⟩)]) rfl (enters_of Try.func79 (by kernel_rfl) rfl)
      (seq1_seqs (n - 1) (by omega) c k (by omega) (L k) (HC.out k hk1 hk31) (HS.out k) (HD.out k) xb (xb + 1) (Kc D) (fun _ _ hk _ h => hk.same _ _ _ _ (by omega) h) V2 VX.out VY.out) Kc.trans (kc_put D) (Below.refl _ _) (fun _ => rfl)
      (fun q V => J (pre ++ q.map (fun t => (k, t))) V ∧ Live yb V Ds ∧ Ab V l yb ab pb c k)
      (fun cc q V => cc = .ret ∧ Jx (pre ++ q.map (fun t => (k, t))) V ∧ Live yb V Ds)
      (fun q A B row hs hg hr => ⟨HJ.out _ A B row hs.1 hg (fun r e => ⟨by have := (hr r e).1; omega, (hr r e).2⟩), hs.2.1.own (D0 := xb) DL.out hg (fun r e => by have := (hr r e).1; omega), hs.2.2.own hg hr⟩)
      (fun cc q A B row hs hg hr => ⟨hs.1, HJX.out _ A B row hs.2.1 hg (fun r e => ⟨by have := (hr r e).1; omega, (hr r e).2⟩), hs.2.2.own (D0 := xb) DL.out hg (fun r e => by have := (hr r e).1; omega)⟩)
      ⟨by simpa using VJ.out, VV.out, VB.out⟩
      (fun t => { tmps := #[.func (.yield l) #[] #[], .pointer (some ⟨bx, 0, none⟩), .pointer (some ⟨yb, 0, none⟩), .pointer (some ⟨ab, 0, none⟩), .pointer (some ⟨pb, 0, none⟩), .int .i64 (t : Nat), .pointer p, .agg (arr c), .int .i64 (k : Nat), .bool true, x10, x11, .agg (arr c), .int .i64 (k : Nat), .func (.func 79) #[] #[.pointer (some ⟨xb, 0, none⟩), .pointer (some ⟨xb + 1, 0, none⟩)], .int .i64 (t : Nat), x16, x17, x18, x19, x20, x21], defers := [] })
      ?assign ?body ?done ?stop
    case assign =>
      intro l' t V3 K _ hK
      have HK := hid hK
      clear hK
      gi_wp2
      exact HK.out
    case body =>
      rintro l' q t V3 hq ⟨h1, h2, h3⟩
      have cy := cell_one h3.y
      have cp := cell_one h3.p
      have hpx := seqs_part hk1 HQ.out hq
      rw [List.map_append, ← List.append_assoc] at hpx
      obtain ⟨fn, tmps, assign, body, hy, hRR⟩ := YieldAt.wide (HY.out _ (k, t) V3 h1 hpx) (n - 1 - 1 - 1)
      have HRR := hid hRR
      have H2 := hid h2
      have H3 := hid h3
      clear h1 h2 h3 hRR hpx
      gi_wp2
      refine HRR.out.mono ?_
      rintro e V4 ⟨hkf, (⟨rfl, hJ4, hk4⟩ | ⟨rfl, hJx4⟩)⟩
      · have J4 := hid hJ4
        have F4 := hid (show KeepsFrom V2.heap.size V3 V4 from ⟨hkf.size, fun j o hj => hkf.same j o (by omega)⟩)
        have L4 := hid (H2.out.keeps hkf)
        have B4 := hid (H3.out.kc hk4 hDy hDa hDp)
        have K4 := hid hk4
        clear hJ4 hkf hk4
        gi_wp2
        refine ⟨F4.out, K4.out, ?_, L4.out, B4.out⟩
        rw [List.map_append, ← List.append_assoc]
        exact J4.out
      · have J4 := hid hJx4
        have F4 := hid (show KeepsFrom V2.heap.size V3 V4 from ⟨hkf.size, fun j o hj => hkf.same j o (by omega)⟩)
        have L4 := hid (H2.out.keeps hkf)
        clear hJx4 hkf
        gi_wp2
        refine ⟨F4.out, rfl, ?_, L4.out⟩
        rw [List.map_append, ← List.append_assoc]
        exact J4.out
    case done =>
      rintro E V3 hE ⟨h1, h2, h3⟩ hEd
      have cp := cell_one h3.p
      have H1 := hid h1
      have H2 := hid h2
      have H3 := hid h3
      have HE := hid hEd
      clear h1 h2 h3 hEd
      gi_wp2
      go_wp2
      refine ⟨⟨k - 1, V3.heap.size, E :: Ds, pre ++ (L k).map (fun t => (k, t)), _, _, _, _, _, _, _, _, _, _, _, _, _, _, _, by omega, by have := HDS.out; simp; omega, by have := lt_of_block H3.out.y; omega, ?_, rfl, ?_, ?_, ?_⟩, ?_⟩
      · rw [HQ.out, seqs_pos L hk1, List.append_assoc]
      · exact (H2.out.alloc _).more ((Below.heap_alloc _ _ _ (lt_of_block HE.out)).trans HE.out) (fun F hF => by have := DL.out F hF; omega) (by omega)
      · have hb := H3.out.alloc (.cells #[.int .i64 ((k : Int) - 1)] 3)
        refine ⟨hb.y, hb.a, ?_⟩
        have hnew := heap_alloc_new V3 (.cells #[.int .i64 ((k : Int) - 1)] 3)
        rw [show (((k - 1 : Nat)) : Int) = (k : Int) - 1 by omega]
        exact hnew
      · exact HJ.out.alloc _ H1.out
      · have := HDS.out
        simp [marks]
        omega
    case stop =>
      rintro E cc q V3 hE hq ⟨rfl, h1, h2⟩ hEd
      have H1 := hid h1
      have H2 := hid (h2.more hEd (fun F hF => by have := DL.out F hF; omega) (by omega))
      have HS' := hid (seqs_part hk1 HQ.out hq)
      clear h1 h2 hEd
      gi_wp2
      refine leaves_marks (E :: Ds) V3 H2.out ?_
      refine ⟨_, results_none rfl _ _ _, ⟨_, rfl⟩, .inr ⟨_, HS'.out, ?_⟩⟩
      exact own_shut HJX.out (Nat.le_refl _) (E :: Ds) V3 H2.out H1.out
end Go.Proofs.Ytclbphnelfacfaa
