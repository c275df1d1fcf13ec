/- The law's own look at the blocks: left early, gone over again. -/
import Derived.Test.YtgefmnnkpffpcaaGreatDoorHallJ
import Derived.Shelf.RegionOpen
namespace Go.Proofs.YtgefmnnkpffpcaaGreatDoor
open Go.RowKit Go.Maps Go.Shelf
attribute [local go_sem] Oper.semAt_some

/-- The blocks alone. -/
def vals (l : List Bb) : List Bk := l.map (·.1)
theorem vals_length (l : List Bb) : (vals l).length = l.length := by simp [vals]
theorem vals_snoc (l : List Bb) (x : Bb) : vals (l ++ [x]) = vals l ++ [x.1] := by simp [vals]
theorem vals_prefix {l r : List Bb} (h : l <+: r) : vals l <+: vals r := h.map _

theorem fn_not_nil (b : Nat) (W : World) : (binOp .eql 82 (.func (.func 91) #[] #[.pointer (some ⟨b, 0, none⟩)]) .nilFunc).run Tryz.prog W = .ok (.bool false) W := by kernel_rfl

/-- The law's boxes: what is wanted, when to leave, the answer, the iterator's, the turn's. -/
structure Lb (w W : World) (a0 a1 a2 a3 tb : Nat) (ao : Option Addr) (N cap : Nat) (leave : Int) (p : Option Addr) (t : Int) : Prop where
  want : W.heap[a0]? = some (.cells #[.slice ao N cap] 38 (0, 0))
  lv : W.heap[a1]? = some (.cells #[.int .i64 leave] 3 (0, 0))
  res : W.heap[a2]? = some (.cells #[.bool false] 4 (0, 0))
  it : W.heap[a3]? = some (.cells #[.pointer p] 23 (0, 0))
  turn : W.heap[tb]? = some (.cells #[.int .i64 t] 3 (0, 0))
  k : Below w.heap.size w W
section
variable {w A B : World} {a0 a1 a2 a3 tb : Nat} {ao : Option Addr} {N cap : Nat} {leave : Int} {p : Option Addr} {t : Int}
theorem Lb.own {row : Option Nat} {D : Nat} (h : Lb w A a0 a1 a2 a3 tb ao N cap leave p t) (hD : w.heap.size ≤ D) (hg : A.grownBy B row) (hr : ∀ r, row = some r → D ≤ r ∧ ∃ o : Obj, A.heap[r]? = some o ∧ o.isCells = false) : Lb w B a0 a1 a2 a3 tb ao N cap leave p t :=
  ⟨cells_kept h.want hg hr, cells_kept h.lv hg hr, cells_kept h.res hg hr, cells_kept h.it hg hr, cells_kept h.turn hg hr, ownFrom_below (β := Unit) (Nat.le_refl _) hD () A B row h.k hg hr⟩
/-- .. behind a store into the counter. -/
theorem Lb.cnt {nb : Nat} (h : Lb w A a0 a1 a2 a3 tb ao N cap leave p t) (hn : nb ≠ a0 ∧ nb ≠ a1 ∧ nb ≠ a2 ∧ nb ≠ a3 ∧ nb ≠ tb) (hw : w.heap.size ≤ nb) (v : Value) : Lb w (A.setCell ⟨nb, 0, none⟩ v) a0 a1 a2 a3 tb ao N cap leave p t := by
  have kk : ∀ b c t, A.heap[b]? = some (.cells c t (0, 0)) → b ≠ nb → (A.setCell ⟨nb, 0, none⟩ v).heap[b]? = some (.cells c t (0, 0)) := fun b c t hb hne' => (Below.heap_setCell _ _ _ _ (by simpa using hne')).trans hb
  exact ⟨kk _ _ _ h.want (by omega), kk _ _ _ h.lv (by omega), kk _ _ _ h.res (by omega), kk _ _ _ h.it (by omega), kk _ _ _ h.turn (by omega), h.k.setCell (p := ⟨nb, 0, none⟩) hw _⟩
theorem Lb.alloc (h : Lb w A a0 a1 a2 a3 tb ao N cap leave p t) (o : Obj) : Lb w (A.alloc o) a0 a1 a2 a3 tb ao N cap leave p t :=
  h.own (D := w.heap.size) (Nat.le_refl _) (World.grownBy_alloc A o none) (by simp)
end

/-- Blocks of memory that were laid one behind the other. -/
theorem five_new (w : World) (o0 o1 o2 o3 o4 : Obj) (W : World) (h : ((((w.alloc o0).alloc o1).alloc o2).alloc o3).alloc o4 = W) :
    W.heap[w.heap.size]? = some o0 ∧ W.heap[w.heap.size + 1]? = some o1 ∧ W.heap[w.heap.size + 1 + 1]? = some o2 ∧ W.heap[w.heap.size + 1 + 1 + 1]? = some o3 ∧ W.heap[w.heap.size + 1 + 1 + 1 + 1]? = some o4 ∧ Kp w W [] ∧ W.heap.size = w.heap.size + 5 := by
  subst h
  have f : ∀ (v : World) (o : Obj) (k : Nat) (x : Obj), v.heap[k]? = some x → (v.alloc o).heap[k]? = some x := fun v o k x hx => (Below.heap_alloc v o k (lt_of_block hx)).trans hx
  have e0 := heap_alloc_new w o0
  have e1 := heap_alloc_new (w.alloc o0) o1
  have e2 := heap_alloc_new ((w.alloc o0).alloc o1) o2
  have e3 := heap_alloc_new (((w.alloc o0).alloc o1).alloc o2) o3
  have e4 := heap_alloc_new ((((w.alloc o0).alloc o1).alloc o2).alloc o3) o4
  simp only [World.size_alloc] at e1 e2 e3 e4
  refine ⟨f _ _ _ _ (f _ _ _ _ (f _ _ _ _ (f _ _ _ _ e0))), f _ _ _ _ (f _ _ _ _ (f _ _ _ _ e1)), f _ _ _ _ (f _ _ _ _ e2), f _ _ _ _ e3, e4, ?_, by simp⟩
  repeat (first | exact Kp.alloc _ _ _ | refine Kp.trans ?_ (Kp.alloc _ _ _))

/-- Marks of loops that are over. -/
def Live (lo : Nat) (W : World) (Ds : List Nat) : Prop := (∀ D ∈ Ds, W.heap[D]? = some (.deferred (some []))) ∧ Ds.Nodup ∧ ∀ D ∈ Ds, lo ≤ D
def marks (Ds : List Nat) : List Deferred := Ds.map fun D => { target := .collected D, args := #[] }
theorem Live.own {lo : Nat} {A B : World} {row : Option Nat} {Ds : List Nat} {D0 : Nat} (h : Live lo A Ds) (hD : ∀ D ∈ Ds, D < D0) (hg : A.grownBy B row) (hr : ∀ r, row = some r → D0 ≤ r) : Live lo B Ds :=
  ⟨fun D hm => (hg.block D (lt_of_block (h.1 D hm)) (fun e => by have := hr D e.symm; have := hD D hm; omega)).trans (h.1 D hm), h.2⟩
theorem Live.set {lo : Nat} {A : World} {Ds : List Nat} (h : Live lo A Ds) {b : Nat} {c : Array Value} {t : TypeId} {f : Nat × Nat} (hb : A.heap[b]? = some (.cells c t f)) (v : Value) : Live lo (A.setCell ⟨b, 0, none⟩ v) Ds :=
  ⟨fun D hm => (Below.heap_setCell _ _ _ _ (fun e => by
    have := h.1 D hm
    simp only at e
    rw [e, hb] at this
    simp at this)).trans (h.1 D hm), h.2⟩
theorem Live.alloc {lo : Nat} {A : World} {Ds : List Nat} (h : Live lo A Ds) (o : Obj) : Live lo (A.alloc o) Ds :=
  ⟨fun D hm => (Below.heap_alloc _ _ _ (lt_of_block (h.1 D hm))).trans (h.1 D hm), h.2⟩
theorem Live.more {lo : Nat} {A : World} {Ds : List Nat} {D : Nat} (h : Live lo A Ds) (hD : A.heap[D]? = some (.deferred (some []))) (hn : ∀ E ∈ Ds, E < D) (hl : lo ≤ D) : Live lo A (D :: Ds) :=
  ⟨by intro E hE; rcases List.mem_cons.1 hE with rfl | hE; exact hD; exact h.1 E hE, List.nodup_cons.2 ⟨fun hm => by have := hn D hm; omega, h.2.1⟩, by intro E hE; rcases List.mem_cons.1 hE with rfl | hE; exact hl; exact h.2.2 E hE⟩
theorem Lb.drew {w A : World} {a0 a1 a2 a3 tb : Nat} {ao : Option Addr} {N cap : Nat} {leave : Int} {p : Option Addr} {t : Int} (h : Lb w A a0 a1 a2 a3 tb ao N cap leave p t) : Lb w A.drew a0 a1 a2 a3 tb ao N cap leave p t := ⟨h.want, h.lv, h.res, h.it, h.turn, h.k.drew⟩
theorem Lb.next {w A : World} {a0 a1 a2 a3 tb : Nat} {ao : Option Addr} {N cap : Nat} {leave : Int} {p : Option Addr} {t : Int} (h : Lb w A a0 a1 a2 a3 tb ao N cap leave p t) (t' : Int) : Lb w (A.alloc (.cells #[.int .i64 t'] 3)) a0 a1 a2 a3 A.heap.size ao N cap leave p t' := by
  have h' := h.alloc (.cells #[.int .i64 t'] 3)
  exact ⟨h'.want, h'.lv, h'.res, h'.it, heap_alloc_new A _, h'.k⟩

set_option maxRecDepth 100000 in
set_option maxHeartbeats 4000000 in
theorem lawb_any (w : World) (p : Option Addr) (BL : List Bb) (wv : Value) (leave : Int) (hI : Its w p BL) (hR : Rb w wv (vals BL)) (hlen : BL.length ≤ 131073) :
    Calls Tryz.prog 24 #[.pointer p, wv, .int .i64 leave] w fun e w' => e = .returned (.bool true) ∧ Kp w w' [] := by
  refine (callsIn_wide (n := 6)).1 ?_
  have h1 : 1 ≤ 6 := by decide
  have hf50 : Fence.wide.fn 50 := trivial
  have hnn := fn_not_nil
  have hmx : Tryz.prog.follows .mixedOrders = true := by kernel_rfl
  have HRB := hid hR
  obtain ⟨ao, cap, rfl, hcell⟩ := hR
  have HC := hid hcell
  have HI := hid hI
  have hL := vals_length BL
  rw [hL] at HRB ⊢
  clear hI hcell hL
  refine callsIn_of_wp_marks Tryz.func24 rfl trivial ?_ rfl
  simp only [Tryz.ntmps24, List.size_toArray, List.length_cons, List.length_nil, Nat.reduceAdd, Nat.reduceSub, Array.replicate_succ, Array.replicate_zero, List.push_toArray, List.append_toArray, List.nil_append, List.cons_append]
  gi_wp2_with (gi_at_call 50; refine (all_in _ _ _).mono ?_; rintro e w' ⟨rfl, rfl⟩)
  obtain ⟨W0, hW0⟩ : ∃ W0, (((((w.alloc (.cells #[.slice ao BL.length cap] 38)).alloc (.cells #[.int .i64 leave] 3)).alloc (.cells #[.bool false] 4)).alloc (.cells #[.pointer p] 23)).alloc (.cells #[.int .i64 0] 3)) = W0 := ⟨_, rfl⟩
  obtain ⟨e0, e1, e2, e3, e4, eK, eS⟩ := five_new w _ _ _ _ _ W0 hW0
  rw [hW0]
  obtain ⟨a4, h4⟩ : ∃ a4, w.heap.size + 1 + 1 + 1 + 1 = a4 := ⟨_, rfl⟩
  rw [h4] at e4 ⊢
  obtain ⟨a3, h3⟩ : ∃ a3, w.heap.size + 1 + 1 + 1 = a3 := ⟨_, rfl⟩
  rw [h3] at e3 ⊢
  obtain ⟨a2, h2⟩ : ∃ a2, w.heap.size + 1 + 1 = a2 := ⟨_, rfl⟩
  rw [h2] at e2 ⊢
  obtain ⟨a1, h1'⟩ : ∃ a1, w.heap.size + 1 = a1 := ⟨_, rfl⟩
  rw [h1'] at e1 ⊢
  obtain ⟨a0, h0'⟩ : ∃ a0, w.heap.size = a0 := ⟨_, rfl⟩
  have L0 := hid (show Lb w W0 a0 a1 a2 a3 a4 ao BL.length cap leave p 0 from ⟨by rw [← h0']; exact e0, e1, e2, e3, e4, eK.toBelow⟩)
  have hap : a0 < a1 ∧ a1 < a2 ∧ a2 < a3 ∧ w.heap.size ≤ a0 := by omega
  have ha4 : a3 < a4 := by omega
  rw [h0']
  clear e0 e1 e2 e3 e4 h4 h3 h2 h1' h0' hW0 eS eK
  refine wpIn_loop (fun a W => ∃ (t tb : Nat) (Ds : List Nat) (u9 u15 u16 u17 u18 u19 u42 u43 u44 u45 u46 u47 u48 u49 u50 u51 u52 u53 u54 u55 u56 u57 u58 u59 u60 u61 u62 u63 u64 u65 : Value), t ≤ 2 ∧ Ds.length = t ∧ a3 < tb ∧ a = { tmps := #[.pointer p, .slice ao BL.length cap, .int .i64 leave, undef, .pointer (some ⟨a0, 0, none⟩), .pointer (some ⟨a1, 0, none⟩), .pointer (some ⟨a2, 0, none⟩), .func (.func 91) #[] #[.pointer (some ⟨a3, 0, none⟩)], .pointer (some ⟨tb, 0, none⟩), u9, undef, .pointer p, .func (.func 91) #[] #[.pointer (some ⟨a3, 0, none⟩)], .func (.func 91) #[] #[.pointer (some ⟨a3, 0, none⟩)], .bool false, u15, u16, u17, u18, u19, undef, undef, undef, undef, undef, undef, undef, undef, undef, undef, undef, undef, undef, undef, undef, undef, undef, undef, undef, undef, undef, undef, u42, u43, u44, u45, u46, u47, u48, u49, u50, u51, u52, u53, u54, u55, u56, u57, u58, u59, u60, u61, u62, u63, u64, u65], defers := marks Ds } ∧ Live w.heap.size W Ds ∧ Lb w W a0 a1 a2 a3 tb ao BL.length cap leave p t)
    (fun a _ => 2 - a.defers.length) ⟨0, a4, [], _, _, _, _, _, _, _, _, _, _, _, _, _, _, _, _, _, _, _, _, _, _, _, _, _, _, _, _, _, _, by decide, rfl, ha4, rfl, ⟨by simp, by simp, by simp⟩, L0.out⟩ ?_
  rintro a W ⟨t, tb, Ds, u9, u15, u16, u17, u18, u19, u42, u43, u44, u45, u46, u47, u48, u49, u50, u51, u52, u53, u54, u55, u56, u57, u58, u59, u60, u61, u62, u63, u64, u65, ht, hDs, htb, rfl, hLive, hLb⟩
  have c0 := cell_one hLb.want
  have c1 := cell_one hLb.lv
  have c4 := cell_one hLb.turn
  have f4 := free_one hLb.turn
  have HLB := hid hLb
  have HLV := hid hLive
  have HDS := hid hDs
  have hBk := hLb.k
  by_cases ht2 : t = 2
  · subst ht2
    have c2 := cell_one hLb.res
    have f2 := free_one hLb.res
    obtain ⟨D1, D2, rfl⟩ : ∃ D1 D2, Ds = [D1, D2] := by
      match Ds, hDs with
      | [x, y], _ => exact ⟨x, y, rfl⟩
    clear hLb hLive hDs
    gi_wp2
    have LS := HLV.out.set HLB.out.res (.bool true)
    have hd12 : D2 ≠ D1 := by have := LS.2.1; simp at this; omega
    have hl1 := LS.2.2 D1 (by simp)
    have hl2 := LS.2.2 D2 (by simp)
    have k1 := LS.1 D1 (by simp)
    have k2 := LS.1 D2 (by simp)
    have r2 := set_one (u := .bool true) HLB.out.res
    have hr1 : a2 ≠ D1 := by rintro rfl; rw [r2] at k1; simp at k1
    have hr2 : a2 ≠ D2 := by rintro rfl; rw [r2] at k2; simp at k2
    refine ⟨by simp, .inl ⟨_, _, rfl, run_takeDeferred k1, ⟨by simp, .inl ⟨_, _, rfl, run_takeDeferred ((World.putObj_heap_other hd12).trans k2), ?_⟩⟩⟩⟩
    have hcell := cell_one ((World.putObj_heap_other (o := .deferred none) hr2).trans ((World.putObj_heap_other (o := .deferred none) hr1).trans r2))
    refine ⟨.bool true, by simp [results, Tryz.results24, go_sem, hcell], rfl, ?_⟩
    have hk := (Kp.of_below HLB.out.k).past (Kp.setCell W ⟨a2, 0, none⟩ (.bool true)) (by intro k hk hlt; simp at hk; omega)
    exact ⟨hk.os, hk.tape, hk.output, by have := hk.size; simp [World.putObj] at this ⊢; exact this, fun k hk' _ => (World.putObj_heap_other (by omega)).trans ((World.putObj_heap_other (by omega)).trans (hk.block k hk' (by simp)))⟩
  · have ht1 : (t : Int) < 2 := by omega
    clear hLb hLive hDs
    gi_wp2
    obtain ⟨nb, hnb⟩ : ∃ nb, W.heap.size = nb := ⟨_, rfl⟩
    have A1 := hid (heap_alloc_new W (.cells #[.int .i64 0] 3))
    rw [hnb] at A1
    have L1 := hid (HLB.out.alloc (.cells #[.int .i64 0] 3))
    have V1 := hid (HLV.out.alloc (.cells #[.int .i64 0] 3))
    have DL := hid (show ∀ D ∈ Ds, D < nb from fun D hm => by rw [← hnb]; exact lt_of_block (HLV.out.1 D hm))
    have hbt : tb < nb := by rw [← hnb]; exact lt_of_block HLB.out.turn
    have hb3 : a3 < nb := by rw [← hnb]; exact lt_of_block HLB.out.it
    obtain ⟨W1, hW1⟩ : ∃ W1, W.alloc (.cells #[.int .i64 0] 3) = W1 := ⟨_, rfl⟩
    rw [hW1] at A1 L1 V1
    rw [hnb, hW1]
    have hs1 : W1.heap.size = nb + 1 := by rw [← hW1, ← hnb]; simp
    clear hnb hW1 hBk c0 c1 c4 f4
    refine wpIn_rangeFunc_ownH rfl h1 (gf := 91) (lb := #[.pointer (some ⟨a3, 0, none⟩)]) rfl trivial (enters_of Tryz.func91 (by kernel_rfl) rfl)
      (HI.out W1 a3 W1.heap.size (Kp.of_below L1.out.k) (cell_one L1.out.it) (Nat.le_refl _)) Kc.trans (fun W l o o' _ h hc _ => kc_put _ W l o o' h hc) (Below.refl _ _) (fun _ => rfl)
      (fun pre W => (W.heap[nb]? = some (.cells #[.int .i64 pre.length] 3 (0, 0)) ∧ vals pre <+: vals BL ∧ (t = 0 → pre.length = 0 ∨ (pre.length : Int) ≠ leave)) ∧ Live w.heap.size W Ds ∧ Lb w W a0 a1 a2 a3 tb ao BL.length cap leave p t)
      (fun cc pre W => (cc = .exit 2 ∧ t = 0 ∧ W.heap[nb]? = some (.cells #[.int .i64 leave] 3 (0, 0)) ∧ Live w.heap.size W Ds ∧ Lb w W a0 a1 a2 a3 tb ao BL.length cap leave p t) ∨ (cc = .ret ∧ ¬ vals pre <+: vals BL))
      (fun s A B row hs hg hr => ⟨⟨cells_kept hs.1.1 hg hr, hs.1.2⟩, hs.2.1.own (D0 := nb) DL.out hg (fun r e => by have := (hr r e).1; omega), hs.2.2.own (D := W1.heap.size) (by omega) hg hr⟩)
      (fun cc s A B row hs hg hr => by
        rcases hs with ⟨e, e', x1, x2, x3⟩ | hs
        · exact .inl ⟨e, e', cells_kept x1 hg hr, x2.own (D0 := nb) DL.out hg (fun r e => by have := (hr r e).1; omega), x3.own (D := W1.heap.size) (by omega) hg hr⟩
        · exact .inr hs)
      ⟨⟨by simpa using A1.out, by simp [vals], fun _ => .inl rfl⟩, V1.out, L1.out⟩
      (fun x a' W => ∃ q, bbox W q x.1 ∧ a' = { tmps := #[.pointer p, .slice ao BL.length cap, .int .i64 leave, undef, .pointer (some ⟨a0, 0, none⟩), .pointer (some ⟨a1, 0, none⟩), .pointer (some ⟨a2, 0, none⟩), .func (.func 91) #[] #[.pointer (some ⟨a3, 0, none⟩)], .pointer (some ⟨tb, 0, none⟩), .pointer (some ⟨nb, 0, none⟩), .pointer (some ⟨q, 0, none⟩), .pointer p, .func (.func 91) #[] #[.pointer (some ⟨a3, 0, none⟩)], .func (.func 91) #[] #[.pointer (some ⟨a3, 0, none⟩)], .bool false, .int .i64 t, .bool true, u17, u18, .func (.func 91) #[] #[.pointer (some ⟨a3, 0, none⟩)], bval x.1, undef, undef, undef, undef, undef, undef, undef, undef, undef, undef, undef, undef, undef, undef, undef, undef, undef, undef, undef, undef, undef, u42, u43, u44, u45, u46, u47, u48, u49, u50, u51, u52, u53, u54, u55, u56, u57, u58, u59, u60, u61, u62, u63, u64, u65], defers := [] })
      (fun x a' s A B row hs hg hr => by obtain ⟨q, x2, x4⟩ := hs; exact ⟨q, cells_kept x2 hg hr, x4⟩)
      ?assign ?body ?done ?stop
    case assign =>
      rintro l pre x W K hi hK
      have HK := hid hK
      have HIn := hid hi
      clear hK hi
      unfold bval
      gi_wp2
      refine HK.out _ _ ((KeepsOthers.alloc _ _).from _) (Kc.of_kp (Kp.alloc _ _ []) (by simp)) ⟨⟨(Below.heap_alloc _ _ _ (lt_of_block HIn.out.1.1)).trans HIn.out.1.1, HIn.out.1.2⟩, HIn.out.2.1.alloc _, HIn.out.2.2.alloc _⟩ ⟨W.heap.size, heap_alloc_new W _, rfl⟩
    case body =>
      rintro l pre x a' W hlw ⟨rr, hrr⟩ ⟨⟨hn, hpre, hlv⟩, hLive, hLb⟩ ⟨q, hbb, rfl⟩ hlt
      obtain ⟨b0, b1, b2⟩ := hbb.cells
      have c0 := cell_one hLb.want
      have c1 := cell_one hLb.lv
      have c2 := cell_one hLb.res
      have f2 := free_one hLb.res
      have c4 := cell_one hLb.turn
      have c5 := cell_one hn
      have f5 := free_one hn
      have hltI : (pre.length : Int) < (BL.length : Int) := by omega
      have hv : pre.length < (vals BL).length := by rw [vals_length]; exact hlt
      have hRW := HRB.out.keep (Kp.of_below hLb.k)
      obtain ⟨aoo, capp, hvv, hcc⟩ := hRW
      rw [vals_length] at hvv
      simp only [Value.slice.injEq, true_and] at hvv
      obtain ⟨rfl, rfl⟩ := hvv
      obtain ⟨b, off, rfl, hcell⟩ := hcc (fun e => by rw [e] at hv; simp at hv)
      obtain ⟨d0, d1, d2⟩ := hcell pre.length hv
      obtain ⟨y, hy⟩ : ∃ y, (vals BL)[pre.length] = y := ⟨_, rfl⟩
      rw [hy] at d0 d1 d2
      have hneq := fun W => bk_neq x.1 y W
      unfold bval at hneq
      have HLBB := hid hLb
      have HN := hid hn
      have HPRE := hid hpre
      have HLVV := hid hlv
      have HY := hid hy
      have HLI := hid hLive
      have hge : (BL.length ≤ pre.length) = False := eq_false (by omega)
      clear hLb hn hpre hlv hy hbb hcell hcc hrr hLive
      by_cases hxy : x.1 = y
      · have txy : (x.1 == y) = true := by simp [hxy]
        have HXY := hid hxy
        clear hxy
        gi_wp2
        refine Code.wpIn_mono (Q := fun e a' w' => e = .normal ∧ a' = { tmps := #[.pointer p, .slice (some ⟨b, off, none⟩) BL.length cap, .int .i64 leave, undef, .pointer (some ⟨a0, 0, none⟩), .pointer (some ⟨a1, 0, none⟩), .pointer (some ⟨a2, 0, none⟩), .func (.func 91) #[] #[.pointer (some ⟨a3, 0, none⟩)], .pointer (some ⟨tb, 0, none⟩), .pointer (some ⟨nb, 0, none⟩), .pointer (some ⟨q, 0, none⟩), .pointer p, .func (.func 91) #[] #[.pointer (some ⟨a3, 0, none⟩)], .func (.func 91) #[] #[.pointer (some ⟨a3, 0, none⟩)], .bool false, .int .i64 t, .bool true, u17, u18, .func (.func 91) #[] #[.pointer (some ⟨a3, 0, none⟩)], bval x.1, .int .i64 pre.length, .slice (some ⟨b, off, none⟩) BL.length cap, .int .i64 BL.length, .bool false, .bool false, .agg #[.int .i64 x.1.1, .int .i64 x.1.2.1, .bool x.1.2.2], .slice (some ⟨b, off, none⟩) BL.length cap, .int .i64 pre.length, .pointer (some ⟨b, off + pre.length * 3, none⟩), .agg #[.int .i64 y.1, .int .i64 y.2.1, .bool y.2.2], .bool false, .bool false, undef, undef, undef, undef, undef, undef, undef, undef, undef, u42, u43, u44, u45, u46, u47, u48, u49, u50, u51, u52, u53, u54, u55, u56, u57, u58, u59, u60, u61, u62, u63, u64, u65], defers := [] } ∧ w' = W.drew) ?_ ?_
        · rintro e a' w' ⟨rfl, rfl, rfl⟩
          have hsn : (pre ++ [x]).length = pre.length + 1 := by simp
          have PR := hid (show vals (pre ++ [x]) <+: vals BL by
            rw [vals_snoc, HXY.out, ← HY.out]
            have e1 : vals pre = (vals BL).take pre.length := by
              have := List.prefix_iff_eq_take.1 HPRE.out
              rw [vals_length] at this
              exact this
            rw [e1, ← List.take_succ_eq_append_getElem hv]
            exact List.take_prefix _ _)
          have hne5 : nb ≠ a0 ∧ nb ≠ a1 ∧ nb ≠ a2 ∧ nb ≠ a3 ∧ nb ≠ tb := by omega
          have SN := hid hsn
          clear hneq hsn
          by_cases htz : t = 0
          · have tz : ((t : Int) == 0) = true := by rw [htz]; rfl
            have HT := hid htz
            clear htz
            by_cases hle : (pre.length : Int) + 1 = leave
            · have tl : ((pre.length : Int) + 1 == leave) = true := by simp [hle]
              have HLE := hid hle
              clear hle
              gi_wp2
              refine ⟨((KeepsOthers.setCell W ⟨nb, 0, none⟩ (.int .i64 ((pre.length : Int) + 1))).trans (KeepsOthers.drew _)).from _, .inl ⟨rfl, HT.out, ?_, HLI.out.set HN.out (.int .i64 ((pre.length : Int) + 1)), (HLBB.out.cnt hne5 (by omega) (.int .i64 ((pre.length : Int) + 1))).drew⟩⟩
              rw [← HLE.out]
              exact set_one HN.out
            · have tl : ((pre.length : Int) + 1 == leave) = false := by simp [hle]
              have HLE := hid hle
              clear hle
              gi_wp2
              refine ⟨((KeepsOthers.setCell W ⟨nb, 0, none⟩ (.int .i64 ((pre.length : Int) + 1))).trans (KeepsOthers.drew _)).from _, (Kc.of_kp ((Kp.setCell W ⟨nb, 0, none⟩ (.int .i64 ((pre.length : Int) + 1))).trans (Kp.drew _ _)) (by simp; omega)), ⟨?_, PR.out, ?_⟩, HLI.out.set HN.out (.int .i64 ((pre.length : Int) + 1)), (HLBB.out.cnt hne5 (by omega) (.int .i64 ((pre.length : Int) + 1))).drew⟩
              · rw [SN.out]; push_cast; exact set_one HN.out
              · intro _; right; rw [SN.out]; push_cast; exact HLE.out
          · have tz : ((t : Int) == 0) = false := by rw [beq_eq_false_iff_ne]; omega
            have HT := hid htz
            clear htz
            gi_wp2
            refine ⟨((KeepsOthers.setCell W ⟨nb, 0, none⟩ (.int .i64 ((pre.length : Int) + 1))).trans (KeepsOthers.drew _)).from _, (Kc.of_kp ((Kp.setCell W ⟨nb, 0, none⟩ (.int .i64 ((pre.length : Int) + 1))).trans (Kp.drew _ _)) (by simp; omega)), ⟨?_, PR.out, ?_⟩, HLI.out.set HN.out (.int .i64 ((pre.length : Int) + 1)), (HLBB.out.cnt hne5 (by omega) (.int .i64 ((pre.length : Int) + 1))).drew⟩
            · rw [SN.out]; push_cast; exact set_one HN.out
            · intro h; exact absurd h HT.out
        · gi_region_with_o (fail)
          all_goals exact ⟨rfl, rfl, rfl⟩
      · have txy : (x.1 == y) = false := by simp [hxy]
        have HXY := hid hxy
        clear hxy
        gi_wp2
        refine Code.wpIn_mono (Q := fun e a' w' => e = .normal ∧ a' = { tmps := #[.pointer p, .slice (some ⟨b, off, none⟩) BL.length cap, .int .i64 leave, undef, .pointer (some ⟨a0, 0, none⟩), .pointer (some ⟨a1, 0, none⟩), .pointer (some ⟨a2, 0, none⟩), .func (.func 91) #[] #[.pointer (some ⟨a3, 0, none⟩)], .pointer (some ⟨tb, 0, none⟩), .pointer (some ⟨nb, 0, none⟩), .pointer (some ⟨q, 0, none⟩), .pointer p, .func (.func 91) #[] #[.pointer (some ⟨a3, 0, none⟩)], .func (.func 91) #[] #[.pointer (some ⟨a3, 0, none⟩)], .bool false, .int .i64 t, .bool true, u17, u18, .func (.func 91) #[] #[.pointer (some ⟨a3, 0, none⟩)], bval x.1, .int .i64 pre.length, .slice (some ⟨b, off, none⟩) BL.length cap, .int .i64 BL.length, .bool false, .bool false, .agg #[.int .i64 x.1.1, .int .i64 x.1.2.1, .bool x.1.2.2], .slice (some ⟨b, off, none⟩) BL.length cap, .int .i64 pre.length, .pointer (some ⟨b, off + pre.length * 3, none⟩), .agg #[.int .i64 y.1, .int .i64 y.2.1, .bool y.2.2], .bool true, .bool true, undef, undef, undef, undef, undef, undef, undef, undef, undef, u42, u43, u44, u45, u46, u47, u48, u49, u50, u51, u52, u53, u54, u55, u56, u57, u58, u59, u60, u61, u62, u63, u64, u65], defers := [] } ∧ w' = W.drew) ?_ ?_
        · rintro e a' w' ⟨rfl, rfl, rfl⟩
          clear hneq
          gi_wp2
          refine ⟨((KeepsOthers.setCell W ⟨a2, 0, none⟩ (.bool false)).trans (KeepsOthers.drew _)).from _, .inr ⟨rfl, fun hp => HXY.out ?_⟩⟩
          rw [vals_snoc] at hp
          have hg := hp.getElem (i := pre.length) (by simp [vals_length])
          rw [← HY.out, ← hg]
          simp [vals_length]
        · gi_region_with_o (fail)
          all_goals exact ⟨rfl, rfl, rfl⟩
    case done =>
      rintro D ys W hD hys ⟨⟨hn, hpre, hlv⟩, hLive, hLb⟩ hK
      rw [hys] at hn
      have c0 := cell_one hLb.want
      have c1 := cell_one hLb.lv
      have c4 := cell_one hLb.turn
      have c5 := cell_one hn
      have HLBB := hid hLb
      have HLI := hid hLive
      have HK := hid hK
      clear hLb hK hn hpre hlv hLive
      by_cases htz : t = 0
      · have tz : ((t : Int) == 0) = true := by rw [htz]; rfl
        have tz1 : ((t : Int) == 1) = false := by rw [htz]; rfl
        have HT := hid htz
        clear htz
        gi_wp2
        refine ⟨⟨t + 1, W.heap.size, D :: Ds, _, _, _, _, _, _, _, _, _, _, _, _, _, _, _, _, _, _, _, _, _, _, _, _, _, _, _, _, _, _, by omega, by simp [HDS.out], by have := lt_of_block HLBB.out.it; omega, rfl, (HLI.out.alloc _).more ((Below.heap_alloc _ _ _ (lt_of_block HK.out)).trans HK.out) (fun E hE => by have := DL.out E hE; omega) (by omega), ?_⟩, by simp [marks, HDS.out]; omega⟩
        have := HLBB.out.next ((t : Int) + 1)
        simpa using this
      · have tz : ((t : Int) == 0) = false := by rw [beq_eq_false_iff_ne]; omega
        have tz1 : ((t : Int) == 1) = true := by rw [beq_iff_eq]; omega
        have HT := hid htz
        clear htz
        gi_wp2
        refine ⟨⟨t + 1, W.heap.size, D :: Ds, _, _, _, _, _, _, _, _, _, _, _, _, _, _, _, _, _, _, _, _, _, _, _, _, _, _, _, _, _, _, by omega, by simp [HDS.out], by have := lt_of_block HLBB.out.it; omega, rfl, (HLI.out.alloc _).more ((Below.heap_alloc _ _ _ (lt_of_block HK.out)).trans HK.out) (fun E hE => by have := DL.out E hE; omega) (by omega), ?_⟩, by simp [marks, HDS.out]; omega⟩
        have := HLBB.out.next ((t : Int) + 1)
        simpa using this
    case stop =>
      rintro D cc pre W hD hSp hx hK
      rcases hx with ⟨rfl, htz, hn, hLive, hLb⟩ | ⟨rfl, hnp⟩
      · have c0 := cell_one hLb.want
        have c1 := cell_one hLb.lv
        have c4 := cell_one hLb.turn
        have c5 := cell_one hn
        have HLBB := hid hLb
        have HLI := hid hLive
        have HK := hid hK
        have tz : ((t : Int) == 0) = true := by rw [htz]; rfl
        have tz1 : ((t : Int) == 1) = false := by rw [htz]; rfl
        have HT := hid htz
        clear hLb hK hn hLive htz
        by_cases hll : leave = (BL.length : Int)
        · have tn : (leave != (BL.length : Int)) = false := by simp [hll]
          have HLL := hid hll
          clear hll
          gi_wp2
          refine ⟨⟨t + 1, W.heap.size, D :: Ds, _, _, _, _, _, _, _, _, _, _, _, _, _, _, _, _, _, _, _, _, _, _, _, _, _, _, _, _, _, _, by omega, by simp [HDS.out], by have := lt_of_block HLBB.out.it; omega, rfl, (HLI.out.alloc _).more ((Below.heap_alloc _ _ _ (lt_of_block HK.out)).trans HK.out) (fun E hE => by have := DL.out E hE; omega) (by omega), ?_⟩, by simp [marks, HDS.out]; omega⟩
          have := HLBB.out.next ((t : Int) + 1)
          simpa using this
        · have tn : (leave != (BL.length : Int)) = true := by simp [hll]
          have HLL := hid hll
          clear hll
          gi_wp2
          refine ⟨⟨t + 1, W.heap.size, D :: Ds, _, _, _, _, _, _, _, _, _, _, _, _, _, _, _, _, _, _, _, _, _, _, _, _, _, _, _, _, _, _, by omega, by simp [HDS.out], by have := lt_of_block HLBB.out.it; omega, rfl, (HLI.out.alloc _).more ((Below.heap_alloc _ _ _ (lt_of_block HK.out)).trans HK.out) (fun E hE => by have := DL.out E hE; omega) (by omega), ?_⟩, by simp [marks, HDS.out]; omega⟩
          have := HLBB.out.next ((t : Int) + 1)
          simpa using this
      · exact absurd (vals_prefix hSp) hnp
end Go.Proofs.YtgefmnnkpffpcaaGreatDoor
