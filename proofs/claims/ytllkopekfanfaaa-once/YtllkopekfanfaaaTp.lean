/- top: the first message, if there is one. -/
import Derived.BigQuiet
import Derived.Test.YtllkopekfanfaaaTk
namespace Go.Proofs.Ytllkopekfanfaaa
open Go.RowKit Go.Shelf Go.Lib Go.Sort Go.Maps
attribute [local go_sem] Oper.semAt_some

/-- The boxes of top. -/
structure B2t (W : World) (s : Nat) (d : Int × Int) (c : Bool) : Prop where
  b0 : W.heap[s]? = some (.cells #[.int .i64 d.1, .int .i64 d.2] 34 (0, 0))
  b1 : W.heap[s + 1]? = some (.cells #[.bool c] 4 (0, 0))
theorem B2t.kept {W W' : World} {s : Nat} {d : Int × Int} {c : Bool} {row : Option Nat} {B : Nat} (h : B2t W s d c) (hg : W.grownBy W' row) (hr : ∀ r, row = some r → B ≤ r ∧ ∃ o : Obj, W.heap[r]? = some o ∧ o.isCells = false) : B2t W' s d c :=
  ⟨cells_kept h.b0 hg hr, cells_kept h.b1 hg hr⟩
theorem B2t.set {W : World} {s : Nat} {d : Int × Int} {c : Bool} (h : B2t W s d c) (d' : Int × Int) (c' : Bool) : B2t (((W.setCell ⟨s, 0, none⟩ (.int .i64 d'.1)).setCell ⟨s, 1, none⟩ (.int .i64 d'.2)).setCell ⟨s + 1, 0, none⟩ (.bool c')) s d' c' := by
  have k1 := Kp.setCell W ⟨s, 0, none⟩ (.int .i64 d'.1)
  have k2 := Kp.setCell (W.setCell ⟨s, 0, none⟩ (.int .i64 d'.1)) ⟨s, 1, none⟩ (.int .i64 d'.2)
  have k3 := Kp.setCell ((W.setCell ⟨s, 0, none⟩ (.int .i64 d'.1)).setCell ⟨s, 1, none⟩ (.int .i64 d'.2)) ⟨s + 1, 0, none⟩ (.bool c')
  have e1 := s2b (x := .int .i64 d'.2) (s2a (x := .int .i64 d'.1) h.b0)
  have e2 := ((k2.block _ (by simpa using lt_of_block h.b1) (by simp)).trans (k1.block _ (lt_of_block h.b1) (by simp))).trans h.b1
  exact ⟨(k3.block _ (lt_of_block e1) (by simp)).trans e1, set_one e2⟩
theorem fin16 (w W : World) (p : Option Addr) (x E : Nat) (d : Int × Int) (c : Bool) (u5 u12 u13 u14 : Value) (h : B2t W w.heap.size d c) (hE : w.heap.size + 2 ≤ E) (hK : W.heap[E]? = some (.deferred (some []))) (hT : Below w.heap.size w W) :
    bodyPostM Fence.wide 6 Try.prog Try.f16 (fun e w' => e = .returned (.tuple #[mv d, .bool c]) ∧ Kp w w' []) .ret { tmps := #[.pointer p, undef, .pointer (some ⟨w.heap.size, 0, none⟩), .pointer (some ⟨w.heap.size + 1, 0, none⟩), itm x, u5, .pointer p, itm x, itm x, .bool false, undef, itm x, u12, u13, u14], defers := [{ target := .collected E, args := #[] }] } W := by
  refine ⟨by simp, .inl ⟨_, _, rfl, run_takeDeferred hK, ?_⟩⟩
  have c0 := cell_two0 ((World.putObj_heap_other (o := .deferred none) (show w.heap.size ≠ E by omega)).trans h.b0)
  have c1 := cell_two1 ((World.putObj_heap_other (o := .deferred none) (show w.heap.size ≠ E by omega)).trans h.b0)
  have c2 := cell_one ((World.putObj_heap_other (o := .deferred none) (show w.heap.size + 1 ≠ E by omega)).trans h.b1)
  refine ⟨.tuple #[mv d, .bool c], by simp [results, go_sem, c0, c1, c2, mv], rfl, ?_⟩
  exact ⟨hT.os, hT.tape, hT.output, by have := hT.size; simp [World.putObj] at this ⊢; exact this, fun k hk _ => (World.putObj_heap_other (by omega)).trans (hT.block k hk)⟩
theorem fn_not_nil3 (a : Nat) (W : World) : (binOp .eql 83 (itm a) .nilFunc).run Try.prog W = .ok (.bool false) W := by kernel_rfl
set_option maxRecDepth 100000 in
set_option maxHeartbeats 2000000 in
theorem top_any (w : World) (p : Option Addr) (Z : Ml) (h : Qv w p Z) :
    Calls Try.prog 16 #[.pointer p] w fun e w' => e = .returned (.tuple #[mv (Z.headD (0, 0)), .bool (!Z.isEmpty)]) ∧ Kp w w' [] := by
  have H := hid h
  have HS := hid (fun W x (hI : Itq W x Z) => itM_seqs 5 (by decide) x Z W hI)
  clear h
  refine (callsIn_wide (n := 6)).1 ?_
  have h1 : 1 ≤ 6 := by decide
  refine callsIn_of_wp_marks Try.func16 rfl trivial ?_ rfl
  simp only [Try.ntmps16, List.size_toArray, List.length_cons, List.length_nil, Nat.reduceAdd, Nat.reduceSub, Array.replicate_succ, Array.replicate_zero, List.push_toArray, List.append_toArray, List.nil_append, List.cons_append]
  refine wpIn_wide.2 ?_
  go_wp2_with fail
  have k0 := (Kp.alloc w (.cells #[.int .i64 0, .int .i64 0] 34) []).trans (Kp.alloc _ (.cells #[.bool false] 4) [])
  obtain ⟨W0, hW0⟩ : ∃ W0, (w.alloc (.cells #[.int .i64 0, .int .i64 0] 34)).alloc (.cells #[.bool false] 4) = W0 := ⟨_, rfl⟩
  have hsz : W0.heap.size = w.heap.size + 2 := by rw [← hW0]; simp
  have hbx : B2t W0 w.heap.size (0, 0) false := by
    refine ⟨?_, ?_⟩
    · rw [← hW0, Below.heap_alloc _ _ _ (by simp)]; exact heap_alloc_new w _
    · rw [← hW0]
      have := heap_alloc_new (w.alloc (.cells #[.int .i64 0, .int .i64 0] 34)) (.cells #[.bool false] 4)
      simpa using this
  rw [hW0] at k0 ⊢
  clear hW0
  have HBX := hid hbx
  have K0 := hid k0
  refine (allM_any W0 p).mono ?_
  rintro e w1 ⟨rfl, hw1⟩
  have HI := hid (show Itq w1 W0.heap.size Z by rw [hw1]; exact Itq.new (H.out.keep K0.out))
  have HK := hid (show Kp W0 w1 [] by rw [hw1]; exact Kp.alloc _ _ _)
  clear hw1 hbx k0
  obtain ⟨x, hx⟩ : ∃ x, W0.heap.size = x := ⟨_, rfl⟩
  rw [hx] at HI hsz ⊢
  have HXX := hid (And.intro hx hsz)
  clear hx hsz
  have hnn := fn_not_nil3
  go_wp2_with fail
  have hB1 : B2t w1 w.heap.size (0, 0) false := ⟨(HK.out.block _ (by have := HXX.out; have := HXX.out.2; omega) (by simp)).trans HBX.out.b0, (HK.out.block _ (by have := HXX.out; have := HXX.out.2; omega) (by simp)).trans HBX.out.b1⟩
  have hs1 : w.heap.size + 2 ≤ w1.heap.size := by have := HK.out.size; have := HXX.out; have := HXX.out.2; omega
  have HB1 := hid hB1
  have HW1 := hid (K0.out.trans HK.out)
  clear hB1
  refine (wpIn_wide (n := 6)).1 ?_
  refine range_seqs (K := KcM w1.heap.size) h1 (gf := 67) (lb := #[.pointer (some ⟨x, 0, none⟩)]) rfl (enters_of Try.func67 (by kernel_rfl) rfl)
    (HS.out w1 x HI.out) KcM.trans (kcM_put _) (kcM_alloc _) (Below.refl _ _) (fun _ => rfl)
    (fun pre W => (pre = [] ∧ B2t W w.heap.size (0, 0) false) ∧ Below w.heap.size w W)
    (fun cc pre W => (cc = .ret ∧ ∃ d : Int × Int, pre = [d] ∧ B2t W w.heap.size d true) ∧ Below w.heap.size w W)
    (OwnFrom.and (fun s A B row hs hg hr => ⟨hs.1, hs.2.kept hg hr⟩) (ownFrom_below (Nat.le_refl _) (by omega)))
    (fun cc => OwnFrom.and (fun s A B row hs hg hr => ⟨hs.1, hs.2.choose, hs.2.choose_spec.1, hs.2.choose_spec.2.kept hg hr⟩) (ownFrom_below (Nat.le_refl _) (by omega)))
    ⟨⟨rfl, HB1.out⟩, HW1.out.below⟩
    (fun d => .cells #[.int .i64 d.1, .int .i64 d.2] 34)
    (fun d b => { tmps := #[.pointer p, undef, .pointer (some ⟨w.heap.size, 0, none⟩), .pointer (some ⟨w.heap.size + 1, 0, none⟩), itm x, .pointer (some ⟨b, 0, none⟩), .pointer p, itm x, itm x, .bool false, undef, itm x, .agg #[.int .i64 d.1, .int .i64 d.2], undef, undef], defers := [] })
    ?assign ?body ?done ?stop
  case assign =>
    intro l d W K _ hK
    have HK := hid hK
    clear hK
    simp only [encV, mv]
    gi_wp2
    exact HK.out
  case body =>
    rintro l pre d b W hpre hbb ⟨⟨rfl, hb⟩, hbl⟩ hob
    have u0 := cell_two0 hb.b0
    have u1 := cell_two1 hb.b0
    have u2 := cell_one hb.b1
    have f0 := free_two hb.b0
    have f1 := free_one hb.b1
    have v0 := cell_two0 hob
    have v1 := cell_two1 hob
    have HB := hid hb
    have HL := hid hbl
    clear hb hbl hpre hob
    gi_wp2
    refine ⟨(((KeepsOthers.setCell _ _ _).from _).trans ((KeepsOthers.setCell _ _ _).from _)).trans ((KeepsOthers.setCell _ _ _).from _), ⟨rfl, d.1, d.2, rfl, HB.out.set d true⟩, ?_⟩
    exact ((HL.out.setCell (p := ⟨w.heap.size, 0, none⟩) (Nat.le_refl _) _).setCell (p := ⟨w.heap.size, 1, none⟩) (Nat.le_refl _) _).setCell (p := ⟨w.heap.size + 1, 0, none⟩) (Nat.le_add_right _ _) _
  case done =>
    rintro E W hE ⟨⟨hz, hb⟩, hbl⟩ hK
    subst hz
    have u0 := cell_two0 hb.b0
    have u1 := cell_two1 hb.b0
    have u2 := cell_one hb.b1
    have f0 := free_two hb.b0
    have f1 := free_one hb.b1
    have HB := hid hb
    have HL := hid hbl
    have HK := hid hK
    clear hK hb hbl
    gi_wp2
    go_wp2
    refine fin16 w _ p x E (0, 0) false _ _ _ _ (HB.out.set (0, 0) false) (by omega) ?_ (((HL.out.setCell (p := ⟨w.heap.size, 0, none⟩) (Nat.le_refl _) _).setCell (p := ⟨w.heap.size, 1, none⟩) (Nat.le_refl _) _).setCell (p := ⟨w.heap.size + 1, 0, none⟩) (Nat.le_add_right _ _) _)
    exact (Below.heap_setCell _ _ _ _ (by simp; omega)).trans ((Below.heap_setCell _ _ _ _ (by simp; omega)).trans ((Below.heap_setCell _ _ _ _ (by simp; omega)).trans HK.out))
  case stop =>
    rintro E cc pre W hE hpre ⟨⟨rfl, d, rfl, hb⟩, hbl⟩ hK
    have HB := hid hb
    have HL := hid hbl
    have HK := hid hK
    have HP := hid hpre
    clear hK hb hbl hpre
    gi_wp2
    obtain ⟨t, ht⟩ := HP.out
    rw [← ht]
    exact fin16 w _ p x E d true _ _ _ _ HB.out (by omega) HK.out HL.out
end Go.Proofs.Ytllkopekfanfaaa
