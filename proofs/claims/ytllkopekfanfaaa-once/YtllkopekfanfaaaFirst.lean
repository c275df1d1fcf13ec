/- First, List. -/
import Derived.Test.YtllkopekfanfaaaOrder
namespace Go.Proofs.Ytllkopekfanfaaa
open Go.RowKit Go.Shelf Go.Lib Go.Sort Go.Maps
attribute [local go_sem] Oper.semAt_some

theorem cells_kept {W W' : World} {row : Option Nat} {b B : Nat} {c : Array Value} {t : TypeId} {f : Nat × Nat} (h : W.heap[b]? = some (.cells c t f)) (hg : W.grownBy W' row) (hr : ∀ r, row = some r → B ≤ r ∧ ∃ o : Obj, W.heap[r]? = some o ∧ o.isCells = false) : W'.heap[b]? = some (.cells c t f) := by
  refine (hg.block b (lt_of_block h) ?_).trans h
  intro e
  obtain ⟨-, o, ho, hc⟩ := hr b e.symm
  rw [h] at ho
  cases ho
  simp [Obj.isCells] at hc
theorem free_one {w : World} {b : Nat} {v : Value} {t : TypeId} (h : w.heap[b]? = some (.cells #[v] t (0, 0))) : w.frozen? ⟨b, 0, none⟩ = false := by simp [World.frozen?, h]
theorem cell_one {w : World} {b : Nat} {v : Value} {t : TypeId} (h : w.heap[b]? = some (.cells #[v] t (0, 0))) : w.cell? ⟨b, 0, none⟩ = some v := by simp [World.cell?, h]
theorem set_one {w : World} {b : Nat} {v x : Value} {t : TypeId} (h : w.heap[b]? = some (.cells #[v] t (0, 0))) : (w.setCell ⟨b, 0, none⟩ x).heap[b]? = some (.cells #[x] t (0, 0)) := by
  rw [heap_setCell_same w b 0 _ t x h]
  rfl
/-- The two results' boxes. -/
structure B2 (W : World) (s : Nat) (a : Int) (c : Bool) : Prop where
  b0 : W.heap[s]? = some (.cells #[.int .i64 a] 3 (0, 0))
  b1 : W.heap[s + 1]? = some (.cells #[.bool c] 4 (0, 0))
theorem B2.kept {W W' : World} {s : Nat} {a : Int} {c : Bool} {row : Option Nat} {B : Nat} (h : B2 W s a c) (hg : W.grownBy W' row) (hr : ∀ r, row = some r → B ≤ r ∧ ∃ o : Obj, W.heap[r]? = some o ∧ o.isCells = false) : B2 W' s a c :=
  ⟨cells_kept h.b0 hg hr, cells_kept h.b1 hg hr⟩
theorem B2.set {W : World} {s : Nat} {a : Int} {c : Bool} (h : B2 W s a c) (a' : Int) (c' : Bool) : B2 ((W.setCell ⟨s, 0, none⟩ (.int .i64 a')).setCell ⟨s + 1, 0, none⟩ (.bool c')) s a' c' := by
  have e0 := set_one (x := .int .i64 a') h.b0
  have e1 : (W.setCell ⟨s, 0, none⟩ (.int .i64 a')).heap[s + 1]? = _ := (Below.heap_setCell _ _ _ _ (by simp)).trans h.b1
  exact ⟨(Below.heap_setCell _ _ _ _ (by simp)).trans e0, set_one e1⟩
theorem fin30 (w W : World) (p : Option Addr) (x E : Nat) (a : Int) (c : Bool) (u4 u7 u8 u9 : Value) (h : B2 W w.heap.size a c) (hE : w.heap.size + 2 ≤ E) (hK : W.heap[E]? = some (.deferred (some []))) (hb : Below w.heap.size w W) :
    bodyPostM Fence.wide 6 Try.prog Try.f71 (fun e w' => e = .returned (.tuple #[.int .i64 a, .bool c]) ∧ Kp w w' []) .ret { tmps := #[.pointer p, undef, .pointer (some ⟨w.heap.size, 0, none⟩), .pointer (some ⟨w.heap.size + 1, 0, none⟩), u4, .pointer p, itv x, u7, u8, u9], defers := [{ target := .collected E, args := #[] }] } W := by
  refine ⟨by simp, .inl ⟨_, _, rfl, run_takeDeferred hK, ?_⟩⟩
  have c0 := cell_one ((World.putObj_heap_other (o := .deferred none) (show w.heap.size ≠ E by omega)).trans h.b0)
  have c1 := cell_one ((World.putObj_heap_other (o := .deferred none) (show w.heap.size + 1 ≠ E by omega)).trans h.b1)
  refine ⟨.tuple #[.int .i64 a, .bool c], by simp [results, go_sem, c0, c1], rfl, ?_⟩
  have hk := Kp.of_below hb
  exact ⟨hk.os, hk.tape, hk.output, by have := hk.size; simp [World.putObj] at this ⊢; exact this, fun k hk' _ => (World.putObj_heap_other (by omega)).trans (hk.block k hk' (by simp))⟩
/-- What First tells. -/
noncomputable def fstT (L : List Dl) : Int := ((ordL L).headD (0, 0)).1
noncomputable def fstB (L : List Dl) : Bool := !(ordL L).isEmpty
set_option maxRecDepth 100000 in
theorem first_any (w : World) (p : Option Addr) (L : List Dl) (h : Vw w p L) :
    Calls Try.prog 71 #[.pointer p] w fun e w' => e = .returned (.tuple #[.int .i64 (fstT L), .bool (fstB L)]) ∧ Kp w w' [] := by
  have H := hid h
  have HS := hid (fun W x (hI : It W x L) => it_seqs 5 (by decide) x L W hI)
  unfold fstT fstB
  generalize ordL L = Z at HS ⊢
  clear h
  refine (callsIn_wide (n := 6)).1 ?_
  have h1 : 1 ≤ 6 := by decide
  refine callsIn_of_wp_marks Try.func71 rfl trivial ?_ rfl
  simp only [Try.ntmps71, List.size_toArray, List.length_cons, List.length_nil, Nat.reduceAdd, Nat.reduceSub, Array.replicate_succ, Array.replicate_zero, List.push_toArray, List.append_toArray, List.nil_append, List.cons_append]
  refine wpIn_wide.2 ?_
  go_wp2_with fail
  have k0 := (Kp.alloc w (.cells #[.int .i64 0] 3) []).trans (Kp.alloc _ (.cells #[.bool false] 4) [])
  obtain ⟨W0, hW0⟩ : ∃ W0, (w.alloc (.cells #[.int .i64 0] 3)).alloc (.cells #[.bool false] 4) = W0 := ⟨_, rfl⟩
  have hsz : W0.heap.size = w.heap.size + 2 := by rw [← hW0]; simp
  have hbx : B2 W0 w.heap.size 0 false := by
    refine ⟨?_, ?_⟩
    · rw [← hW0, Below.heap_alloc _ _ _ (by simp)]; exact heap_alloc_new w _
    · rw [← hW0]
      have := heap_alloc_new (w.alloc (.cells #[.int .i64 0] 3)) (.cells #[.bool false] 4)
      simpa using this
  rw [hW0] at k0 ⊢
  clear hW0
  have HBX := hid hbx
  have K0 := hid k0
  refine (all_any W0 p).mono ?_
  rintro e w1 ⟨rfl, hw1⟩
  have HI := hid (show It w1 W0.heap.size L by rw [hw1]; exact It.new (H.out.keep K0.out))
  have HK := hid (show Kp W0 w1 [] by rw [hw1]; exact Kp.alloc _ _ _)
  clear hw1 hbx k0
  obtain ⟨x, hx⟩ : ∃ x, W0.heap.size = x := ⟨_, rfl⟩
  rw [hx] at HI hsz ⊢
  have HXX := hid (And.intro hx hsz)
  clear hx hsz
  go_wp2_with fail
  have hB1 : B2 w1 w.heap.size 0 false := ⟨(HK.out.block _ (by have := HXX.out; have := HXX.out.2; omega) (by simp)).trans HBX.out.b0, (HK.out.block _ (by have := HXX.out; have := HXX.out.2; omega) (by simp)).trans HBX.out.b1⟩
  have hs1 : w.heap.size + 2 ≤ w1.heap.size := by have := HK.out.size; have := HXX.out; have := HXX.out.2; omega
  have HB1 := hid hB1
  have HW1 := hid (K0.out.trans HK.out)
  clear hB1
  refine (wpIn_wide (n := 6)).1 ?_
  refine range_seqs (K := Kc w1.heap.size) h1 (gf := 88) (lb := #[.pointer (some ⟨x, 0, none⟩)]) rfl (enters_of Try.func88 (by kernel_rfl) rfl)
    (HS.out w1 x HI.out) Kc.trans (kc_put _) (kc_alloc _) (Below.refl _ _) (fun _ => rfl)
    (fun pre W => (pre = [] ∧ B2 W w.heap.size 0 false) ∧ Below w.heap.size w W)
    (fun cc pre W => (cc = .ret ∧ ∃ d : Dl, pre = [d] ∧ B2 W w.heap.size d.1 true) ∧ Below w.heap.size w W)
    (OwnFrom.and (fun s A B row hs hg hr => ⟨hs.1, hs.2.kept hg hr⟩) (ownFrom_below (Nat.le_refl _) (by omega)))
    (fun cc => OwnFrom.and (fun s A B row hs hg hr => ⟨hs.1, hs.2.choose, hs.2.choose_spec.1, hs.2.choose_spec.2.kept hg hr⟩) (ownFrom_below (Nat.le_refl _) (by omega)))
    ⟨⟨rfl, HB1.out⟩, HW1.out.below⟩
    (fun d => .cells #[.int .i64 d.1, .int .i64 d.2] 103)
    (fun d b => { tmps := #[.pointer p, undef, .pointer (some ⟨w.heap.size, 0, none⟩), .pointer (some ⟨w.heap.size + 1, 0, none⟩), .pointer (some ⟨b, 0, none⟩), .pointer p, itv x, dv d, undef, undef], defers := [] })
    ?assign ?body ?done ?stop
  case assign =>
    intro l d W K _ hK
    have HK := hid hK
    clear hK
    gi_wp2
    exact HK.out
  case body =>
    rintro l pre d b W hpre hbb ⟨⟨rfl, hb⟩, hbl⟩ hob
    have u0 := cell_one hb.b0
    have u1 := cell_one hb.b1
    have f0 := free_one hb.b0
    have f1 := free_one hb.b1
    have v0 := cell_two0 hob
    have HB := hid hb
    have HL := hid hbl
    clear hb hbl hpre hob
    gi_wp2
    refine ⟨((KeepsOthers.setCell _ _ _).from _).trans ((KeepsOthers.setCell _ _ _).from _), ⟨rfl, d, rfl, HB.out.set d.1 true⟩, ?_⟩
    exact (HL.out.setCell (p := ⟨w.heap.size, 0, none⟩) (Nat.le_refl _) _).setCell (p := ⟨w.heap.size + 1, 0, none⟩) (Nat.le_add_right _ _) _
  case done =>
    rintro E W hE ⟨⟨hz, hb⟩, hbl⟩ hK
    subst hz
    have u0 := cell_one hb.b0
    have u1 := cell_one hb.b1
    have f0 := free_one hb.b0
    have f1 := free_one hb.b1
    have HB := hid hb
    have HL := hid hbl
    have HK := hid hK
    clear hK hb hbl
    gi_wp2
    go_wp2
    refine fin30 w _ p x E 0 false undef undef undef undef (HB.out.set 0 false) (by omega) ?_ ((HL.out.setCell (p := ⟨w.heap.size, 0, none⟩) (Nat.le_refl _) _).setCell (p := ⟨w.heap.size + 1, 0, none⟩) (Nat.le_add_right _ _) _)
    exact (Below.heap_setCell _ _ _ _ (by simp; omega)).trans ((Below.heap_setCell _ _ _ _ (by simp; omega)).trans HK.out)
  case stop =>
    rintro E cc pre W hE hpre ⟨⟨rfl, d, rfl, hb⟩, hbl⟩ hK
    have u0 := cell_one hb.b0
    have u1 := cell_one hb.b1
    have HB := hid hb
    have HL := hid hbl
    have HK := hid hK
    have HP := hid hpre
    clear hK hb hbl hpre
    gi_wp2
    obtain ⟨t, ht⟩ := HP.out
    rw [← ht]
    exact fin30 w _ p x E d.1 true _ _ _ _ HB.out (by omega) HK.out HL.out
end Go.Proofs.Ytllkopekfanfaaa
