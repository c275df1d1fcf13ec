/- First. -/
import Derived.Test.YtoaceeddcnijoaaSeq
namespace Go.Proofs.Ytoaceeddcnijoaa
open Go.RowKit Go.Shelf Go.Lib Go.Sort
attribute [local go_sem] Oper.semAt_some

theorem dr_kc {A B : World} {base : Nat} {v : Value} {Z : List Dl} (hK : Kc base A B) (h : Dr A base v Z) : Dr B base v Z := by
  refine ⟨h.1, ?_⟩
  rcases h.2 with q | ⟨g, cap, cur, rfl, h1, h2, h3⟩
  · exact .inl q
  · exact .inr ⟨g, cap, cur, rfl, h1, hK.same g _ _ _ h1 h2, h3⟩
theorem cells_kept {W W' : World} {row : Option Nat} {b B : Nat} {c : Array Value} {t : TypeId} {f : Nat × Nat} (h : W.heap[b]? = some (.cells c t f)) (hg : W.grownBy W' row) (hr : ∀ r, row = some r → B ≤ r ∧ ∃ o : Obj, W.heap[r]? = some o ∧ o.isCells = false) : W'.heap[b]? = some (.cells c t f) := by
  refine (hg.block b (lt_of_block h) ?_).trans h
  intro e
  obtain ⟨-, o, ho, hc⟩ := hr b e.symm
  rw [h] at ho
  cases ho
  simp [Obj.isCells] at hc
theorem free_one {w : World} {b : Nat} {v : Value} {t : TypeId} (h : w.heap[b]? = some (.cells #[v] t (0, 0))) : w.frozen? ⟨b, 0, none⟩ = false := by simp [World.frozen?, h]
theorem cell_one {w : World} {b : Nat} {v : Value} {t : TypeId} (h : w.heap[b]? = some (.cells #[v] t (0, 0))) : w.cell? ⟨b, 0, none⟩ = some v := by simp [World.cell?, h]
theorem set_one {w : World} {b : Nat} {v x : Value} {t : TypeId} (h : w.heap[b]? = some (.cells #[v] t (0, 0))) : (w.setCell ⟨b, 0, none⟩ x).heap[b]? = some (.cells #[x] t (0, 0)) := by
  rw [heap_setCell_same w b 0 _ t x h]
  rfl
/-- The three results' boxes. -/
structure B3 (W : World) (s : Nat) (a b : Int) (c : Bool) : Prop where
  b0 : W.heap[s]? = some (.cells #[.int .i64 a] 3 (0, 0))
  b1 : W.heap[s + 1]? = some (.cells #[.int .i64 b] 2 (0, 0))
  b2 : W.heap[s + 2]? = some (.cells #[.bool c] 4 (0, 0))
theorem B3.kept {W W' : World} {s : Nat} {a b : Int} {c : Bool} {row : Option Nat} {B : Nat} (h : B3 W s a b c) (hg : W.grownBy W' row) (hr : ∀ r, row = some r → B ≤ r ∧ ∃ o : Obj, W.heap[r]? = some o ∧ o.isCells = false) : B3 W' s a b c :=
  ⟨cells_kept h.b0 hg hr, cells_kept h.b1 hg hr, cells_kept h.b2 hg hr⟩
theorem B3.set {W : World} {s : Nat} {a b : Int} {c : Bool} (h : B3 W s a b c) (a' b' : Int) (c' : Bool) : B3 (((W.setCell ⟨s, 0, none⟩ (.int .i64 a')).setCell ⟨s + 1, 0, none⟩ (.int .i64 b')).setCell ⟨s + 2, 0, none⟩ (.bool c')) s a' b' c' := by
  have e0 := set_one (x := .int .i64 a') h.b0
  have e1 : (W.setCell ⟨s, 0, none⟩ (.int .i64 a')).heap[s + 1]? = _ := (Below.heap_setCell _ _ _ _ (by simp)).trans h.b1
  have e2 : (W.setCell ⟨s, 0, none⟩ (.int .i64 a')).heap[s + 2]? = _ := (Below.heap_setCell _ _ _ _ (by simp)).trans h.b2
  refine ⟨?_, ?_, ?_⟩
  · exact (Below.heap_setCell _ _ _ _ (by simp)).trans ((Below.heap_setCell _ _ _ _ (by simp)).trans e0)
  · exact (Below.heap_setCell _ _ _ _ (by simp)).trans (set_one e1)
  · exact set_one ((Below.heap_setCell _ _ _ _ (by simp)).trans e2)
theorem fin17 (w W : World) (p : Option Addr) (x E : Nat) (a b : Int) (c : Bool) (h : B3 W w.heap.size a b c) (hE : w.heap.size + 3 ≤ E) (hK : W.heap[E]? = some (.deferred (some []))) (hb : Below w.heap.size w W) :
    bodyPostM Fence.wide 6 Try.prog Try.f17 (fun e w' => e = .returned (.tuple #[.int .i64 a, .int .i64 b, .bool c]) ∧ Kp w w' []) .ret { tmps := #[.pointer p, undef, .pointer (some ⟨w.heap.size, 0, none⟩), .pointer (some ⟨w.heap.size + 1, 0, none⟩), .pointer (some ⟨w.heap.size + 1 + 1, 0, none⟩), undef, undef, .pointer p, itv x, undef, undef, undef, undef], defers := [{ target := .collected E, args := #[] }] } W := by
  refine ⟨by simp, .inl ⟨_, _, rfl, run_takeDeferred hK, ?_⟩⟩
  have c0 := cell_one ((World.putObj_heap_other (o := .deferred none) (show w.heap.size ≠ E by omega)).trans h.b0)
  have c1 := cell_one ((World.putObj_heap_other (o := .deferred none) (show w.heap.size + 1 ≠ E by omega)).trans h.b1)
  have c2 := cell_one ((World.putObj_heap_other (o := .deferred none) (show w.heap.size + 1 + 1 ≠ E by omega)).trans h.b2)
  refine ⟨.tuple #[.int .i64 a, .int .i64 b, .bool c], by simp [results, go_sem, c0, c1, c2], rfl, ?_⟩
  have hk := Kp.of_below hb
  exact ⟨hk.os, hk.tape, hk.output, by have := hk.size; simp [World.putObj] at this ⊢; exact this, fun k hk' _ => (World.putObj_heap_other (by omega)).trans (hk.block k hk' (by simp))⟩
set_option maxRecDepth 100000 in
theorem first_any (w : World) (p : Option Addr) (Z : List Dl) (hl : Z.length ≤ 100000) (ha : ∀ W, Kp w W [] → Calls Try.prog 19 #[.pointer p] W fun e w' => (∃ x, e = .returned (itv x) ∧ It w' W.heap.size x Z) ∧ Kp W w' []) :
    Calls Try.prog 17 #[.pointer p] w fun e w' => e = .returned (.tuple #[.int .i64 (Z.headD (0, 0)).1, .int .i64 (Z.headD (0, 0)).2, .bool (!Z.isEmpty)]) ∧ Kp w w' [] := by
  have HA := hid ha
  clear ha
  refine (callsIn_wide (n := 6)).1 ?_
  have h1 : 1 ≤ 6 := by decide
  refine callsIn_of_wp_marks Try.func17 rfl trivial ?_ rfl
  simp only [Try.ntmps17, List.size_toArray, List.length_cons, List.length_nil, Nat.reduceAdd, Nat.reduceSub, Array.replicate_succ, Array.replicate_zero, List.push_toArray, List.append_toArray, List.nil_append, List.cons_append]
  refine wpIn_wide.2 ?_
  go_wp2_with fail
  have k0 := ((Kp.alloc w (.cells #[.int .i64 0] 3) []).trans (Kp.alloc _ (.cells #[.int .i64 0] 2) [])).trans (Kp.alloc _ (.cells #[.bool false] 4) [])
  obtain ⟨W0, hW0⟩ : ∃ W0, ((w.alloc (.cells #[.int .i64 0] 3)).alloc (.cells #[.int .i64 0] 2)).alloc (.cells #[.bool false] 4) = W0 := ⟨_, rfl⟩
  have hsz : W0.heap.size = w.heap.size + 3 := by rw [← hW0]; simp
  have hbx : B3 W0 w.heap.size 0 0 false := by
    refine ⟨?_, ?_, ?_⟩
    · rw [← hW0, Below.heap_alloc _ _ _ (by simp; omega), Below.heap_alloc _ _ _ (by simp)]; exact heap_alloc_new w _
    · rw [← hW0, Below.heap_alloc _ _ _ (by simp)]
      have := heap_alloc_new (w.alloc (.cells #[.int .i64 0] 3)) (.cells #[.int .i64 0] 2)
      simpa using this
    · rw [← hW0]
      have := heap_alloc_new ((w.alloc (.cells #[.int .i64 0] 3)).alloc (.cells #[.int .i64 0] 2)) (.cells #[.bool false] 4)
      simpa using this
  rw [hW0] at k0 ⊢
  clear hW0
  have HBX := hid hbx
  have K0 := hid k0
  refine (HA.out W0 k0).mono ?_
  rintro e w1 ⟨⟨x, rfl, hI⟩, hk⟩
  have HI := hid hI
  have HK := hid hk
  clear hI hk hbx k0
  go_wp2_with fail
  have hB1 : B3 w1 w.heap.size 0 0 false := ⟨(HK.out.block _ (by omega) (by simp)).trans HBX.out.b0, (HK.out.block _ (by omega) (by simp)).trans HBX.out.b1, (HK.out.block _ (by omega) (by simp)).trans HBX.out.b2⟩
  have hs1 : w.heap.size + 3 ≤ w1.heap.size := by have := HK.out.size; omega
  have HB1 := hid hB1
  have HW1 := hid (K0.out.trans HK.out)
  clear hB1
  refine (wpIn_wide (n := 6)).1 ?_
  refine range_seqs (K := Kc W0.heap.size) h1 (gf := 34) (lb := #[.pointer (some ⟨x, 0, none⟩)]) rfl (enters_of Try.func34 (by kernel_rfl) rfl)
    (it_seqs 5 (by decide) W0.heap.size x Z hl (Kc W0.heap.size) (fun A B v hk hd => dr_kc hk hd) w1 HI.out) Kc.trans (kc_put _) (Below.refl _ _) (fun _ => rfl)
    (fun pre W => (pre = [] ∧ B3 W w.heap.size 0 0 false) ∧ Below w.heap.size w W)
    (fun cc pre W => (cc = .ret ∧ ∃ d : Dl, pre = [d] ∧ B3 W w.heap.size d.1 d.2 true) ∧ Below w.heap.size w W)
    (OwnFrom.and (fun s A B row hs hg hr => ⟨hs.1, hs.2.kept hg hr⟩) (ownFrom_below (Nat.le_refl _) (by omega)))
    (fun cc => OwnFrom.and (fun s A B row hs hg hr => ⟨hs.1, hs.2.choose, hs.2.choose_spec.1, hs.2.choose_spec.2.kept hg hr⟩) (ownFrom_below (Nat.le_refl _) (by omega)))
    ⟨⟨rfl, HB1.out⟩, HW1.out.below⟩
    (fun d => { tmps := #[.pointer p, undef, .pointer (some ⟨w.heap.size, 0, none⟩), .pointer (some ⟨w.heap.size + 1, 0, none⟩), .pointer (some ⟨w.heap.size + 1 + 1, 0, none⟩), .int .i64 d.1, .int .i64 d.2, .pointer p, itv x, .int .i64 d.1, .int .i64 d.2, undef, undef], defers := [] })
    ?assign ?body ?done ?stop
  case assign =>
    intro l d W K _ hK
    have HK := hid hK
    clear hK
    gi_wp2
    exact HK.out
  case body =>
    rintro l pre d W hpre ⟨⟨rfl, hb⟩, hbl⟩
    have u0 := cell_one hb.b0
    have u1 := cell_one hb.b1
    have u2 := cell_one hb.b2
    have f0 := free_one hb.b0
    have f1 := free_one hb.b1
    have f2 := free_one hb.b2
    have HB := hid hb
    have HL := hid hbl
    clear hb hbl hpre
    gi_wp2
    refine ⟨((KeepsOthers.setCell _ _ _).from _).trans (((KeepsOthers.setCell _ _ _).from _).trans ((KeepsOthers.setCell _ _ _).from _)), ⟨rfl, d, rfl, HB.out.set d.1 d.2 true⟩, ?_⟩
    exact ((HL.out.setCell (p := ⟨w.heap.size, 0, none⟩) (Nat.le_refl _) _).setCell (p := ⟨w.heap.size + 1, 0, none⟩) (Nat.le_add_right _ _) _).setCell (p := ⟨w.heap.size + 1 + 1, 0, none⟩) (by simp; omega) _
  case done =>
    rintro E W hE ⟨⟨hz, hb⟩, hbl⟩ hK
    subst hz
    have u0 := cell_one hb.b0
    have u1 := cell_one hb.b1
    have u2 := cell_one hb.b2
    have f0 := free_one hb.b0
    have f1 := free_one hb.b1
    have f2 := free_one hb.b2
    have HB := hid hb
    have HL := hid hbl
    have HK := hid hK
    clear hK hb hbl
    gi_wp2
    go_wp2
    refine fin17 w _ p x E 0 0 false (HB.out.set 0 0 false) (by omega) ?_ (((HL.out.setCell (p := ⟨w.heap.size, 0, none⟩) (Nat.le_refl _) _).setCell (p := ⟨w.heap.size + 1, 0, none⟩) (Nat.le_add_right _ _) _).setCell (p := ⟨w.heap.size + 1 + 1, 0, none⟩) (by simp; omega) _)
    exact (Below.heap_setCell _ _ _ _ (by simp; omega)).trans ((Below.heap_setCell _ _ _ _ (by simp; omega)).trans ((Below.heap_setCell _ _ _ _ (by simp; omega)).trans HK.out))
  case stop =>
    rintro E cc pre W hE hpre ⟨⟨rfl, d, rfl, hb⟩, hbl⟩ hK
    have u0 := cell_one hb.b0
    have u1 := cell_one hb.b1
    have u2 := cell_one hb.b2
    have HB := hid hb
    have HL := hid hbl
    have HK := hid hK
    have HP := hid hpre
    clear hK hb hbl hpre
    gi_wp2
    obtain ⟨t, ht⟩ := HP.out
    rw [← ht]
    exact fin17 w _ p x E d.1 d.2 true HB.out (by omega) HK.out HL.out
end Go.Proofs.Ytoaceeddcnijoaa
