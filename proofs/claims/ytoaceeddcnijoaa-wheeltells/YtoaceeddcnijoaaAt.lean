/- At. -/
import Derived.Test.YtoaceeddcnijoaaFirst
namespace Go.Proofs.Ytoaceeddcnijoaa
open Go.RowKit Go.Shelf Go.Lib Go.Sort
attribute [local go_sem] Oper.semAt_some

/-- A number's deadline in a list. -/
def atV (id : Int) (Z : List Dl) : Int := ((Z.find? fun d => d.1 == id).map (·.2)).getD 0
def hasV (id : Int) (Z : List Dl) : Bool := (Z.find? fun d => d.1 == id).isSome
theorem find_none {id : Int} {Z : List Dl} (h : ∀ d ∈ Z, (d.1 == id) = false) : Z.find? (fun d => d.1 == id) = none := by
  rw [List.find?_eq_none]
  intro d hd
  simp [h d hd]
theorem find_some {id : Int} {pre t : List Dl} {d : Dl} (h : ∀ d ∈ pre, (d.1 == id) = false) (hd : (d.1 == id) = true) : (pre ++ [d] ++ t).find? (fun d => d.1 == id) = some d := by
  rw [List.append_assoc, List.find?_append, find_none h]
  simp [hd]
theorem B3.set2 {W : World} {s : Nat} {a b : Int} {c : Bool} (h : B3 W s a b c) (b' : Int) (c' : Bool) : B3 ((W.setCell ⟨s + 1, 0, none⟩ (.int .i64 b')).setCell ⟨s + 2, 0, none⟩ (.bool c')) s a b' c' := by
  refine ⟨?_, ?_, ?_⟩
  · exact (Below.heap_setCell _ _ _ _ (by simp)).trans ((Below.heap_setCell _ _ _ _ (by simp)).trans h.b0)
  · exact (Below.heap_setCell _ _ _ _ (by simp)).trans (set_one h.b1)
  · exact set_one ((Below.heap_setCell _ _ _ _ (by simp)).trans h.b2)
theorem fin16 (w W : World) (p : Option Addr) (x E : Nat) (id b : Int) (c : Bool) (h : B3 W w.heap.size id b c) (hE : w.heap.size + 3 ≤ E) (hK : W.heap[E]? = some (.deferred (some []))) (hb : Below w.heap.size w W) :
    bodyPostM Fence.wide 6 Try.prog Try.f16 (fun e w' => e = .returned (.tuple #[.int .i64 b, .bool c]) ∧ Kp w w' []) .ret { tmps := #[.pointer p, .int .i64 id, undef, .pointer (some ⟨w.heap.size, 0, none⟩), .pointer (some ⟨w.heap.size + 1, 0, none⟩), .pointer (some ⟨w.heap.size + 1 + 1, 0, none⟩), undef, undef, .pointer p, itv x, undef, undef, undef, undef, undef, undef], defers := [{ target := .collected E, args := #[] }] } W := by
  refine ⟨by simp, .inl ⟨_, _, rfl, run_takeDeferred hK, ?_⟩⟩
  have c1 := cell_one ((World.putObj_heap_other (o := .deferred none) (show w.heap.size + 1 ≠ E by omega)).trans h.b1)
  have c2 := cell_one ((World.putObj_heap_other (o := .deferred none) (show w.heap.size + 1 + 1 ≠ E by omega)).trans h.b2)
  refine ⟨.tuple #[.int .i64 b, .bool c], by simp [results, go_sem, c1, c2], rfl, ?_⟩
  have hk := Kp.of_below hb
  exact ⟨hk.os, hk.tape, hk.output, by have := hk.size; simp [World.putObj] at this ⊢; exact this, fun k hk' _ => (World.putObj_heap_other (by omega)).trans (hk.block k hk' (by simp))⟩
set_option maxRecDepth 100000 in
theorem at_any (w : World) (p : Option Addr) (id : Int) (Z : List Dl) (hl : Z.length ≤ 100000) (ha : ∀ W, Kp w W [] → Calls Try.prog 19 #[.pointer p] W fun e w' => (∃ x, e = .returned (itv x) ∧ It w' W.heap.size x Z) ∧ Kp W w' []) :
    Calls Try.prog 16 #[.pointer p, .int .i64 id] w fun e w' => e = .returned (.tuple #[.int .i64 (atV id Z), .bool (hasV id Z)]) ∧ Kp w w' [] := by
  have HA := hid ha
  clear ha
  refine (callsIn_wide (n := 6)).1 ?_
  have h1 : 1 ≤ 6 := by decide
  refine callsIn_of_wp_marks Try.func16 rfl trivial ?_ rfl
  simp only [Try.ntmps16, List.size_toArray, List.length_cons, List.length_nil, Nat.reduceAdd, Nat.reduceSub, Array.replicate_succ, Array.replicate_zero, List.push_toArray, List.append_toArray, List.nil_append, List.cons_append]
  refine wpIn_wide.2 ?_
  go_wp2_with fail
  obtain ⟨W0, hW0⟩ : ∃ W0, ((w.alloc (.cells #[.int .i64 id] 3)).alloc (.cells #[.int .i64 0] 2)).alloc (.cells #[.bool false] 4) = W0 := ⟨_, rfl⟩
  have hsz : W0.heap.size = w.heap.size + 3 := by rw [← hW0]; simp
  have k0 : Kp w W0 [] := by rw [← hW0]; exact ((Kp.alloc w (.cells #[.int .i64 id] 3) []).trans (Kp.alloc _ (.cells #[.int .i64 0] 2) [])).trans (Kp.alloc _ (.cells #[.bool false] 4) [])
  have hbx : B3 W0 w.heap.size id 0 false := by
    refine ⟨?_, ?_, ?_⟩
    · rw [← hW0, Below.heap_alloc _ _ _ (by simp; omega), Below.heap_alloc _ _ _ (by simp)]; exact heap_alloc_new w _
    · rw [← hW0, Below.heap_alloc _ _ _ (by simp)]
      have := heap_alloc_new (w.alloc (.cells #[.int .i64 id] 3)) (.cells #[.int .i64 0] 2)
      simpa using this
    · rw [← hW0]
      have := heap_alloc_new ((w.alloc (.cells #[.int .i64 id] 3)).alloc (.cells #[.int .i64 0] 2)) (.cells #[.bool false] 4)
      simpa using this
  rw [hW0]
  clear hW0
  have HBX := hid hbx
  have K0 := hid k0
  refine (HA.out W0 k0).mono ?_
  rintro e w1 ⟨⟨x, rfl, hI⟩, hk⟩
  have HI := hid hI
  have HK := hid hk
  clear hI hk hbx k0
  go_wp2_with fail
  have hB1 : B3 w1 w.heap.size id 0 false := ⟨(HK.out.block _ (by omega) (by simp)).trans HBX.out.b0, (HK.out.block _ (by omega) (by simp)).trans HBX.out.b1, (HK.out.block _ (by omega) (by simp)).trans HBX.out.b2⟩
  have hs1 : w.heap.size + 3 ≤ w1.heap.size := by have := HK.out.size; omega
  have HB1 := hid hB1
  have HW1 := hid (K0.out.trans HK.out)
  clear hB1
  refine (wpIn_wide (n := 6)).1 ?_
  refine range_seqs (K := Kc W0.heap.size) h1 (gf := 34) (lb := #[.pointer (some ⟨x, 0, none⟩)]) rfl (enters_of Try.func34 (by kernel_rfl) rfl)
    (it_seqs 5 (by decide) W0.heap.size x Z hl (Kc W0.heap.size) (fun A B v hk hd => dr_kc hk hd) w1 HI.out) Kc.trans (kc_put _) (Below.refl _ _) (fun _ => rfl)
    (fun pre W => ((∀ d ∈ pre, (d.1 == id) = false) ∧ B3 W w.heap.size id 0 false) ∧ Below w.heap.size w W)
    (fun cc pre W => (cc = .ret ∧ ∃ (p1 : List Dl) (d : Dl), (pre = p1 ++ [d] ∧ (∀ d ∈ p1, (d.1 == id) = false) ∧ (d.1 == id) = true) ∧ B3 W w.heap.size id d.2 true) ∧ Below w.heap.size w W)
    (OwnFrom.and (fun s A B row hs hg hr => ⟨hs.1, hs.2.kept hg hr⟩) (ownFrom_below (Nat.le_refl _) (by omega)))
    (fun cc => OwnFrom.and (fun s A B row hs hg hr => by obtain ⟨q0, p1, d, q1, q2⟩ := hs; exact ⟨q0, p1, d, q1, q2.kept hg hr⟩) (ownFrom_below (Nat.le_refl _) (by omega)))
    ⟨⟨by simp, HB1.out⟩, HW1.out.below⟩
    (fun d => { tmps := #[.pointer p, .int .i64 id, undef, .pointer (some ⟨w.heap.size, 0, none⟩), .pointer (some ⟨w.heap.size + 1, 0, none⟩), .pointer (some ⟨w.heap.size + 1 + 1, 0, none⟩), .int .i64 d.1, .int .i64 d.2, .pointer p, itv x, .int .i64 d.1, .int .i64 d.2, undef, undef, undef, undef], defers := [] })
    ?assign ?body ?done ?stop
  case assign =>
    intro l d W K _ hK
    have HK := hid hK
    clear hK
    gi_wp2
    exact HK.out
  case body =>
    rintro l pre d W hpre ⟨⟨hno, hb⟩, hbl⟩
    have u0 := cell_one hb.b0
    have u1 := cell_one hb.b1
    have u2 := cell_one hb.b2
    have f1 := free_one hb.b1
    have f2 := free_one hb.b2
    have HB := hid hb
    have HL := hid hbl
    have HNO := hid hno
    clear hb hbl hpre hno
    cases hq : (d.1 == id) with
    | true =>
      have HQ := hid hq
      gi_wp2
      refine ⟨((KeepsOthers.setCell _ _ _).from _).trans ((KeepsOthers.setCell _ _ _).from _), ⟨rfl, pre, d, ⟨rfl, HNO.out, HQ.out⟩, HB.out.set2 d.2 true⟩, ?_⟩
      exact (HL.out.setCell (p := ⟨w.heap.size + 1, 0, none⟩) (Nat.le_add_right _ _) _).setCell (p := ⟨w.heap.size + 1 + 1, 0, none⟩) (by simp; omega) _
    | false =>
      have HQ := hid hq
      gi_wp2
      refine ⟨KeepsFrom.refl _ _, Kc.refl _ _, ⟨fun e he => ?_, HB.out⟩, HL.out⟩
      rcases List.mem_append.1 he with q | q
      · exact HNO.out e q
      · rw [List.mem_singleton.1 q]; exact HQ.out
  case done =>
    rintro E W hE ⟨⟨hno, hb⟩, hbl⟩ hK
    have u1 := cell_one hb.b1
    have u2 := cell_one hb.b2
    have f1 := free_one hb.b1
    have f2 := free_one hb.b2
    have HB := hid hb
    have HL := hid hbl
    have HK := hid hK
    have e1 : atV id Z = 0 := by unfold atV; rw [find_none hno]; rfl
    have e2 : hasV id Z = false := by unfold hasV; rw [find_none hno]; rfl
    have E1 := hid e1
    have E2 := hid e2
    clear hK hb hbl hno e1 e2
    gi_wp2
    go_wp2
    rw [E1.out, E2.out]
    refine fin16 w _ p x E id 0 false (HB.out.set2 0 false) (by omega) ?_ ((HL.out.setCell (p := ⟨w.heap.size + 1, 0, none⟩) (Nat.le_add_right _ _) _).setCell (p := ⟨w.heap.size + 1 + 1, 0, none⟩) (by simp; omega) _)
    exact (Below.heap_setCell _ _ _ _ (by simp; omega)).trans ((Below.heap_setCell _ _ _ _ (by simp; omega)).trans HK.out)
  case stop =>
    rintro E cc pre W hE hpre ⟨⟨rfl, p1, d, ⟨rfl, hno, hd⟩, hb⟩, hbl⟩ hK
    have HB := hid hb
    have HL := hid hbl
    have HK := hid hK
    obtain ⟨t, ht⟩ := hpre
    have e1 : atV id Z = d.2 := by unfold atV; rw [← ht, find_some hno hd]; rfl
    have e2 : hasV id Z = true := by unfold hasV; rw [← ht, find_some hno hd]; rfl
    have E1 := hid e1
    have E2 := hid e2
    clear hK hb hbl hno hd ht e1 e2
    gi_wp2
    rw [E1.out, E2.out]
    exact fin16 w _ p x E id d.2 true HB.out (by omega) HK.out HL.out
end Go.Proofs.Ytoaceeddcnijoaa
