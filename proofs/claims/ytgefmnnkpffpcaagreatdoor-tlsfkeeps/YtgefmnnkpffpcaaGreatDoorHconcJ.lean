/- The heap's words as a short list: what Alloc, Aligned, Free and Realloc do to a state that is written out. -/
import Derived.Test.YtgefmnnkpffpcaaGreatDoorHcheck3J
import Derived.Test.YtgefmnnkpffpcaaGreatDoorHalign2
import Derived.Test.YtgefmnnkpffpcaaGreatDoorHrealJ
import Derived.Test.YtgefmnnkpffpcaaGreatDoorHzeroJ
namespace Go.Proofs.YtgefmnnkpffpcaaGreatDoor
open Go.RowKit Go.Maps

/-- Words, listed; all others are 0. -/
abbrev Wl := List (Nat × Int)
def sw (L : Wl) : Mem := fun o => ((L.find? fun p => p.1 == o).map (·.2)).getD 0
def agree (n : Nat) (g g' : Mem) : Bool := (List.range (n / 4)).all fun i => g (4 * i) == g' (4 * i)
theorem agree_at {n : Nat} {g g' : Mem} (h : agree n g g' = true) {o : Nat} (h4 : o % 4 = 0) (hn : o + 4 ≤ n) : g o = g' o := by
  unfold agree at h
  have := List.all_eq_true.1 h (o / 4) (List.mem_range.2 (by omega))
  rw [show 4 * (o / 4) = o by omega] at this
  simpa using this

variable {w w' : World} {hb rb mb pb n : Nat} {g g' : Mem} {c k : Int} {P P' : Pcs} {rows : List Nat}
theorem Hp.agree (h : Hp w hb rb mb pb n g c P) (ha : agree n g g' = true) : Hp w hb rb mb pb n g' c P := by
  obtain ⟨f, h1, h2⟩ := h.aw
  exact ⟨h.hh, ⟨f, h1, fun o ho hn => (h2 o ho hn).trans (agree_at ha ho hn)⟩, h.mp, h.nb, h.c0, h.tb, h.nz⟩
theorem Went.agree (h : Went w w' hb rb mb pb n g P c k rows) (ha : agree n g g' = true) : Went w w' hb rb mb pb n g' P c k rows := by
  obtain ⟨c', h1, h2, h3, h4⟩ := h
  exact ⟨c', h1, h2, h3.agree ha, h4⟩

/-- An answer with its state, as it is written out. -/
def okA (n : Nat) (r : Option (Int × Mem × Pcs)) (o : Int) (L' : Wl) (P' : Pcs) : Bool := match r with
  | some (o1, g1, P1) => o1 == o && (P1 == P' && agree n g1 (sw L'))
  | none => false
theorem okA_spec {n : Nat} {r : Option (Int × Mem × Pcs)} {o : Int} {L' : Wl} {P' : Pcs} (h : okA n r o L' P' = true) : ∃ g1, r = some (o, g1, P') ∧ agree n g1 (sw L') = true := by
  unfold okA at h
  split at h
  · rename_i o1 g1 P1
    simp only [Bool.and_eq_true, beq_iff_eq] at h
    obtain ⟨rfl, rfl, h3⟩ := h
    exact ⟨g1, rfl, h3⟩
  · cases h

theorem kalloc (w : World) (hb rb mb pb n : Nat) (L L' : Wl) (c : Int) (P P' : Pcs) (m o : Int) (h : Hp w hb rb mb pb n (sw L) c P) (hc : c < 1152921504606820000) (h1 : 1 ≤ m) (h2 : m ≤ 65536) (hP : P.length < maxLen) (hk : okA n (alloc n (sw L) P m) o L' P' = true) :
    Calls Tryz.prog 18 #[.pointer (some ⟨hb, 0, none⟩), .int .i64 m] w fun e w' => e = .returned (.tuple #[.int .i64 o, .int .i64 0]) ∧ Went w w' hb rb mb pb n (sw L') P' c 42 [rb, mb, pb] := by
  obtain ⟨g1, e, ha⟩ := okA_spec hk
  have := alloc_any w hb rb mb pb n (sw L) c P m h hc h1 h2 hP
  rw [e] at this
  exact this.mono fun e w' x => ⟨x.1, x.2.agree ha⟩
theorem kalloc_no (w : World) (hb rb mb pb n : Nat) (L : Wl) (c : Int) (P : Pcs) (m : Int) (h : Hp w hb rb mb pb n (sw L) c P) (hc : c < 1152921504606820000) (h1 : 1 ≤ m) (h2 : m ≤ 65536) (hP : P.length < maxLen) (hk : (alloc n (sw L) P m).isNone = true) :
    Calls Tryz.prog 18 #[.pointer (some ⟨hb, 0, none⟩), .int .i64 m] w fun e w' => e = .returned (.tuple #[.int .i64 0, .int .i64 5]) ∧ Went w w' hb rb mb pb n (sw L) P c 42 [rb, mb, pb] := by
  have := alloc_any w hb rb mb pb n (sw L) c P m h hc h1 h2 hP
  rw [Option.isNone_iff_eq_none.1 hk] at this
  exact this
theorem kaligned (w : World) (hb rb mb pb n : Nat) (L L' : Wl) (c : Int) (P P' : Pcs) (mul m o : Int) (h : Hp w hb rb mb pb n (sw L) c P) (hc : c < 1152921504606820000) (hmul : isMul mul = true) (h1 : 1 ≤ m) (h2 : m ≤ 65536) (hP : P.length < maxLen) (hk : okA n (aligned n (sw L) P mul m) o L' P' = true) :
    Calls Tryz.prog 19 #[.pointer (some ⟨hb, 0, none⟩), .int .i64 mul, .int .i64 m] w fun e w' => e = .returned (.tuple #[.int .i64 o, .int .i64 0]) ∧ Went w w' hb rb mb pb n (sw L') P' c 52 [rb, mb, pb] := by
  obtain ⟨g1, e, ha⟩ := okA_spec hk
  have := aligned_any w hb rb mb pb n (sw L) c P mul m h hc hmul h1 h2 hP
  rw [e] at this
  exact this.mono fun e w' x => ⟨x.1, x.2.agree ha⟩
def okF (n : Nat) (L : Wl) (P : Pcs) (o z : Int) (L' : Wl) (P' : Pcs) : Bool :=
  hasP P o && (getP P o == z && (decide (8 ≤ o ∧ 16 ≤ z ∧ z % 8 = 0 ∧ o - 8 + z ≤ n) && (delP P o == P' && agree n (freed n (sw L) P' (o - 8) z) (sw L'))))
theorem kfree (w : World) (hb rb mb pb n : Nat) (L L' : Wl) (c : Int) (P P' : Pcs) (o z : Int) (h : Hp w hb rb mb pb n (sw L) c P) (hc : c < 1152921504606830000) (hk : okF n L P o z L' P' = true) :
    Calls Tryz.prog 21 #[.pointer (some ⟨hb, 0, none⟩), .int .i64 o] w fun e w' => e = .returned (.int .i64 0) ∧ Went w w' hb rb mb pb n (sw L') P' c 29 [rb, mb, pb] := by
  simp only [okF, Bool.and_eq_true, beq_iff_eq, decide_eq_true_eq] at hk
  obtain ⟨k1, k2, ⟨k3, k4, k5, k6⟩, k7, k8⟩ := hk
  have := hfree_ok w hb rb mb pb n (sw L) c P o z h hc k3 k1 k2 k4 k5 k6
  rw [k7] at this
  exact this.mono fun e w' x => ⟨x.1, x.2.agree k8⟩
def okR (n : Nat) (L : Wl) (P : Pcs) (o m z : Int) (L' : Wl) (P' : Pcs) : Bool :=
  hasP P o && (getP P o == z && (decide (8 ≤ o ∧ needed m ≤ z ∧ z % 8 = 0 ∧ o - 8 + z ≤ n) && ((give n (sw L) P (o - 8) z (needed m)).2 == P' && agree n (give n (sw L) P (o - 8) z (needed m)).1 (sw L'))))
theorem krealloc (w : World) (hb rb mb pb n : Nat) (L L' : Wl) (c : Int) (P P' : Pcs) (o m z : Int) (h : Hp w hb rb mb pb n (sw L) c P) (hc : c < 1152921504606820000) (h1 : 1 ≤ m) (h2 : m ≤ 65536) (hP : P.length < maxLen) (hk : okR n L P o m z L' P' = true) :
    Calls Tryz.prog 26 #[.pointer (some ⟨hb, 0, none⟩), .int .i64 o, .int .i64 m] w fun e w' => e = .returned (.tuple #[.int .i64 o, .int .i64 0]) ∧ Went w w' hb rb mb pb n (sw L') P' c 31 [rb, mb, pb] := by
  simp only [okR, Bool.and_eq_true, beq_iff_eq, decide_eq_true_eq] at hk
  obtain ⟨k1, k2, ⟨k3, k4, k5, k6⟩, k7, k8⟩ := hk
  have := realloc_in w hb rb mb pb n (sw L) c P o m z h hc h1 h2 k3 k1 k2 k5 k4 k6 hP
  rw [k7] at this
  exact this.mono fun e w' x => ⟨x.1, x.2.agree k8⟩

/-! The states of 'known', 256 bytes. -/
def ks0 : Wl := [(0, 64), (28, 112), (112, 145)]
def ks1 : Wl := [(0, 64), (28, 128), (112, 16), (128, 129), (132, 112)]
def ks2 : Wl := [(0, 32), (24, 144), (112, 16), (128, 16), (132, 112), (144, 113), (148, 128)]
def ks3 : Wl := [(0, 16), (20, 168), (112, 16), (128, 16), (132, 112), (144, 24), (148, 128), (168, 89), (172, 144)]
def ks4 : Wl := [(0, 17), (4, 128), (20, 168), (112, 16), (128, 17), (132, 112), (144, 24), (148, 128), (168, 89), (172, 144)]
def ks6 : Wl := [(0, 2), (8, 232), (112, 16), (128, 16), (132, 112), (144, 24), (148, 128), (168, 64), (172, 144), (232, 25), (236, 168)]
def ks7 : Wl := [(0, 3), (4, 112), (8, 232), (112, 17), (128, 16), (132, 112), (144, 24), (148, 128), (168, 64), (172, 144), (232, 25), (236, 168)]
def ks8 : Wl := [(0, 6), (8, 232), (12, 112), (112, 33), (128, 16), (132, 112), (144, 24), (148, 112), (168, 64), (172, 144), (232, 25), (236, 168)]
def ks9 : Wl := [(0, 2), (8, 232), (112, 32), (128, 16), (132, 112), (144, 24), (148, 112), (168, 64), (172, 144), (232, 25), (236, 168)]
theorem kn0 : agree 256 (fresh0 256) (sw ks0) = true := by decide +kernel
theorem kn1 : okA 256 (alloc 256 (sw ks0) [] 1) 120 ks1 [(120, 16)] = true := by decide +kernel
theorem kn2 : okA 256 (alloc 256 (sw ks1) [(120, 16)] 8) 136 ks2 [(120, 16), (136, 16)] = true := by decide +kernel
theorem kn3 : okA 256 (alloc 256 (sw ks2) [(120, 16), (136, 16)] 9) 152 ks3 [(120, 16), (136, 16), (152, 24)] = true := by decide +kernel
theorem kn4 : okF 256 ks3 [(120, 16), (136, 16), (152, 24)] 136 16 ks4 [(120, 16), (152, 24)] = true := by decide +kernel
theorem kn5 : okA 256 (alloc 256 (sw ks4) [(120, 16), (152, 24)] 8) 136 ks3 [(120, 16), (136, 16), (152, 24)] = true := by decide +kernel
theorem kn5b : blocksOf 256 [(120, 16), (136, 16), (152, 24)] = [(112, 16, false), (128, 16, false), (144, 24, false), (168, 88, true)] := by decide +kernel
theorem kn5n : (alloc 256 (sw ks3) [(120, 16), (136, 16), (152, 24)] 80).isNone = true := by decide +kernel
theorem kn6 : okA 256 (alloc 256 (sw ks3) [(120, 16), (136, 16), (152, 24)] 56) 176 ks6 [(120, 16), (136, 16), (152, 24), (176, 64)] = true := by decide +kernel
theorem kn6b : blocksOf 256 [(120, 16), (136, 16), (152, 24), (176, 64)] = [(112, 16, false), (128, 16, false), (144, 24, false), (168, 64, false), (232, 24, true)] := by decide +kernel
theorem kn7 : okF 256 ks6 [(120, 16), (136, 16), (152, 24), (176, 64)] 120 16 ks7 [(136, 16), (152, 24), (176, 64)] = true := by decide +kernel
theorem kn8 : okF 256 ks7 [(136, 16), (152, 24), (176, 64)] 136 16 ks8 [(152, 24), (176, 64)] = true := by decide +kernel
theorem kn9 : okA 256 (alloc 256 (sw ks8) [(152, 24), (176, 64)] 24) 120 ks9 [(120, 32), (152, 24), (176, 64)] = true := by decide +kernel
theorem kn10 : okR 256 ks9 [(120, 32), (152, 24), (176, 64)] 152 8 24 ks9 [(120, 32), (152, 24), (176, 64)] = true := by decide +kernel
theorem kn10b : blocksOf 256 [(120, 32), (152, 24), (176, 64)] = [(112, 32, false), (144, 24, false), (168, 64, false), (232, 24, true)] := by decide +kernel
theorem kn10c : chkA 256 (sw ks9) 10 24 0 0 (freeOf [(112, 32, false), (144, 24, false), (168, 64, false), (232, 24, true)]) = some (2, []) := by decide +kernel
end Go.Proofs.YtgefmnnkpffpcaaGreatDoor

/- nothing: what the law asks of no heap. -/
namespace Go.Proofs.YtgefmnnkpffpcaaGreatDoor
open Go.RowKit Go.Maps Go.Shelf
attribute [local go_sem] Oper.semAt_some

set_option maxRecDepth 100000 in
set_option maxHeartbeats 4000000 in
theorem left_its (w : World) (p0 : Option Addr) (BL : List Bb) (hI : Its w p0 BL) (hlen : BL.length ≤ 131073) :
    Calls Tryz.prog 15 #[.pointer p0] w fun e w' => e = .returned (.int .i64 (leftOf (BL.map (·.1)))) ∧ Kp w w' [] := by
  refine (callsIn_wide (n := 6)).1 ?_
  have h1 : 1 ≤ 6 := by decide
  have hf50 : Fence.wide.fn 50 := trivial
  have A1 := hid ((Kp.alloc w (.cells #[.int .i64 0] 3) []).trans (Kp.alloc _ (.cells #[.pointer p0] 23) []))
  have HI := hid hI
  clear hI
  refine callsIn_of_wp_marks Tryz.func15 rfl trivial ?_ rfl
  simp only [Tryz.ntmps15, List.size_toArray, List.length_cons, List.length_nil, Nat.reduceAdd, Nat.reduceSub, Array.replicate_succ, Array.replicate_zero, List.push_toArray, List.append_toArray, List.nil_append, List.cons_append]
  gi_wp2_with (gi_at_call 50; refine (all_in _ _ _).mono ?_; rintro e w' ⟨rfl, rfl⟩)
  obtain ⟨W0, hW0⟩ : ∃ W0, (w.alloc (.cells #[.int .i64 0] 3)).alloc (.cells #[.pointer p0] 23) = W0 := ⟨_, rfl⟩
  have hsz : W0.heap.size = w.heap.size + 2 := by rw [← hW0]; simp
  have hbx : W0.cell? ⟨w.heap.size + 1, 0, none⟩ = some (.pointer p0) := by rw [← hW0]; exact cell_new1
  have hs0 : W0.heap[w.heap.size]? = some (.cells #[.int .i64 0] 3 (0, 0)) := by
    rw [← hW0, Below.heap_alloc _ _ _ (by simp)]; exact heap_alloc_new w _
  rw [hW0] at A1 ⊢
  refine wpIn_rangeFunc_ownH rfl h1 (gf := 91) (lb := #[.pointer (some ⟨w.heap.size + 1, 0, none⟩)]) rfl trivial (enters_of Tryz.func91 (by kernel_rfl) rfl)
    (HI.out W0 (w.heap.size + 1) W0.heap.size A1.out hbx (Nat.le_refl _)) Kc.trans (fun W l o o' _ h hc _ => kc_put _ W l o o' h hc) (Below.refl _ _) (fun _ => rfl)
    (fun pre W => W.heap[w.heap.size]? = some (.cells #[.int .i64 (leftOf (pre.map (·.1)))] 3 (0, 0)) ∧ Below w.heap.size w W)
    (fun _ _ _ => False)
    (OwnFrom.and (fun s A B row hs hg hr => cells_kept hs hg hr) (ownFrom_below (Nat.le_refl _) (by omega)))
    (fun _ _ _ _ _ hs _ _ => hs)
    ⟨hs0, A1.out.toBelow⟩
    (fun x a' W => ∃ p, bbox W p x.1 ∧ a' = { tmps := #[.pointer p0, undef, .int .i64 0, .pointer (some ⟨w.heap.size, 0, none⟩), .pointer (some ⟨p, 0, none⟩), .pointer p0, .func (.func 91) #[] #[.pointer (some ⟨w.heap.size + 1, 0, none⟩)], bval x.1, undef, undef, undef, undef, undef, undef, undef, undef], defers := [] })
    (fun x a' s A B row hs hg hr => by obtain ⟨p, x2, x3⟩ := hs; exact ⟨p, cells_kept x2 hg hr, x3⟩)
    ?assign ?body ?done ?stop
  case assign =>
    rintro l pre x W K ⟨hi1, hi2⟩ hK
    have HK := hid hK
    clear hK
    unfold bval
    gi_wp2
    refine HK.out _ _ ((KeepsOthers.alloc _ _).from _) (Kc.of_kp (Kp.alloc _ _ []) (by simp)) ⟨(Below.heap_alloc _ _ _ (lt_of_block hi1)).trans hi1, hi2.trans (((Below.refl _ W).alloc (Nat.le_refl _) _).mono hi2.size)⟩ ⟨W.heap.size, heap_alloc_new W _, rfl⟩
  case body =>
    rintro l pre x a' W hlw ⟨rr, hrr⟩ ⟨hi1, hi2⟩ ⟨p, hbb, rfl⟩ hpre
    have hne : p ≠ w.heap.size := by
      rintro rfl
      unfold bbox at hbb
      rw [hi1] at hbb
      simp at hbb
    obtain ⟨b0, b1, b2⟩ := hbb.cells
    have hx := x.2
    have hbd := leftOf_bound pre
    obtain ⟨s, hs⟩ : ∃ s, leftOf (pre.map (·.1)) = s := ⟨_, rfl⟩
    have HI1 := hid hi1
    rw [hs] at hbd HI1
    have u1 := cell_one HI1.out
    have f1 := free_one HI1.out
    have HI2 := hid hi2
    have SN := hid (show leftOf ((pre ++ [x]).map (·.1)) = if x.1.2.2 then s + (x.1.2.1 - 8) else s by rw [List.map_append, List.map_cons, List.map_nil, leftOf_snoc, hs])
    clear hi1 hi2 hbb hs hrr
    cases hfr : x.1.2.2 with
    | true =>
      rw [hfr] at b2
      have E := hid (show leftOf ((pre ++ [x]).map (·.1)) = s + (x.1.2.1 - 8) by rw [SN.out, hfr]; rfl)
      clear hfr
      gi_wp2
      refine ⟨(KeepsOthers.setCell _ _ _).from _, Kc.of_kp (Kp.setCell _ ⟨w.heap.size, 0, none⟩ _) (by simp; omega), ?_, ?_⟩
      · rw [E.out]; exact set_one HI1.out
      · exact HI2.out.setCell (p := ⟨w.heap.size, 0, none⟩) (Nat.le_refl _) _
    | false =>
      rw [hfr] at b2
      have E := hid (show leftOf ((pre ++ [x]).map (·.1)) = s by rw [SN.out, hfr]; rfl)
      clear hfr
      gi_wp2
      refine ⟨(KeepsOthers.refl _).from _, Kc.refl _ _, ?_, HI2.out⟩
      rw [E.out]; exact HI1.out
  case done =>
    rintro D ys W hD rfl ⟨hi1, hi2⟩ hK
    have u1 := cell_one hi1
    have HK := hid hK
    have HI2 := hid hi2
    clear hK hi2 hi1
    gi_wp2
    refine ⟨by simp, .inl ⟨_, _, rfl, run_takeDeferred HK.out, ?_⟩⟩
    refine ⟨_, results_tmp rfl _ _ _, rfl, ?_⟩
    have hk := Kp.of_below HI2.out
    exact ⟨hk.os, hk.tape, hk.output, by have := hk.size; simp [World.putObj]; exact this, fun k hk' _ => (World.putObj_heap_other (by omega)).trans (hk.block k hk' (by simp))⟩
  case stop =>
    rintro D cc pre W _ _ hx _
    exact hx.elim

theorem zleft (w : World) (p : Option Addr) (h : Zh w p) : Calls Tryz.prog 15 #[.pointer p] w fun e w' => e = .returned (.int .i64 0) ∧ Kp w w' [] := left_its w p [] (its_zero h) (by decide)
theorem zlawb (w : World) (p : Option Addr) (h : Zh w p) : Calls Tryz.prog 24 #[.pointer p, .slice none 0 0, .int .i64 0] w fun e w' => e = .returned (.bool true) ∧ Kp w w' [] :=
  lawb_any w p [] _ 0 (its_zero h) ⟨none, 0, rfl, fun h => absurd rfl h⟩ (by decide)

set_option maxRecDepth 100000 in
set_option maxHeartbeats 4000000 in
theorem nothing_any (w : World) (p : Option Addr) (h : Zh w p) : Calls Tryz.prog 28 #[.pointer p] w fun e w' => e = .returned (.bool true) ∧ Kp w w' [] := by
  have Z0 := hid h
  clear h
  go_enter Tryz.func28, Tryz.ntmps28
  go_wp2_with (go_at_call 13; go_in)
  refine (zalloc w p 1 Z0.out).mono ?_
  rintro e w1 ⟨rfl, hK⟩
  have K1 := hid (hK)
  have Z1 := hid (Z0.out.keep hK)
  clear hK Z0
  go_wp2_with (go_at_call 13; go_in)
  refine (zaligned w1 p 8 1 Z1.out).mono ?_
  rintro e w2 ⟨rfl, hK⟩
  have K2 := hid (K1.out.trans hK)
  have Z2 := hid (Z1.out.keep hK)
  clear hK Z1 K1
  go_wp2_with (go_at_call 13; go_in)
  refine (zrealloc w2 p 8 1 Z2.out).mono ?_
  rintro e w3 ⟨rfl, hK⟩
  have K3 := hid (K2.out.trans hK)
  have Z3 := hid (Z2.out.keep hK)
  clear hK Z2 K2
  go_wp2_with (go_at_call 13; go_in)
  refine (zsize w3 p 8 Z3.out).mono ?_
  rintro e w4 ⟨rfl, hK⟩
  have K4 := hid (K3.out.trans hK)
  have Z4 := hid (Z3.out.keep hK)
  clear hK Z3 K3
  go_wp2_with (go_at_call 13; go_in)
  refine (zget w4 p 8 Z4.out).mono ?_
  rintro e w5 ⟨rfl, hK⟩
  have K5 := hid (K4.out.trans hK)
  have Z5 := hid (Z4.out.keep hK)
  clear hK Z4 K4
  go_wp2_with (go_at_call 13; go_in)
  refine (zfree w5 p 8 Z5.out).mono ?_
  rintro e w6 ⟨rfl, hK⟩
  have K6 := hid (K5.out.trans hK)
  have Z6 := hid (Z5.out.keep hK)
  clear hK Z5 K5
  go_wp2_with (go_at_call 13; go_in)
  refine (zset w6 p 8 1 Z6.out).mono ?_
  rintro e w7 ⟨rfl, hK⟩
  have K7 := hid (K6.out.trans hK)
  have Z7 := hid (Z6.out.keep hK)
  clear hK Z6 K6
  go_wp2_with (go_at_call 13; go_in)
  refine (zleft w7 p Z7.out).mono ?_
  rintro e w8 ⟨rfl, hK⟩
  have K8 := hid (K7.out.trans hK)
  have Z8 := hid (Z7.out.keep hK)
  clear hK Z7 K7
  go_wp2_with (go_at_call 13; go_in)
  refine (zlen w8 p Z8.out).mono ?_
  rintro e w9 ⟨rfl, hK⟩
  have K9 := hid (K8.out.trans hK)
  have Z9 := hid (Z8.out.keep hK)
  clear hK Z8 K8
  go_wp2_with (go_at_call 13; go_in)
  refine (zlawb w9 p Z9.out).mono ?_
  rintro e w10 ⟨rfl, hK⟩
  have K10 := hid (K9.out.trans hK)
  have Z10 := hid (Z9.out.keep hK)
  clear hK Z9 K9
  go_wp2_with (go_at_call 13; go_in)
  refine (zcheck w10 p Z10.out).mono ?_
  rintro e w11 ⟨rfl, hK⟩
  have K11 := hid (K10.out.trans hK)
  have Z11 := hid (Z10.out.keep hK)
  clear hK Z10 K10
  go_wp2_with (go_at_call 13; go_in)
  refine (zarena w11 p Z11.out).mono ?_
  rintro e w12 ⟨rfl, hK⟩
  have K12 := hid (K11.out.trans hK)
  have Z12 := hid (Z11.out.keep hK)
  clear hK Z11 K11
  go_wp2_with (go_at_call 13; go_in)
  refine (zcopy w12 p Z12.out).mono ?_
  rintro e w13 ⟨rfl, hK⟩
  have K13 := hid (K12.out.trans hK)
  have Z13 := hid (Z12.out.keep hK)
  clear hK Z12 K12
  go_wp2_with (go_at_call 13; go_in)
  go_ret
  exact ⟨rfl, K13.out⟩
end Go.Proofs.YtgefmnnkpffpcaaGreatDoor
