/- Realloc: refused, of no piece, and where there is room within the block. -/
import Derived.Test.YtgefmnnkpffpcaaGreatDoorHrepBlocksJ
import Derived.Test.YtgefmnnkpffpcaaGreatDoorHcheck3J
import Derived.Test.YtgefmnnkpffpcaaGreatDoorHalign2
namespace Go.Proofs.YtgefmnnkpffpcaaGreatDoor
open Go.RowKit Go.Maps

set_option maxRecDepth 100000 in
theorem may3 (w : World) (p : Nat) (m : Int) (h0 : w.cell? ⟨p, 0, none⟩ = some (.int .i64 m)) : Calls Tryz.prog 67 #[.pointer (some ⟨p, 0, none⟩)] w fun e w' => e = .returned (.bool (mayB m)) ∧ Kp w w' [] := by
  go_enter Tryz.func67, Tryz.ntmps67
  go_wp2_with fail
  refine (mayHave_any w m).mono ?_
  rintro e w1 ⟨rfl, rfl⟩
  go_wp2
  go_ret
  exact ⟨rfl, Kp.refl _ _⟩
set_option maxRecDepth 100000 in
theorem enters67 : ∀ args w, (callFunc 67 args).run Tryz.prog w = .ok (.enter 67 args) w := enters_of Tryz.func67 (by kernel_rfl) rfl

set_option maxRecDepth 100000 in
theorem realloc_no (w : World) (hb rb mb pb n : Nat) (g : Mem) (c : Int) (P : Pcs) (o m : Int) (h : Hp w hb rb mb pb n g c P) (hm : mayB m = false) :
    Calls Tryz.prog 26 #[.pointer (some ⟨hb, 0, none⟩), .int .i64 o, .int .i64 m] w fun e w' => e = .returned (.tuple #[.int .i64 0, .int .i64 2]) ∧ Kp w w' [] := by
  have A1 := hid (Kp.alloc w (.cells #[.int .i64 m] 3) [])
  have H1 := hid (h.same A1.out)
  have M := hid hm
  clear h hm
  go_enter Tryz.func26, Tryz.ntmps26
  go_wp2_with fail
  refine (refusal_any _ hb rb mb pb n 67 _ g c P (mayB m) H1.out enters67 (may3 _ _ m cell_new0)).mono ?_
  rintro e w1 ⟨rfl, hK1⟩
  rw [M.out]
  have K1 := hid (A1.out.trans hK1)
  clear hK1
  go_wp2
  go_ret2
  exact ⟨rfl, K1.out⟩
set_option maxRecDepth 100000 in
theorem realloc_none (w : World) (hb rb mb pb n : Nat) (g : Mem) (c : Int) (P : Pcs) (o m : Int) (h : Hp w hb rb mb pb n g c P) (hm : mayB m = true) (h0 : -9223372036854775808 ≤ o) (h1 : o ≤ 9223372036854775807) (hp : hasP P o = false) :
    Calls Tryz.prog 26 #[.pointer (some ⟨hb, 0, none⟩), .int .i64 o, .int .i64 m] w fun e w' => e = .returned (.tuple #[.int .i64 0, .int .i64 6]) ∧ Kp w w' [] := by
  have A1 := hid (Kp.alloc w (.cells #[.int .i64 m] 3) [])
  have H1 := hid (h.same A1.out)
  have M := hid hm
  have HP := hid hp
  clear h hm hp
  go_enter Tryz.func26, Tryz.ntmps26
  go_wp2_with fail
  refine (refusal_any _ hb rb mb pb n 67 _ g c P (mayB m) H1.out enters67 (may3 _ _ m cell_new0)).mono ?_
  rintro e w1 ⟨rfl, hK1⟩
  rw [M.out]
  have K1 := hid (A1.out.trans hK1)
  have H2 := hid (H1.out.same hK1)
  clear hK1
  go_wp2_with fail
  refine (blockOf_no w1 hb rb mb pb n g c P o H2.out h0 h1 HP.out).mono ?_
  rintro e w2 ⟨rfl, hK2⟩
  have K2 := hid (K1.out.trans hK2)
  clear hK2
  go_wp2
  go_ret2
  exact ⟨rfl, K2.out.trans (Kp.alloc _ _ _)⟩
set_option maxRecDepth 100000 in
set_option maxHeartbeats 1000000 in
theorem realloc_in (w : World) (hb rb mb pb n : Nat) (g : Mem) (c : Int) (P : Pcs) (o m z : Int) (h : Hp w hb rb mb pb n g c P) (hc : c < 1152921504606820000) (h1 : 1 ≤ m) (h2 : m ≤ 65536) (ho : 8 ≤ o) (hp : hasP P o = true) (hz : getP P o = z) (hz8 : z % 8 = 0) (hnz : needed m ≤ z) (hon : o - 8 + z ≤ n) (hP : P.length < maxLen) :
    Calls Tryz.prog 26 #[.pointer (some ⟨hb, 0, none⟩), .int .i64 o, .int .i64 m] w fun e w' => e = .returned (.tuple #[.int .i64 o, .int .i64 0]) ∧ Went w w' hb rb mb pb n (give n g P (o - 8) z (needed m)).1 (give n g P (o - 8) z (needed m)).2 c 31 [rb, mb, pb] := by
  have A1 := hid (Kp.alloc w (.cells #[.int .i64 m] 3) [])
  have H1 := hid (h.same A1.out)
  have M := hid (show mayB m = true from decide_eq_true ⟨h1, h2⟩)
  have HP := hid hp
  have HZ := hid hz
  have Z8 := hid hz8
  have hnb := h.nb
  have hnd := needed_range h1 h2
  obtain ⟨s, hs⟩ : ∃ s, needed m = s := ⟨_, rfl⟩
  rw [hs] at hnd hnz ⊢
  have HS := hid hs
  have S8 := hid hnd.2.2
  have hs0 : 16 ≤ s ∧ s ≤ 65544 := ⟨hnd.1, hnd.2.1⟩
  have HL := hid h.lt
  clear h hp hz hz8 hnd hs
  go_enter Tryz.func26, Tryz.ntmps26
  go_wp2_with fail
  refine (refusal_any _ hb rb mb pb n 67 _ g c P (mayB m) H1.out enters67 (may3 _ _ m cell_new0)).mono ?_
  rintro e w1 ⟨rfl, hK1⟩
  rw [M.out]
  have K1 := hid (A1.out.trans hK1)
  have H2 := hid (H1.out.same hK1)
  have Q1 := hid (hK1.cell (cell_new0 (w := w) (v := .int .i64 m) (t := 3)) (by simp))
  clear hK1
  go_wp2_with fail
  refine (blockOf_ok w1 hb rb mb pb n g c P o H2.out (by omega) (by omega) HP.out).mono ?_
  rintro e w2 ⟨rfl, hK2⟩
  rw [HZ.out]
  have A2 := hid (hK2.trans (Kp.alloc w2 (.cells #[.int .i64 (o - 8), .int .i64 z] 87) []))
  have K2 := hid (K1.out.trans A2.out)
  have H3 := hid (H2.out.same A2.out)
  have q1 := A2.out.cell Q1.out (by simp)
  have X2 := hid (heap_alloc_new w2 (.cells #[.int .i64 (o - 8), .int .i64 z] 87))
  clear hK2
  go_wp2_with fail
  refine (needed_any _ m (by omega) (by omega)).mono ?_
  rintro e w' ⟨rfl, hE⟩
  rw [hE, HS.out]
  clear hE
  have u1 := cell_two0 X2.out
  have u2 := cell_two1 X2.out
  go_wp2_with fail
  refine (give_any _ hb rb mb pb n g c P (o - 8) z s H3.out (by omega) (by omega) (by omega) Z8.out (by omega) S8.out hnz (by omega) hP).mono ?_
  rintro e w4 ⟨rfl, c4, hc4, hc4', hH4, hK4⟩
  have W4 := hid (show Went w w4 hb rb mb pb n (give n g P (o - 8) z s).1 (give n g P (o - 8) z s).2 c 31 [rb, mb, pb] from ⟨c4, by omega, by omega, hH4, K2.out.nil.trans hK4⟩)
  clear hH4 hK4
  go_wp2
  go_ret2
  exact ⟨rfl, W4.out⟩
end Go.Proofs.YtgefmnnkpffpcaaGreatDoor

/- The heap's words as a short list: what Alloc, Aligned, Free and Realloc do to a state that is written out. -/
namespace Go.Proofs.YtgefmnnkpffpcaaGreatDoor
open Go.RowKit Go.Maps

/-- Words, listed; all others are 0. -/
abbrev Wl := List (Nat × Int)
def sw (L : Wl) : Mem := fun o => ((L.find? fun p => p.1 == o).map (·.2)).getD 0
def agree (n : Nat) (g g' : Mem) : Bool := (List.range (n / 4)).all fun i => g (4 * i) == g' (4 * i)
theorem agree_at {n : Nat} {g g' : Mem} (h : agree n g g' = true) {o : Nat} (h4 : o % 4 = 0) (hn : o + 4 ≤ n) : g o = g' o := by
  unfold agree at h
  have := List.all_eq_true.1 h (o / 4) (List.mem_range.2 (by omega))
  rw [show 4 * (o / 4) = o by omega] at this
  simpa using this

variable {w w' : World} {hb rb mb pb n : Nat} {g g' : Mem} {c k : Int} {P P' : Pcs} {rows : List Nat}
theorem Hp.agree (h : Hp w hb rb mb pb n g c P) (ha : agree n g g' = true) : Hp w hb rb mb pb n g' c P := by
  obtain ⟨f, h1, h2⟩ := h.aw
  exact ⟨h.hh, ⟨f, h1, fun o ho hn => (h2 o ho hn).trans (agree_at ha ho hn)⟩, h.mp, h.nb, h.c0, h.tb, h.nz⟩
theorem Went.agree (h : Went w w' hb rb mb pb n g P c k rows) (ha : agree n g g' = true) : Went w w' hb rb mb pb n g' P c k rows := by
  obtain ⟨c', h1, h2, h3, h4⟩ := h
  exact ⟨c', h1, h2, h3.agree ha, h4⟩

/-- An answer with its state, as it is written out. -/
def okA (n : Nat) (r : Option (Int × Mem × Pcs)) (o : Int) (L' : Wl) (P' : Pcs) : Bool := match r with
  | some (o1, g1, P1) => o1 == o && (P1 == P' && agree n g1 (sw L'))
  | none => false
theorem okA_spec {n : Nat} {r : Option (Int × Mem × Pcs)} {o : Int} {L' : Wl} {P' : Pcs} (h : okA n r o L' P' = true) : ∃ g1, r = some (o, g1, P') ∧ agree n g1 (sw L') = true := by
  unfold okA at h
  split at h
  · rename_i o1 g1 P1
    simp only [Bool.and_eq_true, beq_iff_eq] at h
    obtain ⟨rfl, rfl, h3⟩ := h
    exact ⟨g1, rfl, h3⟩
  · cases h

theorem kalloc (w : World) (hb rb mb pb n : Nat) (L L' : Wl) (c : Int) (P P' : Pcs) (m o : Int) (h : Hp w hb rb mb pb n (sw L) c P) (hc : c < 1152921504606820000) (h1 : 1 ≤ m) (h2 : m ≤ 65536) (hP : P.length < maxLen) (hk : okA n (alloc n (sw L) P m) o L' P' = true) :
    Calls Tryz.prog 18 #[.pointer (some ⟨hb, 0, none⟩), .int .i64 m] w fun e w' => e = .returned (.tuple #[.int .i64 o, .int .i64 0]) ∧ Went w w' hb rb mb pb n (sw L') P' c 42 [rb, mb, pb] := by
  obtain ⟨g1, e, ha⟩ := okA_spec hk
  have := alloc_any w hb rb mb pb n (sw L) c P m h hc h1 h2 hP
  rw [e] at this
  exact this.mono fun e w' x => ⟨x.1, x.2.agree ha⟩
theorem kalloc_no (w : World) (hb rb mb pb n : Nat) (L : Wl) (c : Int) (P : Pcs) (m : Int) (h : Hp w hb rb mb pb n (sw L) c P) (hc : c < 1152921504606820000) (h1 : 1 ≤ m) (h2 : m ≤ 65536) (hP : P.length < maxLen) (hk : (alloc n (sw L) P m).isNone = true) :
    Calls Tryz.prog 18 #[.pointer (some ⟨hb, 0, none⟩), .int .i64 m] w fun e w' => e = .returned (.tuple #[.int .i64 0, .int .i64 5]) ∧ Went w w' hb rb mb pb n (sw L) P c 42 [rb, mb, pb] := by
  have := alloc_any w hb rb mb pb n (sw L) c P m h hc h1 h2 hP
  rw [Option.isNone_iff_eq_none.1 hk] at this
  exact this
theorem kaligned (w : World) (hb rb mb pb n : Nat) (L L' : Wl) (c : Int) (P P' : Pcs) (mul m o : Int) (h : Hp w hb rb mb pb n (sw L) c P) (hc : c < 1152921504606820000) (hmul : isMul mul = true) (h1 : 1 ≤ m) (h2 : m ≤ 65536) (hP : P.length < maxLen) (hk : okA n (aligned n (sw L) P mul m) o L' P' = true) :
    Calls Tryz.prog 19 #[.pointer (some ⟨hb, 0, none⟩), .int .i64 mul, .int .i64 m] w fun e w' => e = .returned (.tuple #[.int .i64 o, .int .i64 0]) ∧ Went w w' hb rb mb pb n (sw L') P' c 52 [rb, mb, pb] := by
  obtain ⟨g1, e, ha⟩ := okA_spec hk
  have := aligned_any w hb rb mb pb n (sw L) c P mul m h hc hmul h1 h2 hP
  rw [e] at this
  exact this.mono fun e w' x => ⟨x.1, x.2.agree ha⟩
def okF (n : Nat) (L : Wl) (P : Pcs) (o z : Int) (L' : Wl) (P' : Pcs) : Bool :=
  hasP P o && (getP P o == z && (decide (8 ≤ o ∧ 16 ≤ z ∧ z % 8 = 0 ∧ o - 8 + z ≤ n) && (delP P o == P' && agree n (freed n (sw L) P' (o - 8) z) (sw L'))))
theorem kfree (w : World) (hb rb mb pb n : Nat) (L L' : Wl) (c : Int) (P P' : Pcs) (o z : Int) (h : Hp w hb rb mb pb n (sw L) c P) (hc : c < 1152921504606830000) (hk : okF n L P o z L' P' = true) :
    Calls Tryz.prog 21 #[.pointer (some ⟨hb, 0, none⟩), .int .i64 o] w fun e w' => e = .returned (.int .i64 0) ∧ Went w w' hb rb mb pb n (sw L') P' c 29 [rb, mb, pb] := by
  simp only [okF, Bool.and_eq_true, beq_iff_eq, decide_eq_true_eq] at hk
  obtain ⟨k1, k2, ⟨k3, k4, k5, k6⟩, k7, k8⟩ := hk
  have := hfree_ok w hb rb mb pb n (sw L) c P o z h hc k3 k1 k2 k4 k5 k6
  rw [k7] at this
  exact this.mono fun e w' x => ⟨x.1, x.2.agree k8⟩
def okR (n : Nat) (L : Wl) (P : Pcs) (o m z : Int) (L' : Wl) (P' : Pcs) : Bool :=
  hasP P o && (getP P o == z && (decide (8 ≤ o ∧ needed m ≤ z ∧ z % 8 = 0 ∧ o - 8 + z ≤ n) && ((give n (sw L) P (o - 8) z (needed m)).2 == P' && agree n (give n (sw L) P (o - 8) z (needed m)).1 (sw L'))))
theorem krealloc (w : World) (hb rb mb pb n : Nat) (L L' : Wl) (c : Int) (P P' : Pcs) (o m z : Int) (h : Hp w hb rb mb pb n (sw L) c P) (hc : c < 1152921504606820000) (h1 : 1 ≤ m) (h2 : m ≤ 65536) (hP : P.length < maxLen) (hk : okR n L P o m z L' P' = true) :
    Calls Tryz.prog 26 #[.pointer (some ⟨hb, 0, none⟩), .int .i64 o, .int .i64 m] w fun e w' => e = .returned (.tuple #[.int .i64 o, .int .i64 0]) ∧ Went w w' hb rb mb pb n (sw L') P' c 31 [rb, mb, pb] := by
  simp only [okR, Bool.and_eq_true, beq_iff_eq, decide_eq_true_eq] at hk
  obtain ⟨k1, k2, ⟨k3, k4, k5, k6⟩, k7, k8⟩ := hk
  have := realloc_in w hb rb mb pb n (sw L) c P o m z h hc h1 h2 k3 k1 k2 k5 k4 k6 hP
  rw [k7] at this
  exact this.mono fun e w' x => ⟨x.1, x.2.agree k8⟩

/-! The states of 'known', 256 bytes. -/
def ks0 : Wl := [(0, 64), (28, 112), (112, 145)]
def ks1 : Wl := [(0, 64), (28, 128), (112, 16), (128, 129), (132, 112)]
def ks2 : Wl := [(0, 32), (24, 144), (112, 16), (128, 16), (132, 112), (144, 113), (148, 128)]
def ks3 : Wl := [(0, 16), (20, 168), (112, 16), (128, 16), (132, 112), (144, 24), (148, 128), (168, 89), (172, 144)]
def ks4 : Wl := [(0, 17), (4, 128), (20, 168), (112, 16), (128, 17), (132, 112), (144, 24), (148, 128), (168, 89), (172, 144)]
def ks6 : Wl := [(0, 2), (8, 232), (112, 16), (128, 16), (132, 112), (144, 24), (148, 128), (168, 64), (172, 144), (232, 25), (236, 168)]
def ks7 : Wl := [(0, 3), (4, 112), (8, 232), (112, 17), (128, 16), (132, 112), (144, 24), (148, 128), (168, 64), (172, 144), (232, 25), (236, 168)]
def ks8 : Wl := [(0, 6), (8, 232), (12, 112), (112, 33), (128, 16), (132, 112), (144, 24), (148, 112), (168, 64), (172, 144), (232, 25), (236, 168)]
def ks9 : Wl := [(0, 2), (8, 232), (112, 32), (128, 16), (132, 112), (144, 24), (148, 112), (168, 64), (172, 144), (232, 25), (236, 168)]
theorem kn0 : agree 256 (fresh0 256) (sw ks0) = true := by decide +kernel
theorem kn1 : okA 256 (alloc 256 (sw ks0) [] 1) 120 ks1 [(120, 16)] = true := by decide +kernel
theorem kn2 : okA 256 (alloc 256 (sw ks1) [(120, 16)] 8) 136 ks2 [(120, 16), (136, 16)] = true := by decide +kernel
theorem kn3 : okA 256 (alloc 256 (sw ks2) [(120, 16), (136, 16)] 9) 152 ks3 [(120, 16), (136, 16), (152, 24)] = true := by decide +kernel
theorem kn4 : okF 256 ks3 [(120, 16), (136, 16), (152, 24)] 136 16 ks4 [(120, 16), (152, 24)] = true := by decide +kernel
theorem kn5 : okA 256 (alloc 256 (sw ks4) [(120, 16), (152, 24)] 8) 136 ks3 [(120, 16), (136, 16), (152, 24)] = true := by decide +kernel
theorem kn5b : blocksOf 256 [(120, 16), (136, 16), (152, 24)] = [(112, 16, false), (128, 16, false), (144, 24, false), (168, 88, true)] := by decide +kernel
theorem kn5n : (alloc 256 (sw ks3) [(120, 16), (136, 16), (152, 24)] 80).isNone = true := by decide +kernel
theorem kn6 : okA 256 (alloc 256 (sw ks3) [(120, 16), (136, 16), (152, 24)] 56) 176 ks6 [(120, 16), (136, 16), (152, 24), (176, 64)] = true := by decide +kernel
theorem kn6b : blocksOf 256 [(120, 16), (136, 16), (152, 24), (176, 64)] = [(112, 16, false), (128, 16, false), (144, 24, false), (168, 64, false), (232, 24, true)] := by decide +kernel
theorem kn7 : okF 256 ks6 [(120, 16), (136, 16), (152, 24), (176, 64)] 120 16 ks7 [(136, 16), (152, 24), (176, 64)] = true := by decide +kernel
theorem kn8 : okF 256 ks7 [(136, 16), (152, 24), (176, 64)] 136 16 ks8 [(152, 24), (176, 64)] = true := by decide +kernel
theorem kn9 : okA 256 (alloc 256 (sw ks8) [(152, 24), (176, 64)] 24) 120 ks9 [(120, 32), (152, 24), (176, 64)] = true := by decide +kernel
theorem kn10 : okR 256 ks9 [(120, 32), (152, 24), (176, 64)] 152 8 24 ks9 [(120, 32), (152, 24), (176, 64)] = true := by decide +kernel
theorem kn10b : blocksOf 256 [(120, 32), (152, 24), (176, 64)] = [(112, 32, false), (144, 24, false), (168, 64, false), (232, 24, true)] := by decide +kernel
theorem kn10c : chkA 256 (sw ks9) 10 24 0 0 (freeOf [(112, 32, false), (144, 24, false), (168, 64, false), (232, 24, true)]) = some (2, []) := by decide +kernel
end Go.Proofs.YtgefmnnkpffpcaaGreatDoor
