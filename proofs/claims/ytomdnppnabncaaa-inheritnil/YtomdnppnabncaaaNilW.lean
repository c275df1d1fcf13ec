/- InheritNil's walk: a graph that is not there, and a zero one. -/
import Derived.Test.YtomdnppnabncaaaBl
namespace Go.Proofs.Ytomdnppnabncaaa
open Go.RowKit Go.Shelf
open Go.Lib hiding intOf
set_option linter.unusedVariables false
attribute [local go_sem] Oper.semAt_some

/-- What no graph must give: the contracts of the program's functions. -/
structure Zro (Gr : World → Nat → Gs → Prop) (Zg : World → Option Addr → Prop) : Prop where
  keep : ∀ {w w' : World} {p : Option Addr}, Zg w p → Kp w w' [] → Zg w' p
  nil : ∀ w, Zg w none
  zero : ∀ w : World, Zg (w.alloc (.cells #[.int .i64 0, .int .i64 0, .int .i64 0, .int .i64 0, .int .i64 0, .int .i64 0, .int .i64 0, .int .i64 0, .int .i64 0, .int .i64 0, .int .i64 0, .int .i64 0, .int .i64 0, .int .i64 0, .int .i64 0, .int .i64 0, .int .i64 0, .int .i64 0, .int .i64 0, .int .i64 0, .int .i64 0, .int .i64 0, .int .i64 0, .int .i64 0, .int .i64 0, .int .i64 0, .int .i64 0, .int .i64 0, .int .i64 0, .int .i64 0, .int .i64 0, .int .i64 0, .int .i64 0, .int .i64 0, .int .i64 0, .int .i64 0, .int .i64 0, .int .i64 0, .int .i64 0, .int .i64 0, .int .i64 0, .int .i64 0, .int .i64 0, .int .i64 0, .int .i64 0, .int .i64 0, .int .i64 0, .int .i64 0, .int .i64 0] 54)) (some ⟨w.heap.size, 0, none⟩)
  base : ∀ (w : World) (p : Option Addr) (t x : Int), Zg w p → Calls Try.prog 15 #[.pointer p, .int .i64 t, .int .i64 x] w fun e w' => e = .returned (.int .i64 1) ∧ Kp w w' []
  ceil : ∀ (w : World) (p : Option Addr) (t x : Int), Zg w p → Calls Try.prog 16 #[.pointer p, .int .i64 t, .int .i64 x] w fun e w' => e = .returned (.int .i64 1) ∧ Kp w w' []
  waits : ∀ (w : World) (p : Option Addr) (t x : Int), Zg w p → Calls Try.prog 17 #[.pointer p, .int .i64 t, .int .i64 x] w fun e w' => e = .returned (.int .i64 1) ∧ Kp w w' []
  of_ : ∀ (w : World) (p : Option Addr) (t : Int), Zg w p → Calls Try.prog 18 #[.pointer p, .int .i64 t] w fun e w' => e = .returned (.tuple #[.int .i64 0, .bool false]) ∧ Kp w w' []
  ring : ∀ (w : World) (p : Option Addr) (t : Int), Zg w p → Calls Try.prog 14 #[.pointer p, .int .i64 t] w fun e w' => (∃ v, e = .returned (.tuple #[v, .bool false])) ∧ Kp w w' []
  all : ∀ (w : World) (p : Option Addr), Zg w p → Calls Try.prog 13 #[.pointer p] w fun e w' => (∃ ao cap, e = .returned (.slice ao 0 cap)) ∧ Kp w w' []
  for_ : ∀ (w : World) (p : Option Addr) (t : Int), Zg w p → Calls Try.prog 21 #[.pointer p, .int .i64 t] w fun e w' => (∃ f lb, e = .returned (.func (.func f) #[] lb) ∧ Itr w.heap.size w' f lb []) ∧ Kp w w' []
  copy : ∀ (w : World) (p : Option Addr), Zg w p → Calls Try.prog 19 #[.pointer p] w fun e w' => e = .returned (.pointer none) ∧ Kp w w' []
  same : ∀ (w : World) (p q : Option Addr), Zg w p → Zg w q → Calls Try.prog 20 #[.pointer p, .pointer q] w fun e w' => e = .returned (.bool true) ∧ Kp w w' []
  same_one : ∀ (w : World) (p : Option Addr) (gb : Nat) (G : Gs), Zg w p → Gr w gb G → Calls Try.prog 20 #[.pointer p, .pointer (some ⟨gb, 0, none⟩)] w fun e w' => e = .returned (.bool false) ∧ Kp w w' []
/-- A frame of 98, slot by slot. -/
theorem lit98 (T : Array Value) (h : T.size = 98) : ∃ X : Nat → Value, (∀ k, X k = T.getD k undef) ∧ T = #[X 0, X 1, X 2, X 3, X 4, X 5, X 6, X 7, X 8, X 9, X 10, X 11, X 12, X 13, X 14, X 15, X 16, X 17, X 18, X 19, X 20, X 21, X 22, X 23, X 24, X 25, X 26, X 27, X 28, X 29, X 30, X 31, X 32, X 33, X 34, X 35, X 36, X 37, X 38, X 39, X 40, X 41, X 42, X 43, X 44, X 45, X 46, X 47, X 48, X 49, X 50, X 51, X 52, X 53, X 54, X 55, X 56, X 57, X 58, X 59, X 60, X 61, X 62, X 63, X 64, X 65, X 66, X 67, X 68, X 69, X 70, X 71, X 72, X 73, X 74, X 75, X 76, X 77, X 78, X 79, X 80, X 81, X 82, X 83, X 84, X 85, X 86, X 87, X 88, X 89, X 90, X 91, X 92, X 93, X 94, X 95, X 96, X 97] := by
  refine ⟨fun k => T.getD k undef, fun _ => rfl, ?_⟩
  have e : T.toList = (List.range 98).map fun k => T.getD k undef := by
    apply List.ext_getElem
    · simp [h]
    · intro i h1 h2
      have hi : i < T.size := by simpa using h1
      simp [hi]
  have e2 : T = ((List.range 98).map fun k => T.getD k undef).toArray := by rw [← e]
  exact e2
theorem fn_not_nilN (f : Nat) (fb : Array Value) (W : World) : (binOp .eql 57 (.func (.func f) #[] fb) .nilFunc).run Try.prog W = .ok (.bool false) W := by kernel_rfl
theorem Live.kpN {lo : Nat} {A B : World} {Ds : List Nat} (h : Live lo A Ds) (hk : Kp A B []) : Live lo B Ds := ⟨fun D hD => (hk.block D (lt_of_block (h.1 D hD)) (by simp)).trans (h.1 D hD), h.2⟩
/-- The law's boxes: the answer, the list of both, the zero one. -/
structure Nb (Zg : World → Option Addr → Prop) (w W : World) (a : Nat) : Prop where
  b0 : W.heap[a]? = some (.cells #[.bool false] 4 (0, 0))
  z : Zg W (some ⟨a + 1, 0, none⟩)
  l : W.heap[a + 2]? = some (.cells #[.pointer none, .pointer (some ⟨a + 1, 0, none⟩)] 23 (0, 0))
  kp : Kp w W []
section
variable {Gr : World → Nat → Gs → Prop} {Zg : World → Option Addr → Prop}
theorem Nb.same (Z : Zro Gr Zg) {w W W' : World} {a : Nat} (h : Nb Zg w W a) (hk : Kp W W' []) : Nb Zg w W' a :=
  ⟨(hk.block a (lt_of_block h.b0) (by simp)).trans h.b0, Z.keep h.z hk, (hk.block (a + 2) (lt_of_block h.l) (by simp)).trans h.l, h.kp.trans hk⟩
set_option maxRecDepth 100000 in
set_option maxHeartbeats 16000000 in
theorem nil_walk (P : Prg Gr) (Z : Zro Gr Zg) (kn : KnownOk) (w : World) : Calls Try.prog 7 #[] w fun e w' => e = .returned (.bool true) ∧ Kp w w' [] := by
  have B0 := hid (show Nb Zg w (((w.alloc (.cells #[.bool false] 4)).alloc (.cells #[.int .i64 0, .int .i64 0, .int .i64 0, .int .i64 0, .int .i64 0, .int .i64 0, .int .i64 0, .int .i64 0, .int .i64 0, .int .i64 0, .int .i64 0, .int .i64 0, .int .i64 0, .int .i64 0, .int .i64 0, .int .i64 0, .int .i64 0, .int .i64 0, .int .i64 0, .int .i64 0, .int .i64 0, .int .i64 0, .int .i64 0, .int .i64 0, .int .i64 0, .int .i64 0, .int .i64 0, .int .i64 0, .int .i64 0, .int .i64 0, .int .i64 0, .int .i64 0, .int .i64 0, .int .i64 0, .int .i64 0, .int .i64 0, .int .i64 0, .int .i64 0, .int .i64 0, .int .i64 0, .int .i64 0, .int .i64 0, .int .i64 0, .int .i64 0, .int .i64 0, .int .i64 0, .int .i64 0, .int .i64 0, .int .i64 0] 54)).alloc (.cells #[.pointer none, .pointer (some ⟨w.heap.size + 1, 0, none⟩)] 23)) w.heap.size from by
    refine ⟨?_, ?_, ?_, ((Kp.alloc _ _ _).trans (Kp.alloc _ _ _)).trans (Kp.alloc _ _ _)⟩
    · rw [Below.heap_alloc _ _ _ (by simp; omega), Below.heap_alloc _ _ _ (by simp)]
      exact World.alloc_heap_new w _
    · have := Z.zero (w.alloc (.cells #[.bool false] 4))
      rw [World.size_alloc] at this
      exact Z.keep this (Kp.alloc _ _ _)
    · have := World.alloc_heap_new ((w.alloc (.cells #[.bool false] 4)).alloc (.cells #[.int .i64 0, .int .i64 0, .int .i64 0, .int .i64 0, .int .i64 0, .int .i64 0, .int .i64 0, .int .i64 0, .int .i64 0, .int .i64 0, .int .i64 0, .int .i64 0, .int .i64 0, .int .i64 0, .int .i64 0, .int .i64 0, .int .i64 0, .int .i64 0, .int .i64 0, .int .i64 0, .int .i64 0, .int .i64 0, .int .i64 0, .int .i64 0, .int .i64 0, .int .i64 0, .int .i64 0, .int .i64 0, .int .i64 0, .int .i64 0, .int .i64 0, .int .i64 0, .int .i64 0, .int .i64 0, .int .i64 0, .int .i64 0, .int .i64 0, .int .i64 0, .int .i64 0, .int .i64 0, .int .i64 0, .int .i64 0, .int .i64 0, .int .i64 0, .int .i64 0, .int .i64 0, .int .i64 0, .int .i64 0, .int .i64 0] 54)) (.cells #[.pointer none, .pointer (some ⟨w.heap.size + 1, 0, none⟩)] 23)
      rw [World.size_alloc, World.size_alloc] at this
      exact this)
  obtain ⟨V0, hV0⟩ : ∃ V0, ((w.alloc (.cells #[.bool false] 4)).alloc (.cells #[.int .i64 0, .int .i64 0, .int .i64 0, .int .i64 0, .int .i64 0, .int .i64 0, .int .i64 0, .int .i64 0, .int .i64 0, .int .i64 0, .int .i64 0, .int .i64 0, .int .i64 0, .int .i64 0, .int .i64 0, .int .i64 0, .int .i64 0, .int .i64 0, .int .i64 0, .int .i64 0, .int .i64 0, .int .i64 0, .int .i64 0, .int .i64 0, .int .i64 0, .int .i64 0, .int .i64 0, .int .i64 0, .int .i64 0, .int .i64 0, .int .i64 0, .int .i64 0, .int .i64 0, .int .i64 0, .int .i64 0, .int .i64 0, .int .i64 0, .int .i64 0, .int .i64 0, .int .i64 0, .int .i64 0, .int .i64 0, .int .i64 0, .int .i64 0, .int .i64 0, .int .i64 0, .int .i64 0, .int .i64 0, .int .i64 0] 54)).alloc (.cells #[.pointer none, .pointer (some ⟨w.heap.size + 1, 0, none⟩)] 23) = V0 := ⟨_, rfl⟩
  rw [hV0] at B0
  obtain ⟨a, ha⟩ : ∃ a, w.heap.size = a := ⟨_, rfl⟩
  rw [ha] at B0 hV0
  have HA := hid ha
  refine (callsIn_wide (n := 6)).1 ?_
  refine callsIn_of_wp_marks Try.func7 rfl trivial ?_ rfl
  simp only [Try.ntmps7, List.size_toArray, List.length_nil, Nat.reduceSub, Array.replicate_succ, Array.replicate_zero, List.push_toArray, List.append_toArray, List.nil_append, List.cons_append]
  refine wpIn_wide.2 ?_
  go_wp2_with fail
  try rw [hV0]
  clear hV0 ha
  have h1 : 1 ≤ 6 := by decide
  refine (wpIn_wide (n := 6)).1 ?_
  refine wpIn_loop (fun a1 W => ∃ (i : Nat) (Ds : List Nat), i ≤ 2 ∧ a1.defers = marks Ds ∧ (fun T : Array Value => T.size = 98 ∧ T.getD 0 undef = Value.pointer (some ⟨a, 0, none⟩) ∧ T.getD 1 undef = Value.slice (some ⟨a + 2, 0, none⟩) 2 2 ∧ T.getD 2 undef = Value.int IntKind.i64 (i : Nat)) a1.tmps ∧ Live V0.heap.size W Ds ∧ Kp V0 W [])
    (fun a1 _ => (2 - intOf (a1.tmps.getD 2 undef)).toNat) ⟨0, [], by decide, rfl, ⟨rfl, rfl, rfl, rfl⟩, ⟨by simp, by simp, by simp⟩, Kp.refl _ _⟩ ?_
  rintro ⟨T, df⟩ W ⟨i, Ds, hi, hdf, hFx, hLive, hKp⟩
  simp only at hdf hFx
  subst hdf
  obtain ⟨hT0, f0, f1, f2⟩ := hFx
  obtain ⟨X, hX, hTT⟩ := lit98 T hT0
  rw [← hX 0] at f0
  rw [← hX 1] at f1
  rw [← hX 2] at f2
  rw [f0, f1, f2] at hTT
  subst hTT
  clear hX hT0 f0 f1 f2
  have HLV := hid hLive
  have HKP := hid hKp
  have B := hid (B0.out.same Z hKp)
  clear hLive hKp
  refine wpIn_wide.2 ?_
  by_cases hi2 : i = 2
  · subst hi2
    have cn := fun W => P.new_ok W 1 (by decide) (by decide)
    have cm := fun W => P.new_ok W 2 (by decide) (by decide)
    go_wp2_with fail
    refine (cn W).mono ?_
    rintro e W1 ⟨⟨g1, rfl, -, hg1⟩, k1⟩
    have B1 := hid (B.out.same Z k1)
    have L1 := hid (HLV.out.kpN k1)
    have K1 := hid (HKP.out.trans k1)
    have G1 := hid hg1
    clear hg1 k1 B HLV HKP
    go_wp2_with fail
    refine (cm W1).mono ?_
    rintro e W2 ⟨⟨g2, rfl, -, hg2⟩, k2⟩
    have B2 := hid (B1.out.same Z k2)
    have L2 := hid (L1.out.kpN k2)
    have K2 := hid (K1.out.trans k2)
    have G1 := hid (P.still G1.out k2)
    have G2 := hid hg2
    have cl : W2.cell? ⟨a + 2, 1, none⟩ = some (.pointer (some ⟨a + 1, 0, none⟩)) := by simp [World.cell?, B2.out.l]
    clear hg2 k2 B1 L1 K1
    go_wp2_with fail
    refine (Z.same W2 none (some ⟨a + 1, 0, none⟩) (Z.nil _) B2.out.z).mono ?_
    rintro e W3 ⟨rfl, k3⟩
    have B3 := hid (B2.out.same Z k3)
    have L3 := hid (L2.out.kpN k3)
    have K3 := hid (K2.out.trans k3)
    have G1 := hid (P.still G1.out k3)
    have G2 := hid (P.still G2.out k3)
    clear k3 B2 L2 K2 cl
    go_wp2_with fail
    refine (Z.same_one W3 none g1 _ (Z.nil _) G1.out).mono ?_
    rintro e W4 ⟨rfl, k4⟩
    have B4 := hid (B3.out.same Z k4)
    have L4 := hid (L3.out.kpN k4)
    have K4 := hid (K3.out.trans k4)
    have G1 := hid (P.still G1.out k4)
    have G2 := hid (P.still G2.out k4)
    have cs := P.same W4 g1 g2 _ _ G1.out G2.out
    rw [show sameG (newG 1) (newG 2) = false by decide] at cs
    clear k4 B3 L3 K3
    go_wp2_with fail
    refine cs.mono ?_
    rintro e W5 ⟨rfl, n5, hW5⟩
    have k5 : Kp W4 W5 [] := by rw [hW5]; exact Kp.drewN _ _ _
    have B5 := hid (B4.out.same Z k5)
    have L5 := hid (L4.out.kpN k5)
    have K5 := hid (K4.out.trans k5)
    clear k5 B4 L4 K4 cs hW5 G1 G2
    go_wp2_with fail
    refine (kn _).mono ?_
    rintro e W6 ⟨rfl, k6⟩
    have B6 := hid (B5.out.same Z k6)
    have L6 := hid (L5.out.kpN k6)
    have K6 := hid (K5.out.trans k6)
    have c0 := cell_one B6.out.b0
    have f0 := free_one B6.out.b0
    clear k6 B5 L5 K5
    go_wp2
    refine leaves_marks Ds _ (L6.out.set B6.out.b0 (.bool true)) ?_
    have KZ := kp_shutR (rows := [a]) Ds _ (L6.out.set B6.out.b0 (.bool true)) (w := V0) (Nat.le_refl _) (K6.out.past' (Kp.setCell W6 ⟨a, 0, none⟩ (.bool true)))
    have KW : Kp w (shut (W6.setCell ⟨a, 0, none⟩ (.bool true)) Ds) [] := B0.out.kp.past KZ (by intro k hk hl; have := HA.out; simp at hk; omega)
    have hcell := cell_one (shut_cells Ds _ (L6.out.set B6.out.b0 (.bool true)) (set_one (x := .bool true) B6.out.b0))
    exact ⟨.bool true, by simp [results, Try.results7, go_sem, hcell], rfl, KW⟩
  have hilt : i < 2 := by omega
  have hilI : (i : Int) < 2 := by omega
  obtain ⟨p, hp, hzp⟩ : ∃ p, (∀ W', Nb Zg w W' a → W'.cell? ⟨a + 2, i, none⟩ = some (.pointer p)) ∧ ∀ W', Nb Zg w W' a → Zg W' p := by
    by_cases h0 : i = 0
    · subst h0
      exact ⟨none, fun W' h => by simp [World.cell?, h.l], fun W' _ => Z.nil _⟩
    · have e : i = 1 := by omega
      subst e
      exact ⟨some ⟨a + 1, 0, none⟩, fun W' h => by simp [World.cell?, h.l], fun W' h => h.z⟩
  have cl := hp W B.out
  have HZP := hid hzp
  have hwi : IntKind.i64.wrap ((i : Int) + 1) = (i : Int) + 1 := by rw [IntKind.wrap_i64]; omega
  clear hp hzp
  go_wp2_with fail
  refine (Z.of_ W p 0 (HZP.out _ B.out)).mono ?_
  rintro e W1 ⟨rfl, k1⟩
  have B1 := hid (B.out.same Z k1)
  have L1 := hid (HLV.out.kpN k1)
  have K1 := hid (HKP.out.trans k1)
  clear k1 B HLV HKP cl
  go_wp2_with fail
  refine (Z.ring W1 p 0 (HZP.out _ B1.out)).mono ?_
  rintro e W2 ⟨⟨rv, rfl⟩, k2⟩
  have B2 := hid (B1.out.same Z k2)
  have L2 := hid (L1.out.kpN k2)
  have K2 := hid (K1.out.trans k2)
  clear k2 B1 L1 K1
  go_wp2_with fail
  refine (Z.for_ W2 p 0 (HZP.out _ B2.out)).mono ?_
  rintro e W3 ⟨⟨f, fb, rfl, hI⟩, k3⟩
  have B3 := hid (B2.out.same Z k3)
  have L3 := hid (L2.out.kpN k3)
  have K3 := hid (K2.out.trans k3)
  have HI := hid hI
  have hnf := fn_not_nilN
  clear k3 B2 L2 K2 hI
  go_wp2_with fail
  refine (Z.base W3 p (-1) 0 (HZP.out _ B3.out)).mono ?_
  rintro e W4 ⟨rfl, k4⟩
  have B4 := hid (B3.out.same Z k4)
  have L4 := hid (L3.out.kpN k4)
  have K4 := hid (K3.out.trans k4)
  have HI := hid (HI.out.keep k4)
  clear k4 B3 L3 K3
  go_wp2_with fail
  refine (Z.ceil W4 p (-1) 0 (HZP.out _ B4.out)).mono ?_
  rintro e W5 ⟨rfl, k5⟩
  have B5 := hid (B4.out.same Z k5)
  have L5 := hid (L4.out.kpN k5)
  have K5 := hid (K4.out.trans k5)
  have HI := hid (HI.out.keep k5)
  clear k5 B4 L4 K4
  go_wp2_with fail
  refine (Z.waits W5 p (-1) 0 (HZP.out _ B5.out)).mono ?_
  rintro e W6 ⟨rfl, k6⟩
  have B6 := hid (B5.out.same Z k6)
  have L6 := hid (L5.out.kpN k6)
  have K6 := hid (K5.out.trans k6)
  have HI := hid (HI.out.keep k6)
  clear k6 B5 L5 K5
  go_wp2_with fail
  refine (Z.all W6 p (HZP.out _ B6.out)).mono ?_
  rintro e W7 ⟨⟨ao, cap, rfl⟩, k7⟩
  have B7 := hid (B6.out.same Z k7)
  have L7 := hid (L6.out.kpN k7)
  have K7 := hid (K6.out.trans k7)
  have HI := hid (HI.out.keep k7)
  clear k7 B6 L6 K6
  go_wp2_with fail
  refine (Z.copy W7 p (HZP.out _ B7.out)).mono ?_
  rintro e W8 ⟨rfl, k8⟩
  have B8 := hid (B7.out.same Z k8)
  have L8 := hid (L7.out.kpN k8)
  have K8 := hid (K7.out.trans k8)
  have HI := hid (HI.out.keep k8)
  clear k8 B7 L7 K7
  go_wp2_with fail
  refine (wpIn_wide (n := 6)).1 ?_
  obtain ⟨hEn, hh, hhh, hSq⟩ := HI.out
  have SQ := hSq W8 (Kp.refl _ _) 5 (by decide)
  refine range_seqs (K := Kc W2.heap.size hh W8.heap.size) h1 (gf := f) (lb := fb) rfl hEn
    SQ Kc.trans (kc_put _ _ _) (Below.refl _ _) (fun _ => rfl)
    (fun pre V' => Below W8.heap.size W8 V')
    (fun _ _ _ => False)
    (ownFrom_below (Nat.le_refl _) (Nat.le_refl _))
    (fun cc s A B row hs hg hr => hs)
    (Below.refl _ _)
    (fun _ => { tmps := #[], defers := [] })
    ?assign ?body ?done ?stop
  case assign =>
    intro l d V' K hm hK
    simp at hm
  case body =>
    rintro l pre d V' hpre hi1
    simp at hpre
  case done =>
    rintro D V' hD hi1 hK
    have kV := Kp.of_below hi1
    have L9 := hid ((L8.out.kpN kV).more hK (fun E hE => by have := lt_of_block (L8.out.1 E hE); omega) (by have := K8.out.size; omega))
    have K9 := hid (K8.out.trans kV)
    clear hi1 hK kV
    gi_wp2
    go_wp2
    refine ⟨⟨i + 1, D :: Ds, by omega, rfl, ⟨rfl, rfl, rfl, ?_⟩, L9.out, K9.out⟩, ?_⟩
    · show Value.int IntKind.i64 ((i : Int) + 1) = Value.int IntKind.i64 ((i + 1 : Nat) : Int)
      rw [show (((i + 1 : Nat) : Int)) = (i : Int) + 1 by omega]
    · show (2 - ((i : Int) + 1)).toNat < (2 - (i : Int)).toNat
      omega
  case stop =>
    rintro D cc pre V' hD hpre hf hK
    exact hf.elim
end
end Go.Proofs.Ytomdnppnabncaaa
