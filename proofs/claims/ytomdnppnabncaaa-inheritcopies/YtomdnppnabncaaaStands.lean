/- stands: does the program's graph tell what the document's does? -/
import Derived.Test.YtomdnppnabncaaaBl
namespace Go.Proofs.Ytomdnppnabncaaa
open Go.RowKit Go.Shelf
open Go.Lib hiding intOf
set_option linter.unusedVariables false
attribute [local go_sem] Oper.semAt_some

theorem Live.kp {lo : Nat} {A B : World} {Ds : List Nat} (h : Live lo A Ds) (hk : Kp A B []) : Live lo B Ds := ⟨fun D hD => (hk.block D (lt_of_block (h.1 D hD)) (by simp)).trans (h.1 D hD), h.2⟩
/-- The law's boxes (when to leave, the answer), both graphs, what is wanted. -/
structure Bx (Gr : World → Nat → Gs → Prop) (w W : World) (gb rb a : Nat) (G : Gs) (L : List Int) (leave : Int) (V : Value) : Prop where
  b5 : W.heap[a]? = some (.cells #[.int .i64 leave] 3 (0, 0))
  b6 : W.heap[a + 1]? = some (.cells #[.bool false] 4 (0, 0))
  gr : Gr W gb G
  rr : Rr W rb G
  ns : Ns W 0 V L
  kp : Kp w W []
section
variable {Gr : World → Nat → Gs → Prop} {w W W' : World} {gb rb a : Nat} {G : Gs} {L : List Int} {leave : Int} {V : Value}
theorem Bx.same (P : Prg Gr) (h : Bx Gr w W gb rb a G L leave V) (hk : Kp W W' []) : Bx Gr w W' gb rb a G L leave V :=
  ⟨(hk.block a (lt_of_block h.b5) (by simp)).trans h.b5, (hk.block (a + 1) (lt_of_block h.b6) (by simp)).trans h.b6, P.still h.gr hk, h.rr.same hk, h.ns.keep hk, h.kp.trans hk⟩
end
/-- A frame of 170, slot by slot. -/
theorem lit170 (T : Array Value) (h : T.size = 170) : ∃ X : Nat → Value, (∀ k, X k = T.getD k undef) ∧ T = #[X 0, X 1, X 2, X 3, X 4, X 5, X 6, X 7, X 8, X 9, X 10, X 11, X 12, X 13, X 14, X 15, X 16, X 17, X 18, X 19, X 20, X 21, X 22, X 23, X 24, X 25, X 26, X 27, X 28, X 29, X 30, X 31, X 32, X 33, X 34, X 35, X 36, X 37, X 38, X 39, X 40, X 41, X 42, X 43, X 44, X 45, X 46, X 47, X 48, X 49, X 50, X 51, X 52, X 53, X 54, X 55, X 56, X 57, X 58, X 59, X 60, X 61, X 62, X 63, X 64, X 65, X 66, X 67, X 68, X 69, X 70, X 71, X 72, X 73, X 74, X 75, X 76, X 77, X 78, X 79, X 80, X 81, X 82, X 83, X 84, X 85, X 86, X 87, X 88, X 89, X 90, X 91, X 92, X 93, X 94, X 95, X 96, X 97, X 98, X 99, X 100, X 101, X 102, X 103, X 104, X 105, X 106, X 107, X 108, X 109, X 110, X 111, X 112, X 113, X 114, X 115, X 116, X 117, X 118, X 119, X 120, X 121, X 122, X 123, X 124, X 125, X 126, X 127, X 128, X 129, X 130, X 131, X 132, X 133, X 134, X 135, X 136, X 137, X 138, X 139, X 140, X 141, X 142, X 143, X 144, X 145, X 146, X 147, X 148, X 149, X 150, X 151, X 152, X 153, X 154, X 155, X 156, X 157, X 158, X 159, X 160, X 161, X 162, X 163, X 164, X 165, X 166, X 167, X 168, X 169] := by
  refine ⟨fun k => T.getD k undef, fun _ => rfl, ?_⟩
  have e : T.toList = (List.range 170).map fun k => T.getD k undef := by
    apply List.ext_getElem
    · simp [h]
    · intro i h1 h2
      have hi : i < T.size := by simpa using h1
      simp [hi]
  have e2 : T = ((List.range 170).map fun k => T.getD k undef).toArray := by rw [← e]
  exact e2
section
variable {Gr : World → Nat → Gs → Prop} {w W W' : World} {gb rb a : Nat} {G : Gs} {L : List Int} {leave : Int} {V : Value}
theorem neq_bool (B : Bool) (W : World) : (binOp .neq 4 (.bool B) (.bool B)).run Try.prog W = .ok (.bool false) W := by cases B <;> kernel_rfl
theorem fn_not_nil (f : Nat) (fb : Array Value) (W : World) : (binOp .eql 57 (.func (.func f) #[] fb) .nilFunc).run Try.prog W = .ok (.bool false) W := by kernel_rfl
set_option maxRecDepth 100000 in
set_option maxHeartbeats 16000000 in
theorem stands_any (P : Prg Gr) : StandsOk Gr := by
  intro w gb rb G leave h h'
  have hn1 := (P.ok h).n1
  have hn2 := (P.ok h).n2
  have HGO := hid (P.ok h)
  have k0 := (Kp.alloc w (.cells #[.int .i64 leave] 3) []).trans (Kp.alloc _ (.cells #[.bool false] 4) [])
  obtain ⟨W0, hW0⟩ : ∃ W0, (w.alloc (.cells #[.int .i64 leave] 3)).alloc (.cells #[.bool false] 4) = W0 := ⟨_, rfl⟩
  have b5 : W0.heap[w.heap.size]? = some (.cells #[.int .i64 leave] 3 (0, 0)) := by rw [← hW0, Below.heap_alloc _ _ _ (by simp)]; exact World.alloc_heap_new w _
  have b6 : W0.heap[w.heap.size + 1]? = some (.cells #[.bool false] 4 (0, 0)) := by
    rw [← hW0]
    have := World.alloc_heap_new (w.alloc (.cells #[.int .i64 leave] 3)) (.cells #[.bool false] 4)
    simpa using this
  rw [hW0] at k0
  have c24 := rall_any W0 rb G (h'.same k0) HGO.out
  obtain ⟨n, hn⟩ : ∃ n, G.n = n := ⟨_, rfl⟩
  rw [hn] at hn1 hn2
  have HN := hid hn
  have B0 := hid (And.intro b5 (And.intro b6 (And.intro (P.still h k0) (And.intro (h'.same k0) k0))))
  obtain ⟨a, ha⟩ : ∃ a, w.heap.size = a := ⟨_, rfl⟩
  rw [ha] at B0
  have HA := hid ha
  clear b5 b6 h h' k0 hn
  refine (callsIn_wide (n := 6)).1 ?_
  refine callsIn_of_wp_marks Try.func12 rfl trivial ?_ rfl
  simp only [Try.ntmps12, List.size_toArray, List.length_cons, List.length_nil, Nat.reduceAdd, Nat.reduceSub, Array.replicate_succ, Array.replicate_zero, List.push_toArray, List.append_toArray, List.nil_append, List.cons_append]
  refine wpIn_wide.2 ?_
  go_wp2_with fail
  refine c24.mono ?_
  rintro e W1 ⟨⟨v1, rfl, L, hE, hL⟩, k1⟩
  obtain ⟨wo, wc, hv1⟩ := hL.slice
  have hll : L.length = n := by rw [hE.len, HN.out]
  rw [hll] at hv1
  subst hv1
  have HE := hid hE
  have HLL := hid hll
  have B1 := hid (show Bx Gr w W1 gb rb a G L leave (.slice wo n wc) from by
    obtain ⟨b5, b6, hg, hr, k0⟩ := B0.out
    exact ⟨(k1.block _ (lt_of_block b5) (by simp)).trans b5, (k1.block _ (lt_of_block b6) (by simp)).trans b6, P.still hg k1, hr.same k1, hL.low (Nat.zero_le _), k0.trans k1⟩)
  have c13 := P.all W1 gb G B1.out.gr
  clear c24 hE hL k1 hll B0 hW0 ha
  go_wp2_with fail
  refine c13.mono ?_
  rintro e W2 ⟨⟨v2, rfl, M, hM, hMs⟩, k2⟩
  have hML := hM.one HGO.out HE.out
  subst hML
  obtain ⟨go_, gc, hv2⟩ := hMs.slice
  rw [HLL.out] at hv2
  subst hv2
  obtain ⟨gg, hgg, -, -⟩ := hMs.at (k := 0) (by have := HLL.out; omega) rfl
  subst hgg
  have B2 := hid (B1.out.same P k2)
  have HGG := hid (show W1.heap.size ≤ gg from (owns_block hMs (g := gg) rfl).1)
  have M2 := hid hMs
  have c22 := ints_any W2 _ _ _ _ _ _ hMs B2.out.ns (by have := HLL.out; omega)
  rw [show decide (M = M) = true by simp] at c22
  have LT := hid (show a + 1 < W1.heap.size ∧ gb < W1.heap.size ∧ rb < W1.heap.size ∧ (∀ g, (Value.slice wo n wc).ownBlock = some g → g < W1.heap.size) from ⟨lt_of_block B1.out.b6, P.lt B1.out.gr, B1.out.rr.lt, fun g hg => by obtain ⟨-, cur, hc⟩ := owns_block B1.out.ns hg; exact lt_of_block hc⟩)
  clear c13 hM hMs k2 B1
  go_wp2_with fail
  refine c22.mono ?_
  rintro e W3 ⟨rfl, n3, hW3⟩
  have B3 := hid (show Bx Gr w W3 gb rb a G M leave (.slice wo n wc) by rw [hW3]; exact B2.out.same P (Kp.drewN _ _ _))
  have M3 := hid (show Ns W3 W1.heap.size (.slice (some ⟨gg, 0, none⟩) n gc) M by rw [hW3]; exact M2.out.keep (Kp.drewN _ _ _))
  clear c22 hW3 B2 M2
  go_wp2_with fail
  go_loopw [9] (fun vi W => ∃ (i : Nat) (Q : List Int), i ≤ n ∧ vi = .int .i64 i ∧ Hid (Kp W3 W [gg] ∧ Ns W W1.heap.size (.slice (some ⟨gg, 0, none⟩) n gc) Q ∧ Q.length = n)) (fun vi _ => n - (intOf vi).toNat)
  case atStart => exact ⟨0, M, by omega, rfl, hid ⟨Kp.refl _ _, M3.out, HLL.out⟩⟩
  case round =>
    obtain ⟨i, Q, hi, rfl, hR⟩ := hrel
    by_cases hlt : i < n
    · have hltI : (i : Int) < n := by omega
      obtain ⟨g', e', ci, fi⟩ := hR.out.2.1.at (k := i) (by have := hR.out.2.2; omega) rfl
      simp only [Option.some.injEq, Addr.mk.injEq, and_true] at e'
      subst e'
      have R2 := hid (show Kp W3 (wr.setCell ⟨gg, i, none⟩ (.int .i64 99)) [gg] ∧ Ns (wr.setCell ⟨gg, i, none⟩ (.int .i64 99)) W1.heap.size (.slice (some ⟨gg, 0, none⟩) n gc) (Q.set i 99) ∧ (Q.set i 99).length = n from ⟨hR.out.1.trans (Kp.setCell wr ⟨gg, i, none⟩ _), hR.out.2.1.set 99, by rw [List.length_set]; exact hR.out.2.2⟩)
      clear hR
      go_wp2_with fail
      go_roundw
      case rel => exact ⟨i + 1, _, by omega, by simp, R2⟩
      case measure => simp [intOf]; omega
    · have hltI : ¬ (i : Int) < n := by omega
      have B4 := hid (show Bx Gr w wr gb rb a G M leave (.slice wo n wc) from by
        have hk := hR.out.1
        have lt := LT.out
        have hg := HGG.out
        refine ⟨(hk.block a (lt_of_block B3.out.b5) (by simp; omega)).trans B3.out.b5, (hk.block (a + 1) (lt_of_block B3.out.b6) (by simp; omega)).trans B3.out.b6, P.keep B3.out.gr hk (by simp; omega), B3.out.rr.keep hk (by simp; omega), B3.out.ns.kp hk (fun g hgb => by have := lt.2.2.2 g hgb; simp; omega), ?_⟩
        refine B3.out.kp.past hk (by intro j hj hl; have := HA.out; simp at hj; omega))
      clear hR B3 M3
      go_wp2_with fail
      obtain ⟨V0, hV0⟩ : ∃ V0, wr = V0 := ⟨_, rfl⟩
      rw [hV0] at B4 ⊢
      clear hV0 hltI hlt hi
      have h1 : 1 ≤ 6 := by decide
      refine (wpIn_wide (n := 6)).1 ?_
      refine wpIn_loop (fun a1 W => ∃ (j : Nat) (Ds : List Nat), j ≤ 18 ∧ a1.defers = marks Ds ∧ (fun T : Array Value => T.size = 170 ∧ T.getD 0 undef = Value.pointer (some ⟨gb, 0, none⟩) ∧ T.getD 1 undef = Value.pointer (some ⟨rb, 0, none⟩) ∧ T.getD 5 undef = Value.pointer (some ⟨a, 0, none⟩) ∧ T.getD 6 undef = Value.pointer (some ⟨a + 1, 0, none⟩) ∧ T.getD 7 undef = Value.slice wo n wc ∧ T.getD 10 undef = Value.int IntKind.i64 ((j : Int) - 1)) a1.tmps ∧ Live V0.heap.size W Ds ∧ Kp V0 W [])
        (fun a1 _ => (17 - intOf (a1.tmps.getD 10 undef)).toNat) ⟨0, [], by decide, rfl, ⟨rfl, rfl, rfl, rfl, rfl, rfl, rfl⟩, ⟨by simp, by simp, by simp⟩, Kp.refl _ _⟩ ?_
      rintro ⟨T, df⟩ W ⟨j, Ds, hj, hdf, hFx, hLive, hKp⟩
      simp only at hdf hFx
      subst hdf
      obtain ⟨hT0, f0, f1, f5, f6, f7, f10⟩ := hFx
      obtain ⟨X, hX, hTT⟩ := lit170 T hT0
      rw [← hX 0] at f0
      rw [← hX 1] at f1
      rw [← hX 5] at f5
      rw [← hX 6] at f6
      rw [← hX 7] at f7
      rw [← hX 10] at f10
      rw [f0, f1, f5, f6, f7, f10] at hTT
      subst hTT
      clear hX hT0 f0 f1 f5 f6 f7 f10
      have HLV := hid hLive
      have HKP := hid hKp
      have B5 := hid (B4.out.same P hKp)
      clear hLive hKp
      refine wpIn_wide.2 ?_
      by_cases hj18 : j = 18
      · subst hj18
        simp only [show (((18 : Nat) : Int) - 1) = 17 from rfl]
        have c6 := cell_one B5.out.b6
        have f6 := free_one B5.out.b6
        go_wp2
        refine leaves_marks Ds _ (HLV.out.set B5.out.b6 (.bool true)) ?_
        have KZ := kp_shutR (rows := [a + 1]) Ds _ (HLV.out.set B5.out.b6 (.bool true)) (w := V0) (Nat.le_refl _) (HKP.out.past' (Kp.setCell W ⟨a + 1, 0, none⟩ (.bool true)))
        have KW : Kp w (shut (W.setCell ⟨a + 1, 0, none⟩ (.bool true)) Ds) [] := B4.out.kp.past KZ (by intro k hk hl; have := HA.out; simp at hk; omega)
        have hcell := cell_one (shut_cells Ds _ (HLV.out.set B5.out.b6 (.bool true)) (set_one (x := .bool true) B5.out.b6))
        exact ⟨.bool true, by simp [results, Try.results12, go_sem, hcell], rfl, KW⟩
      have hj17 : j < 18 := by omega
      obtain ⟨tv, htv⟩ : ∃ tv, (j : Int) - 1 = tv := ⟨_, rfl⟩
      have htb : -1 ≤ tv ∧ tv ≤ 16 := by omega
      have hwr : IntKind.i64.wrap (tv + 1) = tv + 1 := by rw [IntKind.wrap_i64]; omega
      have htle : tv ≤ 16 := htb.2
      rw [htv]
      have HJQ := hid htv
      have c18 := P.of_ W gb G tv B5.out.gr
      clear htv
      go_wp2_with fail
      refine c18.mono ?_
      rintro e W5 ⟨⟨x, rfl, hx⟩, k5⟩
      have B6 := hid (B5.out.same P k5)
      have L6 := hid (HLV.out.kp k5)
      have K6 := hid (HKP.out.trans k5)
      have HX := hid hx
      have c14 := P.ring W5 gb G tv B6.out.gr
      obtain ⟨IS, hIS⟩ : ∃ IS, decide (mayT G tv) = IS := ⟨_, rfl⟩
      rw [hIS]
      have HIS := hid hIS
      clear c18 hx k5 B5 HLV HKP hIS
      go_wp2_with fail
      refine c14.mono ?_
      rintro e W7 ⟨⟨rv, rin, rfl, R, hR, hRv⟩, k7⟩
      obtain ⟨ro, rc, hrv⟩ := hRv.slice
      obtain ⟨rn, hrn⟩ : ∃ rn, R.length = rn := ⟨_, rfl⟩
      rw [hrn] at hrv
      subst hrv
      have B7 := hid (B6.out.same P k7)
      have L7 := hid (L6.out.kp k7)
      have K7 := hid (K6.out.trans k7)
      have HR := hid hR
      have HRV := hid hRv
      have HRN := hid hrn
      have c23 := rin_any W7 rb G tv B7.out.rr
      rw [HIS.out] at c23
      clear c14 hR hRv k7 hrn B6 L6 K6
      go_wp2_with fail
      refine c23.mono ?_
      rintro e W8 ⟨rfl, hW8⟩
      subst hW8
      clear c23
      have hbb := neq_bool IS
      cases IS with
      | false =>
        have hm : ¬ mayT G tv := by simpa using HIS.out
        have hx0 := HX.out.2 hm
        obtain ⟨hR0, hb0⟩ := HR.out.2 hm
        have hz : rn = 0 := by rw [← HRN.out, hR0]; rfl
        subst hx0
        subst hz
        subst hb0
        have HM := hid hm
        clear hm HX hR0 HR HRV HRN
        go_wp2_with fail
        have c21 := P.for_ W8 gb G tv B7.out.gr
        have hnf := fn_not_nil
        refine c21.mono ?_
        rintro e WC ⟨⟨f, fb, rfl, hI⟩, kC⟩
        have BC := hid (B7.out.same P kC)
        have LC := hid (L7.out.kp kC)
        have KC := hid (K7.out.trans kC)
        have HI := hid hI
        have HWS := hid (show W8.heap.size ≤ WC.heap.size from kC.size)
        clear c21 hI kC B7 L7 K7
        go_wp2_with fail
        obtain ⟨lbx, hlbx⟩ : ∃ lbx, WC.heap.size = lbx := ⟨_, rfl⟩
        have HBL := hid (show Bl WC (WC.alloc (.cells #[.slice none 0 0] 35)) WC.heap.size (WC.heap.size + 1) [] from ⟨⟨none, 0, 0, World.alloc_heap_new WC _, Ns.nil _ _⟩, (Kp.alloc WC _ []).below, by simp⟩)
        have HLB := hid hlbx
        obtain ⟨WD0, hWD0⟩ : ∃ WD0, WC.alloc (.cells #[.slice none 0 0] 35) = WD0 := ⟨_, rfl⟩
        rw [hWD0, hlbx] at HBL
        rw [hWD0, hlbx]
        clear hWD0 hlbx hnf
        have HZ := hid (forL_no HM.out)
        go_loopw [18] (fun vi W => vi = .int .i64 0 ∧ W = WD0) (fun _ _ => 0)
        case atStart => exact ⟨rfl, rfl⟩
        case round =>
          obtain ⟨rfl, rfl⟩ := hrel
          have c0 := (BC.out.rr.same (Kp.of_below HBL.out.be)).n
          rw [HN.out] at c0
          have hn0 : (0 : Int) < n := by omega
          have HBZ := hid (show Bl WC wr lbx (lbx + 1) (forL G tv) by rw [HZ.out]; exact HBL.out)
          clear HBL HZ
          go_wp2_with fail
          obtain ⟨tq0, htq0⟩ : ∃ tq0, wr.heap.size = tq0 := ⟨_, rfl⟩
          have T0 := hid (World.alloc_heap_new wr (.cells #[.int .i64 0] 3))
          have kE := Kp.alloc wr (.cells #[.int .i64 0] 3) []
          have KWE := hid ((Kp.of_below HBZ.out.be).trans kE)
          have HLT := hid (show lbx < wr.heap.size from by have := HBZ.out.sz; omega)
          obtain ⟨WE, hWE⟩ : ∃ WE, wr.alloc (.cells #[.int .i64 0] 3) = WE := ⟨_, rfl⟩
          rw [hWE] at T0 KWE kE ⊢
          rw [htq0] at T0 HLT ⊢
          obtain ⟨zo, zn, zc, hzb, hzn⟩ := HBZ.out.ex
          have ZB := hid ((kE.block lbx (lt_of_block hzb) (by simp)).trans hzb)
          have hzn2 := hzn.keep kE
          obtain ⟨Z, hZ⟩ : ∃ Z, forL G tv = Z := ⟨_, rfl⟩
          have hZl := forL_len G tv
          rw [hZ] at hzn2 hZl
          obtain ⟨zo', zc', hzs⟩ := hzn2.slice
          obtain ⟨N, hNz⟩ : ∃ N, Z.length = N := ⟨_, rfl⟩
          rw [hNz] at hzs hZl
          simp only [Value.slice.injEq] at hzs
          obtain ⟨-, rfl, -⟩ := hzs
          have hN16 : zn ≤ 16 := by have := HN.out; omega
          have ZN := hid hzn2
          have HNZ := hid hNz
          have HIZ := hid (show Itr W8.heap.size WC f fb Z by rw [← hZ]; exact HI.out)
          have BE := hid (BC.out.same P KWE.out)
          have LE := hid (LC.out.kp KWE.out)
          have KE := hid (KC.out.trans KWE.out)
          clear hWE hzb hzn hzn2 hZ hZl hNz HBZ kE htq0 zo' zc'
          refine (wpIn_wide (n := 6)).1 ?_
          refine wpIn_loop (fun a1 V => ∃ (t2 tq : Nat) (Es : List Nat), t2 ≤ 2 ∧ Es.length = Ds.length + t2 ∧ lbx < tq ∧ a1.defers = marks Es ∧ (fun T : Array Value => T.size = 170 ∧ T.getD 0 undef = Value.pointer (some ⟨gb, 0, none⟩) ∧ T.getD 1 undef = Value.pointer (some ⟨rb, 0, none⟩) ∧ T.getD 5 undef = Value.pointer (some ⟨a, 0, none⟩) ∧ T.getD 6 undef = Value.pointer (some ⟨a + 1, 0, none⟩) ∧ T.getD 7 undef = Value.slice wo n wc ∧ T.getD 10 undef = Value.int IntKind.i64 tv ∧ T.getD 16 undef = Value.func (Fn.func f) #[] fb ∧ T.getD 17 undef = Value.pointer (some ⟨lbx, 0, none⟩) ∧ T.getD 19 undef = Value.pointer (some ⟨tq, 0, none⟩)) a1.tmps ∧ Live V0.heap.size V Es ∧ Kp WE V [] ∧ V.heap[tq]? = some (.cells #[.int .i64 (t2 : Nat)] 3 (0, 0)))
            (fun a1 _ => Ds.length + 2 - a1.defers.length) ⟨0, tq0, Ds, by decide, rfl, HLT.out, rfl, ⟨rfl, rfl, rfl, rfl, rfl, rfl, rfl, rfl, rfl, rfl⟩, LE.out, Kp.refl _ _, T0.out⟩ ?_
          rintro ⟨T, df⟩ V ⟨t2, tq, Es, ht2, hEs, htq, hdf, hFx, hLive, hKp, hTu⟩
          simp only at hdf hFx
          subst hdf
          obtain ⟨hT0, f0, f1, f5, f6, f7, f10, f16, f17, f19⟩ := hFx
          obtain ⟨Y, hX, hTT⟩ := lit170 T hT0
          rw [← hX 0] at f0
          rw [← hX 1] at f1
          rw [← hX 5] at f5
          rw [← hX 6] at f6
          rw [← hX 7] at f7
          rw [← hX 10] at f10
          rw [← hX 16] at f16
          rw [← hX 17] at f17
          rw [← hX 19] at f19
          rw [f0, f1, f5, f6, f7, f10, f16, f17, f19] at hTT
          subst hTT
          clear hX hT0 f0 f1 f5 f6 f7 f10 f16 f17 f19
          have c19 := cell_one hTu
          have HL4 := hid hLive
          have HK4 := hid hKp
          have HTU := hid hTu
          have HES := hid hEs
          have BV := hid (BE.out.same P hKp)
          clear hLive hKp hTu hEs
          by_cases ht : t2 = 2
          · subst ht
            have KO := hid (KE.out.trans HK4.out)
            gi_wp2
            go_wp2
            refine ⟨⟨j + 1, Es, by omega, rfl, ⟨rfl, rfl, rfl, rfl, rfl, rfl, ?_⟩, HL4.out, KO.out⟩, ?_⟩
            · show Value.int IntKind.i64 (tv + 1) = Value.int IntKind.i64 (((j + 1 : Nat) : Int) - 1)
              have := HJQ.out
              rw [show (((j + 1 : Nat) : Int) - 1) = tv + 1 by omega]
            · show (17 - (tv + 1)).toNat < (17 - tv).toNat
              omega
          have ht1 : (t2 : Int) < 2 := by omega
          have ht3 : t2 < 2 := by omega
          gi_wp2
          obtain ⟨nb, hnb⟩ : ∃ nb, V.heap.size = nb := ⟨_, rfl⟩
          have N1 := hid (World.alloc_heap_new V (.cells #[.int .i64 0] 3))
          have KW1 := hid (Kp.alloc V (.cells #[.int .i64 0] 3) [])
          obtain ⟨W6, hW6⟩ : ∃ W6, V.alloc (.cells #[.int .i64 0] 3) = W6 := ⟨_, rfl⟩
          have hs1 : W6.heap.size = nb + 1 := by rw [← hW6, ← hnb]; simp
          rw [hnb] at N1
          rw [hW6] at N1 KW1
          simp only [hnb, hW6]
          have HNB := hid hnb
          have HS1 := hid hs1
          have tnb : tq < nb := by rw [← hnb]; exact lt_of_block HTU.out
          have lnb : lbx < nb := by omega
          have abn : a + 1 < nb := by rw [← hnb]; exact lt_of_block BV.out.b6
          have DL := hid (show ∀ D ∈ Es, D < nb from fun D hm => by rw [← hnb]; exact lt_of_block (HL4.out.1 D hm))
          obtain ⟨hEn, hi, hhi, hSq⟩ := HIZ.out
          have SQ := hSq W6 (KWE.out.trans (HK4.out.trans KW1.out)) 5 (by decide)
          have HHI := hid (show hi ≤ lbx by have := HLB.out; omega)
          have VNB := hid (show V0.heap.size ≤ nb by have := KE.out.size; have := HK4.out.size; omega)
          clear hnb hW6 c19 hs1 hSq hhi
          refine range_seqs (K := Kc W8.heap.size hi W6.heap.size) h1 (gf := f) (lb := fb) rfl hEn
            SQ Kc.trans (kc_put _ _ _) (Below.refl _ _) (fun _ => rfl)
            (fun pre V' => V'.heap[nb]? = some (.cells #[.int .i64 (pre.length : Nat)] 3 (0, 0)) ∧ Below V.heap.size V V')
            (fun cc _ V' => cc = .exit 8 ∧ t2 = 0 ∧ V'.heap[nb]? = some (.cells #[.int .i64 leave] 3 (0, 0)) ∧ Below V.heap.size V V')
            (OwnFrom.and (fun s A B row hs hg hr => cells_kept hs hg hr) (ownFrom_below (Nat.le_refl _) (by have := HNB.out; have := HS1.out; omega)))
            (fun cc s A B row hs hg hr => ⟨hs.1, hs.2.1, cells_kept hs.2.2.1 hg hr, (ownFrom_below (β := Unit) (w₀ := V) (Nat.le_refl _) (show V.heap.size ≤ W6.heap.size by have := HNB.out; have := HS1.out; omega)) () A B row hs.2.2.2 hg hr⟩)
            ⟨N1.out, KW1.out.below⟩
            (fun d => { tmps := #[Value.pointer (some ⟨gb, 0, none⟩), Value.pointer (some ⟨rb, 0, none⟩), Y 2, Y 3, Y 4, Value.pointer (some ⟨a, 0, none⟩), Value.pointer (some ⟨a + 1, 0, none⟩), Value.slice wo n wc, Y 8, Y 9, Value.int IntKind.i64 tv, Y 11, Y 12, Y 13, Y 14, Y 15, Value.func (Fn.func f) #[] fb, Value.pointer (some ⟨lbx, 0, none⟩), Y 18, Value.pointer (some ⟨tq, 0, none⟩), Value.pointer (some ⟨nb, 0, none⟩), Value.int IntKind.i64 d, Y 22, Y 23, Y 24, Y 25, Y 26, Y 27, Y 28, Y 29, Y 30, Y 31, Y 32, Y 33, Y 34, Y 35, Y 36, Y 37, Y 38, Y 39, Y 40, Y 41, Y 42, Y 43, Y 44, Y 45, Y 46, Y 47, Y 48, Y 49, Y 50, Y 51, Y 52, Y 53, Y 54, Y 55, Y 56, Y 57, Y 58, Y 59, Y 60, Y 61, Y 62, Y 63, Y 64, Y 65, Y 66, Y 67, Y 68, Y 69, Y 70, Y 71, Y 72, Y 73, Y 74, Y 75, Y 76, Y 77, Y 78, Y 79, Y 80, Y 81, Y 82, Y 83, Y 84, Y 85, Y 86, Y 87, Y 88, Y 89, Y 90, Y 91, Y 92, Y 93, Y 94, Y 95, Y 96, Y 97, Y 98, Y 99, Y 100, Y 101, Y 102, Y 103, Y 104, Y 105, Y 106, Y 107, Y 108, Y 109, Y 110, Y 111, Y 112, Y 113, Y 114, Y 115, Y 116, Y 117, Y 118, Y 119, Y 120, Y 121, Y 122, Y 123, Y 124, Y 125, Y 126, Y 127, Y 128, Value.int IntKind.i64 (t2 : Int), Value.bool true, Y 131, Y 132, Value.func (Fn.func f) #[] fb, Value.int IntKind.i64 d, Y 135, Y 136, Y 137, Y 138, Y 139, Y 140, Y 141, Y 142, Y 143, Y 144, Y 145, Y 146, Y 147, Y 148, Y 149, Y 150, Y 151, Y 152, Y 153, Y 154, Y 155, Y 156, Y 157, Y 158, Y 159, Y 160, Y 161, Y 162, Y 163, Y 164, Y 165, Y 166, Y 167, Y 168, Y 169], defers := [] })
            ?assign ?body ?done ?stop
          case assign =>
            intro l d V' K _ hK
            have HK := hid hK
            clear hK
            gi_wp2
            exact HK.out
          case body =>
            rintro l pre d V' hpre ⟨hi1, hi2⟩
            have hltX : pre.length < Z.length := by
              obtain ⟨r, hr⟩ := hpre
              have := congrArg List.length hr
              simp at this
              omega
            have hdd : Z[pre.length]! = d := by
              obtain ⟨r, hr⟩ := hpre
              rw [getElem!_pos Z pre.length hltX]
              simp [← hr]
            have hltN : pre.length < zn := by have := HNZ.out; omega
            have hltI : ¬ (zn : Int) ≤ (pre.length : Int) := by omega
            have hltJ : (pre.length : Int) < (zn : Int) := by omega
            have hltK : ¬ zn ≤ pre.length := by omega
            have hp16 : pre.length ≤ 16 := by omega
            have kV := HK4.out.trans (Kp.of_below hi2)
            obtain ⟨g, hao, u5, -⟩ := (ZN.out.keep kV).at hltX hdd
            subst hao
            have u1 := cell_one ((kV.block lbx (lt_of_block ZB.out) (by simp)).trans ZB.out)
            have u0 := cell_one hi1
            have f0 := free_one hi1
            have hdn : (d != d) = false := by simp
            have hwl : IntKind.i64.wrap ((pre.length : Int) + 1) = (pre.length : Int) + 1 := by rw [IntKind.wrap_i64]; omega
            have nu := hid (set_one (w := V') (x := .int .i64 ((pre.length : Int) + 1)) hi1)
            have k19 := cell_one ((Below.heap_setCell V' ⟨nb, 0, none⟩ (.int .i64 ((pre.length : Int) + 1)) tq (by simp; omega)).trans ((hi2.block tq (lt_of_block HTU.out)).trans HTU.out))
            have k5 := cell_one ((Below.heap_setCell V' ⟨nb, 0, none⟩ (.int .i64 ((pre.length : Int) + 1)) a (by simp; omega)).trans ((hi2.block a (lt_of_block BV.out.b5)).trans BV.out.b5))
            have k20 := cell_one nu.out
            have KD := hid (show Kc W8.heap.size hi W6.heap.size V' (V'.setCell ⟨nb, 0, none⟩ (.int .i64 ((pre.length : Int) + 1))) from Kc.of_kp (Kp.setCell V' ⟨nb, 0, none⟩ (.int .i64 ((pre.length : Int) + 1))) (fun k hk => by
              simp at hk
              subst hk
              exact ⟨.inr (by have := HHI.out; omega), .inl (by have := HS1.out; omega)⟩))
            have KF := hid (show KeepsFrom W6.heap.size V' (V'.setCell ⟨nb, 0, none⟩ (.int .i64 ((pre.length : Int) + 1))) from ⟨by simp, fun k o hk h ho => (Below.heap_setCell V' _ _ k (by have := HS1.out; simp; omega)).trans h⟩)
            have BL := hid (show Below V.heap.size V (V'.setCell ⟨nb, 0, none⟩ (.int .i64 ((pre.length : Int) + 1))) from hi2.setCell (p := ⟨nb, 0, none⟩) (by have := HNB.out; simp; omega) _)
            clear hi1 hi2 hpre kV hdd
            by_cases htz : t2 = 0
            · have tz : ((t2 : Int) == 0) = true := by rw [htz]; rfl
              have HT := hid htz
              clear htz
              by_cases hle' : (pre.length : Int) + 1 = leave
              · have tl : ((pre.length : Int) + 1 == leave) = true := by simp [hle']
                have HLE := hid hle'
                clear hle'
                gi_wp2
                refine ⟨KF.out, rfl, HT.out, ?_, BL.out⟩
                rw [← HLE.out]
                exact nu.out
              · have tl : ((pre.length : Int) + 1 == leave) = false := by simpa using hle'
                gi_wp2
                refine ⟨KF.out, KD.out, ?_, BL.out⟩
                rw [show (((pre ++ [d]).length : Nat) : Int) = (pre.length : Int) + 1 by simp]
                exact nu.out
            · have tz : ((t2 : Int) == 0) = false := by simp; omega
              gi_wp2
              refine ⟨KF.out, KD.out, ?_, BL.out⟩
              rw [show (((pre ++ [d]).length : Nat) : Int) = (pre.length : Int) + 1 by simp]
              exact nu.out
          case done =>
            rintro D V' hD ⟨hi1, hi2⟩ hK
            rw [HNZ.out] at hi1
            have kV := HK4.out.trans (Kp.of_below hi2)
            have u1 := cell_one ((kV.block lbx (lt_of_block ZB.out) (by simp)).trans ZB.out)
            have c5 := cell_one ((hi2.block a (lt_of_block BV.out.b5)).trans BV.out.b5)
            have c19 := cell_one ((hi2.block tq (lt_of_block HTU.out)).trans HTU.out)
            have c20 := cell_one hi1
            have KV := hid kV
            have LV := hid (show Live V0.heap.size V' Es from ⟨fun E hE => (hi2.block E (lt_of_block (HL4.out.1 E hE))).trans (HL4.out.1 E hE), HL4.out.2⟩)
            have HKD := hid hK
            have TQ := hid (show lbx < V'.heap.size by have := lt_of_block hi1; omega)
            have hwt : IntKind.i64.wrap ((t2 : Int) + 1) = (t2 : Int) + 1 := by rw [IntKind.wrap_i64]; omega
            clear kV hi1 hi2 hK
            have tn : ((zn : Int) != (zn : Int)) = false := by simp
            by_cases htz : t2 = 0
            · have tz : ((t2 : Int) == 0) = true := by rw [htz]; rfl
              have tz1 : ((t2 : Int) == 1) = false := by rw [htz]; rfl
              clear htz
              gi_wp2
              refine ⟨⟨t2 + 1, V'.heap.size, D :: Es, by omega, by simp [HES.out]; omega, TQ.out, rfl, ⟨rfl, rfl, rfl, rfl, rfl, rfl, rfl, rfl, rfl, rfl⟩, (LV.out.alloc _).more ((Below.heap_alloc _ _ _ (lt_of_block HKD.out)).trans HKD.out) (fun E hE => by have := DL.out E hE; have := HNB.out; have := HS1.out; omega) (by have := VNB.out; have := HS1.out; omega), KV.out.trans (Kp.alloc _ _ _), ?_⟩, by simp [marks, HES.out]; omega⟩
              simpa using World.alloc_heap_new V' (.cells #[.int .i64 ((t2 : Int) + 1)] 3)
            · have tz : ((t2 : Int) == 0) = false := by rw [beq_eq_false_iff_ne]; omega
              have tz1 : ((t2 : Int) == 1) = true := by rw [beq_iff_eq]; omega
              clear htz
              gi_wp2
              refine ⟨⟨t2 + 1, V'.heap.size, D :: Es, by omega, by simp [HES.out]; omega, TQ.out, rfl, ⟨rfl, rfl, rfl, rfl, rfl, rfl, rfl, rfl, rfl, rfl⟩, (LV.out.alloc _).more ((Below.heap_alloc _ _ _ (lt_of_block HKD.out)).trans HKD.out) (fun E hE => by have := DL.out E hE; have := HNB.out; have := HS1.out; omega) (by have := VNB.out; have := HS1.out; omega), KV.out.trans (Kp.alloc _ _ _), ?_⟩, by simp [marks, HES.out]; omega⟩
              simpa using World.alloc_heap_new V' (.cells #[.int .i64 ((t2 : Int) + 1)] 3)
          case stop =>
            rintro D cc pre V' hD hpre ⟨rfl, htz, hi1, hi2⟩ hK
            have kV := HK4.out.trans (Kp.of_below hi2)
            have u1 := cell_one ((kV.block lbx (lt_of_block ZB.out) (by simp)).trans ZB.out)
            have c5 := cell_one ((hi2.block a (lt_of_block BV.out.b5)).trans BV.out.b5)
            have c19 := cell_one ((hi2.block tq (lt_of_block HTU.out)).trans HTU.out)
            have c20 := cell_one hi1
            have KV := hid kV
            have LV := hid (show Live V0.heap.size V' Es from ⟨fun E hE => (hi2.block E (lt_of_block (HL4.out.1 E hE))).trans (HL4.out.1 E hE), HL4.out.2⟩)
            have HKD := hid hK
            have TQ := hid (show lbx < V'.heap.size by have := lt_of_block hi1; omega)
            have hwt : IntKind.i64.wrap ((t2 : Int) + 1) = (t2 : Int) + 1 := by rw [IntKind.wrap_i64]; omega
            clear kV hi1 hi2 hK hpre
            have tz : ((t2 : Int) == 0) = true := by rw [htz]; rfl
            have tz1 : ((t2 : Int) == 1) = false := by rw [htz]; rfl
            have tl : (leave != leave) = false := by simp
            clear htz
            by_cases hll : leave = (zn : Int)
            · have tn : (leave != (zn : Int)) = false := by simp [hll]
              clear hll
              gi_wp2
              refine ⟨⟨t2 + 1, V'.heap.size, D :: Es, by omega, by simp [HES.out]; omega, TQ.out, rfl, ⟨rfl, rfl, rfl, rfl, rfl, rfl, rfl, rfl, rfl, rfl⟩, (LV.out.alloc _).more ((Below.heap_alloc _ _ _ (lt_of_block HKD.out)).trans HKD.out) (fun E hE => by have := DL.out E hE; have := HNB.out; have := HS1.out; omega) (by have := VNB.out; have := HS1.out; omega), KV.out.trans (Kp.alloc _ _ _), ?_⟩, by simp [marks, HES.out]; omega⟩
              simpa using World.alloc_heap_new V' (.cells #[.int .i64 ((t2 : Int) + 1)] 3)
            · have tn : (leave != (zn : Int)) = true := by simp [hll]
              clear hll
              gi_wp2
              refine ⟨⟨t2 + 1, V'.heap.size, D :: Es, by omega, by simp [HES.out]; omega, TQ.out, rfl, ⟨rfl, rfl, rfl, rfl, rfl, rfl, rfl, rfl, rfl, rfl⟩, (LV.out.alloc _).more ((Below.heap_alloc _ _ _ (lt_of_block HKD.out)).trans HKD.out) (fun E hE => by have := DL.out E hE; have := HNB.out; have := HS1.out; omega) (by have := VNB.out; have := HS1.out; omega), KV.out.trans (Kp.alloc _ _ _), ?_⟩, by simp [marks, HES.out]; omega⟩
              simpa using World.alloc_heap_new V' (.cells #[.int .i64 ((t2 : Int) + 1)] 3)
      | true =>
        have hm : mayT G tv := by simpa using HIS.out
        obtain ⟨t, rfl⟩ : ∃ t : Nat, tv = t := ⟨tv.toNat, by have := hm.1; omega⟩
        have htn : t < n := by have := hm.2; have := HN.out; omega
        have htI : (t : Int) < n := by omega
        have hxt := HX.out.1 hm M HE.out
        rw [Int.toNat_natCast] at hxt
        have hrg := HR.out.1 hm
        rw [Int.toNat_natCast] at hrg
        obtain ⟨gw, hwo, cw, -⟩ := B7.out.ns.at (k := t) (by have := HLL.out; omega) hxt.symm
        have hxx : (x != x) = false := by simp
        have HM := hid hm
        have HRG := hid hrg
        have HWO := hid hwo
        have c25 := rring_any W8 rb G t B7.out.rr HGO.out (by rw [HN.out]; exact htn)
        clear hm hxt hrg HX HR
        subst hwo
        go_wp2_with fail
        refine c25.mono ?_
        rintro e W9 ⟨⟨rv2, rfl, R2, b2, hR2, hRv2⟩, k9⟩
        obtain ⟨hRR, hbb2⟩ := HRG.out.one hR2
        subst hRR
        subst hbb2
        obtain ⟨ro2, rc2, hrv2⟩ := hRv2.slice
        rw [HRN.out] at hrv2
        subst hrv2
        have hri := hR2.some_iff
        rw [HRN.out] at hri
        subst hri
        have B9 := hid (B7.out.same P k9)
        have L9 := hid (L7.out.kp k9)
        have K9 := hid (K7.out.trans k9)
        have hdd := neq_bool (decide (0 < rn))
        have hdc : decide ((0 : Int) < (rn : Int)) = decide (0 < rn) := by
          rw [Bool.eq_iff_iff]; simp
        have c22 := ints_any W9 _ _ _ _ _ _ (HRV.out.keep k9) hRv2 (by
          rcases hR2 with ⟨-, q⟩ | ⟨-, q, -⟩
          · have := q.le HGO.out (by rw [HN.out]; exact htn)
            have := HN.out
            omega
          · rw [q]; simp)
        rw [show decide (R = R) = true by simp] at c22
        clear c25 hR2 hRv2 k9 HRG B7 L7 K7 HRV cw hxx
        go_wp2_with fail
        refine c22.mono ?_
        rintro e WA ⟨rfl, nA, hWA⟩
        have B7 := hid (show Bx Gr w WA gb rb a G M leave (.slice (some ⟨gw, 0, none⟩) n wc) by rw [hWA]; exact B9.out.same P (Kp.drewN _ _ _))
        have L7 := hid (show Live V0.heap.size WA Ds by rw [hWA]; exact L9.out.kp (Kp.drewN _ _ _))
        have K7 := hid (show Kp V0 WA [] by rw [hWA]; exact K9.out.trans (Kp.drewN _ _ _))
        clear c22 hWA B9 L9 K9 hdd hdc
        go_wp2_with fail
        have c21 := P.for_ WA gb G (t : Int) B7.out.gr
        have hnf := fn_not_nil
        refine c21.mono ?_
        rintro e WC ⟨⟨f, fb, rfl, hI⟩, kC⟩
        have BC := hid (B7.out.same P kC)
        have LC := hid (L7.out.kp kC)
        have KC := hid (K7.out.trans kC)
        have HI := hid hI
        have HWS := hid (show WA.heap.size ≤ WC.heap.size from kC.size)
        clear c21 hI kC B7 L7 K7
        go_wp2_with fail
        obtain ⟨lbx, hlbx⟩ : ∃ lbx, WC.heap.size = lbx := ⟨_, rfl⟩
        have HBL := hid (show Bl WC (WC.alloc (.cells #[.slice none 0 0] 35)) WC.heap.size (WC.heap.size + 1) [] from ⟨⟨none, 0, 0, World.alloc_heap_new WC _, Ns.nil _ _⟩, (Kp.alloc WC _ []).below, by simp⟩)
        have HLB := hid hlbx
        obtain ⟨WD0, hWD0⟩ : ∃ WD0, WC.alloc (.cells #[.slice none 0 0] 35) = WD0 := ⟨_, rfl⟩
        rw [hWD0, hlbx] at HBL
        rw [hWD0, hlbx]
        clear hWD0 hlbx hnf
        go_loopw [18] (fun vi W => ∃ k : Nat, k ≤ n ∧ vi = .int .i64 k ∧ Hid (Bl WC W lbx (lbx + 1) (forK G (t : Int) k))) (fun vi _ => n - (intOf vi).toNat)
        case atStart => exact ⟨0, by omega, rfl, HBL⟩
        case round =>
          obtain ⟨k, hk, rfl, hB⟩ := hrel
          have hr := BC.out.rr.same (Kp.of_below hB.out.be)
          have c0 := hr.n
          rw [HN.out] at c0
          by_cases hkn : k < n
          · have hkI : (k : Int) < n := by omega
            have cw := hr.wt (t := k) (by omega)
            obtain ⟨y, hy⟩ : ∃ y, G.w k = y := ⟨_, rfl⟩
            rw [hy] at cw
            obtain ⟨ao, m, cap, hb, hnn⟩ := hB.out.ex
            have u0 := cell_one hb
            have f0 := free_one hb
            by_cases hq : y = (t : Int)
            · have hqq : (y == (t : Int)) = true := by simp [hq]
              have ka := Kp.alloc wr (.cells #[.int .i64 (k : Int)] 3) []
              have HN2 := hid (hnn.keep ka)
              have KA := hid ka
              have HI2 := hid (And.intro hb (And.intro hnn hB.out.be))
              have HP := hid (show (forK G (t : Int) k).length ≤ 100000 ∧ lbx + 1 ≤ wr.heap.size from ⟨by have := forK_len G (t : Int) k; omega, hB.out.sz⟩)
              have HST := hid (show forK G (t : Int) (k + 1) = forK G (t : Int) k ++ [(k : Int)] by rw [forK_step, hy, if_pos hq])
              clear ka hb hnn hB hq hr
              go_wp2_with (refine wpList_pushI rfl (.tmp 125) (.tmp 127) rfl (lbx + 1) (.slice ao m cap) (forK G (t : Int) k) k _ rfl HN2.out rfl (by simp) HP.out.1 (by have := HP.out.2; simp; omega) ?_; intro v3 w3 hN3 hG3; obtain ⟨a3, c3, hv3⟩ := hN3.slice; obtain ⟨m3, hm3⟩ : ∃ m3, (forK G (t : Int) k ++ [(k : Int)]).length = m3 := ⟨_, rfl⟩; rw [hm3] at hv3; subst hv3; have R := hid (Bl.push (lo := lbx + 1) (hi := 0) (by have := HLB.out; omega) (by omega) (by omega) (by omega) HP.out.2 HI2.out.1 HI2.out.2.1 HI2.out.2.2 hN3 (KA.out.nil.trans (Kp.ofGrown hG3 (by intro g hg; simp [hg])))); have q1 := R.out.2.2.2.1; have q2 := R.out.2.2.2.2; clear hN3 hG3 hm3)
              go_roundw
              case rel => exact ⟨k + 1, by omega, by simp, hid (by rw [HST.out]; exact R.out.2.2.1)⟩
              case measure => simp [intOf]; omega
            · have hqq : (y == (t : Int)) = false := by simp; omega
              have HST := hid (show Bl WC wr lbx (lbx + 1) (forK G (t : Int) (k + 1)) by rw [forK_step, hy, if_neg hq]; exact hB.out)
              clear hb hnn hB hq hr u0 f0
              go_wp2_with fail
              go_roundw
              case rel => exact ⟨k + 1, by omega, by simp, HST⟩
              case measure => simp [intOf]; omega
          · have hkI : ¬ (k : Int) < n := by omega
            have ek : k = G.n := by have := HN.out; omega
            have HBZ := hid (show Bl WC wr lbx (lbx + 1) (forL G (t : Int)) by rw [← forK_all HM.out, ← ek]; exact hB.out)
            clear hr hB ek HBL
            go_wp2_with fail
            obtain ⟨tq0, htq0⟩ : ∃ tq0, wr.heap.size = tq0 := ⟨_, rfl⟩
            have T0 := hid (World.alloc_heap_new wr (.cells #[.int .i64 0] 3))
            have kE := Kp.alloc wr (.cells #[.int .i64 0] 3) []
            have KWE := hid ((Kp.of_below HBZ.out.be).trans kE)
            have HLT := hid (show lbx < wr.heap.size from by have := HBZ.out.sz; omega)
            obtain ⟨WE, hWE⟩ : ∃ WE, wr.alloc (.cells #[.int .i64 0] 3) = WE := ⟨_, rfl⟩
            rw [hWE] at T0 KWE kE ⊢
            rw [htq0] at T0 HLT ⊢
            obtain ⟨zo, zn, zc, hzb, hzn⟩ := HBZ.out.ex
            have ZB := hid ((kE.block lbx (lt_of_block hzb) (by simp)).trans hzb)
            have hzn2 := hzn.keep kE
            obtain ⟨Z, hZ⟩ : ∃ Z, forL G (t : Int) = Z := ⟨_, rfl⟩
            have hZl := forL_len G (t : Int)
            rw [hZ] at hzn2 hZl
            obtain ⟨zo', zc', hzs⟩ := hzn2.slice
            obtain ⟨N, hNz⟩ : ∃ N, Z.length = N := ⟨_, rfl⟩
            rw [hNz] at hzs hZl
            simp only [Value.slice.injEq] at hzs
            obtain ⟨-, rfl, -⟩ := hzs
            have hN16 : zn ≤ 16 := by have := HN.out; omega
            have ZN := hid hzn2
            have HNZ := hid hNz
            have HIZ := hid (show Itr WA.heap.size WC f fb Z by rw [← hZ]; exact HI.out)
            have BE := hid (BC.out.same P KWE.out)
            have LE := hid (LC.out.kp KWE.out)
            have KE := hid (KC.out.trans KWE.out)
            clear hWE hzb hzn hzn2 hZ hZl hNz HBZ kE htq0 zo' zc'
            refine (wpIn_wide (n := 6)).1 ?_
            refine wpIn_loop (fun a1 V => ∃ (t2 tq : Nat) (Es : List Nat), t2 ≤ 2 ∧ Es.length = Ds.length + t2 ∧ lbx < tq ∧ a1.defers = marks Es ∧ (fun T : Array Value => T.size = 170 ∧ T.getD 0 undef = Value.pointer (some ⟨gb, 0, none⟩) ∧ T.getD 1 undef = Value.pointer (some ⟨rb, 0, none⟩) ∧ T.getD 5 undef = Value.pointer (some ⟨a, 0, none⟩) ∧ T.getD 6 undef = Value.pointer (some ⟨a + 1, 0, none⟩) ∧ T.getD 7 undef = Value.slice (some ⟨gw, 0, none⟩) n wc ∧ T.getD 10 undef = Value.int IntKind.i64 (t : Int) ∧ T.getD 16 undef = Value.func (Fn.func f) #[] fb ∧ T.getD 17 undef = Value.pointer (some ⟨lbx, 0, none⟩) ∧ T.getD 19 undef = Value.pointer (some ⟨tq, 0, none⟩)) a1.tmps ∧ Live V0.heap.size V Es ∧ Kp WE V [] ∧ V.heap[tq]? = some (.cells #[.int .i64 (t2 : Nat)] 3 (0, 0)))
              (fun a1 _ => Ds.length + 2 - a1.defers.length) ⟨0, tq0, Ds, by decide, rfl, HLT.out, rfl, ⟨rfl, rfl, rfl, rfl, rfl, rfl, rfl, rfl, rfl, rfl⟩, LE.out, Kp.refl _ _, T0.out⟩ ?_
            rintro ⟨T, df⟩ V ⟨t2, tq, Es, ht2, hEs, htq, hdf, hFx, hLive, hKp, hTu⟩
            simp only at hdf hFx
            subst hdf
            obtain ⟨hT0, f0, f1, f5, f6, f7, f10, f16, f17, f19⟩ := hFx
            obtain ⟨Y, hX, hTT⟩ := lit170 T hT0
            rw [← hX 0] at f0
            rw [← hX 1] at f1
            rw [← hX 5] at f5
            rw [← hX 6] at f6
            rw [← hX 7] at f7
            rw [← hX 10] at f10
            rw [← hX 16] at f16
            rw [← hX 17] at f17
            rw [← hX 19] at f19
            rw [f0, f1, f5, f6, f7, f10, f16, f17, f19] at hTT
            subst hTT
            clear hX hT0 f0 f1 f5 f6 f7 f10 f16 f17 f19
            have c19 := cell_one hTu
            have HL4 := hid hLive
            have HK4 := hid hKp
            have HTU := hid hTu
            have HES := hid hEs
            have BV := hid (BE.out.same P hKp)
            clear hLive hKp hTu hEs
            by_cases ht : t2 = 2
            · subst ht
              have KO := hid (KE.out.trans HK4.out)
              gi_wp2
              go_wp2
              refine ⟨⟨j + 1, Es, by omega, rfl, ⟨rfl, rfl, rfl, rfl, rfl, rfl, ?_⟩, HL4.out, KO.out⟩, ?_⟩
              · show Value.int IntKind.i64 ((t : Int) + 1) = Value.int IntKind.i64 (((j + 1 : Nat) : Int) - 1)
                have := HJQ.out
                rw [show (((j + 1 : Nat) : Int) - 1) = (t : Int) + 1 by omega]
              · show (17 - ((t : Int) + 1)).toNat < (17 - (t : Int)).toNat
                omega
            have ht1 : (t2 : Int) < 2 := by omega
            have ht3 : t2 < 2 := by omega
            gi_wp2
            obtain ⟨nb, hnb⟩ : ∃ nb, V.heap.size = nb := ⟨_, rfl⟩
            have N1 := hid (World.alloc_heap_new V (.cells #[.int .i64 0] 3))
            have KW1 := hid (Kp.alloc V (.cells #[.int .i64 0] 3) [])
            obtain ⟨W6, hW6⟩ : ∃ W6, V.alloc (.cells #[.int .i64 0] 3) = W6 := ⟨_, rfl⟩
            have hs1 : W6.heap.size = nb + 1 := by rw [← hW6, ← hnb]; simp
            rw [hnb] at N1
            rw [hW6] at N1 KW1
            simp only [hnb, hW6]
            have HNB := hid hnb
            have HS1 := hid hs1
            have tnb : tq < nb := by rw [← hnb]; exact lt_of_block HTU.out
            have lnb : lbx < nb := by omega
            have abn : a + 1 < nb := by rw [← hnb]; exact lt_of_block BV.out.b6
            have DL := hid (show ∀ D ∈ Es, D < nb from fun D hm => by rw [← hnb]; exact lt_of_block (HL4.out.1 D hm))
            obtain ⟨hEn, hi, hhi, hSq⟩ := HIZ.out
            have SQ := hSq W6 (KWE.out.trans (HK4.out.trans KW1.out)) 5 (by decide)
            have HHI := hid (show hi ≤ lbx by have := HLB.out; omega)
            have VNB := hid (show V0.heap.size ≤ nb by have := KE.out.size; have := HK4.out.size; omega)
            clear hnb hW6 c19 hs1 hSq hhi
            refine range_seqs (K := Kc WA.heap.size hi W6.heap.size) h1 (gf := f) (lb := fb) rfl hEn
              SQ Kc.trans (kc_put _ _ _) (Below.refl _ _) (fun _ => rfl)
              (fun pre V' => V'.heap[nb]? = some (.cells #[.int .i64 (pre.length : Nat)] 3 (0, 0)) ∧ Below V.heap.size V V')
              (fun cc _ V' => cc = .exit 8 ∧ t2 = 0 ∧ V'.heap[nb]? = some (.cells #[.int .i64 leave] 3 (0, 0)) ∧ Below V.heap.size V V')
              (OwnFrom.and (fun s A B row hs hg hr => cells_kept hs hg hr) (ownFrom_below (Nat.le_refl _) (by have := HNB.out; have := HS1.out; omega)))
              (fun cc s A B row hs hg hr => ⟨hs.1, hs.2.1, cells_kept hs.2.2.1 hg hr, (ownFrom_below (β := Unit) (w₀ := V) (Nat.le_refl _) (show V.heap.size ≤ W6.heap.size by have := HNB.out; have := HS1.out; omega)) () A B row hs.2.2.2 hg hr⟩)
              ⟨N1.out, KW1.out.below⟩
              (fun d => { tmps := #[Value.pointer (some ⟨gb, 0, none⟩), Value.pointer (some ⟨rb, 0, none⟩), Y 2, Y 3, Y 4, Value.pointer (some ⟨a, 0, none⟩), Value.pointer (some ⟨a + 1, 0, none⟩), Value.slice (some ⟨gw, 0, none⟩) n wc, Y 8, Y 9, Value.int IntKind.i64 (t : Int), Y 11, Y 12, Y 13, Y 14, Y 15, Value.func (Fn.func f) #[] fb, Value.pointer (some ⟨lbx, 0, none⟩), Y 18, Value.pointer (some ⟨tq, 0, none⟩), Value.pointer (some ⟨nb, 0, none⟩), Value.int IntKind.i64 d, Y 22, Y 23, Y 24, Y 25, Y 26, Y 27, Y 28, Y 29, Y 30, Y 31, Y 32, Y 33, Y 34, Y 35, Y 36, Y 37, Y 38, Y 39, Y 40, Y 41, Y 42, Y 43, Y 44, Y 45, Y 46, Y 47, Y 48, Y 49, Y 50, Y 51, Y 52, Y 53, Y 54, Y 55, Y 56, Y 57, Y 58, Y 59, Y 60, Y 61, Y 62, Y 63, Y 64, Y 65, Y 66, Y 67, Y 68, Y 69, Y 70, Y 71, Y 72, Y 73, Y 74, Y 75, Y 76, Y 77, Y 78, Y 79, Y 80, Y 81, Y 82, Y 83, Y 84, Y 85, Y 86, Y 87, Y 88, Y 89, Y 90, Y 91, Y 92, Y 93, Y 94, Y 95, Y 96, Y 97, Y 98, Y 99, Y 100, Y 101, Y 102, Y 103, Y 104, Y 105, Y 106, Y 107, Y 108, Y 109, Y 110, Y 111, Y 112, Y 113, Y 114, Y 115, Y 116, Y 117, Y 118, Y 119, Y 120, Y 121, Y 122, Y 123, Y 124, Y 125, Y 126, Y 127, Y 128, Value.int IntKind.i64 (t2 : Int), Value.bool true, Y 131, Y 132, Value.func (Fn.func f) #[] fb, Value.int IntKind.i64 d, Y 135, Y 136, Y 137, Y 138, Y 139, Y 140, Y 141, Y 142, Y 143, Y 144, Y 145, Y 146, Y 147, Y 148, Y 149, Y 150, Y 151, Y 152, Y 153, Y 154, Y 155, Y 156, Y 157, Y 158, Y 159, Y 160, Y 161, Y 162, Y 163, Y 164, Y 165, Y 166, Y 167, Y 168, Y 169], defers := [] })
              ?assign ?body ?done ?stop
            case assign =>
              intro l d V' K _ hK
              have HK := hid hK
              clear hK
              gi_wp2
              exact HK.out
            case body =>
              rintro l pre d V' hpre ⟨hi1, hi2⟩
              have hltX : pre.length < Z.length := by
                obtain ⟨r, hr⟩ := hpre
                have := congrArg List.length hr
                simp at this
                omega
              have hdd : Z[pre.length]! = d := by
                obtain ⟨r, hr⟩ := hpre
                rw [getElem!_pos Z pre.length hltX]
                simp [← hr]
              have hltN : pre.length < zn := by have := HNZ.out; omega
              have hltI : ¬ (zn : Int) ≤ (pre.length : Int) := by omega
              have hltJ : (pre.length : Int) < (zn : Int) := by omega
              have hltK : ¬ zn ≤ pre.length := by omega
              have hp16 : pre.length ≤ 16 := by omega
              have kV := HK4.out.trans (Kp.of_below hi2)
              obtain ⟨g, hao, u5, -⟩ := (ZN.out.keep kV).at hltX hdd
              subst hao
              have u1 := cell_one ((kV.block lbx (lt_of_block ZB.out) (by simp)).trans ZB.out)
              have u0 := cell_one hi1
              have f0 := free_one hi1
              have hdn : (d != d) = false := by simp
              have hwl : IntKind.i64.wrap ((pre.length : Int) + 1) = (pre.length : Int) + 1 := by rw [IntKind.wrap_i64]; omega
              have nu := hid (set_one (w := V') (x := .int .i64 ((pre.length : Int) + 1)) hi1)
              have k19 := cell_one ((Below.heap_setCell V' ⟨nb, 0, none⟩ (.int .i64 ((pre.length : Int) + 1)) tq (by simp; omega)).trans ((hi2.block tq (lt_of_block HTU.out)).trans HTU.out))
              have k5 := cell_one ((Below.heap_setCell V' ⟨nb, 0, none⟩ (.int .i64 ((pre.length : Int) + 1)) a (by simp; omega)).trans ((hi2.block a (lt_of_block BV.out.b5)).trans BV.out.b5))
              have k20 := cell_one nu.out
              have KD := hid (show Kc WA.heap.size hi W6.heap.size V' (V'.setCell ⟨nb, 0, none⟩ (.int .i64 ((pre.length : Int) + 1))) from Kc.of_kp (Kp.setCell V' ⟨nb, 0, none⟩ (.int .i64 ((pre.length : Int) + 1))) (fun k hk => by
                simp at hk
                subst hk
                exact ⟨.inr (by have := HHI.out; omega), .inl (by have := HS1.out; omega)⟩))
              have KF := hid (show KeepsFrom W6.heap.size V' (V'.setCell ⟨nb, 0, none⟩ (.int .i64 ((pre.length : Int) + 1))) from ⟨by simp, fun k o hk h ho => (Below.heap_setCell V' _ _ k (by have := HS1.out; simp; omega)).trans h⟩)
              have BL := hid (show Below V.heap.size V (V'.setCell ⟨nb, 0, none⟩ (.int .i64 ((pre.length : Int) + 1))) from hi2.setCell (p := ⟨nb, 0, none⟩) (by have := HNB.out; simp; omega) _)
              clear hi1 hi2 hpre kV hdd
              by_cases htz : t2 = 0
              · have tz : ((t2 : Int) == 0) = true := by rw [htz]; rfl
                have HT := hid htz
                clear htz
                by_cases hle' : (pre.length : Int) + 1 = leave
                · have tl : ((pre.length : Int) + 1 == leave) = true := by simp [hle']
                  have HLE := hid hle'
                  clear hle'
                  gi_wp2
                  refine ⟨KF.out, rfl, HT.out, ?_, BL.out⟩
                  rw [← HLE.out]
                  exact nu.out
                · have tl : ((pre.length : Int) + 1 == leave) = false := by simpa using hle'
                  gi_wp2
                  refine ⟨KF.out, KD.out, ?_, BL.out⟩
                  rw [show (((pre ++ [d]).length : Nat) : Int) = (pre.length : Int) + 1 by simp]
                  exact nu.out
              · have tz : ((t2 : Int) == 0) = false := by simp; omega
                gi_wp2
                refine ⟨KF.out, KD.out, ?_, BL.out⟩
                rw [show (((pre ++ [d]).length : Nat) : Int) = (pre.length : Int) + 1 by simp]
                exact nu.out
            case done =>
              rintro D V' hD ⟨hi1, hi2⟩ hK
              rw [HNZ.out] at hi1
              have kV := HK4.out.trans (Kp.of_below hi2)
              have u1 := cell_one ((kV.block lbx (lt_of_block ZB.out) (by simp)).trans ZB.out)
              have c5 := cell_one ((hi2.block a (lt_of_block BV.out.b5)).trans BV.out.b5)
              have c19 := cell_one ((hi2.block tq (lt_of_block HTU.out)).trans HTU.out)
              have c20 := cell_one hi1
              have KV := hid kV
              have LV := hid (show Live V0.heap.size V' Es from ⟨fun E hE => (hi2.block E (lt_of_block (HL4.out.1 E hE))).trans (HL4.out.1 E hE), HL4.out.2⟩)
              have HKD := hid hK
              have TQ := hid (show lbx < V'.heap.size by have := lt_of_block hi1; omega)
              have hwt : IntKind.i64.wrap ((t2 : Int) + 1) = (t2 : Int) + 1 := by rw [IntKind.wrap_i64]; omega
              clear kV hi1 hi2 hK
              have tn : ((zn : Int) != (zn : Int)) = false := by simp
              by_cases htz : t2 = 0
              · have tz : ((t2 : Int) == 0) = true := by rw [htz]; rfl
                have tz1 : ((t2 : Int) == 1) = false := by rw [htz]; rfl
                clear htz
                gi_wp2
                refine ⟨⟨t2 + 1, V'.heap.size, D :: Es, by omega, by simp [HES.out]; omega, TQ.out, rfl, ⟨rfl, rfl, rfl, rfl, rfl, rfl, rfl, rfl, rfl, rfl⟩, (LV.out.alloc _).more ((Below.heap_alloc _ _ _ (lt_of_block HKD.out)).trans HKD.out) (fun E hE => by have := DL.out E hE; have := HNB.out; have := HS1.out; omega) (by have := VNB.out; have := HS1.out; omega), KV.out.trans (Kp.alloc _ _ _), ?_⟩, by simp [marks, HES.out]; omega⟩
                simpa using World.alloc_heap_new V' (.cells #[.int .i64 ((t2 : Int) + 1)] 3)
              · have tz : ((t2 : Int) == 0) = false := by rw [beq_eq_false_iff_ne]; omega
                have tz1 : ((t2 : Int) == 1) = true := by rw [beq_iff_eq]; omega
                clear htz
                gi_wp2
                refine ⟨⟨t2 + 1, V'.heap.size, D :: Es, by omega, by simp [HES.out]; omega, TQ.out, rfl, ⟨rfl, rfl, rfl, rfl, rfl, rfl, rfl, rfl, rfl, rfl⟩, (LV.out.alloc _).more ((Below.heap_alloc _ _ _ (lt_of_block HKD.out)).trans HKD.out) (fun E hE => by have := DL.out E hE; have := HNB.out; have := HS1.out; omega) (by have := VNB.out; have := HS1.out; omega), KV.out.trans (Kp.alloc _ _ _), ?_⟩, by simp [marks, HES.out]; omega⟩
                simpa using World.alloc_heap_new V' (.cells #[.int .i64 ((t2 : Int) + 1)] 3)
            case stop =>
              rintro D cc pre V' hD hpre ⟨rfl, htz, hi1, hi2⟩ hK
              have kV := HK4.out.trans (Kp.of_below hi2)
              have u1 := cell_one ((kV.block lbx (lt_of_block ZB.out) (by simp)).trans ZB.out)
              have c5 := cell_one ((hi2.block a (lt_of_block BV.out.b5)).trans BV.out.b5)
              have c19 := cell_one ((hi2.block tq (lt_of_block HTU.out)).trans HTU.out)
              have c20 := cell_one hi1
              have KV := hid kV
              have LV := hid (show Live V0.heap.size V' Es from ⟨fun E hE => (hi2.block E (lt_of_block (HL4.out.1 E hE))).trans (HL4.out.1 E hE), HL4.out.2⟩)
              have HKD := hid hK
              have TQ := hid (show lbx < V'.heap.size by have := lt_of_block hi1; omega)
              have hwt : IntKind.i64.wrap ((t2 : Int) + 1) = (t2 : Int) + 1 := by rw [IntKind.wrap_i64]; omega
              clear kV hi1 hi2 hK hpre
              have tz : ((t2 : Int) == 0) = true := by rw [htz]; rfl
              have tz1 : ((t2 : Int) == 1) = false := by rw [htz]; rfl
              have tl : (leave != leave) = false := by simp
              clear htz
              by_cases hll : leave = (zn : Int)
              · have tn : (leave != (zn : Int)) = false := by simp [hll]
                clear hll
                gi_wp2
                refine ⟨⟨t2 + 1, V'.heap.size, D :: Es, by omega, by simp [HES.out]; omega, TQ.out, rfl, ⟨rfl, rfl, rfl, rfl, rfl, rfl, rfl, rfl, rfl, rfl⟩, (LV.out.alloc _).more ((Below.heap_alloc _ _ _ (lt_of_block HKD.out)).trans HKD.out) (fun E hE => by have := DL.out E hE; have := HNB.out; have := HS1.out; omega) (by have := VNB.out; have := HS1.out; omega), KV.out.trans (Kp.alloc _ _ _), ?_⟩, by simp [marks, HES.out]; omega⟩
                simpa using World.alloc_heap_new V' (.cells #[.int .i64 ((t2 : Int) + 1)] 3)
              · have tn : (leave != (zn : Int)) = true := by simp [hll]
                clear hll
                gi_wp2
                refine ⟨⟨t2 + 1, V'.heap.size, D :: Es, by omega, by simp [HES.out]; omega, TQ.out, rfl, ⟨rfl, rfl, rfl, rfl, rfl, rfl, rfl, rfl, rfl, rfl⟩, (LV.out.alloc _).more ((Below.heap_alloc _ _ _ (lt_of_block HKD.out)).trans HKD.out) (fun E hE => by have := DL.out E hE; have := HNB.out; have := HS1.out; omega) (by have := VNB.out; have := HS1.out; omega), KV.out.trans (Kp.alloc _ _ _), ?_⟩, by simp [marks, HES.out]; omega⟩
                simpa using World.alloc_heap_new V' (.cells #[.int .i64 ((t2 : Int) + 1)] 3)
end
end Go.Proofs.Ytomdnppnabncaaa
