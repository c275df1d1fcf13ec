/-
  PROVED: for any size, any two offsets and any two words, metronomelaw02.ArenaWords returns true, and its arguments read afterwards as they did: a word is what was written there last, no other word's bytes are changed, its four bytes are it, the lowest first, and each look costs one. No condition.
-/
import Derived.Test.YtihlejphjdelfaaRows
import Derived.Test.YtihlejphjdelfaaWordsWalk
import Derived.WalkKit
import Derived.ProofKit
import Derived.OpenShut
namespace Go.Proofs.Ytihlejphjdelfaa.arenaWords
open Go.ChangeShapes Go.WideShapes Go.ChangeAt Go.RowKit
set_option linter.unusedVariables false

theorem own : ownKnob Try.prog.godebug = none := by kernel_rfl
theorem laidOut : laidOutB Try.prog = true := by kernel_rfl

theorem array2 {α : Type} {cs : Array α} (h : cs.size = 2) : ∃ c0 c1, cs = #[c0, c1] := by
  obtain ⟨l⟩ := cs
  match l, h with
  | [c0, c1], _ => exact ⟨c0, c1, rfl⟩

section
variable {H : Type} {enc : TypeId × Value → H} {P : Program} {w : World} {base : Nat} {spare : TypeId → Bool} {held : Bool}
/-- An array of two integers, opened. -/
theorem open_two {r : Reach} {b0 : Nat} {t e : TypeId} {k : IntKind} {v : Value} {d : DataW H} {p : List MemPlace} (hs : P.underlying t = some (.array 2 e)) (he : P.underlying e = some (.int k)) (hC : P.cellsOf t = 2) (hE : P.cellsOf e = 1)
    (hv : Value.okWide P w r b0 t v) (h : DataW.Trod enc P w base spare held t v d p) : ∃ x y : Int, v = .agg #[.int k x, .int k y] ∧ (Lit.int k x).wf = true ∧ (Lit.int k y).wf = true := by
  have hv' : ∃ cs, v = .agg cs ∧ cs.size = P.cellsOf t := by
    simp only [Value.okWide, hs] at hv
    obtain ⟨cs, h1, h2, _⟩ := hv
    exact ⟨cs, h1, h2⟩
  obtain ⟨cs, rfl, hsz⟩ := hv'
  obtain ⟨c0, c1, rfl⟩ := array2 (hsz.trans hC)
  obtain ⟨fuel, hf⟩ := h
  obtain ⟨xs, m, -, -, -, hl, hi⟩ := DataW.trod_array hs hf
  have i0 := hi 0 (by decide)
  have i1 := hi 1 (by decide)
  simp only [Value.cells, hE] at i0 i1
  obtain ⟨y0, y1, rfl⟩ : ∃ y0 y1, xs = [y0, y1] := by
    match xs, hl with
    | [y0, y1], _ => exact ⟨y0, y1, rfl⟩
  obtain ⟨x, e0, -, wx⟩ := DataW.trod_int he i0
  obtain ⟨y, e1, -, wy⟩ := DataW.trod_int he i1
  simp at e0 e1
  subst e0 e1
  exact ⟨x, y, rfl, wx, wy⟩
end

theorem walk (w : World) (n a0 a1 x0 x1 : Int) (hn : -9223372036854775808 ≤ n ∧ n ≤ 9223372036854775807) (h0 : a0 ≤ 9223372036854775807) (h1 : a1 ≤ 9223372036854775807) (hx0 : 0 ≤ x0 ∧ x0 < 4294967296) (hx1 : 0 ≤ x1 ∧ x1 < 4294967296) :
    Calls Try.prog 5 #[.int .i64 n, .agg #[.int .i64 a0, .int .i64 a1], .agg #[.int .u32 x0, .int .u32 x1]] w fun e w' => e = .returned (.bool true) ∧ Below w.heap.size w w' := by
  have hfin : ∀ {P : Ending → World → Prop}, Calls Try.prog 5 #[.int .i64 n, .agg #[.int .i64 a0, .int .i64 a1], .agg #[.int .u32 x0, .int .u32 x1]] w (fun e w' => e = .returned (.bool true) ∧ Kp w w' []) → Calls Try.prog 5 #[.int .i64 n, .agg #[.int .i64 a0, .int .i64 a1], .agg #[.int .u32 x0, .int .u32 x1]] w fun e w' => e = .returned (.bool true) ∧ Below w.heap.size w w' :=
    fun h => h.mono fun e w' ⟨a, b⟩ => ⟨a, b.below⟩
  apply hfin (P := fun _ _ => True)
  by_cases hg : Good n
  · obtain ⟨n, rfl⟩ := Int.eq_ofNat_of_zero_le (show 0 ≤ n by have := hg.1; omega)
    by_cases hb0 : hasW n a0 = true
    · have hc := of_decide_eq_true hb0
      obtain ⟨o0, rfl⟩ := Int.eq_ofNat_of_zero_le hc.1
      by_cases hb1 : hasW n a1 = true
      · have hc1 := of_decide_eq_true hb1
        obtain ⟨o1, rfl⟩ := Int.eq_ofNat_of_zero_le hc1.1
        exact words_ok w n o0 o1 x0 x1 hg (by omega) (by omega) hx0 hx1
      · exact words_no1 w n o0 a1 x0 x1 hg (by omega) hx0 h1 (by simpa using hb1)
    · exact words_no0 w n a0 a1 x0 x1 hg h0 (by simpa using hb0)
  · exact words_bad w n a0 a1 x0 x1 hg

set_option maxRecDepth 100000 in
theorem lifted (os : Os) (started : os.Started) (H : Type) (enc : TypeId × Value → H) :
    ReturnsInHanded {} Try.checked os 5 .any (Rows.arenaWordsSpec.pre6 enc Try.prog Try.f5 Rows.arenaWordsRow.domain false) (Rows.arenaWordsSpec.post enc Try.prog Try.f5 false true false false) := by
  refine returnsInHanded_of_change (C := Try.checked) own started (by kernel_rfl) Try.func5
    (ChangeSpec.witness6 (enc := enc) (C := Try.checked) false ⟨#[], #[.int .i64 0, .agg #[.int .i64 0, .int .i64 0], .agg #[.int .u32 0, .int .u32 0]], []⟩ 8 (by kernel_rfl) (by kernel_rfl) (by kernel_rfl) (by kernel_rfl)) ?_
  intro W base args ds gs before hval0 hW hcnd _
  have hval : ∀ (j : Nat) t v, Try.f5.params[j]? = some t → args[j]? = some v → Value.okWide Try.prog W .any base t v := hval0
  have hW' := hW
  obtain ⟨p, q, hA0, hV, rfl, hfz, hnd⟩ := hW
  have hA : DataW.TrodAll enc Try.prog W 0 (fun _ => true) true Try.f5.params.toList args.toList ds p := hA0
  rw [Try.params5] at hA hval
  obtain ⟨v0, vs0, d0, ds0, p0, q0, hargs, rfl, rfl, h0, r0⟩ := trodAll_cons hA
  obtain ⟨v1, vs1, d1, ds1, p1, q1, rfl, rfl, rfl, h1, r1⟩ := trodAll_cons r0
  obtain ⟨v2, vs2, d2, ds2, p2, q2, rfl, rfl, rfl, h2, r2⟩ := trodAll_cons r1
  obtain ⟨rfl, rfl, rfl⟩ := trodAll_nil r2
  obtain rfl : args = #[v0, v1, v2] := by cases args; simp_all
  obtain ⟨rfl, rfl⟩ := trodVars_none hV
  have k0 := h0
  have lt0 : ∀ x ∈ p0, x.block < W.heap.size := by obtain ⟨m, hm⟩ := k0; exact DataW.trod_lt m _ _ _ hm
  have k1 := h1
  have lt1 : ∀ x ∈ p1, x.block < W.heap.size := by obtain ⟨m, hm⟩ := k1; exact DataW.trod_lt m _ _ _ hm
  have k2 := h2
  have lt2 : ∀ x ∈ p2, x.block < W.heap.size := by obtain ⟨m, hm⟩ := k2; exact DataW.trod_lt m _ _ _ hm
  obtain ⟨n, rfl, -, -, wn⟩ := open_int Try.underlying3 (hval 0 3 v0 rfl rfl) h0
  obtain ⟨a0, a1, rfl, wa0, wa1⟩ := open_two Try.underlying40 Try.underlying3 (by kernel_rfl) (by kernel_rfl) (hval 1 40 v1 rfl rfl) h1
  obtain ⟨x0, x1, rfl, wx0, wx1⟩ := open_two Try.underlying44 Try.underlying35 (by kernel_rfl) (by kernel_rfl) (hval 2 44 v2 rfl rfl) h2
  have bn := bounds_i64 wn
  have b0 := bounds_i64 wa0
  have b1 := bounds_i64 wa1
  have c0 := bounds_u32 wx0
  have c1 := bounds_u32 wx1
  clear hA0 hval0
  refine (walk W n a0 a1 x0 x1 bn b0.2 b1.2 (by omega) (by omega)).mono fun e W' ⟨he, bel⟩ => ?_
  subst he
  exact ⟨_, rfl, _, _, _, [], _, [], hW', trodAll_mk1 (shut_bool Try.underlying4 _), (trodAll_cons_mk (Below.trod laidOut (by kernel_rfl) (of_decide_eq_true (by kernel_rfl)) k0 bel lt0) (trodAll_cons_mk (Below.trod laidOut (by kernel_rfl) (of_decide_eq_true (by kernel_rfl)) k1 bel lt1) (trodAll_cons_mk (Below.trod laidOut (by kernel_rfl) (of_decide_eq_true (by kernel_rfl)) k2 bel lt2) trodAll_mk0))), rfl, bel.frame _, fun h => by cases h⟩

theorem over : Rows.arenaWordsRow.holds Try.pinned (OpenSpec.ofChange Rows.arenaWordsSpec) :=
  OpenClaim.holds_of_wide 5 Try.f5 rfl rfl rfl rfl rfl rfl rfl ⟨rfl, rfl, rfl, rfl, rfl⟩ rfl rfl rfl rfl rfl (by kernel_rfl) Try.func5 (by kernel_rfl)
    (of_decide_eq_true (by kernel_rfl)) (by unfold Func.isWrapper; first | (rw [if_pos (by decide +kernel)]; kernel_rfl) | (rw [if_neg (by decide +kernel)]; exact ⟨rfl, rfl⟩))
    (fun os started H enc _ => lifted os started H enc)

/-- The statement. -/
theorem proved : Rows.ArenaWordsSaid := over
end Go.Proofs.Ytihlejphjdelfaa.arenaWords

namespace Go.Proofs.Ytihlejphjdelfaa
theorem arenaWords_holds : Rows.ArenaWordsSaid := arenaWords.proved
#print axioms arenaWords_holds
end Go.Proofs.Ytihlejphjdelfaa
