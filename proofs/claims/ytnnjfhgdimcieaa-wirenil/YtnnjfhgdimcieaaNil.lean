/-
  PROVED: called in whatever memory, metronomelaw01.WireNil returns true: readers and functions that are not there are refused, an empty list has the form 00, and the chapter's rows of 'known' hold; nothing that was there is changed. No condition.
  The frame of the row is the guide's shell (proof-skeleton); the walk takes each callee by a contract of its own.
-/
import Derived.Test.YtnnjfhgdimcieaaRows
import Derived.Test.YtnnjfhgdimcieaaKnown
import Derived.WalkKit
import Derived.ProofKit
import Derived.OpenShut
namespace Go.Proofs.Ytnnjfhgdimcieaa.wireNil
open Go.ChangeShapes Go.WideShapes Go.ChangeAt Go.RowKit
set_option linter.unusedVariables false

theorem below_of {w w' : World} (h : w.grownBy w' none) : Below w.heap.size w w' := ⟨h.os, h.tape, h.output, h.size, fun k hk => h.block k hk (by simp)⟩

theorem own : ownKnob Try.prog.godebug = none := by kernel_rfl

/-! ### The walk -/
set_option maxRecDepth 100000 in
set_option maxHeartbeats 1000000 in
theorem walk  (w : World) :
    Calls Try.prog 7 #[] w fun e w' => e = .returned (.bool true) ∧ Below w.heap.size w w' := by
  go_enter Try.func7, Try.ntmps7
  go_wp2_with fail
  refine (puti_nil _).mono ?_
  rintro e w1 ⟨rfl, rfl⟩
  go_wp2_with fail
  refine (puti_empty _).mono ?_
  rintro e w2 ⟨v2, rfl, hown2, hg2⟩
  have HO2 := hid hown2
  have HG2 := hid hg2
  clear hown2 hg2
  go_wp2_with fail
  refine (open_any _ _ [0] (bs_lit w2 [0] _ rfl (by unfold maxLen; simp)) (by simp)).mono ?_
  rintro e w3 ⟨rb, v3, rfl, -, -, -, hg3⟩
  have HG3 := hid hg3
  clear hg3
  go_wp2_with fail
  refine (takei_nil _ _).mono ?_
  rintro e w4 ⟨rfl, hg4⟩
  have HG4 := hid hg4
  clear hg4
  go_wp2_with fail
  refine (takep_nil _).mono ?_
  rintro e w5 ⟨rfl, hg5⟩
  have hg25 := hid (grownBy_trans (grownBy_trans (grownBy_trans (World.grownBy_alloc w2 _ none) HG3.out) HG4.out) hg5)
  clear hg5
  have hcv := conv_bs ((Bs.of_owns (l := [0]) HO2.out).keep fun k hk => hg25.out.block k (HO2.out.lt k hk).2 (by simp))
  have hs1 : (strOfNums [0]).toList = [0] := by rw [sn_toList]; rfl
  go_wp2_with (go_at_call 23; go_in)
  refine (nothing_nil _).mono ?_
  rintro e w6 ⟨rfl, hg6⟩
  have HG6 := hid hg6
  clear hg6 hcv
  go_wp2_with fail
  refine (nothing_zero _ _ (heap_alloc_new w6 _)).mono ?_
  rintro e w7 ⟨rfl, hg7⟩
  have HG7 := hid hg7
  clear hg7
  go_wp2_with fail
  refine (known_any _).mono ?_
  rintro e w8 ⟨rfl, hg8⟩
  have HG8 := hid hg8
  clear hg8
  go_wp2
  go_ret
  exact ⟨rfl, below_of (grownBy_trans (grownBy_trans (grownBy_trans (grownBy_trans (grownBy_trans HG2.out hg25.out) HG6.out) (World.grownBy_alloc w6 _ none)) HG7.out) HG8.out)⟩

/-! ### The row's step -/
set_option maxRecDepth 100000 in
theorem lifted (os : Os) (started : os.Started) (H : Type) (enc : TypeId × Value → H) :
    ReturnsInHanded {} Try.checked os 7 .any (Rows.wireNilSpec.pre6 enc Try.prog Try.f7 Rows.wireNilRow.domain false) (Rows.wireNilSpec.post enc Try.prog Try.f7 false true false false) := by
  refine returnsInHanded_of_change (C := Try.checked) own started (by kernel_rfl) Try.func7
    (ChangeSpec.witness6 (enc := enc) (C := Try.checked) false ⟨#[], #[], []⟩ 8 (by kernel_rfl) (by kernel_rfl) (by kernel_rfl) (by kernel_rfl)) ?_
  intro W base args ds gs before hval0 hW hcnd _
  have hval : ∀ (j : Nat) t v, Try.f7.params[j]? = some t → args[j]? = some v → Value.okWide Try.prog W .any base t v := hval0
  have hW' := hW
  obtain ⟨p, q, hA0, hV, rfl, hfz, hnd⟩ := hW
  have hA : DataW.TrodAll enc Try.prog W 0 (fun _ => true) true Try.f7.params.toList args.toList ds p := hA0
  rw [Try.params7] at hA hval
  obtain ⟨rfl, rfl, rfl⟩ := trodAll_none hA
  obtain ⟨rfl, rfl⟩ := trodVars_none hV
  clear hA0 hval0
  simp only [List.append_nil] at hW'
  refine (walk  W).mono fun e W' ⟨he, hg⟩ => ?_
  subst he
  exact ⟨_, rfl, _, _, _, [], [], [], hW', trodAll_mk1 (shut_bool Try.underlying4 _), trodAll_mk0, rfl, hg.frame _, fun h => by cases h⟩

theorem over : Rows.wireNilRow.holds Try.pinned (OpenSpec.ofChange Rows.wireNilSpec) :=
  OpenClaim.holds_of_wide 7 Try.f7 rfl rfl rfl rfl rfl rfl rfl ⟨rfl, rfl, rfl, rfl, rfl⟩ rfl rfl rfl rfl rfl (by kernel_rfl) Try.func7 (by kernel_rfl)
    (of_decide_eq_true (by kernel_rfl)) (by unfold Func.isWrapper; first | (rw [if_pos (by decide +kernel)]; kernel_rfl) | (rw [if_neg (by decide +kernel)]; exact ⟨rfl, rfl⟩))
    (fun os started H enc _ => lifted os started H enc)

/-- The statement. -/
theorem proved : Rows.WireNilSaid :=
  over
end Go.Proofs.Ytnnjfhgdimcieaa.wireNil

namespace Go.Proofs.Ytnnjfhgdimcieaa
theorem wireNil_holds : Rows.WireNilSaid := wireNil.proved
#print axioms wireNil_holds
end Go.Proofs.Ytnnjfhgdimcieaa
