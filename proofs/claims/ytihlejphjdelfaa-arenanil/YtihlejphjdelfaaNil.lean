/-
  PROVED: metronomelaw02.ArenaNil returns true: arenas that are not there, sizes and offsets at their bounds are answered as the chapter says. No condition.
-/
import Derived.Test.YtihlejphjdelfaaRows
import Derived.Test.YtihlejphjdelfaaKnown
import Derived.WalkKit
import Derived.ProofKit
import Derived.OpenShut
namespace Go.Proofs.Ytihlejphjdelfaa.arenaNil
open Go.ChangeShapes Go.WideShapes Go.ChangeAt Go.RowKit
set_option linter.unusedVariables false

theorem bs_nil (w : World) : Bs w (.slice none 0 0) [] := ⟨none, 0, rfl, by simp, fun _ => rfl, fun h => absurd rfl h⟩

set_option maxRecDepth 100000 in
set_option maxHeartbeats 2000000 in
theorem walk (w : World) : Calls Try.prog 6 #[] w fun e w' => e = .returned (.bool true) ∧ Below w.heap.size w w' := by
  go_enter Try.func6, Try.ntmps6
  go_wp2_with fail
  refine (new_ok w 65536 ⟨by decide, by decide, by decide⟩).mono ?_
  rintro e w1 ⟨ra, ma, rfl, hA1, hra, hma, hK1⟩
  have HA1 := hid hA1
  have HK1 := hid hK1
  clear hA1 hK1
  go_wp2_with fail
  refine (new_ok w1 256 ⟨by decide, by decide, by decide⟩).mono ?_
  rintro e w2 ⟨rb, mb, rfl, hB2, hrb, hmb, hK2⟩
  have hlt := HA1.out.lt
  have HA2 := hid (HA1.out.keep hK2 (by simp) (by simp))
  have HB2 := hid hB2
  have HK2 := hid (HK1.out.trans hK2)
  have HN := hid (show rb ≠ ra ∧ rb ≠ ma ∧ mb ≠ ra ∧ mb ≠ ma by omega)
  have HW := hid (show w.heap.size ≤ rb ∧ w.heap.size ≤ mb by have := HK1.out.size; omega)
  clear hB2 hK2 HA1 HK1 hlt hrb hmb
  go_wp2_with fail
  refine (new_no w2 248 (by unfold Good; omega)).mono ?_
  rintro e w' ⟨rfl, rfl⟩
  go_wp2_with fail
  refine (new_no w' (-8) (by unfold Good; omega)).mono ?_
  rintro e w2 ⟨rfl, rfl⟩
  go_wp2_with fail
  refine (set_ok w2 ra ma 65536 65532 _ 0 7 HA2.out (by decide) (by decide) (by decide) (by decide) (by decide) (by decide) (by decide)).mono ?_
  rintro e w3 ⟨rfl, hA3, hK3⟩
  have HA3 := hid hA3
  have HB3 := hid (HB2.out.keep hK3 (by have := HN.out; simp; omega) (by have := HN.out; simp; omega))
  have HK3 := hid (HK2.out.newer hK3 (by simp; omega))
  clear hA3 hK3 HA2 HB2 HK2
  go_wp2_with fail
  refine (set_no w3 ra ma 65536 _ _ 65536 7 HA3.out (by decide) (by decide) (by decide)).mono ?_
  rintro e w4 ⟨rfl, hK4⟩
  have HA4 := hid (HA3.out.keep hK4 (by simp) (by simp))
  have HB4 := hid (HB3.out.keep hK4 (by simp) (by simp))
  have HK4 := hid (HK3.out.trans hK4)
  clear hK4 HA3 HB3 HK3
  go_wp2_with fail
  refine (write_ok w4 rb mb 256 256 _ 0 _ [] HB4.out (by decide) (bs_nil _) (by intro x hx; simp at hx) (by decide)).mono ?_
  rintro e w5 ⟨rfl, hB5, hK5⟩
  have HB5 := hid hB5
  have HA5 := hid (HA4.out.keep hK5 (by have := HN.out; simp; omega) (by have := HN.out; simp; omega))
  have HK5 := hid (HK4.out.newer hK5 (by have := HW.out; simp; omega))
  clear hB5 hK5 HA4 HB4 HK4
  go_wp2_with fail
  refine (write_no w5 rb mb 256 _ _ 257 none 0 0 HB5.out (by decide) (by decide) (by decide)).mono ?_
  rintro e w6 ⟨rfl, hK6⟩
  have HA6 := hid (HA5.out.keep hK6 (by simp) (by simp))
  have HB6 := hid (HB5.out.keep hK6 (by simp) (by simp))
  have HK6 := hid (HK5.out.trans hK6)
  clear hK6 HA5 HB5 HK5
  go_wp2_with fail
  refine (write_no _ rb mb 256 _ _ 255 _ 2 2 (HB6.out.keep (Kp.alloc _ _ []) (by simp) (by simp)) (by decide) (by decide) (by decide)).mono ?_
  rintro e w7 ⟨rfl, hK7'⟩
  have hK7 := (Kp.alloc w6 (.cells #[.int .u8 1, .int .u8 2] 5) []).trans hK7'
  have HA7 := hid (HA6.out.keep hK7 (by simp) (by simp))
  have HB7 := hid (HB6.out.keep hK7 (by simp) (by simp))
  have HK7 := hid (HK6.out.trans hK7)
  clear hK7 hK7' HA6 HB6 HK6
  go_wp2_with fail
  refine (read_ok w7 rb mb 256 256 0 _ _ HB7.out (by decide) (by decide)).mono ?_
  rintro e w8 ⟨v, rfl, hown, hK8⟩
  obtain ⟨ao, cp, rfl⟩ := owns_shape hown
  have HA8 := hid (HA7.out.keep hK8 (by simp) (by simp))
  have HB8 := hid (HB7.out.keep hK8 (by simp) (by simp))
  have HK8 := hid (HK7.out.trans hK8)
  clear hown hK8 HA7 HB7 HK7
  go_wp2_with fail
  refine (read_no w8 rb mb 256 _ _ 0 257 HB8.out (by decide) (by decide) (by decide)).mono ?_
  rintro e w9 ⟨rfl, hK9⟩
  have HA9 := hid (HA8.out.keep hK9 (by simp) (by simp))
  have HB9 := hid (HB8.out.keep hK9 (by simp) (by simp))
  have HK9 := hid (HK8.out.trans hK9)
  clear hK9 HA8 HB8 HK8
  go_wp2_with fail
  refine (read_no w9 rb mb 256 _ _ 9223372036854775807 9223372036854775807 HB9.out (by decide) (by decide) (by decide)).mono ?_
  rintro e wA ⟨rfl, hKA⟩
  have HAA := hid (HA9.out.keep hKA (by simp) (by simp))
  have HBA := hid (HB9.out.keep hKA (by simp) (by simp))
  have HKA := hid (HK9.out.trans hKA)
  clear hKA HA9 HB9 HK9
  go_wp2_with fail
  refine (read_no wA rb mb 256 _ _ (-1) 1 HBA.out (by decide) (by decide) (by decide)).mono ?_
  rintro e wB ⟨rfl, hKB⟩
  have HAB := hid (HAA.out.keep hKB (by simp) (by simp))
  have HBB := hid (HBA.out.keep hKB (by simp) (by simp))
  have HKB := hid (HKA.out.trans hKB)
  clear hKB HAA HBA HKA
  go_wp2_with (go_at_call 9; go_in)
  refine (nothing_nil wB).mono ?_
  rintro e wC ⟨rfl, hKC⟩
  have HAC := hid (HAB.out.keep hKC (by simp) (by simp))
  have HBC := hid (HBB.out.keep hKC (by simp) (by simp))
  have HKC := hid (HKB.out.trans hKC)
  clear hKC HAB HBB HKB
  go_wp2_with fail
  refine (nothing_zero _ wC.heap.size (heap_alloc_new wC _)).mono ?_
  rintro e wD ⟨rfl, hKD'⟩
  have hKD := (Kp.alloc wC _ []).trans hKD'
  have HAD := hid (HAC.out.keep hKD (by simp) (by simp))
  have HBD := hid (HBC.out.keep hKD (by simp) (by simp))
  have HKD := hid (HKC.out.trans hKD)
  clear hKD hKD' HAC HBC HKC
  go_wp2_with fail
  refine (same_nil wD rb mb 256 _ _ HBD.out).mono ?_
  rintro e w' ⟨rfl, rfl⟩
  rw [str_ne_empty (by rw [part_length]; decide)]
  go_wp2_with fail
  refine (same_ok w' ra ma 65536 _ _ rb mb 256 _ _ HAD.out HBD.out).mono ?_
  rintro e wD ⟨rfl, rfl⟩
  rw [str_ne (by rw [part_length, part_length]; decide)]
  go_wp2_with fail
  refine (known_any wD).mono ?_
  rintro e wE ⟨rfl, hKE⟩
  have HKE := hid (HKD.out.trans hKE)
  clear hKE
  go_wp2
  go_ret
  exact ⟨rfl, HKE.out.below⟩
theorem own : ownKnob Try.prog.godebug = none := by kernel_rfl

/-! ### The row's step -/
set_option maxRecDepth 100000 in
theorem lifted (os : Os) (started : os.Started) (H : Type) (enc : TypeId × Value → H) :
    ReturnsInHanded {} Try.checked os 6 .any (Rows.arenaNilSpec.pre6 enc Try.prog Try.f6 Rows.arenaNilRow.domain false) (Rows.arenaNilSpec.post enc Try.prog Try.f6 false true false false) := by
  refine returnsInHanded_of_change (C := Try.checked) own started (by kernel_rfl) Try.func6
    (ChangeSpec.witness6 (enc := enc) (C := Try.checked) false ⟨#[], #[], []⟩ 8 (by kernel_rfl) (by kernel_rfl) (by kernel_rfl) (by kernel_rfl)) ?_
  intro W base args ds gs before hval0 hW hcnd _
  have hval : ∀ (j : Nat) t v, Try.f6.params[j]? = some t → args[j]? = some v → Value.okWide Try.prog W .any base t v := hval0
  have hW' := hW
  obtain ⟨p, q, hA0, hV, rfl, hfz, hnd⟩ := hW
  have hA : DataW.TrodAll enc Try.prog W 0 (fun _ => true) true Try.f6.params.toList args.toList ds p := hA0
  rw [Try.params6] at hA hval
  obtain ⟨rfl, rfl, rfl⟩ := trodAll_none hA
  obtain ⟨rfl, rfl⟩ := trodVars_none hV
  clear hA0 hval0
  simp only [List.append_nil] at hW'
  refine (walk  W).mono fun e W' ⟨he, hg⟩ => ?_
  subst he
  exact ⟨_, rfl, _, _, _, [], [], [], hW', trodAll_mk1 (shut_bool Try.underlying4 _), trodAll_mk0, rfl, hg.frame _, fun h => by cases h⟩

theorem over : Rows.arenaNilRow.holds Try.pinned (OpenSpec.ofChange Rows.arenaNilSpec) :=
  OpenClaim.holds_of_wide 6 Try.f6 rfl rfl rfl rfl rfl rfl rfl ⟨rfl, rfl, rfl, rfl, rfl⟩ rfl rfl rfl rfl rfl (by kernel_rfl) Try.func6 (by kernel_rfl)
    (of_decide_eq_true (by kernel_rfl)) (by unfold Func.isWrapper; first | (rw [if_pos (by decide +kernel)]; kernel_rfl) | (rw [if_neg (by decide +kernel)]; exact ⟨rfl, rfl⟩))
    (fun os started H enc _ => lifted os started H enc)

/-- The statement. -/
theorem proved : Rows.ArenaNilSaid :=
  over
end Go.Proofs.Ytihlejphjdelfaa.arenaNil

namespace Go.Proofs.Ytihlejphjdelfaa
theorem arenaNil_holds : Rows.ArenaNilSaid := arenaNil.proved
#print axioms arenaNil_holds
end Go.Proofs.Ytihlejphjdelfaa
