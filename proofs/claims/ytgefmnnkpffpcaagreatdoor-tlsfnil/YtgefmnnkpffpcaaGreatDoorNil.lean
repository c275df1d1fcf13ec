/-
  PROVED: metronomelaw03.TlsfNil returns true: heaps that are not there, bytes and multiples at their bounds, and the greatest piece are answered as the chapter says. The table math/bits.deBruijn32tab holds what the program's text lays (the card ties it). No other condition.
-/
import Derived.Test.YtgefmnnkpffpcaaGreatDoorRows
import Derived.Test.YtgefmnnkpffpcaaGreatDoorTie
import Derived.Test.YtgefmnnkpffpcaaGreatDoorCards
import Derived.Test.YtgefmnnkpffpcaaGreatDoorHchk9
import Derived.ProofKit
import Derived.LaidMore
import Derived.OpenShut
import Derived.Stop.Joined
import Derived.SevenTiedAt
namespace Go.Proofs.YtgefmnnkpffpcaaGreatDoor.tlsfNil
open Go.ChangeShapes Go.WideShapes Go.ChangeAt Go.WideMaps Go.WideElems Go.RowKit
set_option linter.unusedVariables false

theorem own : ownKnob Tryz.prog.godebug = none := by kernel_rfl
theorem gTab : Tryz.prog.globalNamed "math/bits.deBruijn32tab" = some 0 := by kernel_rfl
theorem tTab : (Tryz.prog.globals[0]?).map (·.type) = some 120 := by kernel_rfl
abbrev laid : List (String × DataW Unit) := [("math/bits.deBruijn32tab", Rows.laid_math_bits_deBruijn32tab)]

def laidList : List (DataW Unit) := tab32.map fun k => .lit (.int .u8 k)
theorem laid_at (i : Nat) (hi : i < 32) : laidList[i]? = some (.lit (.int .u8 (tab32.getD i 0))) := by
  have hl : tab32.length = 32 := rfl
  simp [laidList, List.getElem?_eq_getElem (show i < tab32.length by omega)]

/-- The door's own heap meets the condition: three closed facts. -/
theorem door_met (os : Os) (args : Array Value) : laidMetH Tryz.prog laid ((World.doorLaid Tryz.prog 400 os).forCall (fun _ _ => 0) ⟨#[], args, []⟩).memory :=
  laidMetH_of_parts3 (fuel := 8) (laidMet_of_run' 8 (by kernel_rfl) (by kernel_rfl)) (by kernel_rfl) (by kernel_rfl)

/-- What the condition gives the walk: the table's cells. -/
theorem of_laid {W : World} (h : laidMetH Tryz.prog laid W) : Tb W := by
  rw [MakeChecks.laidMetH_plain _ _ _ (by kernel_rfl)] at h
  obtain ⟨ps, ⟨g0, t0, cs0, f0, p0, q0, hg0, ht0, hv0, hd0, _, _⟩, _, _⟩ := h
  obtain rfl := Option.some.inj (gTab.symm.trans hg0)
  obtain rfl := Option.some.inj (tTab.symm.trans ht0)
  obtain ⟨xs, m1, rfl, hx1, hlen, hn3, hel⟩ := DataW.trod_array Tryz.underlying120 hd0
  have c5 : Tryz.prog.cellsOf 5 = 1 := by kernel_rfl
  have c120 : Tryz.prog.cellsOf 120 = 32 := by kernel_rfl
  rw [c120] at hlen
  simp only [Prod.mk.injEq] at hx1
  intro i hi
  have hi' := hel i hi
  rw [c5, Nat.mul_one] at hi'
  obtain ⟨x, hx⟩ : ∃ x, xs[i]? = some x := ⟨xs[i]'(by omega), List.getElem?_eq_getElem (by omega)⟩
  rw [hx] at hi'
  obtain ⟨k, e1, e2, _⟩ := DataW.trod_int Tryz.underlying5 hi'
  have hk : (laidList)[i]? = some (.lit (.int .u8 k)) := by
    have h1 : laidList = List.map (fun x => x.fst) xs := by
      have := hx1.1
      unfold Rows.laid_math_bits_deBruijn32tab at this
      exact DataW.agg.inj this
    rw [h1, List.getElem?_map, hx, e2]
    rfl
  rw [laid_at i hi] at hk
  have hk' : tab32.getD i 0 = k := by simpa using hk
  have hc := World.var?_cell hg0 hv0 i
  rw [hk', hc]
  have h3 : (List.take 1 (List.drop i cs0.toList))[0]? = some (.int .u8 k) := by rw [e1]; rfl
  simpa using h3

set_option maxRecDepth 100000 in
theorem lifted (os : Os) (started : os.Started) (H : Type) (enc : TypeId × Value → H) :
    ReturnsInHanded {} Tryz.checked os 6 .any (fun w args => (Rows.tlsfNilSpec.pre enc Tryz.prog Tryz.f6 [] false w args ∧ laidMetH Tryz.prog laid w) ∧ sizedMet enc Tryz.prog Tryz.f6 (OpenSpec.ofChange Rows.tlsfNilSpec) false w args)
      (Rows.tlsfNilSpec.post enc Tryz.prog Tryz.f6 false true false false) := by
  refine returnsInHanded_of_change_and (C := Tryz.checked) (X := fun w _ => laidMetH Tryz.prog laid w) (fun _ _ _ hh h => h.of_heap hh) own started (by kernel_rfl) Tryz.func6
    (ChangeSpec.witness_shaped (enc := enc) (C := Tryz.checked) (os := os) (X := fun w _ => laidMetH Tryz.prog laid w) false (World.doorLaid Tryz.prog 400 os) #[] 8 rfl (World.shaped_of_RefB (by kernel_rfl) (by kernel_rfl)) (by kernel_rfl) (by kernel_rfl) (by kernel_rfl) (door_met os _)) ?_
  intro W base args ds gs before hval0 hW _ _ hL _
  have hval : ∀ (j : Nat) t v, Tryz.f6.params[j]? = some t → args[j]? = some v → Value.okWide Tryz.prog W .any base t v := hval0
  have hW' := hW
  obtain ⟨p, q, hA0, hV, rfl, hfz, hnd⟩ := hW
  have hA : DataW.TrodAll enc Tryz.prog W 0 (fun _ => true) true Tryz.f6.params.toList args.toList ds p := hA0
  rw [Tryz.params6] at hA hval
  obtain ⟨rfl, rfl, rfl⟩ := trodAll_none hA
  obtain ⟨rfl, rfl⟩ := trodVars_none hV
  clear hA0 hval0
  simp only [List.append_nil] at hW'
  refine (nil_ok W (of_laid hL)).mono fun e W' ⟨he, hg⟩ => ?_
  subst he
  exact ⟨_, rfl, _, _, _, [], [], [], hW', trodAll_mk1 (shut_bool Tryz.underlying4 _), trodAll_mk0, rfl, hg.toBelow.frame _, fun h => by cases h⟩

theorem over : Rows.TlsfNilSaid :=
  OpenClaim.holds_of_wide 6 Tryz.f6 rfl rfl rfl rfl rfl rfl rfl ⟨rfl, rfl, rfl, rfl, rfl⟩ rfl rfl rfl rfl rfl (by kernel_rfl) Tryz.func6 (by kernel_rfl)
    (of_decide_eq_true (by kernel_rfl)) (by unfold Func.isWrapper; first | (rw [if_pos (by decide +kernel)]; kernel_rfl) | (rw [if_neg (by decide +kernel)]; exact ⟨rfl, rfl⟩))
    (fun os started H enc _ => lifted os started H enc)

/-- The card. -/
theorem proved : Rows.TlsfNilCardSaid :=
  Claim7.holds_tied_plain_at .later [] [.data] true (true, "9cc4af169c147300544e5a700879c2a0bc778ccfaa578a3e76614e3501122bc3") true
    over (fun _ h => by cases h) (by kernel_rfl) (fun _ h => by cases h) tlsfNil_row_tie rfl ⟨rfl, rfl⟩ (by kernel_rfl) rfl
    (fun f fn hf hfn => by
      obtain rfl : f = 6 := Option.some.inj ((show Tryz.prog.funcNamed "metronome/metronomelaw03.TlsfNil" = some 6 by kernel_rfl).symm.trans hf) |>.symm
      obtain rfl : fn = Tryz.f6 := (Option.some.inj (Tryz.func6.symm.trans hfn)).symm
      exact ⟨by kernel_rfl, fun j t ht => by
        rw [Tryz.params6] at ht
        simp at ht⟩)
    (by kernel_rfl)
end Go.Proofs.YtgefmnnkpffpcaaGreatDoor.tlsfNil

namespace Go.Proofs.YtgefmnnkpffpcaaGreatDoor
theorem tlsfNil_holds : Rows.TlsfNilCardSaid := tlsfNil.proved
#print axioms tlsfNil_holds
end Go.Proofs.YtgefmnnkpffpcaaGreatDoor
