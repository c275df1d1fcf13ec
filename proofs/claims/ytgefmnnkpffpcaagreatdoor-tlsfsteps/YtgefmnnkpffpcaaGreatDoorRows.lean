/-
  NARROWER THAN 'FOR EVERY INPUT', by the rows' own cells (each row's printed sentence says how): TlsfSteps: laid · TlsfKeeps: laid · TlsfCost: laid · TlsfNil: laid.
  DERIVED. THE GIVEN ROWS OF THIS SEAT. 4 by the template 'for every input the law returns true; each argument reads behind the call as it read before'; 0 by the template 'total and deterministic' (their statements: YtgefmnnkpffpcaaGreatDoorTotals.lean).
  GIVEN WITH THE SEED: the statements are not yours to turn. If you find one false, say at which input.
  Laid BY PROGRAM, IN A SANDBOX (cutbox-rows.mjs): the forced cells as the released guide's own fill.sh prints them over the translation 7efe9204ef55a381… (all of the seat's roots in one cut). By AI agents, Wed Nov 11 2026. No macro, syntax, notation, axiom, sorry.
-/
import Derived.Test.YtgefmnnkpffpcaaGreatDoorChecked
import GoSem.Claim
import GoSem.ClaimJoined
import GoSem.ClaimMapViews
import Derived.JoinedTies
import Derived.KernelRfl
namespace Go.Proofs.YtgefmnnkpffpcaaGreatDoor
/- THE CELL 'sum', in the pinned program and in every row, IS THE sha256 OF THE DUMP (.gsa) THAT YtgefmnnkpffpcaaGreatDoorProg.lean LOADS. Nothing in Lean hashes anything: it is a label: what it is worth is what the hold of that sum in a sandbox is worth. -/
noncomputable def Tryz.pinned : Pinned := { name := "ytgefmnnkpffpcaagreatdoor", sum := "7efe9204ef55a381b61da817cc6f357302396073fcddf2ff74a2d4281d7c9fa9", checked := Tryz.checked }
namespace Rows
def none {H : Type} : Left H := { results := [], args := [] }

/- WHAT THE LISTED PACKAGE-LEVEL VARIABLES READ AS WHEN THE CALL BEGINS. Each datum BY PROGRAM (the guide's laid-datum.mjs) off the statement by which the dump's own 'gosem.cut.vars' lays the variable. In a bare row this is a premise. The card (YtgefmnnkpffpcaaGreatDoorCards.lean) ties it to the program's text. -/
def laid_math_bits_deBruijn32tab {H : Type} : DataW H := .agg [.lit (.int .u8 0), .lit (.int .u8 1), .lit (.int .u8 28), .lit (.int .u8 2), .lit (.int .u8 29), .lit (.int .u8 14), .lit (.int .u8 24), .lit (.int .u8 3), .lit (.int .u8 30), .lit (.int .u8 22), .lit (.int .u8 20), .lit (.int .u8 15), .lit (.int .u8 25), .lit (.int .u8 17), .lit (.int .u8 4), .lit (.int .u8 8), .lit (.int .u8 31), .lit (.int .u8 27), .lit (.int .u8 13), .lit (.int .u8 23), .lit (.int .u8 21), .lit (.int .u8 19), .lit (.int .u8 16), .lit (.int .u8 7), .lit (.int .u8 26), .lit (.int .u8 12), .lit (.int .u8 18), .lit (.int .u8 6), .lit (.int .u8 11), .lit (.int .u8 5), .lit (.int .u8 10), .lit (.int .u8 9)]

/-- 'metronomelaw03.TlsfSteps': WHATEVER THE INPUT: true; the input reads as it did. -/
def tlsfStepsSpec : ChangeSpec := { name := "tlsfSteps", fn := fun _ => fun
  | [d1, d2, d3] => { results := [.lit (.bool true)], args := [d1, d2, d3] }
  | _ => none }
def tlsfStepsRow : OpenClaim := { program := "ytgefmnnkpffpcaagreatdoor", sum := "7efe9204ef55a381b61da817cc6f357302396073fcddf2ff74a2d4281d7c9fa9", func := "metronome/metronomelaw03.TlsfSteps", spec := "tlsfSteps", inPlace := ["maps.clone"], unfollowed := true, recurses := true, named := ["math/bits.deBruijn32tab"], apart := false, laid := [("math/bits.deBruijn32tab", laid_math_bits_deBruijn32tab)] }
def TlsfStepsSaid : Prop := tlsfStepsRow.holds Tryz.pinned (OpenSpec.ofChange tlsfStepsSpec)

/-- ITS FALSE NEIGHBOUR: 'it returns false'. Refute it at one input. -/
def tlsfStepsWrong : ChangeSpec := { name := "tlsfSteps", fn := fun _ => fun
  | [d1, d2, d3] => { results := [.lit (.bool false)], args := [d1, d2, d3] }
  | _ => none }
def TlsfStepsWrongFalsely : Prop := tlsfStepsRow.holds Tryz.pinned (OpenSpec.ofChange tlsfStepsWrong)

/-- 'metronomelaw03.TlsfKeeps': WHATEVER THE INPUT: true; the input reads as it did. -/
def tlsfKeepsSpec : ChangeSpec := { name := "tlsfKeeps", fn := fun _ => fun
  | [d1, d2] => { results := [.lit (.bool true)], args := [d1, d2] }
  | _ => none }
def tlsfKeepsRow : OpenClaim := { program := "ytgefmnnkpffpcaagreatdoor", sum := "7efe9204ef55a381b61da817cc6f357302396073fcddf2ff74a2d4281d7c9fa9", func := "metronome/metronomelaw03.TlsfKeeps", spec := "tlsfKeeps", inPlace := ["maps.clone"], unfollowed := true, recurses := true, named := ["math/bits.deBruijn32tab"], apart := false, laid := [("math/bits.deBruijn32tab", laid_math_bits_deBruijn32tab)] }
def TlsfKeepsSaid : Prop := tlsfKeepsRow.holds Tryz.pinned (OpenSpec.ofChange tlsfKeepsSpec)

/-- ITS FALSE NEIGHBOUR: 'it returns false'. Refute it at one input. -/
def tlsfKeepsWrong : ChangeSpec := { name := "tlsfKeeps", fn := fun _ => fun
  | [d1, d2] => { results := [.lit (.bool false)], args := [d1, d2] }
  | _ => none }
def TlsfKeepsWrongFalsely : Prop := tlsfKeepsRow.holds Tryz.pinned (OpenSpec.ofChange tlsfKeepsWrong)

/-- 'metronomelaw03.TlsfCost': WHATEVER THE INPUT: true; the input reads as it did. -/
def tlsfCostSpec : ChangeSpec := { name := "tlsfCost", fn := fun _ => fun
  | [d1, d2] => { results := [.lit (.bool true)], args := [d1, d2] }
  | _ => none }
def tlsfCostRow : OpenClaim := { program := "ytgefmnnkpffpcaagreatdoor", sum := "7efe9204ef55a381b61da817cc6f357302396073fcddf2ff74a2d4281d7c9fa9", func := "metronome/metronomelaw03.TlsfCost", spec := "tlsfCost", unfollowed := true, recurses := true, named := ["math/bits.deBruijn32tab"], apart := false, laid := [("math/bits.deBruijn32tab", laid_math_bits_deBruijn32tab)] }
def TlsfCostSaid : Prop := tlsfCostRow.holds Tryz.pinned (OpenSpec.ofChange tlsfCostSpec)

/-- ITS FALSE NEIGHBOUR: 'it returns false'. Refute it at one input. -/
def tlsfCostWrong : ChangeSpec := { name := "tlsfCost", fn := fun _ => fun
  | [d1, d2] => { results := [.lit (.bool false)], args := [d1, d2] }
  | _ => none }
def TlsfCostWrongFalsely : Prop := tlsfCostRow.holds Tryz.pinned (OpenSpec.ofChange tlsfCostWrong)

/-- 'metronomelaw03.TlsfNil': WHATEVER THE INPUT: true; the input reads as it did. -/
def tlsfNilSpec : ChangeSpec := { name := "tlsfNil", fn := fun _ => fun
  | [] => { results := [.lit (.bool true)], args := [] }
  | _ => none }
def tlsfNilRow : OpenClaim := { program := "ytgefmnnkpffpcaagreatdoor", sum := "7efe9204ef55a381b61da817cc6f357302396073fcddf2ff74a2d4281d7c9fa9", func := "metronome/metronomelaw03.TlsfNil", spec := "tlsfNil", inPlace := ["maps.clone"], unfollowed := true, recurses := true, named := ["math/bits.deBruijn32tab"], apart := false, laid := [("math/bits.deBruijn32tab", laid_math_bits_deBruijn32tab)] }
def TlsfNilSaid : Prop := tlsfNilRow.holds Tryz.pinned (OpenSpec.ofChange tlsfNilSpec)

/-- ITS FALSE NEIGHBOUR: 'it returns false'. Refute it at one input. -/
def tlsfNilWrong : ChangeSpec := { name := "tlsfNil", fn := fun _ => fun
  | [] => { results := [.lit (.bool false)], args := [] }
  | _ => none }
def TlsfNilWrongFalsely : Prop := tlsfNilRow.holds Tryz.pinned (OpenSpec.ofChange tlsfNilWrong)

/- THE SECOND FORM. 'bulk': how many values and letters a reading holds, each counted each time it is reached (what is shared counts as often as it is met; a slice's spare places count too). A statement '..UptoSaid' is the law's where the arguments, and the package variables that the reading takes, are together of bulk at most 1048576: NARROWER than '..Said'. Prove '..Said' where nothing that the law and all that it calls make is longer than what came in: it says more and counts as full. Else prove '..UptoSaid'. A law counts once. -/
mutual
def uptoBulk {H : Type} : DataW H → Nat
  | .lit (.string bytes) => bytes.length + 1
  | .lit _ => 1
  | .nil => 1
  | .ptr d => uptoBulk d + 1
  | .slice elems spare => uptoBulkAll elems + uptoBulkAll spare + 1
  | .agg parts => uptoBulkAll parts + 1
  | .iface _ d => uptoBulk d + 1
  | .map entries => uptoBulkEntries entries + 1
  | .held _ => 1
def uptoBulkAll {H : Type} : List (DataW H) → Nat
  | [] => 0
  | d :: r => uptoBulk d + uptoBulkAll r
def uptoBulkEntries {H : Type} : List (Lit × DataW H) → Nat
  | [] => 0
  | x :: r => uptoBulkEntry x + uptoBulkEntries r
def uptoBulkEntry {H : Type} : Lit × DataW H → Nat
  | (.string bytes, d) => bytes.length + uptoBulk d + 1
  | (_, d) => uptoBulk d + 1
 end
def uptoSmall : (H : Type) → List (DataW H) → Bool := fun _ ds => decide (uptoBulkAll ds ≤ 1048576)
def OpenSpec.upto (s : _root_.Go.ChangeSpec) : _root_.Go.OpenSpec := { _root_.Go.OpenSpec.ofChange s with cond := some uptoSmall }

/-- 'metronomelaw03.TlsfSteps', WHERE WHAT IT READS IS OF BULK AT MOST 1048576: true; the input reads as it did. -/
def tlsfStepsUptoRow : OpenClaim := { program := "ytgefmnnkpffpcaagreatdoor", sum := "7efe9204ef55a381b61da817cc6f357302396073fcddf2ff74a2d4281d7c9fa9", func := "metronome/metronomelaw03.TlsfSteps", spec := "tlsfSteps", inPlace := ["maps.clone"], unfollowed := true, recurses := true, named := ["math/bits.deBruijn32tab"], apart := false, laid := [("math/bits.deBruijn32tab", laid_math_bits_deBruijn32tab)], narrowed := true }
def TlsfStepsUptoSaid : Prop := tlsfStepsUptoRow.holds Tryz.pinned (OpenSpec.upto tlsfStepsSpec)

/-- 'metronomelaw03.TlsfKeeps', WHERE WHAT IT READS IS OF BULK AT MOST 1048576: true; the input reads as it did. -/
def tlsfKeepsUptoRow : OpenClaim := { program := "ytgefmnnkpffpcaagreatdoor", sum := "7efe9204ef55a381b61da817cc6f357302396073fcddf2ff74a2d4281d7c9fa9", func := "metronome/metronomelaw03.TlsfKeeps", spec := "tlsfKeeps", inPlace := ["maps.clone"], unfollowed := true, recurses := true, named := ["math/bits.deBruijn32tab"], apart := false, laid := [("math/bits.deBruijn32tab", laid_math_bits_deBruijn32tab)], narrowed := true }
def TlsfKeepsUptoSaid : Prop := tlsfKeepsUptoRow.holds Tryz.pinned (OpenSpec.upto tlsfKeepsSpec)

/-- 'metronomelaw03.TlsfCost', WHERE WHAT IT READS IS OF BULK AT MOST 1048576: true; the input reads as it did. -/
def tlsfCostUptoRow : OpenClaim := { program := "ytgefmnnkpffpcaagreatdoor", sum := "7efe9204ef55a381b61da817cc6f357302396073fcddf2ff74a2d4281d7c9fa9", func := "metronome/metronomelaw03.TlsfCost", spec := "tlsfCost", unfollowed := true, recurses := true, named := ["math/bits.deBruijn32tab"], apart := false, laid := [("math/bits.deBruijn32tab", laid_math_bits_deBruijn32tab)], narrowed := true }
def TlsfCostUptoSaid : Prop := tlsfCostUptoRow.holds Tryz.pinned (OpenSpec.upto tlsfCostSpec)

/-- 'metronomelaw03.TlsfNil', WHERE WHAT IT READS IS OF BULK AT MOST 1048576: true; the input reads as it did. -/
def tlsfNilUptoRow : OpenClaim := { program := "ytgefmnnkpffpcaagreatdoor", sum := "7efe9204ef55a381b61da817cc6f357302396073fcddf2ff74a2d4281d7c9fa9", func := "metronome/metronomelaw03.TlsfNil", spec := "tlsfNil", inPlace := ["maps.clone"], unfollowed := true, recurses := true, named := ["math/bits.deBruijn32tab"], apart := false, laid := [("math/bits.deBruijn32tab", laid_math_bits_deBruijn32tab)], narrowed := true }
def TlsfNilUptoSaid : Prop := tlsfNilUptoRow.holds Tryz.pinned (OpenSpec.upto tlsfNilSpec)

end Rows
end Go.Proofs.YtgefmnnkpffpcaaGreatDoor
