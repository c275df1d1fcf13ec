/-
  No cell of these rows narrows 'for every input' (looked for: loops, veiled, ifaces, maps, wideKeys, modest, calm, conditions, laid).
  DERIVED. THE GIVEN ROWS OF THIS SEAT. 4 by the template 'for every input the law returns true; each argument reads behind the call as it read before'; 0 by the template 'total and deterministic' (their statements: YtfhbcigeoagedaaTotals.lean).
  GIVEN WITH THE SEED: the statements are not yours to turn. If you find one false, say at which input.
  Laid BY PROGRAM, IN A SANDBOX (cutbox-rows.mjs): the forced cells as the released guide's own fill.sh prints them over the translation 3e958c50f1df8918… (all of the seat's roots in one cut). By AI agents, Wed Nov 11 2026. No macro, syntax, notation, axiom, sorry.
-/
import Derived.Test.YtfhbcigeoagedaaChecked
import GoSem.Claim
import GoSem.ClaimJoined
import GoSem.ClaimMapViews
import Derived.JoinedTies
import Derived.KernelRfl
namespace Go.Proofs.Ytfhbcigeoagedaa
/- THE CELL 'sum', in the pinned program and in every row, IS THE sha256 OF THE DUMP (.gsa) THAT YtfhbcigeoagedaaProg.lean LOADS. Nothing in Lean hashes anything: it is a label: what it is worth is what the hold of that sum in a sandbox is worth. -/
noncomputable def Try.pinned : Pinned := { name := "ytfhbcigeoagedaa", sum := "3e958c50f1df891886cde359cdb79b73fb38822cc3266e1f89b436c4e000dd2d", checked := Try.checked }
namespace Rows
def none {H : Type} : Left H := { results := [], args := [] }

/-- 'metronomelaw05.ReadySteps': WHATEVER THE INPUT: true; the input reads as it did. -/
def readyStepsSpec : ChangeSpec := { name := "readySteps", fn := fun _ => fun
  | [d1, d2] => { results := [.lit (.bool true)], args := [d1, d2] }
  | _ => none }
def readyStepsRow : OpenClaim := { program := "ytfhbcigeoagedaa", sum := "3e958c50f1df891886cde359cdb79b73fb38822cc3266e1f89b436c4e000dd2d", func := "metronome/metronomelaw05.ReadySteps", spec := "readySteps", unfollowed := true, recurses := true, apart := false }
def ReadyStepsSaid : Prop := readyStepsRow.holds Try.pinned (OpenSpec.ofChange readyStepsSpec)

/-- ITS FALSE NEIGHBOUR: 'it returns false'. Refute it at one input. -/
def readyStepsWrong : ChangeSpec := { name := "readySteps", fn := fun _ => fun
  | [d1, d2] => { results := [.lit (.bool false)], args := [d1, d2] }
  | _ => none }
def ReadyStepsWrongFalsely : Prop := readyStepsRow.holds Try.pinned (OpenSpec.ofChange readyStepsWrong)

/-- 'metronomelaw05.ReadySame': WHATEVER THE INPUT: true; the input reads as it did. -/
def readySameSpec : ChangeSpec := { name := "readySame", fn := fun _ => fun
  | [d1, d2] => { results := [.lit (.bool true)], args := [d1, d2] }
  | _ => none }
def readySameRow : OpenClaim := { program := "ytfhbcigeoagedaa", sum := "3e958c50f1df891886cde359cdb79b73fb38822cc3266e1f89b436c4e000dd2d", func := "metronome/metronomelaw05.ReadySame", spec := "readySame", unfollowed := true, recurses := true, apart := false }
def ReadySameSaid : Prop := readySameRow.holds Try.pinned (OpenSpec.ofChange readySameSpec)

/-- ITS FALSE NEIGHBOUR: 'it returns false'. Refute it at one input. -/
def readySameWrong : ChangeSpec := { name := "readySame", fn := fun _ => fun
  | [d1, d2] => { results := [.lit (.bool false)], args := [d1, d2] }
  | _ => none }
def ReadySameWrongFalsely : Prop := readySameRow.holds Try.pinned (OpenSpec.ofChange readySameWrong)

/-- 'metronomelaw05.ReadyFirst': WHATEVER THE INPUT: true; the input reads as it did. -/
def readyFirstSpec : ChangeSpec := { name := "readyFirst", fn := fun _ => fun
  | [d] => { results := [.lit (.bool true)], args := [d] }
  | _ => none }
def readyFirstRow : OpenClaim := { program := "ytfhbcigeoagedaa", sum := "3e958c50f1df891886cde359cdb79b73fb38822cc3266e1f89b436c4e000dd2d", func := "metronome/metronomelaw05.ReadyFirst", spec := "readyFirst", unfollowed := true, recurses := true, apart := false }
def ReadyFirstSaid : Prop := readyFirstRow.holds Try.pinned (OpenSpec.ofChange readyFirstSpec)

/-- ITS FALSE NEIGHBOUR: 'it returns false'. Refute it at one input. -/
def readyFirstWrong : ChangeSpec := { name := "readyFirst", fn := fun _ => fun
  | [d] => { results := [.lit (.bool false)], args := [d] }
  | _ => none }
def ReadyFirstWrongFalsely : Prop := readyFirstRow.holds Try.pinned (OpenSpec.ofChange readyFirstWrong)

/-- 'metronomelaw05.ReadyNil': WHATEVER THE INPUT: true; the input reads as it did. -/
def readyNilSpec : ChangeSpec := { name := "readyNil", fn := fun _ => fun
  | [] => { results := [.lit (.bool true)], args := [] }
  | _ => none }
def readyNilRow : OpenClaim := { program := "ytfhbcigeoagedaa", sum := "3e958c50f1df891886cde359cdb79b73fb38822cc3266e1f89b436c4e000dd2d", func := "metronome/metronomelaw05.ReadyNil", spec := "readyNil", unfollowed := true, recurses := true, apart := false }
def ReadyNilSaid : Prop := readyNilRow.holds Try.pinned (OpenSpec.ofChange readyNilSpec)

/-- ITS FALSE NEIGHBOUR: 'it returns false'. Refute it at one input. -/
def readyNilWrong : ChangeSpec := { name := "readyNil", fn := fun _ => fun
  | [] => { results := [.lit (.bool false)], args := [] }
  | _ => none }
def ReadyNilWrongFalsely : Prop := readyNilRow.holds Try.pinned (OpenSpec.ofChange readyNilWrong)

/- THE SECOND FORM. 'bulk': how many values and letters a reading holds, each counted each time it is reached (what is shared counts as often as it is met; a slice's spare places count too). A statement '..UptoSaid' is the law's where the arguments, and the package variables that the reading takes, are together of bulk at most 1048576: NARROWER than '..Said'. Prove '..Said' where nothing that the law and all that it calls make is longer than what came in: it says more and counts as full. Else prove '..UptoSaid'. A law counts once. -/
mutual
def uptoBulk {H : Type} : DataW H → Nat
  | .lit (.string bytes) => bytes.length + 1
  | .lit _ => 1
  | .nil => 1
  | .ptr d => uptoBulk d + 1
  | .slice elems spare => uptoBulkAll elems + uptoBulkAll spare + 1
  | .agg parts => uptoBulkAll parts + 1
  | .iface _ d => uptoBulk d + 1
  | .map entries => uptoBulkEntries entries + 1
  | .held _ => 1
def uptoBulkAll {H : Type} : List (DataW H) → Nat
  | [] => 0
  | d :: r => uptoBulk d + uptoBulkAll r
def uptoBulkEntries {H : Type} : List (Lit × DataW H) → Nat
  | [] => 0
  | x :: r => uptoBulkEntry x + uptoBulkEntries r
def uptoBulkEntry {H : Type} : Lit × DataW H → Nat
  | (.string bytes, d) => bytes.length + uptoBulk d + 1
  | (_, d) => uptoBulk d + 1
 end
def uptoSmall : (H : Type) → List (DataW H) → Bool := fun _ ds => decide (uptoBulkAll ds ≤ 1048576)
def OpenSpec.upto (s : _root_.Go.ChangeSpec) : _root_.Go.OpenSpec := { _root_.Go.OpenSpec.ofChange s with cond := some uptoSmall }

/-- 'metronomelaw05.ReadySteps', WHERE WHAT IT READS IS OF BULK AT MOST 1048576: true; the input reads as it did. -/
def readyStepsUptoRow : OpenClaim := { program := "ytfhbcigeoagedaa", sum := "3e958c50f1df891886cde359cdb79b73fb38822cc3266e1f89b436c4e000dd2d", func := "metronome/metronomelaw05.ReadySteps", spec := "readySteps", unfollowed := true, recurses := true, apart := false, narrowed := true }
def ReadyStepsUptoSaid : Prop := readyStepsUptoRow.holds Try.pinned (OpenSpec.upto readyStepsSpec)

/-- 'metronomelaw05.ReadySame', WHERE WHAT IT READS IS OF BULK AT MOST 1048576: true; the input reads as it did. -/
def readySameUptoRow : OpenClaim := { program := "ytfhbcigeoagedaa", sum := "3e958c50f1df891886cde359cdb79b73fb38822cc3266e1f89b436c4e000dd2d", func := "metronome/metronomelaw05.ReadySame", spec := "readySame", unfollowed := true, recurses := true, apart := false, narrowed := true }
def ReadySameUptoSaid : Prop := readySameUptoRow.holds Try.pinned (OpenSpec.upto readySameSpec)

/-- 'metronomelaw05.ReadyFirst', WHERE WHAT IT READS IS OF BULK AT MOST 1048576: true; the input reads as it did. -/
def readyFirstUptoRow : OpenClaim := { program := "ytfhbcigeoagedaa", sum := "3e958c50f1df891886cde359cdb79b73fb38822cc3266e1f89b436c4e000dd2d", func := "metronome/metronomelaw05.ReadyFirst", spec := "readyFirst", unfollowed := true, recurses := true, apart := false, narrowed := true }
def ReadyFirstUptoSaid : Prop := readyFirstUptoRow.holds Try.pinned (OpenSpec.upto readyFirstSpec)

/-- 'metronomelaw05.ReadyNil', WHERE WHAT IT READS IS OF BULK AT MOST 1048576: true; the input reads as it did. -/
def readyNilUptoRow : OpenClaim := { program := "ytfhbcigeoagedaa", sum := "3e958c50f1df891886cde359cdb79b73fb38822cc3266e1f89b436c4e000dd2d", func := "metronome/metronomelaw05.ReadyNil", spec := "readyNil", unfollowed := true, recurses := true, apart := false, narrowed := true }
def ReadyNilUptoSaid : Prop := readyNilUptoRow.holds Try.pinned (OpenSpec.upto readyNilSpec)

end Rows
end Go.Proofs.Ytfhbcigeoagedaa
