/- What known owes. -/
import Derived.Test.YtojdahgoapknjaaDoorParseNo
namespace Go.Proofs.YtojdahgoapknjaaDoor
def KnownOk : Prop := ∀ w : World, Wd w → Calls Tryd.prog 20 #[] w fun e w' => e = .returned (.bool true) ∧ Kp w w' []
end Go.Proofs.YtojdahgoapknjaaDoor
