/- The program's graph gives what the laws ask. -/
import Derived.Test.YtomdnppnabncaaaCs
namespace Go.Proofs.Ytomdnppnabncaaa
open Go.RowKit Go.Shelf

theorem prg : Prg Gr0 where
  keep := fun h hk hr => h.keep hk hr
  cells := fun h => ⟨_, h.c⟩
  ok := fun h => h.ok
  new_no := new_no0
  new_ok := new_ok0
  base := base0
  ceil := ceil0
  waits := waits0
  of_ := of0
  all := all0
  ring := ring0
  for_ := for0
  copy := copy0
  same := same0
end Go.Proofs.Ytomdnppnabncaaa
