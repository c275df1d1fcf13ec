/- The shelf laid at this program: Clone. -/
import Derived.Shelf.SlicesE.Clone
import Derived.Test.YtojcmnanapeooaaProg
namespace Go.Proofs
open Go.Shelf
def Try.lCl_ren : Go.Shelf.Ren := ⟨fun | 41 => 35 | n => n, fun | 22 => 42 | 23 => 45 | 4 => 4 | n => n, fun | n => n⟩
theorem Try.lCl : Go.Proofs.SlLaysE0.n41 Try.prog Try.lCl_ren := {
  mixed := by kernel_rfl
  f41 := ⟨Try.f35.name, by decide, Try.func35.trans (congrArg some (by kernel_rfl))⟩
  t4 := Try.underlying4
  a4 := Try.isAgg4
  z4 := Try.sizeOf4
  v4 := Try.zeroValue4
  t22 := Try.underlying42
  a22 := Try.isAgg42
  z22 := Try.sizeOf42
  v22 := Try.zeroValue42 }
end Go.Proofs
