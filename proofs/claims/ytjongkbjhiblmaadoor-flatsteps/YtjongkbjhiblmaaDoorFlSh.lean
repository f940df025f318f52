/- slices.Clone at sets: the library's contract, laid at this program. -/
import Derived.Shelf.SlicesE.Clone
import Derived.Shelf.SlGeneric
import Derived.Test.YtjongkbjhiblmaaDoorProg
namespace Go.Proofs
open Go.Shelf
def Tryd.layCloneS_ren : Go.Shelf.Ren := ⟨fun | 41 => 20 | n => n, fun | 22 => 33 | 23 => 56 | 4 => 4 | n => n, fun | n => n⟩
theorem Tryd.layCloneS : Go.Proofs.SlLaysE0.n41 Tryd.prog Tryd.layCloneS_ren := {
  mixed := by kernel_rfl
  f41 := ⟨Tryd.f20.name, by decide, Tryd.func20.trans (congrArg some (by kernel_rfl))⟩
  t4 := Tryd.underlying4
  a4 := Tryd.isAgg4
  z4 := Tryd.sizeOf4
  v4 := Tryd.zeroValue4
  t22 := Tryd.underlying33
  a22 := Tryd.isAgg33
  z22 := Tryd.sizeOf33
  v22 := Tryd.zeroValue33 }
end Go.Proofs
