/- What the row's list gives: the table by which the lowest bit is found. -/
import Derived.Test.YtahlinekbllkaaaDoorCards
import Derived.Test.YtahlinekbllkaaaDoorTie
import Derived.Test.YtahlinekbllkaaaDoorBsR
import Derived.Test.YtahlinekbllkaaaDoorSiW4
import Derived.ProofKit
import Derived.OpenShut
import Derived.Lib.LaidTab
namespace Go.Proofs.YtahlinekbllkaaaDoor.Si
open Go.RowKit Go.WideShapes Go.ChangeShapes Go.Proofs.YtahlinekbllkaaaDoor.Ba

/-- A WORLD FOR THE WITNESS: the settled one, the table's block holding its numbers. -/
noncomputable def laidWorldT (os : Os) : World :=
  { World.holding Tryd.prog os ⟨#[], #[], []⟩ with heap := (World.holding Tryd.prog os ⟨#[], #[], []⟩).heap.modify 0 fun
      | .cells _ t frozen => .cells (deb.map fun z => Value.int .u8 z).toArray t frozen
      | o => o }
theorem gDeb : Tryd.prog.globalNamed "math/bits.deBruijn32tab" = some 0 := by kernel_rfl
theorem gDebType : (Tryd.prog.globals[0]?).map (·.type) = some 119 := by kernel_rfl
theorem cellsDeb : Tryd.prog.cellsOf 119 = 32 := by kernel_rfl
theorem cellsU8 : Tryd.prog.cellsOf 5 = 1 := by kernel_rfl
theorem cellsPt : Tryd.prog.cellsOf 46 = 2 := by kernel_rfl
theorem deb_of_laid {W : World} (h : laidMet Tryd.prog [("math/bits.deBruijn32tab", Rows.laid_math_bits_deBruijn32tab)] W) : DebIs W := by
  have ht : Lib.TabIs Tryd.prog W "math/bits.deBruijn32tab" .u8 deb := Lib.tabIs_of_head gDeb gDebType Tryd.underlying119 Tryd.underlying5 cellsU8 cellsDeb h
  refine ⟨fun i hi => ht.cell gDeb i hi, ?_⟩
  have := ht.cell gDeb 0 (by decide)
  rcases Nat.lt_or_ge 0 W.heap.size with h' | h'
  · exact h'
  · simp [World.cell?, Array.getElem?_eq_none h'] at this
end Go.Proofs.YtahlinekbllkaaaDoor.Si
