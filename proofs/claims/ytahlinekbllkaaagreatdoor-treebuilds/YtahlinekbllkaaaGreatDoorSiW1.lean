/- Contracts of package site: inside, place, State, Put. -/
import Derived.Test.YtahlinekbllkaaaGreatDoorBs
import Derived.Test.YtahlinekbllkaaaGreatDoorSiM
namespace Go.Proofs.YtahlinekbllkaaaGreatDoor.Si
open Go.RowKit Go.Proofs.YtahlinekbllkaaaGreatDoor.Ba

theorem ret_int {k : IntKind} {a b : Int} (h : a = b) : Ending.returned (.int k a) = .returned (.int k b) := by rw [h]
def inQ (a b : Int) : Bool := decide (0 ≤ a ∧ a < 4 ∧ 0 ≤ b ∧ b < 4)
theorem place_any (a b p : Nat) (ha : a < 4) (hb : b < 4) (hp : p = 2 * (4 * b + a)) (w : World) :
    Calls Tryz.prog 74 #[.int .i64 a, .int .i64 b] w fun e w' => e = .returned (.int .u64 p) ∧ w = w' := by
  go_enter Tryz.func74, Tryz.ntmps74
  go_wp2
  go_ret
  exact ⟨ret_int (by omega), rfl⟩
end Go.Proofs.YtahlinekbllkaaaGreatDoor.Si
