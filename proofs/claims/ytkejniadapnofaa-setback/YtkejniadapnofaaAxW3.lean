/- Contracts: the table of six points; Then and Back; the reference's own functions; Sum. -/
import Derived.Test.YtkejniadapnofaaAxW2
import Derived.Laws.Rows
namespace Go.Proofs.Ytkejniadapnofaa.Ax
open Go.RowKit

def sixCells : Array Value := #[.int .i64 1, .int .i64 0, .int .i64 0, .int .i64 1, .int .i64 (-1), .int .i64 1, .int .i64 (-1), .int .i64 0, .int .i64 0, .int .i64 (-1), .int .i64 1, .int .i64 (-1)]
def opB2 (s : Bool) (t : Int) : Int := t % 6 + (if s then 6 else 0)
theorem operator_any (s : Bool) (t : Int) (w : World) (h0 : 0 ≤ t) (h1 : t ≤ 1000) :
    Calls Try.prog 43 #[.bool s, .int .i64 t] w fun e w' => e = .returned (.int .i64 (opB2 s t)) ∧ w = w' := by
  cases s
  all_goals
    go_enter Try.func43, Try.ntmps43
    go_wp2
    go_ret
    exact ⟨by simp [opB2], rfl⟩

def thenV (o p : Int) : Int := opB2 (swB o != swB p) ((if swB p then 6 - o % 6 else o % 6) + p % 6)
def backV (o : Int) : Int := if swB o then o else opB2 false (6 - o % 6)
theorem back_any (o : Int) (w : World) (h0 : 0 ≤ o) (h1 : o < 12) :
    Calls Try.prog 25 #[.int .i64 o] w fun e w' => e = .returned (.int .i64 (backV o)) ∧ w = w' := by
  unfold backV
  cases hs : swB o
  all_goals
    go_enter Try.func25, Try.ntmps25
    go_wp2_with (first | (go_at_call 42; refine (swaps_any _ _).mono ?_; rintro e w' ⟨rfl, rfl⟩) | (go_at_call 44; refine (turns_any _ _ (by omega) (by omega)).mono ?_; rintro e w' ⟨rfl, rfl⟩) | (go_at_call 43; refine (operator_any _ _ _ (by omega) (by omega)).mono ?_; rintro e w' ⟨rfl, rfl⟩))
    go_ret
    exact ⟨by simp, rfl⟩
end Go.Proofs.Ytkejniadapnofaa.Ax
