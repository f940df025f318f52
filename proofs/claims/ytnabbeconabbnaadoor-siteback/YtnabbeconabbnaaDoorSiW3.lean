/- The law's own look of layer 9. -/
import Derived.Test.YtnabbeconabbnaaDoorSiW2
namespace Go.Proofs.YtnabbeconabbnaaDoor.Si
open Go.RowKit Go.Proofs.YtnabbeconabbnaaDoor.Ba

theorem eql_pt (a b c d : Int) (w : World) : (binOp .eql 24 (.agg #[.int .i64 a, .int .i64 b]) (.agg #[.int .i64 c, .int .i64 d])).run Tryd.prog w = .ok (.bool (a == c && b == d)) w := by
  simp [go_sem]
  by_cases h : a = c <;> by_cases h' : b = d <;> simp [h, h']
theorem awake_any (w : World) : Calls Tryd.prog 6 #[] w fun e w' => e = .returned (.bool true) ∧ Below w.heap.size w w' := by
  have hl := fun W => low_any (-1) 5 (by omega) (by omega) W
  have hp := fun W => put_at 0 1 3 1 0 3 (by decide) (by omega) (by omega) (by omega) (by omega) W
  have hs := fun W => state_at 12 1 1 0 (by decide) (by omega) (by omega) (by omega) W
  have hc := fun W => count_any 12 (by decide) W
  rw [show st 12 1 = 3 by decide] at hs
  rw [show pt 0 1 3 = 12 by decide] at hp
  rw [show pcn 12 32 = 2 by decide] at hc
  simp only [show (-1 : Int) - -1 % 4 = -4 by decide, show (5 : Int) - 5 % 4 = 4 by decide] at hl
  have ec := eql_pt
  go_enter Tryd.func6, Tryd.ntmps6
  go_wp2_with fail
  refine (hl _).mono ?_
  rintro e w1 ⟨rfl, hb1⟩
  go_wp2_with fail
  refine (hp _).mono ?_
  rintro e w' ⟨rfl, rfl⟩
  go_wp2_with fail
  refine (hs _).mono ?_
  rintro e w' ⟨rfl, rfl⟩
  go_wp2_with fail
  refine (hc _).mono ?_
  rintro e w' ⟨rfl, m, rfl⟩
  go_wp2
  go_ret
  exact ⟨rfl, below_dr _ hb1⟩
end Go.Proofs.YtnabbeconabbnaaDoor.Si
