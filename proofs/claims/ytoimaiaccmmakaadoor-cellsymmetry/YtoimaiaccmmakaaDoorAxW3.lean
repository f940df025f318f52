/- Contracts: the table of six points; Then and Back; the reference's own functions; Sum. -/
import Derived.Test.YtoimaiaccmmakaaDoorAxW2
import Derived.Laws.Rows
namespace Go.Proofs.YtoimaiaccmmakaaDoor.Ax
open Go.RowKit

def sixCells : Array Value := #[.int .i64 1, .int .i64 0, .int .i64 0, .int .i64 1, .int .i64 (-1), .int .i64 1, .int .i64 (-1), .int .i64 0, .int .i64 0, .int .i64 (-1), .int .i64 1, .int .i64 (-1)]
/-- The package's table of the six points holds what it should. -/
def SixIs (w : World) : Prop := ∃ t fr, w.heap[0]? = some (.cells sixCells t fr)
theorem SixIs.lt {w : World} (h : SixIs w) : 0 < w.heap.size := by
  obtain ⟨t, fr, h⟩ := h
  rcases Nat.lt_or_ge 0 w.heap.size with h' | h'
  · exact h'
  · rw [Array.getElem?_eq_none h'] at h; cases h
theorem SixIs.below {w w' : World} (h : SixIs w) (hb : Below w.heap.size w w') : SixIs w' := by
  have := h.lt
  obtain ⟨t, fr, h⟩ := h
  exact ⟨t, fr, (hb.block _ this).trans h⟩

theorem six_any (w : World) (h : SixIs w) :
    Calls Tryd.prog 32 #[] w fun e w' => e = .returned (.agg sixCells) ∧ Below w.heap.size w w' := by
  have hlt := h.lt
  obtain ⟨tt, fr, hg⟩ := h
  have c0 : w.cell? ⟨0, 0, none⟩ = some (.int .i64 (1)) := by simp [World.cell?, hg, sixCells]
  have c1 : w.cell? ⟨0, 1, none⟩ = some (.int .i64 (0)) := by simp [World.cell?, hg, sixCells]
  have c2 : w.cell? ⟨0, 2, none⟩ = some (.int .i64 (0)) := by simp [World.cell?, hg, sixCells]
  have c3 : w.cell? ⟨0, 3, none⟩ = some (.int .i64 (1)) := by simp [World.cell?, hg, sixCells]
  have c4 : w.cell? ⟨0, 4, none⟩ = some (.int .i64 (-1)) := by simp [World.cell?, hg, sixCells]
  have c5 : w.cell? ⟨0, 5, none⟩ = some (.int .i64 (1)) := by simp [World.cell?, hg, sixCells]
  have c6 : w.cell? ⟨0, 6, none⟩ = some (.int .i64 (-1)) := by simp [World.cell?, hg, sixCells]
  have c7 : w.cell? ⟨0, 7, none⟩ = some (.int .i64 (0)) := by simp [World.cell?, hg, sixCells]
  have c8 : w.cell? ⟨0, 8, none⟩ = some (.int .i64 (0)) := by simp [World.cell?, hg, sixCells]
  have c9 : w.cell? ⟨0, 9, none⟩ = some (.int .i64 (-1)) := by simp [World.cell?, hg, sixCells]
  have c10 : w.cell? ⟨0, 10, none⟩ = some (.int .i64 (1)) := by simp [World.cell?, hg, sixCells]
  have c11 : w.cell? ⟨0, 11, none⟩ = some (.int .i64 (-1)) := by simp [World.cell?, hg, sixCells]
  clear hg
  go_enter Tryd.func32, Tryd.ntmps32
  go_wp2
  exact bodyPost_ret (v := .agg sixCells) (by simp [results, Tryd.results32, go_sem, sixCells]) rfl ⟨rfl, by go_grown⟩

def opB2 (s : Bool) (t : Int) : Int := t % 6 + (if s then 6 else 0)
theorem operator_any (s : Bool) (t : Int) (w : World) (h0 : 0 ≤ t) (h1 : t ≤ 1000) :
    Calls Tryd.prog 23 #[.bool s, .int .i64 t] w fun e w' => e = .returned (.int .i64 (opB2 s t)) ∧ w = w' := by
  cases s
  all_goals
    go_enter Tryd.func23, Tryd.ntmps23
    go_wp2
    go_ret
    exact ⟨by simp [opB2], rfl⟩

def thenV (o p : Int) : Int := opB2 (swB o != swB p) ((if swB p then 6 - o % 6 else o % 6) + p % 6)
theorem then_any (o p : Int) (w : World) (h0 : 0 ≤ o) (h1 : o < 12) (p0 : 0 ≤ p) (p1 : p < 12) :
    Calls Tryd.prog 8 #[.int .i64 o, .int .i64 p] w fun e w' => e = .returned (.int .i64 (thenV o p)) ∧ w = w' := by
  unfold thenV
  cases hs : swB p
  all_goals
    go_enter Tryd.func8, Tryd.ntmps8
    go_wp2_with (first | (go_at_call 22; refine (swaps_any _ _).mono ?_; rintro e w' ⟨rfl, rfl⟩) | (go_at_call 21; refine (turns_any _ _ (by omega) (by omega)).mono ?_; rintro e w' ⟨rfl, rfl⟩) | (go_at_call 23; refine (operator_any _ _ _ (by omega) (by omega)).mono ?_; rintro e w' ⟨rfl, rfl⟩))
    go_ret
    exact ⟨by simp, rfl⟩
def backV (o : Int) : Int := if swB o then o else opB2 false (6 - o % 6)
theorem back_any (o : Int) (w : World) (h0 : 0 ≤ o) (h1 : o < 12) :
    Calls Tryd.prog 9 #[.int .i64 o] w fun e w' => e = .returned (.int .i64 (backV o)) ∧ w = w' := by
  unfold backV
  cases hs : swB o
  all_goals
    go_enter Tryd.func9, Tryd.ntmps9
    go_wp2_with (first | (go_at_call 22; refine (swaps_any _ _).mono ?_; rintro e w' ⟨rfl, rfl⟩) | (go_at_call 21; refine (turns_any _ _ (by omega) (by omega)).mono ?_; rintro e w' ⟨rfl, rfl⟩) | (go_at_call 23; refine (operator_any _ _ _ (by omega) (by omega)).mono ?_; rintro e w' ⟨rfl, rfl⟩))
    go_ret
    exact ⟨by simp, rfl⟩
end Go.Proofs.YtoimaiaccmmakaaDoor.Ax
