/- Contracts: the table of six points; Then and Back; the reference's own functions; Sum. -/
import Derived.Test.YtcmfkdhadmfgkaaDoorAxW2
import Derived.Laws.Rows
namespace Go.Proofs.YtcmfkdhadmfgkaaDoor.Ax
open Go.RowKit

def sixCells : Array Value := #[.int .i64 1, .int .i64 0, .int .i64 0, .int .i64 1, .int .i64 (-1), .int .i64 1, .int .i64 (-1), .int .i64 0, .int .i64 0, .int .i64 (-1), .int .i64 1, .int .i64 (-1)]
/-- The package's table of the six points holds what it should. -/
def SixIs (w : World) : Prop := ∃ t fr, w.heap[1]? = some (.cells sixCells t fr)
theorem SixIs.lt {w : World} (h : SixIs w) : 1 < w.heap.size := by
  obtain ⟨t, fr, h⟩ := h
  rcases Nat.lt_or_ge 1 w.heap.size with h' | h'
  · exact h'
  · rw [Array.getElem?_eq_none h'] at h; cases h
theorem SixIs.below {w w' : World} (h : SixIs w) (hb : Below w.heap.size w w') : SixIs w' := by
  have := h.lt
  obtain ⟨t, fr, h⟩ := h
  exact ⟨t, fr, (hb.block _ this).trans h⟩

theorem six_any (w : World) (h : SixIs w) :
    Calls Tryd.prog 70 #[] w fun e w' => e = .returned (.agg sixCells) ∧ Below w.heap.size w w' := by
  have hlt := h.lt
  obtain ⟨tt, fr, hg⟩ := h
  have c0 : w.cell? ⟨1, 0, none⟩ = some (.int .i64 (1)) := by simp [World.cell?, hg, sixCells]
  have c1 : w.cell? ⟨1, 1, none⟩ = some (.int .i64 (0)) := by simp [World.cell?, hg, sixCells]
  have c2 : w.cell? ⟨1, 2, none⟩ = some (.int .i64 (0)) := by simp [World.cell?, hg, sixCells]
  have c3 : w.cell? ⟨1, 3, none⟩ = some (.int .i64 (1)) := by simp [World.cell?, hg, sixCells]
  have c4 : w.cell? ⟨1, 4, none⟩ = some (.int .i64 (-1)) := by simp [World.cell?, hg, sixCells]
  have c5 : w.cell? ⟨1, 5, none⟩ = some (.int .i64 (1)) := by simp [World.cell?, hg, sixCells]
  have c6 : w.cell? ⟨1, 6, none⟩ = some (.int .i64 (-1)) := by simp [World.cell?, hg, sixCells]
  have c7 : w.cell? ⟨1, 7, none⟩ = some (.int .i64 (0)) := by simp [World.cell?, hg, sixCells]
  have c8 : w.cell? ⟨1, 8, none⟩ = some (.int .i64 (0)) := by simp [World.cell?, hg, sixCells]
  have c9 : w.cell? ⟨1, 9, none⟩ = some (.int .i64 (-1)) := by simp [World.cell?, hg, sixCells]
  have c10 : w.cell? ⟨1, 10, none⟩ = some (.int .i64 (1)) := by simp [World.cell?, hg, sixCells]
  have c11 : w.cell? ⟨1, 11, none⟩ = some (.int .i64 (-1)) := by simp [World.cell?, hg, sixCells]
  clear hg
  go_enter Tryd.func70, Tryd.ntmps70
  go_wp2
  exact bodyPost_ret (v := .agg sixCells) (by simp [results, Tryd.results70, go_sem, sixCells]) rfl ⟨rfl, by go_grown⟩

end Go.Proofs.YtcmfkdhadmfgkaaDoor.Ax
