/- The document's own corners; what a cell is told as (as in CellW9 and CellW10, over fewer texts). -/
import Derived.Test.YtcmfkdhadmfgkaaDoorCeLat
import Derived.Test.YtcmfkdhadmfgkaaDoorCeW5
import Derived.BigQuiet
import Derived.Deep.QuietTactic
import Derived.Deep.RegionHeld3
import Derived.Deep.AppendLies
import Derived.IntWalk
namespace Go.Proofs.YtcmfkdhadmfgkaaDoor.Ce
open Go.RowKit Go.Proofs.YtcmfkdhadmfgkaaDoor.Ax

def Cor (w : World) (B X : Nat) (x0 y0 x1 y1 x2 y2 : Int) : Prop :=
  ∃ g0 g1 g2 : Nat, (w.cell? ⟨X, 0, none⟩ = some (.slice (some ⟨g0, 0, none⟩) 2 2) ∧ w.cell? ⟨X, 1, none⟩ = some (.slice (some ⟨g1, 0, none⟩) 2 2) ∧ w.cell? ⟨X, 2, none⟩ = some (.slice (some ⟨g2, 0, none⟩) 2 2) ∧ X < w.heap.size) ∧
    (w.cell? ⟨g0, 0, none⟩ = some (.int .i64 x0) ∧ w.cell? ⟨g0, 1, none⟩ = some (.int .i64 y0) ∧ g0 < w.heap.size) ∧ (w.cell? ⟨g1, 0, none⟩ = some (.int .i64 x1) ∧ w.cell? ⟨g1, 1, none⟩ = some (.int .i64 y1) ∧ g1 < w.heap.size) ∧ (w.cell? ⟨g2, 0, none⟩ = some (.int .i64 x2) ∧ w.cell? ⟨g2, 1, none⟩ = some (.int .i64 y2) ∧ g2 < w.heap.size) ∧
    B ≤ X ∧ B ≤ g0 ∧ B ≤ g1 ∧ B ≤ g2
theorem Cor.below {w w' : World} {B X : Nat} {x0 y0 x1 y1 x2 y2 : Int} (h : Cor w B X x0 y0 x1 y1 x2 y2) (hb : Below w.heap.size w w') : Cor w' B X x0 y0 x1 y1 x2 y2 := by
  obtain ⟨g0, g1, g2, ⟨a0, a1, a2, al⟩, ⟨b0, b1, bl⟩, ⟨c0, c1, cl⟩, ⟨d0, d1, dl⟩, hB⟩ := h
  have hz := hb.size
  exact ⟨g0, g1, g2, ⟨(hb.cell (p := ⟨X, 0, none⟩) al).trans a0, (hb.cell (p := ⟨X, 1, none⟩) al).trans a1, (hb.cell (p := ⟨X, 2, none⟩) al).trans a2, by omega⟩,
    ⟨(hb.cell (p := ⟨g0, 0, none⟩) bl).trans b0, (hb.cell (p := ⟨g0, 1, none⟩) bl).trans b1, by omega⟩, ⟨(hb.cell (p := ⟨g1, 0, none⟩) cl).trans c0, (hb.cell (p := ⟨g1, 1, none⟩) cl).trans c1, by omega⟩, ⟨(hb.cell (p := ⟨g2, 0, none⟩) dl).trans d0, (hb.cell (p := ⟨g2, 1, none⟩) dl).trans d1, by omega⟩, hB⟩
theorem Cor.far {w : World} {B X T i : Nat} {x0 y0 x1 y1 x2 y2 : Int} (h : Cor w B X x0 y0 x1 y1 x2 y2) (hT : T < B) (v : Value) : Cor (w.setCell ⟨T, i, none⟩ v) B X x0 y0 x1 y1 x2 y2 := by
  obtain ⟨g0, g1, g2, ⟨a0, a1, a2, al⟩, ⟨b0, b1, bl⟩, ⟨c0, c1, cl⟩, ⟨d0, d1, dl⟩, hB⟩ := h
  have e : (w.setCell ⟨T, i, none⟩ v).heap.size = w.heap.size := by simp [World.setCell]
  refine ⟨g0, g1, g2, ⟨?_, ?_, ?_, by omega⟩, ⟨?_, ?_, by omega⟩, ⟨?_, ?_, by omega⟩, ⟨?_, ?_, by omega⟩, hB⟩
  · exact (World.cell?_setCell_far _ _ _ _ (show T ≠ X by omega)).trans a0
  · exact (World.cell?_setCell_far _ _ _ _ (show T ≠ X by omega)).trans a1
  · exact (World.cell?_setCell_far _ _ _ _ (show T ≠ X by omega)).trans a2
  · exact (World.cell?_setCell_far _ _ _ _ (show T ≠ g0 by omega)).trans b0
  · exact (World.cell?_setCell_far _ _ _ _ (show T ≠ g0 by omega)).trans b1
  · exact (World.cell?_setCell_far _ _ _ _ (show T ≠ g1 by omega)).trans c0
  · exact (World.cell?_setCell_far _ _ _ _ (show T ≠ g1 by omega)).trans c1
  · exact (World.cell?_setCell_far _ _ _ _ (show T ≠ g2 by omega)).trans d0
  · exact (World.cell?_setCell_far _ _ _ _ (show T ≠ g2 by omega)).trans d1
def CorPost (w : World) (x0 y0 x1 y1 x2 y2 : Int) (e : Ending) (w' : World) : Prop := ∃ X, e = .returned (.slice (some ⟨X, 0, none⟩) 3 3) ∧ Cor w' w.heap.size X x0 y0 x1 y1 x2 y2 ∧ Below w.heap.size w w'
theorem refcorners_any (a b h : Int) (w : World) (a0 : -8796093022208 ≤ a ∧ a ≤ 8796093022208) (b0 : -8796093022208 ≤ b ∧ b ≤ 8796093022208) :
    Calls Tryd.prog 93 #[Ce a b h] w (CorPost w (a + cX h 0) (b + cY h 0) (a + cX h 1) (b + cY h 1) (a + cX h 2) (b + cY h 2)) := by
  obtain ⟨a1, a2⟩ := a0
  obtain ⟨b1, b2⟩ := b0
  by_cases h0 : h = 0
  · subst h0
    go_enter Tryd.func93, Tryd.ntmps93
    go_wp2
    go_ret
    exact ⟨w.heap.size + 1 + 1 + 1 + 1, rfl, ⟨w.heap.size + 1, w.heap.size + 1 + 1, w.heap.size + 1 + 1 + 1, by simp [go_sem, cX, cY]; omega⟩, by go_grown⟩
  · have h' : (h == 0) = false := by simpa using h0
    have H0 := Lib.hid h0
    clear h0
    go_enter Tryd.func93, Tryd.ntmps93
    go_wp2
    go_ret
    exact ⟨w.heap.size + 1 + 1 + 1 + 1, rfl, ⟨w.heap.size + 1, w.heap.size + 1 + 1, w.heap.size + 1 + 1 + 1, by simp [go_sem, cX, cY, H0.out]; omega⟩, by go_grown⟩
def Box3 (B : Nat) (w : World) (x y z : Int) : Prop := (w.cell? ⟨B, 0, none⟩ = some (.int .i64 x) ∧ w.cell? ⟨B, 1, none⟩ = some (.int .i64 y) ∧ w.cell? ⟨B, 2, none⟩ = some (.int .i64 z)) ∧ (w.frozen? ⟨B, 0, none⟩ = false ∧ w.frozen? ⟨B, 1, none⟩ = false ∧ w.frozen? ⟨B, 2, none⟩ = false) ∧ B < w.heap.size
theorem box3_below {B : Nat} {W w1 : World} {x y z : Int} (h : Box3 B W x y z) (hb : Below W.heap.size W w1) : Box3 B w1 x y z := by
  obtain ⟨⟨h1, h2, h3⟩, ⟨h4, h5, h6⟩, h7⟩ := h
  exact ⟨⟨(hb.cell (p := ⟨B, 0, none⟩) h7).trans h1, (hb.cell (p := ⟨B, 1, none⟩) h7).trans h2, (hb.cell (p := ⟨B, 2, none⟩) h7).trans h3⟩, ⟨(hb.frozen (p := ⟨B, 0, none⟩) h7).trans h4, (hb.frozen (p := ⟨B, 1, none⟩) h7).trans h5, (hb.frozen (p := ⟨B, 2, none⟩) h7).trans h6⟩, Nat.lt_of_lt_of_le h7 hb.size⟩
/-- A triangle's point and half, of its corners in any order. -/
theorem told_any (a b h : Int) (w : World) :
    Calls Tryd.prog 29 #[Ce a b h] w fun e w' => e = .returned (Ce a b h) ∧ Below w.heap.size w w' := by
  go_enter Tryd.func29, Tryd.ntmps29
  go_wp2
  exact bodyPost_ret (v := Ce a b h) (by simp [results, Tryd.results29, go_sem, *]) rfl ⟨rfl, by go_grown⟩
end Go.Proofs.YtcmfkdhadmfgkaaDoor.Ce
