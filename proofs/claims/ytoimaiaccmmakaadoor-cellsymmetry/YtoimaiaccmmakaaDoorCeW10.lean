/- The document's own On of a cell, by its corners. -/
import Derived.Test.YtoimaiaccmmakaaDoorCeW8
import Derived.Test.YtoimaiaccmmakaaDoorCeW9
import Derived.BigQuiet
import Derived.Deep.QuietTactic
import Derived.IntWalk
namespace Go.Proofs.YtoimaiaccmmakaaDoor.Ce
open Go.RowKit Go.Proofs.YtoimaiaccmmakaaDoor.Ax

theorem tnL_bd (k : Nat) (a b : Int) (hk : k ≤ 6) (ha : -4398046511104 ≤ a ∧ a ≤ 4398046511104) (hb : -4398046511104 ≤ b ∧ b ≤ 4398046511104) :
    (-8796093022208 ≤ (tn k a b).1 ∧ (tn k a b).1 ≤ 8796093022208) ∧ (-8796093022208 ≤ (tn k a b).2 ∧ (tn k a b).2 ≤ 8796093022208) := by
  have : k = 0 ∨ k = 1 ∨ k = 2 ∨ k = 3 ∨ k = 4 ∨ k = 5 ∨ k = 6 := by omega
  rcases this with rfl | rfl | rfl | rfl | rfl | rfl | rfl <;> simp only [tn] <;> omega
def Cor (w : World) (B X : Nat) (x0 y0 x1 y1 x2 y2 : Int) : Prop :=
  ∃ g0 g1 g2 : Nat, (w.cell? ⟨X, 0, none⟩ = some (.slice (some ⟨g0, 0, none⟩) 2 2) ∧ w.cell? ⟨X, 1, none⟩ = some (.slice (some ⟨g1, 0, none⟩) 2 2) ∧ w.cell? ⟨X, 2, none⟩ = some (.slice (some ⟨g2, 0, none⟩) 2 2) ∧ X < w.heap.size) ∧
    (w.cell? ⟨g0, 0, none⟩ = some (.int .i64 x0) ∧ w.cell? ⟨g0, 1, none⟩ = some (.int .i64 y0) ∧ g0 < w.heap.size) ∧ (w.cell? ⟨g1, 0, none⟩ = some (.int .i64 x1) ∧ w.cell? ⟨g1, 1, none⟩ = some (.int .i64 y1) ∧ g1 < w.heap.size) ∧ (w.cell? ⟨g2, 0, none⟩ = some (.int .i64 x2) ∧ w.cell? ⟨g2, 1, none⟩ = some (.int .i64 y2) ∧ g2 < w.heap.size) ∧
    B ≤ X ∧ B ≤ g0 ∧ B ≤ g1 ∧ B ≤ g2
theorem Cor.below {w w' : World} {B X : Nat} {x0 y0 x1 y1 x2 y2 : Int} (h : Cor w B X x0 y0 x1 y1 x2 y2) (hb : Below w.heap.size w w') : Cor w' B X x0 y0 x1 y1 x2 y2 := by
  obtain ⟨g0, g1, g2, ⟨a0, a1, a2, al⟩, ⟨b0, b1, bl⟩, ⟨c0, c1, cl⟩, ⟨d0, d1, dl⟩, hB⟩ := h
  have hz := hb.size
  exact ⟨g0, g1, g2, ⟨(hb.cell (p := ⟨X, 0, none⟩) al).trans a0, (hb.cell (p := ⟨X, 1, none⟩) al).trans a1, (hb.cell (p := ⟨X, 2, none⟩) al).trans a2, by omega⟩,
    ⟨(hb.cell (p := ⟨g0, 0, none⟩) bl).trans b0, (hb.cell (p := ⟨g0, 1, none⟩) bl).trans b1, by omega⟩, ⟨(hb.cell (p := ⟨g1, 0, none⟩) cl).trans c0, (hb.cell (p := ⟨g1, 1, none⟩) cl).trans c1, by omega⟩, ⟨(hb.cell (p := ⟨g2, 0, none⟩) dl).trans d0, (hb.cell (p := ⟨g2, 1, none⟩) dl).trans d1, by omega⟩, hB⟩
theorem Cor.far {w : World} {B X T i : Nat} {x0 y0 x1 y1 x2 y2 : Int} (h : Cor w B X x0 y0 x1 y1 x2 y2) (hT : T < B) (v : Value) : Cor (w.setCell ⟨T, i, none⟩ v) B X x0 y0 x1 y1 x2 y2 := by
  obtain ⟨g0, g1, g2, ⟨a0, a1, a2, al⟩, ⟨b0, b1, bl⟩, ⟨c0, c1, cl⟩, ⟨d0, d1, dl⟩, hB⟩ := h
  have e : (w.setCell ⟨T, i, none⟩ v).heap.size = w.heap.size := by simp [World.setCell]
  refine ⟨g0, g1, g2, ⟨?_, ?_, ?_, by omega⟩, ⟨?_, ?_, by omega⟩, ⟨?_, ?_, by omega⟩, ⟨?_, ?_, by omega⟩, hB⟩
  · exact (World.cell?_setCell_far _ _ _ _ (show T ≠ X by omega)).trans a0
  · exact (World.cell?_setCell_far _ _ _ _ (show T ≠ X by omega)).trans a1
  · exact (World.cell?_setCell_far _ _ _ _ (show T ≠ X by omega)).trans a2
  · exact (World.cell?_setCell_far _ _ _ _ (show T ≠ g0 by omega)).trans b0
  · exact (World.cell?_setCell_far _ _ _ _ (show T ≠ g0 by omega)).trans b1
  · exact (World.cell?_setCell_far _ _ _ _ (show T ≠ g1 by omega)).trans c0
  · exact (World.cell?_setCell_far _ _ _ _ (show T ≠ g1 by omega)).trans c1
  · exact (World.cell?_setCell_far _ _ _ _ (show T ≠ g2 by omega)).trans d0
  · exact (World.cell?_setCell_far _ _ _ _ (show T ≠ g2 by omega)).trans d1
def CorPost (w : World) (x0 y0 x1 y1 x2 y2 : Int) (e : Ending) (w' : World) : Prop := ∃ X, e = .returned (.slice (some ⟨X, 0, none⟩) 3 3) ∧ Cor w' w.heap.size X x0 y0 x1 y1 x2 y2 ∧ Below w.heap.size w w'
theorem refcorners_any (a b h : Int) (w : World) (a0 : -8796093022208 ≤ a ∧ a ≤ 8796093022208) (b0 : -8796093022208 ≤ b ∧ b ≤ 8796093022208) :
    Calls Tryd.prog 35 #[Ce a b h] w (CorPost w (a + cX h 0) (b + cY h 0) (a + cX h 1) (b + cY h 1) (a + cX h 2) (b + cY h 2)) := by
  obtain ⟨a1, a2⟩ := a0
  obtain ⟨b1, b2⟩ := b0
  by_cases h0 : h = 0
  · subst h0
    go_enter Tryd.func35, Tryd.ntmps35
    go_wp2
    go_ret
    exact ⟨w.heap.size + 1 + 1 + 1 + 1, rfl, ⟨w.heap.size + 1, w.heap.size + 1 + 1, w.heap.size + 1 + 1 + 1, by simp [go_sem, cX, cY]; omega⟩, by go_grown⟩
  · have h' : (h == 0) = false := by simpa using h0
    have H0 := Lib.hid h0
    clear h0
    go_enter Tryd.func35, Tryd.ntmps35
    go_wp2
    go_ret
    exact ⟨w.heap.size + 1 + 1 + 1 + 1, rfl, ⟨w.heap.size + 1, w.heap.size + 1 + 1, w.heap.size + 1 + 1 + 1, by simp [go_sem, cX, cY, H0.out]; omega⟩, by go_grown⟩
theorem tt_bd : ∀ o : Fin 12, ∀ h ∈ [(0 : Int), 1], ((-2 ≤ tA o.val h ∧ tA o.val h ≤ 2) ∧ (-2 ≤ tB o.val h ∧ tB o.val h ≤ 2)) ∧ (tH o.val h = 0 ∨ tH o.val h = 1) := by decide +kernel
theorem tt_bd' (o h : Int) (h0 : 0 ≤ o) (h1 : o < 12) (hh : h = 0 ∨ h = 1) : ((-2 ≤ tA o h ∧ tA o h ≤ 2) ∧ (-2 ≤ tB o h ∧ tB o h ≤ 2)) ∧ (tH o h = 0 ∨ tH o h = 1) := by
  have := tt_bd ⟨o.toNat, by omega⟩ h (by rcases hh with rfl | rfl <;> simp)
  simp only [Int.toNat_of_nonneg h0] at this
  exact this
/-- The least of the first k; their sum. -/
def lowN (x0 x1 x2 : Int) : Nat → Int
  | 0 => 1152921504606846976
  | 1 => x0
  | 2 => if x1 < x0 then x1 else x0
  | _ => mn3 x0 x1 x2
def sumN (x0 y0 x1 y1 x2 y2 : Int) : Nat → Int
  | 0 => 0
  | 1 => x0 + y0
  | 2 => x0 + y0 + (x1 + y1)
  | _ => x0 + y0 + (x1 + y1) + (x2 + y2)
def ROn (w : World) (X T : Nat) (c0 d0 c1 d1 c2 d2 x0 y0 x1 y1 x2 y2 : Int) (s i : Value) (wr : World) : Prop :=
  ∃ k : Nat, k ≤ 3 ∧ i = .int .i64 k ∧ s = .int .i64 (sumN x0 y0 x1 y1 x2 y2 k) ∧ Below w.heap.size w wr ∧ Cor wr (T + 1) X c0 d0 c1 d1 c2 d2 ∧ Blk wr T 2 #[.int .i64 (lowN x0 x1 x2 k), .int .i64 (lowN y0 y1 y2 k)] ∧ Box3 (w.heap.size + 1) wr 0 0 0 ∧ w.heap.size + 1 < T
theorem half_fin : ∀ o : Fin 12, ∀ h ∈ [(0 : Int), 1], (2 < sumN (opA o.val (cX h 0) (cY h 0)) (opB o.val (cX h 0) (cY h 0)) (opA o.val (cX h 1) (cY h 1)) (opB o.val (cX h 1) (cY h 1)) (opA o.val (cX h 2) (cY h 2)) (opB o.val (cX h 2) (cY h 2)) 3 - 3 * (tA o.val h + tB o.val h) ∧ tH o.val h = 1) ∨ (¬ 2 < sumN (opA o.val (cX h 0) (cY h 0)) (opB o.val (cX h 0) (cY h 0)) (opA o.val (cX h 1) (cY h 1)) (opB o.val (cX h 1) (cY h 1)) (opA o.val (cX h 2) (cY h 2)) (opB o.val (cX h 2) (cY h 2)) 3 - 3 * (tA o.val h + tB o.val h) ∧ tH o.val h = 0) := by decide +kernel
theorem half_of (o a b h : Int) (h0 : 0 ≤ o) (h1 : o < 12) (hh : h = 0 ∨ h = 1) :
    (2 < sumN (opA o (a + cX h 0) (b + cY h 0)) (opB o (a + cX h 0) (b + cY h 0)) (opA o (a + cX h 1) (b + cY h 1)) (opB o (a + cX h 1) (b + cY h 1)) (opA o (a + cX h 2) (b + cY h 2)) (opB o (a + cX h 2) (b + cY h 2)) 3 - 3 * (opA o a b + tA o h + (opB o a b + tB o h)) ∧ tH o h = 1) ∨
    (¬ 2 < sumN (opA o (a + cX h 0) (b + cY h 0)) (opB o (a + cX h 0) (b + cY h 0)) (opA o (a + cX h 1) (b + cY h 1)) (opB o (a + cX h 1) (b + cY h 1)) (opA o (a + cX h 2) (b + cY h 2)) (opB o (a + cX h 2) (b + cY h 2)) 3 - 3 * (opA o a b + tA o h + (opB o a b + tB o h)) ∧ tH o h = 0) := by
  have := half_fin ⟨o.toNat, by omega⟩ h (by rcases hh with rfl | rfl <;> simp)
  simp only [Int.toNat_of_nonneg h0] at this
  simp only [(op_sum o a b _ _).1, (op_sum o a b _ _).2, sumN] at this ⊢
  omega
end Go.Proofs.YtoimaiaccmmakaaDoor.Ce
