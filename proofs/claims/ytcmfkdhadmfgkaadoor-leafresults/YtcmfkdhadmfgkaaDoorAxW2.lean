/- Contracts of the operators of package axis. -/
import Derived.Test.YtcmfkdhadmfgkaaDoorAxW1
import Derived.LoopTactic
namespace Go.Proofs.YtcmfkdhadmfgkaaDoor.Ax
open Go.RowKit

def lessB (a b c d : Int) : Bool := decide (b < d ∨ b = d ∧ a < c)
def swB (o : Int) : Bool := decide (6 ≤ o)
/-- So many turns of a point. -/
def tn : Nat → Int → Int → Int × Int
  | 0, a, b => (a, b)
  | k + 1, a, b => (-(tn k a b).2, (tn k a b).1 + (tn k a b).2)
theorem tn_bd (k : Nat) (a b : Int) (hk : k ≤ 6) (ha : -1099511627776 ≤ a ∧ a ≤ 1099511627776) (hb : -1099511627776 ≤ b ∧ b ≤ 1099511627776) :
    (-2199023255552 ≤ (tn k a b).1 ∧ (tn k a b).1 ≤ 2199023255552) ∧ (-2199023255552 ≤ (tn k a b).2 ∧ (tn k a b).2 ≤ 2199023255552) := by
  have : k = 0 ∨ k = 1 ∨ k = 2 ∨ k = 3 ∨ k = 4 ∨ k = 5 ∨ k = 6 := by omega
  rcases this with rfl | rfl | rfl | rfl | rfl | rfl | rfl <;> simp only [tn] <;> omega
/-- Where an operator brings a point. -/
def opA (o a b : Int) : Int := (tn (o % 6).toNat (if 6 ≤ o then b else a) (if 6 ≤ o then a else b)).1
def opB (o a b : Int) : Int := (tn (o % 6).toNat (if 6 ≤ o then b else a) (if 6 ≤ o then a else b)).2

/-- A point's box: its two cells, which may be written. -/
def Box2 (B : Nat) (w : World) (x y : Int) : Prop := w.cell? ⟨B, 0, none⟩ = some (.int .i64 x) ∧ w.cell? ⟨B, 1, none⟩ = some (.int .i64 y) ∧ w.frozen? ⟨B, 0, none⟩ = false ∧ w.frozen? ⟨B, 1, none⟩ = false ∧ B < w.heap.size
theorem box2_set {B : Nat} {w : World} {x y : Int} (h : Box2 B w x y) (x' y' : Int) : Box2 B ((w.setCell ⟨B, 0, none⟩ (.int .i64 x')).setCell ⟨B, 1, none⟩ (.int .i64 y')) x' y' := by
  obtain ⟨h1, h2, h3, h4, h5⟩ := h
  simp [Box2, go_sem, *]
theorem box2_below {B : Nat} {W w1 : World} {x y : Int} (h : Box2 B W x y) (hb : Below W.heap.size W w1) : Box2 B w1 x y := by
  obtain ⟨h1, h2, h3, h4, h5⟩ := h
  exact ⟨(hb.cell (p := ⟨B, 0, none⟩) h5).trans h1, (hb.cell (p := ⟨B, 1, none⟩) h5).trans h2, (hb.frozen (p := ⟨B, 0, none⟩) h5).trans h3, (hb.frozen (p := ⟨B, 1, none⟩) h5).trans h4, Nat.lt_of_lt_of_le h5 hb.size⟩
/-- What holds behind so many rounds of the turns' loop. -/
def OnRel (w : World) (T : Nat) (x y : Int) (i : Value) (wr : World) : Prop :=
  ∃ k : Nat, k ≤ T ∧ i = .int .i64 k ∧ Below w.heap.size w wr ∧ Box2 w.heap.size wr (tn k x y).1 (tn k x y).2 ∧ Box2 (w.heap.size + 1) wr 0 0

end Go.Proofs.YtcmfkdhadmfgkaaDoor.Ax
