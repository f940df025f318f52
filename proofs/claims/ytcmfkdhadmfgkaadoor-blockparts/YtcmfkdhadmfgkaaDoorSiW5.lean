/- Contract: Cells of a leaf. -/
import Derived.Test.YtcmfkdhadmfgkaaDoorSiW4
namespace Go.Proofs.YtcmfkdhadmfgkaaDoor.Si
open Go.RowKit Go.Proofs.YtcmfkdhadmfgkaaDoor.Ba Go.Proofs.YtcmfkdhadmfgkaaDoor.Se Go.Lib

/-- The cell of a leaf's bit. -/
def cAt (A B : Int) (k : Nat) : C := (A + (k : Int) / 2 % 4, B + (k : Int) / 2 / 4, (k : Int) % 2)
def CeR (w : World) (f : Nat) (A B : Int) (s rest : Value) (wr : World) : Prop :=
  ∃ (M : List Nat) (x : Nat), rest = .int .u32 x ∧ x < 4294967296 ∧ pos f 32 = M ++ pos x 32 ∧ wr.ownsRow (w.heap.size + 1) 72 3 s M.length (flat (M.map (cAt A B))) ∧ Blk wr w.heap.size 70 #[.int .i64 A, .int .i64 B] ∧ Below w.heap.size w wr
theorem pos_le (f : Nat) : (pos f 32).length ≤ 32 := by
  have : ∀ n, (pos f n).length ≤ n := by
    intro n
    induction n with
    | zero => simp [pos]
    | succ n ih => unfold pos; rw [List.length_append]; split <;> simp <;> omega
  exact this 32
end Go.Proofs.YtcmfkdhadmfgkaaDoor.Si
