/- The contract of the document's Check of a table. -/
import Derived.Test.YtjongkbjhiblmaaDoorTbC3
namespace Go.Proofs.YtjongkbjhiblmaaDoor.Tb
open Go.RowKit Go.Proofs.YtjongkbjhiblmaaDoor.Ba

abbrev tcells (l b0 b1 s0 s1 : Nat) : Array Value := #[.int .i64 l, .int .u64 b0, .int .u64 b1, .int .u64 s0, .int .u64 s1]
abbrev rcells (l g : Nat) : Array Value := #[.int .i64 l, .slice (some ⟨g, 1, none⟩) 2 2, .slice (some ⟨g, 3, none⟩) 2 2]
def RcPost (w : World) (bad : Bool) (e : Ending) (w' : World) : Prop := e = .returned (.int .i64 (if bad then 5 else 0)) ∧ Below w.heap.size w w'
/-- What stands in memory all the time. -/
def RcMem (w : World) (l b0 b1 s0 s1 g BX : Nat) (wr : World) : Prop :=
  Below w.heap.size w wr ∧ Blk wr g 30 (tcells l b0 b1 s0 s1) ∧ Blk wr BX 45 (rcells l g)
def RcM (w : World) (l b0 b1 s0 s1 g BX : Nat) (v : Value) (wr : World) : Prop := v = .int .i64 (mostOf l) ∧ RcMem w l b0 b1 s0 s1 g BX wr
def RcO (w : World) (l b0 b1 s0 s1 g BX : Nat) (i : Value) (wr : World) : Prop :=
  ∃ h : Nat, h ≤ 2 ∧ i = .int .i64 h ∧ (1 ≤ h → wrongH (nbv l 0) b0 s0 = false) ∧ (2 ≤ h → wrongH (nbv l 1) b1 s1 = false) ∧ RcMem w l b0 b1 s0 s1 g BX wr
def RcI (w : World) (l b0 b1 s0 s1 g BX m b s : Nat) (i : Value) (wr : World) : Prop :=
  ∃ n : Nat, n ≤ 64 ∧ i = .int .i64 n ∧ (∀ k, k < n → badAt m b s k = false) ∧ RcMem w l b0 b1 s0 s1 g BX wr
def RcT (w : World) (l b0 b1 s0 s1 g BX : Nat) (t : Bool) (v : Value) (wr : World) : Prop := v = .bool t ∧ RcMem w l b0 b1 s0 s1 g BX wr
theorem bitB_int (x n : Nat) : ((x / 2 ^ n % 2 : Nat) : Int) = if bitB x n then 1 else 0 := by
  unfold bitB
  have : x / 2 ^ n % 2 = 0 ∨ x / 2 ^ n % 2 = 1 := by omega
  rcases this with h | h <;> simp [h]
theorem bit_yes (x n : Nat) (hx : x < 2 ^ 64) (hn : n ≤ 64) (b : Bool) (h : bitB x n = b) (w : World) :
    Calls Tryd.prog 38 #[.int .u64 x, .int .i64 n] w fun e w' => e = .returned (.int .i64 (if b then 1 else 0)) ∧ w = w' := by
  have := bit_any x n hx hn w
  rw [bitB_int, h] at this
  exact this
theorem bit_1 (x n : Nat) (hx : x < 2 ^ 64) (hn : n ≤ 64) (h : bitB x n = true) (w : World) :
    Calls Tryd.prog 38 #[.int .u64 x, .int .i64 n] w fun e w' => e = .returned (.int .i64 1) ∧ w = w' := bit_yes x n hx hn true h w
theorem bit_0 (x n : Nat) (hx : x < 2 ^ 64) (hn : n ≤ 64) (h : bitB x n = false) (w : World) :
    Calls Tryd.prog 38 #[.int .u64 x, .int .i64 n] w fun e w' => e = .returned (.int .i64 0) ∧ w = w' := bit_yes x n hx hn false h w
end Go.Proofs.YtjongkbjhiblmaaDoor.Tb
