
/- The document's own Beside. -/
import Derived.Test.YtcmfkdhadmfgkaaDoorCeW12
namespace Go.Proofs.YtcmfkdhadmfgkaaDoor.Ce
open Go.RowKit Go.Proofs.YtcmfkdhadmfgkaaDoor.Ax

/-- The n-th cell at the twenty-five points around a point; those of the first n that are near. -/
def cr (a b : Int) (n : Nat) : C := (a - 2 + ((n / 2 % 5 : Nat) : Int), b - 2 + ((n / 10 : Nat) : Int), ((n % 2 : Nat) : Int))
def selB (l a b h : Int) (d : C) : Bool := (decide (1 < l) || d.2.2 == 0) && nearB l a b h d.1 d.2.1 d.2.2
def rb (l a b h : Int) (n : Nat) : List C := ((List.range n).map (cr a b)).filter (selB l a b h)
theorem cr_at (a b : Int) (i j m : Nat) (hj : j < 5) (hm : m < 2) : cr a b (i * 10 + j * 2 + m) = (a - 2 + (j : Int), b - 2 + (i : Int), (m : Int)) := by
  unfold cr
  simp only [Prod.mk.injEq]
  omega
theorem cr_shift (a b : Int) (n : Nat) : cr a b n = sh a b (cr 0 0 n) := by
  unfold cr sh
  simp only [Prod.mk.injEq, and_true]
  omega
theorem sel_shift (l a b h : Int) (d : C) : selB l a b h (sh a b d) = selB l 0 0 h d := by
  unfold selB sh
  dsimp only
  rw [nearB_shift]
theorem rb_yes (l a b h : Int) (n : Nat) (ht : selB l a b h (cr a b n) = true) : rb l a b h (n + 1) = rb l a b h n ++ [cr a b n] := by
  simp [rb, List.range_succ, List.filter_append, ht]
theorem rb_no (l a b h : Int) (n : Nat) (ht : selB l a b h (cr a b n) = false) : rb l a b h (n + 1) = rb l a b h n := by
  simp [rb, List.range_succ, List.filter_append, ht]
theorem rb_shift (l a b h : Int) (n : Nat) : rb l a b h n = (rb l 0 0 h n).map (sh a b) := by
  induction n with
  | zero => rfl
  | succ n ih =>
    have e : selB l a b h (cr a b n) = selB l 0 0 h (cr 0 0 n) := by rw [cr_shift]; exact sel_shift ..
    cases ht : selB l 0 0 h (cr 0 0 n)
    · rw [rb_no _ _ _ _ _ ht, rb_no _ _ _ _ _ (e.trans ht), ih]
    · rw [rb_yes _ _ _ _ _ ht, rb_yes _ _ _ _ _ (e.trans ht), ih, List.map_append, cr_shift]; rfl
theorem rb_len (l a b h : Int) (n : Nat) : (rb l a b h n).length ≤ n := by
  unfold rb; exact Nat.le_trans (List.length_filter_le _ _) (by simp)
theorem rb_fin : ∀ l ∈ [(1 : Int), 2, 3], ∀ h ∈ [(0 : Int), 1], h < (if l = 1 then 1 else 2) → rb l 0 0 h 50 = besAll l 0 0 h := by decide +kernel
theorem rb_all {l a b h : Int} (hl : l = 1 ∨ l = 2 ∨ l = 3) (h0 : 0 ≤ h) (h1 : h < halvesV l) : rb l a b h 50 = besAll l a b h := by
  have hh : h = 0 ∨ h = 1 := by unfold halvesV at h1; split at h1 <;> omega
  rw [rb_shift, besAll_shift, rb_fin l (by rcases hl with rfl | rfl | rfl <;> simp) h (by rcases hh with rfl | rfl <;> simp) h1]
def RbRel (w : World) (B0 : Nat) (l a b h : Int) (n : Nat) (v f : Value) (wq : World) : Prop :=
  f = .bool (allG (rb l a b h n)) ∧ wq.ownsRow B0 67 3 v (rb l a b h n).length (flat (rb l a b h n)) ∧ Below w.heap.size w wq ∧ Blk wq w.heap.size 67 #[.int .i64 a, .int .i64 b, .int .i64 h] ∧ B0 ≤ wq.heap.size
def Rb1 (w : World) (B0 : Nat) (l a b h : Int) (v f y : Value) (wq : World) : Prop := ∃ i : Nat, i ≤ 5 ∧ y = .int .i64 (b - 2 + (i : Int)) ∧ RbRel w B0 l a b h (i * 10) v f wq
def Rb2 (w : World) (B0 : Nat) (l a b h : Int) (i : Nat) (v f x : Value) (wq : World) : Prop := ∃ j : Nat, j ≤ 5 ∧ x = .int .i64 (a - 2 + (j : Int)) ∧ RbRel w B0 l a b h (i * 10 + j * 2) v f wq
def Rb3 (w : World) (B0 : Nat) (l a b h : Int) (i j : Nat) (v f z : Value) (wq : World) : Prop := ∃ m : Nat, m ≤ 2 ∧ z = .int .i64 (m : Int) ∧ RbRel w B0 l a b h (i * 10 + j * 2 + m) v f wq
theorem rcell_info : (Tryd.prog.info? 67).map (fun i => (i.zero, i.size, i.bytes)) = some (some (.agg #[.int .i64 0, .int .i64 0, .int .i64 0]), 3, 24) := by kernel_rfl
def RBesPost (w : World) (l a b h : Int) (e : Ending) (w' : World) : Prop :=
  ∃ v, e = .returned (.tuple #[v, .bool (allG (rb l a b h 50))]) ∧ w'.ownsRow w.heap.size 67 3 v (rb l a b h 50).length (flat (rb l a b h 50)) ∧ Below w.heap.size w w'
end Go.Proofs.YtcmfkdhadmfgkaaDoor.Ce
