/- Operators behind one another on cells: the mathematics (as in CellS1, over fewer texts). -/
import Derived.Test.YtkejniadapnofaaCeOn
namespace Go.Proofs.Ytkejniadapnofaa.Ce
open Go.RowKit Go.Proofs.Ytkejniadapnofaa.Ax

/-! Operators on cells. -/
def onC (l o : Int) (d : C) : C := (onA l o d.1 d.2.1 d.2.2, onB l o d.1 d.2.1 d.2.2, onH l o d.2.2)
theorem onC_shift (l o a b : Int) (d : C) : onC l o (sh a b d) = sh (opA o a b) (opB o a b) (onC l o d) := by
  obtain ⟨x, y, z⟩ := d
  have h := op_sum o a b x y
  unfold onC sh onA onB
  dsimp only
  rw [h.1, h.2]
  split
  · rfl
  · simp only [Prod.mk.injEq, and_true]; omega
theorem onC_at (l o a b h : Int) : onC l o (a, b, h) = sh (opA o a b) (opB o a b) (onC l o (0, 0, h)) := by
  have := onC_shift l o a b (0, 0, h)
  simpa [sh] using this
theorem cthen_fin : ∀ o p : Fin 12, (opA p.val (opA o.val 1 0) (opB o.val 1 0) = opA (thenV o.val p.val) 1 0 ∧ opB p.val (opA o.val 1 0) (opB o.val 1 0) = opB (thenV o.val p.val) 1 0) ∧ (opA p.val (opA o.val 0 1) (opB o.val 0 1) = opA (thenV o.val p.val) 0 1 ∧ opB p.val (opA o.val 0 1) (opB o.val 0 1) = opB (thenV o.val p.val) 0 1) := by decide +kernel
theorem cop_then (o p a b : Int) (o0 : 0 ≤ o) (o1 : o < 12) (p0 : 0 ≤ p) (p1 : p < 12) : opA (thenV o p) a b = opA p (opA o a b) (opB o a b) ∧ opB (thenV o p) a b = opB p (opA o a b) (opB o a b) := by
  have h := cthen_fin ⟨o.toNat, by omega⟩ ⟨p.toNat, by omega⟩
  simp only [Int.toNat_of_nonneg o0, Int.toNat_of_nonneg p0] at h
  obtain ⟨⟨h1, h2⟩, h3, h4⟩ := h
  have e1 := op_lin (thenV o p) a b
  have e2 := op_lin o a b
  have e3 := op_lin p (opA o a b) (opB o a b)
  have e4 := op_lin p (opA o 1 0) (opB o 1 0)
  have e5 := op_lin p (opA o 0 1) (opB o 0 1)
  generalize opA o a b = u at *
  generalize opB o a b = v at *
  grind
theorem then_fin : ∀ l ∈ [(1 : Int), 2, 3], ∀ h ∈ [(0 : Int), 1], h < halvesV l → ∀ o p : Fin 12, onC l p.val (onC l o.val (0, 0, h)) = onC l (thenV o.val p.val) (0, 0, h) := by decide +kernel
theorem back_fin : ∀ l ∈ [(1 : Int), 2, 3], ∀ h ∈ [(0 : Int), 1], h < halvesV l → ∀ o : Fin 12, onC l (backV o.val) (onC l o.val (0, 0, h)) = (0, 0, h) := by decide +kernel
theorem bop_fin : ∀ o : Fin 12, ((0 ≤ backV o.val ∧ backV o.val < 12) ∧ thenV o.val (backV o.val) = 0) ∧ ∀ p : Fin 12, 0 ≤ thenV o.val p.val ∧ thenV o.val p.val < 12 := by decide +kernel
theorem bop_of (o : Int) (o0 : 0 ≤ o) (o1 : o < 12) : (0 ≤ backV o ∧ backV o < 12) ∧ thenV o (backV o) = 0 := by
  have h := (bop_fin ⟨o.toNat, by omega⟩).1
  simp only [Int.toNat_of_nonneg o0] at h
  exact h
theorem then_bd (o p : Int) (o0 : 0 ≤ o) (o1 : o < 12) (p0 : 0 ≤ p) (p1 : p < 12) : 0 ≤ thenV o p ∧ thenV o p < 12 := by
  have h := (bop_fin ⟨o.toNat, by omega⟩).2 ⟨p.toNat, by omega⟩
  simp only [Int.toNat_of_nonneg o0, Int.toNat_of_nonneg p0] at h
  exact h
theorem mem3 {l : Int} (hl : l = 1 ∨ l = 2 ∨ l = 3) : l ∈ [(1 : Int), 2, 3] := by simpa using hl
theorem mem2 {l h : Int} (h0 : 0 ≤ h) (h1 : h < halvesV l) : h ∈ [(0 : Int), 1] := by
  unfold halvesV at h1
  have : h = 0 ∨ h = 1 := by split at h1 <;> omega
  simpa using this
/-- Two operators as one. -/
theorem on_then (l o p a b h : Int) (hl : l = 1 ∨ l = 2 ∨ l = 3) (h0 : 0 ≤ h) (h1 : h < halvesV l) (o0 : 0 ≤ o) (o1 : o < 12) (p0 : 0 ≤ p) (p1 : p < 12) :
    onC l p (onC l o (a, b, h)) = onC l (thenV o p) (a, b, h) := by
  have hf := then_fin l (mem3 hl) h (mem2 h0 h1) h1 ⟨o.toNat, by omega⟩ ⟨p.toNat, by omega⟩
  simp only [Int.toNat_of_nonneg o0, Int.toNat_of_nonneg p0] at hf
  rw [onC_at l o, onC_shift, hf, onC_at l (thenV o p) a b h, (cop_then o p a b o0 o1 p0 p1).1, (cop_then o p a b o0 o1 p0 p1).2]
/-- There and back. -/
theorem on_back (l o a b h : Int) (hl : l = 1 ∨ l = 2 ∨ l = 3) (h0 : 0 ≤ h) (h1 : h < halvesV l) (o0 : 0 ≤ o) (o1 : o < 12) :
    onC l (backV o) (onC l o (a, b, h)) = (a, b, h) := by
  have hf := back_fin l (mem3 hl) h (mem2 h0 h1) h1 ⟨o.toNat, by omega⟩
  simp only [Int.toNat_of_nonneg o0] at hf
  obtain ⟨⟨b0, b1⟩, b2⟩ := bop_of o o0 o1
  have hc := cop_then o (backV o) a b o0 o1 b0 b1
  rw [b2] at hc
  have e1 : opA 0 a b = a := by simp [opA, tn]
  have e2 : opB 0 a b = b := by simp [opB, tn]
  rw [onC_at l o, onC_shift, hf, ← hc.1, ← hc.2, e1, e2]
  simp [sh]
theorem onC_sm (l o : Int) (o0 : 0 ≤ o) (o1 : o < 12) (a b h : Int) (hh : h = 0 ∨ h = 1) (M : Int) (ha : -M ≤ a ∧ a ≤ M) (hb : -M ≤ b ∧ b ≤ M) :
    (-(2 * M + 2) ≤ onA l o a b h ∧ onA l o a b h ≤ 2 * M + 2) ∧ (-(2 * M + 2) ≤ onB l o a b h ∧ onB l o a b h ≤ 2 * M + 2) ∧ 0 ≤ onH l o h ∧ onH l o h < halvesV l := by
  have hz := op_size o a b M ha.1 ha.2 hb.1 hb.2
  have ht := t_bd' o h o0 o1 hh
  unfold onA onB onH halvesV
  split <;> omega
end Go.Proofs.Ytkejniadapnofaa.Ce
