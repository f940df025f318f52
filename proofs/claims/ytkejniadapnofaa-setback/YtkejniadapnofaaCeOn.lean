/- cell.On of a cell of small coordinates (as in CellHT, over fewer texts). -/
import Derived.Test.YtkejniadapnofaaCeW8
namespace Go.Proofs.Ytkejniadapnofaa.Ce
open Go.RowKit Go.Proofs.Ytkejniadapnofaa.Ax

theorem t_bd : ∀ o : Fin 12, ∀ h ∈ [(0 : Int), 1], ((-2 ≤ tA o.val h ∧ tA o.val h ≤ 2) ∧ (-2 ≤ tB o.val h ∧ tB o.val h ≤ 2)) ∧ (tH o.val h = 0 ∨ tH o.val h = 1) := by decide +kernel
theorem t_bd' (o h : Int) (h0 : 0 ≤ o) (h1 : o < 12) (hh : h = 0 ∨ h = 1) : ((-2 ≤ tA o h ∧ tA o h ≤ 2) ∧ (-2 ≤ tB o h ∧ tB o h ≤ 2)) ∧ (tH o h = 0 ∨ tH o h = 1) := by
  have := t_bd ⟨o.toNat, by omega⟩ h (by rcases hh with rfl | rfl <;> simp)
  simp only [Int.toNat_of_nonneg h0] at this
  exact this
/-- On a cell of small coordinates. -/
theorem con_yes (l o a b h : Int) (w : World) (hl : l = 1 ∨ l = 2 ∨ l = 3) (h0 : 0 ≤ o) (h1 : o < 12) (hh0 : 0 ≤ h) (hh1 : h < halvesV l) (ha : -274877906944 ≤ a ∧ a ≤ 274877906944) (hb : -274877906944 ≤ b ∧ b ≤ 274877906944) :
    Calls Try.prog 41 #[.int .i64 l, .int .i64 o, Ce a b h] w fun e w' => e = .returned (.tuple #[Ce (onA l o a b h) (onB l o a b h) (onH l o h), .nilIface]) ∧ Below w.heap.size w w' := by
  have hg : goodB a b = true := goodB_iff.2 (by omega)
  have hz := op_size o a b 274877906944 (by omega) (by omega) (by omega) (by omega)
  have hh : h = 0 ∨ h = 1 := by unfold halvesV at hh1; split at hh1 <;> omega
  have ht := t_bd' o h h0 h1 hh
  have hG : goodB (onA l o a b h) (onB l o a b h) = true := by
    rw [goodB_iff]; unfold onA onB; split <;> omega
  have key : Calls Try.prog 41 #[.int .i64 l, .int .i64 o, Ce a b h] w (OnPost w l o a b h) := by
    rcases hl with rfl | hl
    · obtain rfl : h = 0 := by simp [halvesV] at hh1; omega
      exact con_hex o a b w h0 h1 hg
    · exact con_tri l o a b h w hl h0 h1 hg hh
  refine key.mono ?_
  rintro e w' ⟨⟨_, he⟩ | ⟨hn, _⟩, hb⟩
  · exact ⟨he, hb⟩
  · rw [hG] at hn; cases hn
end Go.Proofs.Ytkejniadapnofaa.Ce
