/- HoneycombHalfTurn: the half turn brings each triangle that points up to one that points down, and those beside it to those beside where it is brought, in the other order. No conditions. -/
import Derived.Test.YtoimaiaccmmakaaDoorCeW8
import Derived.Test.YtoimaiaccmmakaaDoorAxR
import Derived.BigQuiet
import Derived.Deep.QuietTactic
namespace Go.Proofs.YtoimaiaccmmakaaDoor.Ce
open Go.RowKit Go.Proofs.YtoimaiaccmmakaaDoor.Ax

theorem t_bd : ∀ o : Fin 12, ∀ h ∈ [(0 : Int), 1], ((-2 ≤ tA o.val h ∧ tA o.val h ≤ 2) ∧ (-2 ≤ tB o.val h ∧ tB o.val h ≤ 2)) ∧ (tH o.val h = 0 ∨ tH o.val h = 1) := by decide +kernel
theorem t_bd' (o h : Int) (h0 : 0 ≤ o) (h1 : o < 12) (hh : h = 0 ∨ h = 1) : ((-2 ≤ tA o h ∧ tA o h ≤ 2) ∧ (-2 ≤ tB o h ∧ tB o h ≤ 2)) ∧ (tH o h = 0 ∨ tH o h = 1) := by
  have := t_bd ⟨o.toNat, by omega⟩ h (by rcases hh with rfl | rfl <;> simp)
  simp only [Int.toNat_of_nonneg h0] at this
  exact this
/-- On a cell of small coordinates. -/
theorem con_yes (l o a b h : Int) (w : World) (hl : l = 1 ∨ l = 2 ∨ l = 3) (h0 : 0 ≤ o) (h1 : o < 12) (hh0 : 0 ≤ h) (hh1 : h < halvesV l) (ha : -274877906944 ≤ a ∧ a ≤ 274877906944) (hb : -274877906944 ≤ b ∧ b ≤ 274877906944) :
    Calls Tryd.prog 7 #[.int .i64 l, .int .i64 o, Ce a b h] w fun e w' => e = .returned (.tuple #[Ce (onA l o a b h) (onB l o a b h) (onH l o h), .nilIface]) ∧ Below w.heap.size w w' := by
  have hg : goodB a b = true := goodB_iff.2 (by omega)
  have hz := op_size o a b 274877906944 (by omega) (by omega) (by omega) (by omega)
  have hh : h = 0 ∨ h = 1 := by unfold halvesV at hh1; split at hh1 <;> omega
  have ht := t_bd' o h h0 h1 hh
  have hG : goodB (onA l o a b h) (onB l o a b h) = true := by
    rw [goodB_iff]; unfold onA onB; split <;> omega
  have key : Calls Tryd.prog 7 #[.int .i64 l, .int .i64 o, Ce a b h] w (OnPost w l o a b h) := by
    rcases hl with rfl | hl
    · obtain rfl : h = 0 := by simp [halvesV] at hh1; omega
      exact con_hex o a b w h0 h1 hg
    · exact con_tri l o a b h w hl h0 h1 hg hh
  refine key.mono ?_
  rintro e w' ⟨⟨_, he⟩ | ⟨hn, _⟩, hb⟩
  · exact ⟨he, hb⟩
  · rw [hG] at hn; cases hn
/-- The half turn. -/
def ht (d : C) : C := (-d.1 - 1, -d.2.1 - 1, 1 - d.2.2)
theorem on3 (l a b h : Int) (hl : l = 2 ∨ l = 3) (hh : h = 0 ∨ h = 1) : onA l 3 a b h = -a - 1 ∧ onB l 3 a b h = -b - 1 ∧ onH l 3 h = 1 - h := by
  have hl1 : ¬ l = 1 := by omega
  have e1 : opA 3 a b = -a := by simp [opA, tn]; omega
  have e2 : opB 3 a b = -b := by simp [opB, tn]; omega
  unfold onA onB onH
  rw [if_neg hl1, if_neg hl1, if_neg hl1, e1, e2]
  have h1 : ∀ h ∈ [(0 : Int), 1], tA 3 h = -1 ∧ tB 3 h = -1 ∧ tH 3 h = 1 - h := by decide +kernel
  obtain ⟨x, y, z⟩ := h1 h (by rcases hh with rfl | rfl <;> simp)
  rw [x, y, z]
  omega
theorem rev_fin : ∀ l ∈ [(2 : Int), 3], ∀ h ∈ [(0 : Int), 1], besAll l 0 0 (1 - h) = ((besAll l 0 0 h).map fun c => (-c.1, -c.2.1, 1 - c.2.2)).reverse := by decide +kernel
theorem rev_of (l a b h : Int) (hl : l = 2 ∨ l = 3) (hh : h = 0 ∨ h = 1) : besAll l (-a - 1) (-b - 1) (1 - h) = ((besAll l a b h).map ht).reverse := by
  rw [besAll_shift, besAll_shift l a b, rev_fin l (by rcases hl with rfl | rfl <;> simp) h (by rcases hh with rfl | rfl <;> simp), List.map_reverse, List.map_map, List.map_map]
  congr 1
  apply List.map_congr_left
  intro c _
  simp only [Function.comp, sh, ht, Prod.mk.injEq, and_true]
  omega
section
open Go.ChangeShapes Go.WideShapes Go.ChangeAt Go.RowKit Go.Joins
theorem cellsCe : Tryd.prog.cellsOf 31 = 3 := by kernel_rfl
theorem cellsInt : Tryd.prog.cellsOf 3 = 1 := by kernel_rfl
set_option maxRecDepth 100000 in
theorem open_cell {H : Type} {enc : TypeId × Value → H} {w : World} {base : Nat} {spare : Nat → Bool} {held : Bool} {r : Reach} {b0 : Nat} {v : Value} {d : DataW H} {p : List MemPlace}
    (hv : Value.okWide Tryd.prog w r b0 31 v) (h : DataW.Trod enc Tryd.prog w base spare held 31 v d p) :
    ∃ a b c : Int, v = Ce a b c ∧ d = .agg [.agg [.lit (.int .i64 a), .lit (.int .i64 b)], .lit (.int .i64 c)] ∧ p = [] ∧ (Lit.int .i64 a).wf = true ∧ (Lit.int .i64 b).wf = true ∧ (Lit.int .i64 c).wf = true := by
  obtain ⟨cs, rfl, hsz⟩ := okWide_struct Tryd.underlying31 hv
  obtain ⟨l⟩ := cs
  rw [cellsCe] at hsz
  match l, hsz with
  | [c0, c1, c2], _ =>
    obtain ⟨fuel, hf⟩ := h
    obtain ⟨y0, y1, n, hx, _, g0, g1⟩ := trod_struct2 Tryd.underlying31 hf
    simp only [cellsPt, cellsInt] at g0 g1
    obtain ⟨z0, z1, m, hz, _, k0, k1⟩ := trod_struct2 Tryd.underlying29 g0
    simp only [cellsI] at k0 k1
    obtain ⟨a, e0, rfl, w0⟩ := DataW.trod_int Tryd.underlying2 k0
    obtain ⟨b, e1, rfl, w1⟩ := DataW.trod_int Tryd.underlying2 k1
    obtain ⟨c, e2, rfl, w2⟩ := DataW.trod_int Tryd.underlying3 g1
    simp [Value.cells] at e0 e1 e2
    subst e0 e1 e2 hz
    simp only [Prod.mk.injEq] at hx
    obtain ⟨rfl, rfl⟩ := hx
    exact ⟨a, b, c, rfl, rfl, rfl, w0, w1, w2⟩
end
end Go.Proofs.YtoimaiaccmmakaaDoor.Ce
