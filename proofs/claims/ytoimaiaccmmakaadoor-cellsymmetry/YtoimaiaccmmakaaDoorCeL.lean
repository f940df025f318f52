/- Lists of cells in memory, read one by one; what is beside a cell of small coordinates. -/
import Derived.Test.YtoimaiaccmmakaaDoorCeW6
namespace Go.Proofs.YtoimaiaccmmakaaDoor.Ce
open Go.RowKit Go.Proofs.YtoimaiaccmmakaaDoor.Ax

/-- A block holds a list of cells from its start on. -/
def Row (w : World) (g : Nat) (L : List C) : Prop :=
  (∀ (i : Nat) (d : C), L[i]? = some d → w.cell? ⟨g, i * 3, none⟩ = some (.int .i64 d.1) ∧ w.cell? ⟨g, i * 3 + 1, none⟩ = some (.int .i64 d.2.1) ∧ w.cell? ⟨g, i * 3 + 1 + 1, none⟩ = some (.int .i64 d.2.2)) ∧ g < w.heap.size
theorem Row.below {w w' : World} {g : Nat} {L : List C} (h : Row w g L) (hb : Below w.heap.size w w') : Row w' g L :=
  ⟨fun i d hd => ⟨(hb.cell (p := ⟨g, i * 3, none⟩) h.2).trans (h.1 i d hd).1, (hb.cell (p := ⟨g, i * 3 + 1, none⟩) h.2).trans (h.1 i d hd).2.1, (hb.cell (p := ⟨g, i * 3 + 1 + 1, none⟩) h.2).trans (h.1 i d hd).2.2⟩, Nat.lt_of_lt_of_le h.2 hb.size⟩
theorem flat_get : ∀ (L : List C) (i : Nat) (d : C), L[i]? = some d → (flat L)[i * 3]? = some (.int .i64 d.1) ∧ (flat L)[i * 3 + 1]? = some (.int .i64 d.2.1) ∧ (flat L)[i * 3 + 1 + 1]? = some (.int .i64 d.2.2)
  | [], i, d, h => by simp at h
  | c :: L, 0, d, h => by
    simp at h
    subst h
    simp [flat]
  | c :: L, i + 1, d, h => by
    have ih := flat_get L i d (by simpa using h)
    have e : flat (c :: L) = .int .i64 c.1 :: .int .i64 c.2.1 :: .int .i64 c.2.2 :: flat L := by simp [flat]
    rw [e, show (i + 1) * 3 = i * 3 + 1 + 1 + 1 by omega]
    simpa using ih
theorem row_of_own {w : World} {base g cap : Nat} {L : List C} (h : w.ownsRow base 31 3 (.slice (some ⟨g, 0, none⟩) L.length cap) L.length (flat L)) (hg : g < w.heap.size) : Row w g L := by
  refine ⟨fun i d hd => ?_, hg⟩
  have hi : i < L.length := (List.getElem?_eq_some_iff.1 hd).1
  obtain ⟨h1, h2, h3⟩ := flat_get L i d hd
  exact ⟨(h.cellAt (i * 3) (by omega)).trans h1, (h.cellAt (i * 3 + 1) (by omega)).trans h2, (h.cellAt (i * 3 + 1 + 1) (by omega)).trans h3⟩
/-- Is one of the first j cells this one? -/
def eqC (d c : C) : Bool := d.1 == c.1 && (d.2.1 == c.2.1 && d.2.2 == c.2.2)
def anyB (L : List C) (c : C) (j : Nat) : Bool := (L.take j).any fun d => eqC d c
theorem any_succ {L : List C} {c d : C} {j : Nat} (h : L[j]? = some d) : anyB L c (j + 1) = (anyB L c j || eqC d c) := by
  unfold anyB
  rw [List.take_add_one, h, List.any_append]
  simp
theorem any_all {L : List C} {c : C} (h : c ∈ L) : anyB L c L.length = true := by
  unfold anyB
  rw [List.take_length, List.any_eq_true]
  exact ⟨c, h, by simp [eqC]⟩
theorem eqC_no {c d : C} (h : d ≠ c) : eqC d c = false := by
  unfold eqC
  cases e : (d.1 == c.1 && (d.2.1 == c.2.1 && d.2.2 == c.2.2))
  · rfl
  · simp only [Bool.and_eq_true, beq_iff_eq] at e
    exact absurd (Prod.ext e.1 (Prod.ext e.2.1 e.2.2)) h

/-- Where the cells beside one are: a step away at most; their halves. -/
theorem bes_near : ∀ l ∈ [1, 2, 3], ∀ h ∈ [(0 : Int), 1], ∀ d ∈ besAll l 0 0 h, (-1 ≤ d.1 ∧ d.1 ≤ 1) ∧ (-1 ≤ d.2.1 ∧ d.2.1 ≤ 1) ∧ 0 ≤ d.2.2 ∧ d.2.2 < (if l = 1 then 1 else 2) := by decide +kernel
theorem near_of {l a b h : Int} (hl : l = 1 ∨ l = 2 ∨ l = 3) (h0 : 0 ≤ h) (h1 : h < halvesV l) {d : C} (hd : d ∈ besAll l a b h) :
    (a - 1 ≤ d.1 ∧ d.1 ≤ a + 1) ∧ (b - 1 ≤ d.2.1 ∧ d.2.1 ≤ b + 1) ∧ 0 ≤ d.2.2 ∧ d.2.2 < halvesV l := by
  have hh : h = 0 ∨ h = 1 := by unfold halvesV at h1; split at h1 <;> omega
  rw [besAll_shift, List.mem_map] at hd
  obtain ⟨c, hc, rfl⟩ := hd
  have := bes_near l (by rcases hl with rfl | rfl | rfl <;> simp) h (by rcases hh with rfl | rfl <;> simp) c hc
  unfold sh halvesV
  dsimp only
  omega
theorem allG_small {l a b h : Int} (hl : l = 1 ∨ l = 2 ∨ l = 3) (h0 : 0 ≤ h) (h1 : h < halvesV l) (ha : -1099511627775 ≤ a ∧ a ≤ 1099511627775) (hb : -1099511627775 ≤ b ∧ b ≤ 1099511627775) : allG (besAll l a b h) = true := by
  unfold allG
  rw [List.all_eq_true]
  intro d hd
  have := near_of hl h0 h1 hd
  rw [goodB_iff]
  omega
/-- Beside a cell of small coordinates: the list, in memory. -/
def BesYes (w : World) (L : List C) (e : Ending) (w' : World) : Prop :=
  ∃ g cap : Nat, e = .returned (.tuple #[.slice (some ⟨g, 0, none⟩) L.length cap, .nilIface]) ∧ L.length ≤ cap ∧ w.heap.size ≤ g ∧ Row w' g L ∧ Below w.heap.size w w'
theorem bes_some : ∀ l ∈ [1, 2, 3], ∀ h ∈ [(0 : Int), 1], h < (if l = 1 then 1 else 2) → 0 < (besAll l 0 0 h).length ∧ (besAll l 0 0 h).length ≤ 12 := by decide +kernel
theorem bes_some' {l a b h : Int} (hl : l = 1 ∨ l = 2 ∨ l = 3) (h0 : 0 ≤ h) (h1 : h < halvesV l) : 0 < (besAll l a b h).length ∧ (besAll l a b h).length ≤ 12 := by
  have hh : h = 0 ∨ h = 1 := by unfold halvesV at h1; split at h1 <;> omega
  rw [besAll_shift, List.length_map]
  exact bes_some l (by rcases hl with rfl | rfl | rfl <;> simp) h (by rcases hh with rfl | rfl <;> simp) h1
theorem beside_yes (l a b h : Int) (w : World) (hl : l = 1 ∨ l = 2 ∨ l = 3) (h0 : 0 ≤ h) (h1 : h < halvesV l) (ha : -1099511627775 ≤ a ∧ a ≤ 1099511627775) (hb : -1099511627775 ≤ b ∧ b ≤ 1099511627775) (hs : SixIs w) :
    Calls Tryd.prog 10 #[.int .i64 l, Ce a b h] w (BesYes w (besAll l a b h)) := by
  refine (beside_any l a b h w hl h0 h1 (goodB_iff.2 (by omega)) hs).mono ?_
  rintro e w' (⟨_, v, rfl, hown, hbl⟩ | ⟨hbad, _⟩)
  · have hp := (bes_some' (a := a) (b := b) hl h0 h1).1
    obtain ⟨g, cap, rfl, hg1, hg2⟩ := hown.form hp
    rcases hown.2 with ⟨hn, _⟩ | ⟨g', cap', cur, hv, _, _, hc, _⟩
    · cases hn
    · cases hv
      exact ⟨g, cap, rfl, hc, hg1, row_of_own hown hg2, hbl⟩
  · rw [allG_small hl h0 h1 ha hb] at hbad
    cases hbad
theorem someH_bd (l h : Int) : 0 ≤ someH l h ∧ someH l h < halvesV l := by
  unfold someH halvesV; split <;> omega
end Go.Proofs.YtoimaiaccmmakaaDoor.Ce
