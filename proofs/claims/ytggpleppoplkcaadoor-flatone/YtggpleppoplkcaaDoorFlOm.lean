/- Several texts, joined. -/
import Derived.Test.YtggpleppoplkcaaDoorFlA
import Derived.Test.YtggpleppoplkcaaDoorFlNw
import Derived.Test.YtggpleppoplkcaaDoorSeEq
import Derived.Test.YtggpleppoplkcaaDoorCeW13
/- What the laws' sets are. -/
namespace Go.Proofs.YtggpleppoplkcaaDoor.Fl
open Go.RowKit Go.Proofs.YtggpleppoplkcaaDoor.Ax Go.Proofs.YtggpleppoplkcaaDoor.Ba Go.Lib Go.Maps
open Go.Proofs.YtggpleppoplkcaaDoor.Ce (sh)
open Go.Proofs.YtggpleppoplkcaaDoor.Se (SetAt Rising ofL mem_ofL rising_ofL ofL_len ofL_eq shC fewL fewC someC)

def fewS (l : Int) (L : List C) : List C := ofL ((fewL L).map (someC l))
theorem fewS_in {l : Int} {L : List C} {c : C} (h : c ∈ fewS l L) : valid l c ∧ (-6 ≤ c.1 ∧ c.1 ≤ 6) ∧ (-6 ≤ c.2.1 ∧ c.2.1 ≤ 6) := by
  obtain ⟨x, hx, rfl⟩ := List.mem_map.1 ((mem_ofL _ _).1 h)
  obtain ⟨y, _, rfl⟩ := List.mem_map.1 hx
  have h1 := tmod_bd y.1 7 (by decide)
  have h2 := tmod_bd y.2.1 7 (by decide)
  have e1 : (y.1.tmod 7).tmod 100 = y.1.tmod 7 := by
    rcases Int.lt_or_le (y.1.tmod 7) 0 with h | h
    · have : (y.1.tmod 7) = -(-(y.1.tmod 7)) := by omega
      rw [this, Int.neg_tmod, Int.tmod_eq_of_lt (by omega) (by omega)]
    · exact Int.tmod_eq_of_lt h (by omega)
  have e2 : (y.2.1.tmod 7).tmod 100 = y.2.1.tmod 7 := by
    rcases Int.lt_or_le (y.2.1.tmod 7) 0 with h | h
    · have : (y.2.1.tmod 7) = -(-(y.2.1.tmod 7)) := by omega
      rw [this, Int.neg_tmod, Int.tmod_eq_of_lt (by omega) (by omega)]
    · exact Int.tmod_eq_of_lt h (by omega)
  have h3 := Go.Proofs.YtggpleppoplkcaaDoor.Ce.someH_bd l y.2.2
  refine ⟨⟨h3.1, ?_⟩, ?_, ?_⟩
  · have := h3.2
    unfold Go.Proofs.YtggpleppoplkcaaDoor.Ce.halvesV at this
    exact this
  · simp only [someC, fewC, e1]; omega
  · simp only [someC, fewC, e2]; omega
theorem fewS_len (l : Int) (L : List C) : (fewS l L).length ≤ 16 := by
  have h := ofL_len ((fewL L).map (someC l))
  unfold fewS
  simp only [fewL, List.length_map, List.length_take] at h
  exact Nat.le_trans h (Nat.min_le_left _ _)
theorem fewS_good (l : Nat) (L : List C) : GoodS l (fewS l L) := ⟨rising_ofL _, fun c hc => (fewS_in hc).1, fun c hc => by have := (fewS_in hc).2; omega, by have := fewS_len l L; omega⟩
theorem shC_sh (a b : Int) : shC a b = sh a b := funext fun c => by simp only [shC, sh, Int.add_comm]
theorem ofL_sh {S : List C} (h : Rising S) (a b : Int) : ofL (S.map (shC a b)) = S.map (sh a b) := by
  rw [shC_sh]
  exact ofL_eq (rising_sh a b h) fun c => Iff.rfl
theorem good_sh {l : Nat} {S : List C} (h : GoodS l S) {a b : Int} (hz : ∀ c ∈ S, (-6 ≤ c.1 ∧ c.1 ≤ 6) ∧ (-6 ≤ c.2.1 ∧ c.2.1 ≤ 6)) (ha : -1000000 < a ∧ a < 1000000) (hb : -1000000 < b ∧ b < 1000000) :
    GoodS l (S.map (sh a b)) ∧ ∀ c ∈ S.map (sh a b), (-1500000 ≤ c.1 ∧ c.1 ≤ 1500000) ∧ (-1500000 ≤ c.2.1 ∧ c.2.1 ≤ 1500000) := by
  have key : ∀ c ∈ S.map (sh a b), (-1500000 ≤ c.1 ∧ c.1 ≤ 1500000) ∧ (-1500000 ≤ c.2.1 ∧ c.2.1 ≤ 1500000) := fun c hc => by
    obtain ⟨x, hx, rfl⟩ := List.mem_map.1 hc
    have := hz x hx
    simp only [sh]
    omega
  refine ⟨⟨rising_sh a b h.rising, fun c hc => ?_, fun c hc => by have := key c hc; omega, by simpa using h.len⟩, key⟩
  obtain ⟨x, hx, rfl⟩ := List.mem_map.1 hc
  exact h.val x hx
theorem steps_sh {l b0 b1 s0 s1 n : Nat} {S R R' : List C} {a b : Int} (h : StpN (nxT b0 b1 s0 s1) l n S R) (h' : StpN (nxT b0 b1 s0 s1) l n (S.map (sh a b)) R') : R' = R.map (sh a b) := StpN.uniq h' (stpN_sh a b h)
end Go.Proofs.YtggpleppoplkcaaDoor.Fl

/- For FlatOne: the neighbourhood of a cell, counted from the cell. -/
namespace Go.Proofs.YtggpleppoplkcaaDoor.Fl
open Go.RowKit Go.Proofs.YtggpleppoplkcaaDoor.Ax Go.Lib
open Go.Proofs.YtggpleppoplkcaaDoor.Ba (Blk)
open Go.Proofs.YtggpleppoplkcaaDoor.Ce (sh allG besAll sX sY)
open Go.Proofs.YtggpleppoplkcaaDoor.Se (SetAt Rising)
open Go.Proofs.YtggpleppoplkcaaDoor.Tb (nextB)

theorem sum_ite (f : C → Nat) (p : C → Bool) : ∀ L : List C, ((L.filter p).map f).sum = (L.map fun e => if p e = true then f e else 0).sum
  | [] => rfl
  | c :: L => by
    rw [List.filter_cons]
    cases h : p c
    · simp [h, sum_ite f p L]
    · simp [h, sum_ite f p L]
/-- The hexagons' ring, the first of them counted. -/
def hexN (S : List C) (a b : Int) : Nat → Nat
  | 0 => 0
  | k + 1 => hexN S a b k + if decide ((a + sX k, b + sY k, (0 : Int)) ∈ S) = true then 2 ^ k else 0
theorem hexN_lt (S : List C) (a b : Int) : ∀ k, hexN S a b k < 2 ^ k
  | 0 => by simp [hexN]
  | k + 1 => by
    have := hexN_lt S a b k
    rw [Nat.pow_succ]
    unfold hexN
    split <;> omega
theorem bes_hex : besAll 1 0 0 0 = [(0, -1, 0), (1, -1, 0), (-1, 0, 0), (1, 0, 0), (-1, 1, 0), (0, 1, 0)] := by decide +kernel
theorem nb_hex (S : List C) (a b : Int) : nbC 1 S (a, b, 0) = hexN S a b 6 := by
  unfold nbC
  rw [besC_at, bes_hex, sum_ite]
  simp only [List.map_cons, List.map_nil, sh, List.sum_cons, List.sum_nil, hexN]
  have e : ∀ x y : Int, shareN 1 (a + x, b + y, 0) (a, b, 0) = 2 ^ sixIx x y := fun x y => by
    unfold shareN
    rw [if_pos rfl, show a + x - a = x by omega, show b + y - b = y by omega]
  rw [e, e, e, e, e, e]
  rw [show sixIx 0 (-1) = 4 by decide, show sixIx 1 (-1) = 5 by decide, show sixIx (-1) 0 = 3 by decide, show sixIx 1 0 = 0 by decide, show sixIx (-1) 1 = 2 by decide, show sixIx 0 1 = 1 by decide]
  rw [show sX 0 = 1 from rfl, show sX 1 = 0 from rfl, show sX 2 = -1 from rfl, show sX 3 = -1 from rfl, show sX 4 = 0 from rfl, show sX 5 = 1 from rfl, show sY 0 = 0 from rfl, show sY 1 = 1 from rfl, show sY 2 = 1 from rfl, show sY 3 = 0 from rfl, show sY 4 = -1 from rfl, show sY 5 = -1 from rfl]
  omega
/-- The triangles' number, the first of those beside counted. -/
def triN (S L : List C) (k : Nat) : Nat := ((L.take k).filter fun e => decide (e ∈ S)).length
theorem triN_succ {S L : List C} {k : Nat} {d : C} (h : L[k]? = some d) : triN S L (k + 1) = triN S L k + if decide (d ∈ S) = true then 1 else 0 := by
  unfold triN
  rw [List.take_add_one, h]
  simp only [Option.toList, List.filter_append, List.length_append]
  by_cases hd : d ∈ S <;> simp [hd]
theorem nb_tri {l : Int} (hl : l = 2 ∨ l = 3) (S : List C) (d : C) : nbC l S d = triN S (besC l d) (besC l d).length := by
  unfold nbC triN
  rw [List.take_length]
  have e : (fun e => shareN l e d) = fun _ => 1 := funext fun e => by unfold shareN; rw [if_neg (by omega)]
  rw [e]
  induction ((besC l d).filter fun e => decide (e ∈ S)) with
  | nil => rfl
  | cons x L ih => simp [ih]; omega
theorem triN_le (S L : List C) (k : Nat) : triN S L k ≤ k := Nat.le_trans (List.length_filter_le _ _) (by rw [List.length_take]; omega)
theorem or_fin : ∀ i : Fin 6, ∀ n : Fin 64, n.val < 2 ^ i.val → bits .or .i64 (n.val : Int) (wrap64 (2 ^ i.val)) = ((n.val + 2 ^ i.val : Nat) : Int) := by decide +kernel
theorem or_of {i n : Nat} (hi : i < 6) (hn : n < 2 ^ i) : bits .or .i64 (n : Int) (wrap64 (2 ^ i)) = ((n + 2 ^ i : Nat) : Int) := by
  have h64 : n < 64 := Nat.lt_of_lt_of_le hn (Nat.le_trans (Nat.pow_le_pow_right (by decide) (show i ≤ 6 by omega)) (by decide))
  exact or_fin ⟨i, hi⟩ ⟨n, h64⟩ hn
theorem all_good {l : Int} (hl : l = 1 ∨ l = 2 ∨ l = 3) {c : C} (hc : valid l c) (ha : -1000000 ≤ c.1 ∧ c.1 ≤ 1000000) (hb : -1000000 ≤ c.2.1 ∧ c.2.1 ≤ 1000000) : allG (besC l c) = true := by
  unfold allG
  rw [List.all_eq_true]
  intro d hd
  have := (bes_mem hl hc hd).2.2
  exact goodB_iff.2 (by omega)
theorem next_nx {b0 b1 s0 s1 : Nat} {l : Int} {c : C} (hc : valid l c) (live : Bool) {n : Nat} (hn : n < 64) : nextB b0 b1 s0 s1 c.2.2 live (n : Int) = nxT b0 b1 s0 s1 c.2.2 live n := by
  have h0 := hc.1
  have h1 := hc.2
  unfold nextB nxT
  rw [if_neg (by split at h1 <;> omega), show ((n : Int)).toNat = n by omega]
/-- The last word: does it live then? -/
theorem step_has {b0 b1 s0 s1 : Nat} {l : Int} (hl : l = 1 ∨ l = 2 ∨ l = 3) {S R : List C} (h : Stp (nxT b0 b1 s0 s1) l S R) {c : C} (hc : valid l c) : decide (c ∈ R) = nextB b0 b1 s0 s1 c.2.2 (decide (c ∈ S)) (nbC l S c : Nat) := by
  rw [next_nx hc _ (nb_lt hl S hc), Bool.eq_iff_iff]
  simp only [decide_eq_true_eq]
  exact (h.2 c).trans ⟨fun h => h.2, fun h => ⟨hc, h⟩⟩
/-- A list of cells in newer memory stays, where a cell's box is written. -/
theorem set_box {w : World} {B base : Nat} {x y z v : Value} {S : List C} (h : SetAt w v S) (hf : ∀ b, v.ownBlock = some b → base ≤ b) (hB : B < base) : SetAt (((w.setCell ⟨B, 0, none⟩ x).setCell ⟨B, 1, none⟩ y).setCell ⟨B, 2, none⟩ z) v S := by
  rcases h with h | ⟨g, cap, rfl, hc, hrow, hlt⟩
  · exact .inl h
  · have hg : g ≠ B := by have := hf g rfl; omega
    have hb : (((w.setCell ⟨B, 0, none⟩ x).setCell ⟨B, 1, none⟩ y).setCell ⟨B, 2, none⟩ z).heap[g]? = w.heap[g]? := (Below.heap_setCell _ _ _ _ hg).trans ((Below.heap_setCell _ _ _ _ hg).trans (Below.heap_setCell _ _ _ _ hg))
    refine .inr ⟨g, cap, rfl, hc, fun i d hd => ?_, by rw [World.setCell, World.setCell, World.setCell]; simpa using hlt⟩
    obtain ⟨h1, h2, h3⟩ := hrow i d hd
    exact ⟨(World.cell?_of_block (a := ⟨g, i * 3, none⟩) hb).trans h1, (World.cell?_of_block (a := ⟨g, i * 3 + 1, none⟩) hb).trans h2, (World.cell?_of_block (a := ⟨g, i * 3 + 1 + 1, none⟩) hb).trans h3⟩
end Go.Proofs.YtggpleppoplkcaaDoor.Fl
