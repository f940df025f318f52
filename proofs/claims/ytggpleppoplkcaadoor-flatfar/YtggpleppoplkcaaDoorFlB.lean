/- What the laws' sets are. -/
import Derived.Test.YtggpleppoplkcaaDoorFlA
import Derived.Test.YtggpleppoplkcaaDoorFlF
import Derived.Test.YtggpleppoplkcaaDoorSeB1
import Derived.Test.YtggpleppoplkcaaDoorSeEq
namespace Go.Proofs.YtggpleppoplkcaaDoor.Fl
open Go.RowKit Go.Proofs.YtggpleppoplkcaaDoor.Ax Go.Proofs.YtggpleppoplkcaaDoor.Ba Go.Lib Go.Maps
open Go.Proofs.YtggpleppoplkcaaDoor.Ce (sh)
open Go.Proofs.YtggpleppoplkcaaDoor.Se (SetAt Rising ofL mem_ofL rising_ofL ofL_len ofL_eq shC fewL fewC someC)

def fewS (l : Int) (L : List C) : List C := ofL ((fewL L).map (someC l))
theorem fewS_in {l : Int} {L : List C} {c : C} (h : c ∈ fewS l L) : valid l c ∧ (-6 ≤ c.1 ∧ c.1 ≤ 6) ∧ (-6 ≤ c.2.1 ∧ c.2.1 ≤ 6) := by
  obtain ⟨x, hx, rfl⟩ := List.mem_map.1 ((mem_ofL _ _).1 h)
  obtain ⟨y, _, rfl⟩ := List.mem_map.1 hx
  have h1 := tmod_bd y.1 7 (by decide)
  have h2 := tmod_bd y.2.1 7 (by decide)
  have e1 : (y.1.tmod 7).tmod 100 = y.1.tmod 7 := by
    rcases Int.lt_or_le (y.1.tmod 7) 0 with h | h
    · have : (y.1.tmod 7) = -(-(y.1.tmod 7)) := by omega
      rw [this, Int.neg_tmod, Int.tmod_eq_of_lt (by omega) (by omega)]
    · exact Int.tmod_eq_of_lt h (by omega)
  have e2 : (y.2.1.tmod 7).tmod 100 = y.2.1.tmod 7 := by
    rcases Int.lt_or_le (y.2.1.tmod 7) 0 with h | h
    · have : (y.2.1.tmod 7) = -(-(y.2.1.tmod 7)) := by omega
      rw [this, Int.neg_tmod, Int.tmod_eq_of_lt (by omega) (by omega)]
    · exact Int.tmod_eq_of_lt h (by omega)
  have h3 := Go.Proofs.YtggpleppoplkcaaDoor.Ce.someH_bd l y.2.2
  refine ⟨⟨h3.1, ?_⟩, ?_, ?_⟩
  · have := h3.2
    unfold Go.Proofs.YtggpleppoplkcaaDoor.Ce.halvesV at this
    exact this
  · simp only [someC, fewC, e1]; omega
  · simp only [someC, fewC, e2]; omega
theorem fewS_len (l : Int) (L : List C) : (fewS l L).length ≤ 16 := by
  have h := ofL_len ((fewL L).map (someC l))
  unfold fewS
  simp only [fewL, List.length_map, List.length_take] at h
  exact Nat.le_trans h (Nat.min_le_left _ _)
theorem fewS_good (l : Nat) (L : List C) : GoodS l (fewS l L) := ⟨rising_ofL _, fun c hc => (fewS_in hc).1, fun c hc => by have := (fewS_in hc).2; omega, by have := fewS_len l L; omega⟩
theorem shC_sh (a b : Int) : shC a b = sh a b := funext fun c => by simp only [shC, sh, Int.add_comm]
theorem ofL_sh {S : List C} (h : Rising S) (a b : Int) : ofL (S.map (shC a b)) = S.map (sh a b) := by
  rw [shC_sh]
  exact ofL_eq (rising_sh a b h) fun c => Iff.rfl
theorem good_sh {l : Nat} {S : List C} (h : GoodS l S) {a b : Int} (hz : ∀ c ∈ S, (-6 ≤ c.1 ∧ c.1 ≤ 6) ∧ (-6 ≤ c.2.1 ∧ c.2.1 ≤ 6)) (ha : -1000000 < a ∧ a < 1000000) (hb : -1000000 < b ∧ b < 1000000) :
    GoodS l (S.map (sh a b)) ∧ ∀ c ∈ S.map (sh a b), (-1500000 ≤ c.1 ∧ c.1 ≤ 1500000) ∧ (-1500000 ≤ c.2.1 ∧ c.2.1 ≤ 1500000) := by
  have key : ∀ c ∈ S.map (sh a b), (-1500000 ≤ c.1 ∧ c.1 ≤ 1500000) ∧ (-1500000 ≤ c.2.1 ∧ c.2.1 ≤ 1500000) := fun c hc => by
    obtain ⟨x, hx, rfl⟩ := List.mem_map.1 hc
    have := hz x hx
    simp only [sh]
    omega
  refine ⟨⟨rising_sh a b h.rising, fun c hc => ?_, fun c hc => by have := key c hc; omega, by simpa using h.len⟩, key⟩
  obtain ⟨x, hx, rfl⟩ := List.mem_map.1 hc
  exact h.val x hx
theorem steps_sh {l b0 b1 s0 s1 n : Nat} {S R R' : List C} {a b : Int} (h : StpN (nxT b0 b1 s0 s1) l n S R) (h' : StpN (nxT b0 b1 s0 s1) l n (S.map (sh a b)) R') : R' = R.map (sh a b) := StpN.uniq h' (stpN_sh a b h)
end Go.Proofs.YtggpleppoplkcaaDoor.Fl
