/- Contracts of the functions of package axis: what each of them answers, for every argument. -/
import Derived.Test.YtcmfkdhadmfgkaaDoorProg
import Derived.WalkKit
import Derived.Handy
import Derived.Lib.Hide
import Derived.Laws.ByValue
namespace Go.Proofs.YtcmfkdhadmfgkaaDoor.Ax
open Go.RowKit

/-- Is a number within MaxCoord? -/
def inB (n : Int) : Bool := decide (-1099511627776 ≤ n ∧ n ≤ 1099511627776)
def goodB (a b : Int) : Bool := inB a && inB b
abbrev I (n : Int) : Value := .int .i64 n
abbrev Pt (a b : Int) : Value := .agg #[.int .i64 a, .int .i64 b]
abbrev Er (n : Int) : Value := .iface 59 (.int .i64 n)

theorem inB_iff {n : Int} : inB n = true ↔ (-1099511627776 ≤ n ∧ n ≤ 1099511627776) := by simp [inB]
theorem inB_no {n : Int} : inB n = false ↔ ¬ (-1099511627776 ≤ n ∧ n ≤ 1099511627776) := by simp only [inB, decide_eq_false_iff_not]
theorem goodB_iff {a b : Int} : goodB a b = true ↔ ((-1099511627776 ≤ a ∧ a ≤ 1099511627776) ∧ (-1099511627776 ≤ b ∧ b ≤ 1099511627776)) := by
  unfold goodB; rw [Bool.and_eq_true, inB_iff, inB_iff]

theorem within_any (n : Int) (w : World) :
    Calls Tryd.prog 92 #[.int .i64 n] w fun e w' => e = .returned (.bool (inB n)) ∧ w = w' := by
  by_cases h1 : -1099511627776 ≤ n
  · by_cases h2 : n ≤ 1099511627776
    · have : inB n = true := inB_iff.2 ⟨h1, h2⟩
      go_enter Tryd.func92, Tryd.ntmps92
      go_wp2
      go_ret
      simp [*]
    · have : inB n = false := inB_no.2 (by omega)
      go_enter Tryd.func92, Tryd.ntmps92
      go_wp2
      go_ret
      simp [*]
  · have : inB n = false := inB_no.2 (by omega)
    go_enter Tryd.func92, Tryd.ntmps92
    go_wp2
    go_ret
    simp [*]

theorem pgood_any (a b : Int) (w : World) :
    Calls Tryd.prog 83 #[.agg #[.int .i64 a, .int .i64 b]] w fun e w' => e = .returned (.bool (goodB a b)) ∧ Below w.heap.size w w' := by
  cases h1 : inB a <;> cases h2 : inB b
  all_goals
    go_enter Tryd.func83, Tryd.ntmps83
    go_wp2_with (go_at_call 92; refine (within_any _ _).mono ?_; rintro e w' ⟨rfl, rfl⟩)
    go_ret
    exact ⟨by simp [goodB, h1, h2], by go_grown⟩

theorem bcell {W w1 : World} (hb : Below W.heap.size W w1) : (∀ b o, b < W.heap.size → w1.cell? ⟨b, o, none⟩ = W.cell? ⟨b, o, none⟩) ∧ (∀ b o, b < W.heap.size → w1.frozen? ⟨b, o, none⟩ = W.frozen? ⟨b, o, none⟩) :=
  ⟨fun b o h => hb.cell (p := ⟨b, o, none⟩) h, fun b o h => hb.frozen (p := ⟨b, o, none⟩) h⟩

theorem below_call {B : Nat} {w W w1 : World} (hb : Below W.heap.size W w1) (h : Below B w W) (hB : B ≤ W.heap.size) : Below B w w1 := h.trans (hb.mono hB)

end Go.Proofs.YtcmfkdhadmfgkaaDoor.Ax
