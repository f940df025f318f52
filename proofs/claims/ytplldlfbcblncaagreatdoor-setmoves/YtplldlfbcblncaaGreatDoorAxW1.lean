/- Contracts of the functions of package axis: what each of them answers, for every argument. -/
import Derived.Test.YtplldlfbcblncaaGreatDoorProg
import Derived.WalkKit
import Derived.Handy
import Derived.Lib.Hide
import Derived.Laws.ByValue
namespace Go.Proofs.YtplldlfbcblncaaGreatDoor.Ax
open Go.RowKit

/-- Is a number within MaxCoord? -/
def inB (n : Int) : Bool := decide (-1099511627776 ≤ n ∧ n ≤ 1099511627776)
def goodB (a b : Int) : Bool := inB a && inB b
abbrev I (n : Int) : Value := .int .i64 n
abbrev Pt (a b : Int) : Value := .agg #[.int .i64 a, .int .i64 b]
abbrev Er (n : Int) : Value := .iface 70 (.int .i64 n)

theorem inB_iff {n : Int} : inB n = true ↔ (-1099511627776 ≤ n ∧ n ≤ 1099511627776) := by simp [inB]
theorem inB_no {n : Int} : inB n = false ↔ ¬ (-1099511627776 ≤ n ∧ n ≤ 1099511627776) := by simp only [inB, decide_eq_false_iff_not]
theorem goodB_iff {a b : Int} : goodB a b = true ↔ ((-1099511627776 ≤ a ∧ a ≤ 1099511627776) ∧ (-1099511627776 ≤ b ∧ b ≤ 1099511627776)) := by
  unfold goodB; rw [Bool.and_eq_true, inB_iff, inB_iff]

theorem within_any (n : Int) (w : World) :
    Calls Tryz.prog 62 #[.int .i64 n] w fun e w' => e = .returned (.bool (inB n)) ∧ w = w' := by
  by_cases h1 : -1099511627776 ≤ n
  · by_cases h2 : n ≤ 1099511627776
    · have : inB n = true := inB_iff.2 ⟨h1, h2⟩
      go_enter Tryz.func62, Tryz.ntmps62
      go_wp2
      go_ret
      simp [*]
    · have : inB n = false := inB_no.2 (by omega)
      go_enter Tryz.func62, Tryz.ntmps62
      go_wp2
      go_ret
      simp [*]
  · have : inB n = false := inB_no.2 (by omega)
    go_enter Tryz.func62, Tryz.ntmps62
    go_wp2
    go_ret
    simp [*]

theorem pgood_any (a b : Int) (w : World) :
    Calls Tryz.prog 39 #[.agg #[.int .i64 a, .int .i64 b]] w fun e w' => e = .returned (.bool (goodB a b)) ∧ Below w.heap.size w w' := by
  cases h1 : inB a <;> cases h2 : inB b
  all_goals
    go_enter Tryz.func39, Tryz.ntmps39
    go_wp2_with (go_at_call 62; refine (within_any _ _).mono ?_; rintro e w' ⟨rfl, rfl⟩)
    go_ret
    exact ⟨by simp [goodB, h1, h2], by go_grown⟩

theorem bcell {W w1 : World} (hb : Below W.heap.size W w1) : (∀ b o, b < W.heap.size → w1.cell? ⟨b, o, none⟩ = W.cell? ⟨b, o, none⟩) ∧ (∀ b o, b < W.heap.size → w1.frozen? ⟨b, o, none⟩ = W.frozen? ⟨b, o, none⟩) :=
  ⟨fun b o h => hb.cell (p := ⟨b, o, none⟩) h, fun b o h => hb.frozen (p := ⟨b, o, none⟩) h⟩

theorem below_call {B : Nat} {w W w1 : World} (hb : Below W.heap.size W w1) (h : Below B w W) (hB : B ≤ W.heap.size) : Below B w w1 := h.trans (hb.mono hB)

/-- A point comes back as it is, or ErrRange. -/
theorem goodOnly_yes (a b : Int) (w : World) (h : goodB a b = true) :
    Calls Tryz.prog 40 #[.agg #[.int .i64 a, .int .i64 b]] w fun e w' => e = .returned (.tuple #[Pt a b, .nilIface]) ∧ Below w.heap.size w w' := by
  go_enter Tryz.func40, Tryz.ntmps40
  go_wp2_with (go_at_call 39; refine (pgood_any _ _ _).mono ?_; rintro e w1 ⟨rfl, hb⟩; obtain ⟨hc_w1, hf_w1⟩ := bcell hb; have hz_w1 := hb.size; (try simp at hz_w1); have hb_w1 := below_call (B := w.heap.size) (w := w) hb (by go_grown) (by go_size); clear hb; (try have hy0_w1 : w.heap.size < w1.heap.size := by omega); (try have hy1_w1 : w.heap.size + 1 < w1.heap.size := by omega); (try have hy2_w1 : w.heap.size + 1 + 1 < w1.heap.size := by omega))
  exact bodyPost_ret (v := .tuple #[Pt a b, .nilIface]) (by simp [results, Tryz.results40, go_sem, *]) rfl ⟨rfl, by go_grown⟩
theorem goodOnly_no (a b : Int) (w : World) (h : goodB a b = false) :
    Calls Tryz.prog 40 #[.agg #[.int .i64 a, .int .i64 b]] w fun e w' => e = .returned (.tuple #[Pt 0 0, Er 6]) ∧ Below w.heap.size w w' := by
  go_enter Tryz.func40, Tryz.ntmps40
  go_wp2_with (go_at_call 39; refine (pgood_any _ _ _).mono ?_; rintro e w1 ⟨rfl, hb⟩; obtain ⟨hc_w1, hf_w1⟩ := bcell hb; have hz_w1 := hb.size; (try simp at hz_w1); have hb_w1 := below_call (B := w.heap.size) (w := w) hb (by go_grown) (by go_size); clear hb; (try have hy0_w1 : w.heap.size < w1.heap.size := by omega); (try have hy1_w1 : w.heap.size + 1 < w1.heap.size := by omega); (try have hy2_w1 : w.heap.size + 1 + 1 < w1.heap.size := by omega))
  exact bodyPost_ret (v := .tuple #[Pt 0 0, Er 6]) (by simp [results, Tryz.results40, go_sem, *]) rfl ⟨rfl, by go_grown⟩

theorem plus_bad (a b c d : Int) (w : World) (h : (goodB a b && goodB c d) = false) :
    Calls Tryz.prog 24 #[Pt a b, Pt c d] w fun e w' => e = .returned (.tuple #[Pt 0 0, Er 6]) ∧ Below w.heap.size w w' := by
  cases h1 : goodB a b
  · go_enter Tryz.func24, Tryz.ntmps24
    go_wp2_with (go_at_call 39; refine (pgood_any _ _ _).mono ?_; rintro e w1 ⟨rfl, hb⟩; obtain ⟨hc_w1, hf_w1⟩ := bcell hb; have hz_w1 := hb.size; (try simp at hz_w1); have hb_w1 := below_call (B := w.heap.size) (w := w) hb (by go_grown) (by go_size); clear hb; (try have hy0_w1 : w.heap.size < w1.heap.size := by omega); (try have hy1_w1 : w.heap.size + 1 < w1.heap.size := by omega); (try have hy2_w1 : w.heap.size + 1 + 1 < w1.heap.size := by omega))
    exact bodyPost_ret (v := .tuple #[Pt 0 0, Er 6]) (by simp [results, Tryz.results24, go_sem, *]) rfl ⟨rfl, by go_grown⟩
  · have h2 : goodB c d = false := by simpa [h1] using h
    go_enter Tryz.func24, Tryz.ntmps24
    go_wp2_with (go_at_call 39; refine (pgood_any _ _ _).mono ?_; rintro e w1 ⟨rfl, hb⟩; obtain ⟨hc_w1, hf_w1⟩ := bcell hb; have hz_w1 := hb.size; (try simp at hz_w1); have hb_w1 := below_call (B := w.heap.size) (w := w) hb (by go_grown) (by go_size); clear hb; (try have hy0_w1 : w.heap.size < w1.heap.size := by omega); (try have hy1_w1 : w.heap.size + 1 < w1.heap.size := by omega); (try have hy2_w1 : w.heap.size + 1 + 1 < w1.heap.size := by omega))

    exact bodyPost_ret (v := .tuple #[Pt 0 0, Er 6]) (by simp [results, Tryz.results24, go_sem, *]) rfl ⟨rfl, by go_grown⟩

theorem plus_good (a b c d : Int) (w : World) (h1 : goodB a b = true) (h2 : goodB c d = true) (h3 : goodB (a + c) (b + d) = true) :
    Calls Tryz.prog 24 #[Pt a b, Pt c d] w fun e w' => e = .returned (.tuple #[Pt (a + c) (b + d), .nilIface]) ∧ Below w.heap.size w w' := by
  obtain ⟨⟨a1, a2⟩, b1, b2⟩ := goodB_iff.1 h1
  obtain ⟨⟨c1, c2⟩, d1, d2⟩ := goodB_iff.1 h2
  go_enter Tryz.func24, Tryz.ntmps24
  go_wp2_with (first | (go_at_call 39; refine (pgood_any _ _ _).mono ?_; rintro e w1 ⟨rfl, hb⟩; obtain ⟨hc_w1, hf_w1⟩ := bcell hb; have hz_w1 := hb.size; (try simp at hz_w1); have hb_w1 := below_call (B := w.heap.size) (w := w) hb (by go_grown) (by go_size); clear hb; (try have hy0_w1 : w.heap.size < w1.heap.size := by omega); (try have hy1_w1 : w.heap.size + 1 < w1.heap.size := by omega); (try have hy2_w1 : w.heap.size + 1 + 1 < w1.heap.size := by omega)) | (go_at_call 40; refine (goodOnly_yes _ _ _ h3).mono ?_; rintro e w3 ⟨rfl, hb⟩; obtain ⟨hc_w3, hf_w3⟩ := bcell hb; have hz_w3 := hb.size; (try simp at hz_w3); have hb_w3 := below_call (B := w.heap.size) (w := w) hb (by go_grown) (by go_size); clear hb; (try have hy0_w3 : w.heap.size < w3.heap.size := by omega); (try have hy1_w3 : w.heap.size + 1 < w3.heap.size := by omega); (try have hy2_w3 : w.heap.size + 1 + 1 < w3.heap.size := by omega)))
  exact bodyPost_ret (v := .tuple #[Pt (a + c) (b + d), .nilIface]) (by simp [results, Tryz.results24, go_sem, *]) rfl ⟨rfl, by go_grown⟩
theorem plus_out (a b c d : Int) (w : World) (h1 : goodB a b = true) (h2 : goodB c d = true) (h3 : goodB (a + c) (b + d) = false) :
    Calls Tryz.prog 24 #[Pt a b, Pt c d] w fun e w' => e = .returned (.tuple #[Pt 0 0, Er 6]) ∧ Below w.heap.size w w' := by
  obtain ⟨⟨a1, a2⟩, b1, b2⟩ := goodB_iff.1 h1
  obtain ⟨⟨c1, c2⟩, d1, d2⟩ := goodB_iff.1 h2
  go_enter Tryz.func24, Tryz.ntmps24
  go_wp2_with (first | (go_at_call 39; refine (pgood_any _ _ _).mono ?_; rintro e w1 ⟨rfl, hb⟩; obtain ⟨hc_w1, hf_w1⟩ := bcell hb; have hz_w1 := hb.size; (try simp at hz_w1); have hb_w1 := below_call (B := w.heap.size) (w := w) hb (by go_grown) (by go_size); clear hb; (try have hy0_w1 : w.heap.size < w1.heap.size := by omega); (try have hy1_w1 : w.heap.size + 1 < w1.heap.size := by omega); (try have hy2_w1 : w.heap.size + 1 + 1 < w1.heap.size := by omega)) | (go_at_call 40; refine (goodOnly_no _ _ _ h3).mono ?_; rintro e w3 ⟨rfl, hb⟩; obtain ⟨hc_w3, hf_w3⟩ := bcell hb; have hz_w3 := hb.size; (try simp at hz_w3); have hb_w3 := below_call (B := w.heap.size) (w := w) hb (by go_grown) (by go_size); clear hb; (try have hy0_w3 : w.heap.size < w3.heap.size := by omega); (try have hy1_w3 : w.heap.size + 1 < w3.heap.size := by omega); (try have hy2_w3 : w.heap.size + 1 + 1 < w3.heap.size := by omega)))
  exact bodyPost_ret (v := .tuple #[Pt 0 0, Er 6]) (by simp [results, Tryz.results24, go_sem, *]) rfl ⟨rfl, by go_grown⟩
end Go.Proofs.YtplldlfbcblncaaGreatDoor.Ax
