/- awake: what the statements of layer 1 ask first. -/
import Derived.Test.YtcaocbakckojjaaDoorAxW3
namespace Go.Proofs.YtcaocbakckojjaaDoor.Ax
open Go.RowKit

theorem on_a (w : World) : Calls Tryd.prog 15 #[.int .i64 1, Pt 1 0] w fun e w' => e = .returned (.tuple #[Pt 0 1, .nilIface]) ∧ Below w.heap.size w w' := by
  have h := on_yes 1 1 0 w (by decide) (by decide) (by decide) (by decide)
  rw [show opA 1 1 0 = 0 by decide, show opB 1 1 0 = 1 by decide] at h
  exact h
theorem on_b (w : World) : Calls Tryd.prog 15 #[.int .i64 6, Pt 2 (-1)] w fun e w' => e = .returned (.tuple #[Pt (-1) 2, .nilIface]) ∧ Below w.heap.size w w' := by
  have h := on_yes 6 2 (-1) w (by decide) (by decide) (by decide) (by decide)
  rw [show opA 6 2 (-1) = -1 by decide, show opB 6 2 (-1) = 2 by decide] at h
  exact h
theorem idx5 (w : World) : (Instr.index 42 (.agg sixCells) (.int .i64 5)).run Tryd.prog w = .ok (Pt 1 (-1)) w := by kernel_rfl

theorem awake_any (w : World) (h : SixIs w) :
    Calls Tryd.prog 10 #[] w fun e w' => e = .returned (.bool true) ∧ Below w.heap.size w w' := by
  have h0 := h.lt
  have hi5 := idx5
  go_enter Tryd.func10, Tryd.ntmps10
  go_wp2_with fail
  refine (on_a _).mono ?_
  rintro e w1 ⟨rfl, hb⟩
  obtain ⟨hc_w1, hf_w1⟩ := bcell hb; have hz_w1 := hb.size; (try simp at hz_w1); have hb_w1 := below_call (B := w.heap.size) (w := w) hb (by go_grown) (by go_size); clear hb; (try have hy0_w1 : w.heap.size < w1.heap.size := by omega); (try have hy1_w1 : w.heap.size + 1 < w1.heap.size := by omega); (try have hy2_w1 : w.heap.size + 1 + 1 < w1.heap.size := by omega)
  have s1 := Lib.hid (h.below hb_w1)
  go_wp2_with fail
  refine (on_b _).mono ?_
  rintro e w2 ⟨rfl, hb⟩
  have k1 := hb.cell (p := ⟨w1.heap.size, 0, none⟩) (by simp)
  have k2 := hb.cell (p := ⟨w1.heap.size, 1, none⟩) (by simp)
  have k3 := hb.size
  simp at k1 k2 k3
  obtain ⟨hc_w2, hf_w2⟩ := bcell hb; have hz_w2 := hb.size; (try simp at hz_w2); have hb_w2 := below_call (B := w.heap.size) (w := w) hb (by go_grown) (by go_size); clear hb; (try have hy0_w2 : w.heap.size < w2.heap.size := by omega); (try have hy1_w2 : w.heap.size + 1 < w2.heap.size := by omega); (try have hy2_w2 : w.heap.size + 1 + 1 < w2.heap.size := by omega)
  have s2 := Lib.hid (h.below hb_w2)
  clear hc_w2 hf_w2
  have k4 : w1.heap.size < w2.heap.size := by omega
  go_wp2_with fail
  refine (six_any _ (h.below (by go_grown))).mono ?_
  rintro e w3 ⟨rfl, hb⟩
  have hb3 := below_call (B := w.heap.size) (w := w) hb (by go_grown) (by go_size)
  clear hb
  go_wp2_with fail
  go_ret
  exact ⟨rfl, hb3⟩
end Go.Proofs.YtcaocbakckojjaaDoor.Ax
