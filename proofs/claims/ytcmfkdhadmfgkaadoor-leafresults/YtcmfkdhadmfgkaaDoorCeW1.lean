/- Contracts of package cell: lattices, the check of a cell, corners, and how many two triangles share. -/
import Derived.Test.YtcmfkdhadmfgkaaDoorAxW3
import Derived.Test.YtcmfkdhadmfgkaaDoorCeM
import Derived.BigQuiet
import Derived.Deep.QuietTactic
import Derived.BigRegion
import Derived.WalkLawsBesides
namespace Go.Proofs.YtcmfkdhadmfgkaaDoor.Ce
open Go.RowKit Go.Proofs.YtcmfkdhadmfgkaaDoor.Ax

theorem q_first {P : Program} {f : FuncId} {args : Array Value} {w : World} {n : Nat} {v : Value} (h : ∀ W : World, Calls P f args W fun e w' => e = .returned v ∧ W = w') :
    Calls P f args (w.drewN n) fun e w'' => e = .returned v ∧ ∃ m, w'' = w.drewN m := (h _).mono fun _ _ ⟨he, hm⟩ => ⟨he, n, hm.symm⟩
theorem q_next {P : Program} {f : FuncId} {args : Array Value} {w : World} {a n : Nat} {v : Value} (h : ∀ W : World, Calls P f args W fun e w' => e = .returned v ∧ W = w') :
    Calls P f args (w.drewN (a + n)) fun e w'' => e = .returned v ∧ ∃ m, w'' = w.drewN (a + m) := (h _).mono fun _ _ ⟨he, hm⟩ => ⟨he, n, hm.symm⟩
theorem below_dr {B : Nat} {w W : World} (n : Nat) (h : Below B w W) : Below B w (W.drewN n) := h.trans ⟨rfl, rfl, rfl, Nat.le_refl _, fun _ _ => rfl⟩

abbrev Ce (a b h : Int) : Value := .agg #[.int .i64 a, .int .i64 b, .int .i64 h]
def latB (l : Int) : Bool := decide (1 ≤ l ∧ l ≤ 3)

theorem lgood_any (l : Int) (w : World) :
    Calls Tryd.prog 67 #[.int .i64 l] w fun e w' => e = .returned (.bool (latB l)) ∧ w = w' := by
  by_cases h1 : 1 ≤ l
  · have e : latB l = decide (l ≤ 3) := by unfold latB; simp [h1]
    rw [e]
    clear e
    go_enter Tryd.func67, Tryd.ntmps67
    go_wp2
    go_ret
    exact ⟨rfl, rfl⟩
  · have e : latB l = false := by unfold latB; simp [h1]
    rw [e]
    clear e
    go_enter Tryd.func67, Tryd.ntmps67
    go_wp2
    go_ret
    exact ⟨rfl, rfl⟩

def halvesV (l : Int) : Int := if l = 1 then 1 else 2
theorem halves_any (l : Int) (w : World) :
    Calls Tryd.prog 50 #[.int .i64 l] w fun e w' => e = .returned (.int .i64 (halvesV l)) ∧ w = w' := by
  by_cases h : l = 1
  · subst h
    go_enter Tryd.func50, Tryd.ntmps50
    go_wp2
    go_ret
    exact ⟨rfl, rfl⟩
  · have e : halvesV l = 2 := if_neg h
    have h' : (l == 1) = false := by simpa using h
    rw [e]
    clear e h
    go_enter Tryd.func50, Tryd.ntmps50
    go_wp2
    go_ret
    exact ⟨rfl, rfl⟩

theorem check_lat (l a b h : Int) (w : World) (hl : latB l = false) :
    Calls Tryd.prog 80 #[.int .i64 l, Ce a b h] w fun e w' => e = .returned (Er 11) ∧ Below w.heap.size w w' := by
  go_enter Tryd.func80, Tryd.ntmps80
  go_wp2_with (go_at_call 67; refine (lgood_any _ _).mono ?_; rintro e w' ⟨rfl, rfl⟩)
  go_ret
  exact ⟨rfl, by go_grown⟩

theorem check_arg (l a b h : Int) (w : World) (hl : latB l = true) (h0 : h < 0 ∨ halvesV l ≤ h) :
    Calls Tryd.prog 80 #[.int .i64 l, Ce a b h] w fun e w' => e = .returned (Er 4) ∧ Below w.heap.size w w' := by
  by_cases hn : h < 0
  · have hd : decide (h < 0) = true := by simpa using hn
    go_enter Tryd.func80, Tryd.ntmps80
    go_wp2_with (go_at_call 67; refine (lgood_any _ _).mono ?_; rintro e w' ⟨rfl, rfl⟩)
    go_quiet ((go_at_call 50; exact q_first (halves_any _)))
    go_wp2
    go_ret
    exact ⟨rfl, below_dr _ (by go_grown)⟩
  · have hd : decide (h < 0) = false := by simpa using hn
    have h2 : halvesV l ≤ h := by omega
    have hd2 : decide (halvesV l ≤ h) = true := by simpa using h2
    go_enter Tryd.func80, Tryd.ntmps80
    go_wp2_with (go_at_call 67; refine (lgood_any _ _).mono ?_; rintro e w' ⟨rfl, rfl⟩)
    go_quiet ((go_at_call 50; exact q_first (halves_any _)))
    go_wp2
    go_ret
    exact ⟨rfl, below_dr _ (by go_grown)⟩

theorem check_range (l a b h : Int) (w : World) (hl : latB l = true) (h0 : 0 ≤ h) (h1 : h < halvesV l) (hg : goodB a b = false) :
    Calls Tryd.prog 80 #[.int .i64 l, Ce a b h] w fun e w' => e = .returned (Er 6) ∧ Below w.heap.size w w' := by
  have hd : decide (h < 0) = false := by simp; omega
  have hd2 : decide (halvesV l ≤ h) = false := by simp; omega
  go_enter Tryd.func80, Tryd.ntmps80
  go_wp2_with (go_at_call 67; refine (lgood_any _ _).mono ?_; rintro e w' ⟨rfl, rfl⟩)
  go_quiet ((go_at_call 50; exact q_first (halves_any _)))
  go_wp2_with fail
  refine (pgood_any _ _ _).mono ?_
  rintro e w1 ⟨rfl, hb⟩
  have hb1 := below_call (B := w.heap.size) (w := w) hb (below_dr _ (by go_grown)) (by simp)
  clear hb
  go_wp2_with fail
  go_ret
  exact ⟨rfl, hb1⟩

theorem check_nil (l a b h : Int) (w : World) (hl : latB l = true) (h0 : 0 ≤ h) (h1 : h < halvesV l) (hg : goodB a b = true) :
    Calls Tryd.prog 80 #[.int .i64 l, Ce a b h] w fun e w' => e = .returned .nilIface ∧ Below w.heap.size w w' := by
  have hd : decide (h < 0) = false := by simp; omega
  have hd2 : decide (halvesV l ≤ h) = false := by simp; omega
  go_enter Tryd.func80, Tryd.ntmps80
  go_wp2_with (go_at_call 67; refine (lgood_any _ _).mono ?_; rintro e w' ⟨rfl, rfl⟩)
  go_quiet ((go_at_call 50; exact q_first (halves_any _)))
  go_wp2_with fail
  refine (pgood_any _ _ _).mono ?_
  rintro e w1 ⟨rfl, hb⟩
  have hb1 := below_call (B := w.heap.size) (w := w) hb (below_dr _ (by go_grown)) (by simp)
  clear hb
  go_wp2_with fail
  go_ret
  exact ⟨rfl, hb1⟩

/-- A triangle's corners, as the program lays them. -/
def cornA (a b h : Int) : Array Value :=
  if h = 0 then #[.int .i64 a, .int .i64 b, .int .i64 (a + 1), .int .i64 b, .int .i64 a, .int .i64 (b + 1)]
  else #[.int .i64 (a + 1), .int .i64 b, .int .i64 a, .int .i64 (b + 1), .int .i64 (a + 1), .int .i64 (b + 1)]
theorem corners_any (a b h : Int) (w : World) (a0 : -8796093022208 ≤ a) (a1 : a ≤ 8796093022208) (b0 : -8796093022208 ≤ b) (b1 : b ≤ 8796093022208) :
    Calls Tryd.prog 95 #[Ce a b h] w fun e w' => e = .returned (.agg (cornA a b h)) ∧ Below w.heap.size w w' := by
  by_cases h0 : h = 0
  · subst h0
    unfold cornA
    rw [if_pos rfl]
    go_enter Tryd.func95, Tryd.ntmps95
    go_wp2
    go_quiet (fail)
    go_wp2
    exact bodyPost_ret (v := .agg #[.int .i64 a, .int .i64 b, .int .i64 (a + 1), .int .i64 b, .int .i64 a, .int .i64 (b + 1)]) (by simp [results, Tryd.results95, go_sem]) rfl ⟨rfl, by (go_grown; (repeat (refine below_dr _ ?_; go_grown)))⟩
  · unfold cornA
    rw [if_neg h0]
    have h' : (h == 0) = false := by simpa using h0
    clear h0
    go_enter Tryd.func95, Tryd.ntmps95
    go_wp2
    go_quiet (fail)
    go_wp2
    exact bodyPost_ret (v := .agg #[.int .i64 (a + 1), .int .i64 b, .int .i64 a, .int .i64 (b + 1), .int .i64 (a + 1), .int .i64 (b + 1)]) (by simp [results, Tryd.results95, go_sem]) rfl ⟨rfl, by (go_grown; (repeat (refine below_dr _ ?_; go_grown)))⟩

theorem idx3_0 (x0 y0 x1 y1 x2 y2 : Value) (w : World) : (Instr.index 185 (.agg #[x0, y0, x1, y1, x2, y2]) (.int .i64 0)).run Tryd.prog w = .ok (.agg #[x0, y0]) w := by kernel_rfl
theorem idx3_1 (x0 y0 x1 y1 x2 y2 : Value) (w : World) : (Instr.index 185 (.agg #[x0, y0, x1, y1, x2, y2]) (.int .i64 1)).run Tryd.prog w = .ok (.agg #[x1, y1]) w := by kernel_rfl
theorem idx3_2 (x0 y0 x1 y1 x2 y2 : Value) (w : World) : (Instr.index 185 (.agg #[x0, y0, x1, y1, x2, y2]) (.int .i64 2)).run Tryd.prog w = .ok (.agg #[x2, y2]) w := by kernel_rfl
theorem corn_index (a b h : Int) (i : Nat) (hi : i < 3) (w : World) :
    (Instr.index 185 (.agg (cornA a b h)) (.int .i64 i)).run Tryd.prog w = .ok (Pt (a + cX h i) (b + cY h i)) w := by
  have h3 : i = 0 ∨ i = 1 ∨ i = 2 := by omega
  by_cases h0 : h = 0
  · rcases h3 with rfl | rfl | rfl
    · simpa [cornA, cX, cY, h0] using idx3_0 ..
    · simpa [cornA, cX, cY, h0] using idx3_1 ..
    · simpa [cornA, cX, cY, h0] using idx3_2 ..
  · rcases h3 with rfl | rfl | rfl
    · simpa [cornA, cX, cY, h0] using idx3_0 ..
    · simpa [cornA, cX, cY, h0] using idx3_1 ..
    · simpa [cornA, cX, cY, h0] using idx3_2 ..
theorem cornA_size (a b h : Int) : (cornA a b h).size = 6 := by unfold cornA; split <;> rfl
end Go.Proofs.YtcmfkdhadmfgkaaDoor.Ce
