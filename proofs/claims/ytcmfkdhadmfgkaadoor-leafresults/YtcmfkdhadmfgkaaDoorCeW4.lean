/- The contract of cell.around: a point and the eight about it, row by row. -/
import Derived.Test.YtcmfkdhadmfgkaaDoorCeW3
import Derived.Laws.CopyOwn
import Derived.Laws.Tables
namespace Go.Proofs.YtcmfkdhadmfgkaaDoor.Ce
open Go.RowKit Go.Proofs.YtcmfkdhadmfgkaaDoor.Ax

/-- A block that is just these cells, none frozen. -/
def Blk (w : World) (g : Nat) (t : TypeId) (cs : Array Value) : Prop := w.heap[g]? = some (.cells cs t (0, 0))
section
variable {w w' : World} {g : Nat} {t : TypeId} {cs : Array Value}
theorem Blk.lt (h : Blk w g t cs) : g < w.heap.size := by
  rcases Nat.lt_or_ge g w.heap.size with hlt | hge
  · exact hlt
  · unfold Blk at h; rw [Array.getElem?_eq_none hge] at h; cases h
theorem Blk.cell (h : Blk w g t cs) (i : Nat) : w.cell? ⟨g, i, none⟩ = cs[i]? := cell_of_row w g i cs t (0, 0) h
theorem Blk.frozen (h : Blk w g t cs) (i : Nat) : w.frozen? ⟨g, i, none⟩ = false := by
  unfold Blk at h
  simp [World.frozen?, h]
theorem Blk.newAt (w : World) (t : TypeId) (cs : Array Value) (n : Nat) (h : n = w.heap.size) : Blk (w.alloc (.cells cs t)) n t cs := by subst h; exact heap_alloc_new w _
theorem Blk.alloc (h : Blk w g t cs) (o : Obj) : Blk (w.alloc o) g t cs := (Below.heap_alloc w o g h.lt).trans h
theorem Blk.drewN (h : Blk w g t cs) (n : Nat) : Blk (w.drewN n) g t cs := h
theorem Blk.far (h : Blk w g t cs) {p : Addr} (hp : g ≠ p.block) (u : Value) : Blk (w.setCell p u) g t cs := (Below.heap_setCell w p u g hp).trans h
theorem Blk.set_ (h : Blk w g t cs) (i : Nat) (u : Value) : Blk (w.setCell ⟨g, i, none⟩ u) g t (cs.setIfInBounds i u) := by
  unfold Blk at h ⊢
  simp [World.setCell, Array.getElem?_modify, h]
theorem Blk.below {B : Nat} (h : Blk w g t cs) (hb : Below B w w') (hg : g < B) : Blk w' g t cs := (hb.block g hg).trans h
end

/-- The n-th number of the nine points. -/
def pv (a b : Int) (j : Nat) : Int := if j % 2 = 0 then a - 1 + ((j / 2 % 3 : Nat) : Int) else b - 1 + ((j / 2 / 3 : Nat) : Int)
def arr (a b : Int) (k : Nat) : Array Value := ((List.range 18).map fun j => if j < 2 * k then Value.int .i64 (pv a b j) else .int .i64 0).toArray
theorem arr_get (a b : Int) (k j : Nat) (hj : j < 18) : (arr a b k)[j]? = some (if j < 2 * k then .int .i64 (pv a b j) else .int .i64 0) := by
  simp [arr, hj]
theorem arr_step (a b : Int) (k : Nat) (hk : k < 9) : ((arr a b k).setIfInBounds (k * 2) (.int .i64 (a - 1 + (k : Int) % 3))).setIfInBounds (k * 2 + 1) (.int .i64 (b - 1 + (k : Int) / 3)) = arr a b (k + 1) := by
  have h9 : k = 0 ∨ k = 1 ∨ k = 2 ∨ k = 3 ∨ k = 4 ∨ k = 5 ∨ k = 6 ∨ k = 7 ∨ k = 8 := by omega
  rcases h9 with rfl | rfl | rfl | rfl | rfl | rfl | rfl | rfl | rfl <;> rfl
def ArRel (w : World) (a b : Int) (i : Value) (wr : World) : Prop :=
  ∃ k : Nat, k ≤ 9 ∧ i = .int .i64 k ∧ Below w.heap.size w wr ∧ Box2 w.heap.size wr a b ∧ Blk wr (w.heap.size + 1 + 1) 159 (arr a b k) ∧ Blk wr (w.heap.size + 1) 159 (arr a b 0)
abbrev ptsA (a b : Int) : Array Value := arr a b 9
set_option maxRecDepth 100000 in
set_option maxHeartbeats 4000000 in
theorem around_any (a b : Int) (w : World) (a0 : -8796093022208 ≤ a) (a1 : a ≤ 8796093022208) (b0 : -8796093022208 ≤ b) (b1 : b ≤ 8796093022208) :
    Calls Tryd.prog 81 #[Pt a b] w fun e w' => e = .returned (.agg (ptsA a b)) ∧ Below w.heap.size w w' := by
  go_enter Tryd.func81, Tryd.ntmps81
  go_wp2
  go_loopw [5] (fun i wr => ArRel w a b i wr) (fun i _ => 9 - (intOf i).toNat)
  case atStart => exact ⟨0, by omega, rfl, by go_grown, by simp [Box2, go_sem], Blk.newAt _ _ (arr a b 0) _ (by simp), (Blk.newAt _ _ (arr a b 0) _ (by simp)).alloc _⟩
  case round =>
    obtain ⟨k, hk, rfl, hb, hx, hB, hC⟩ := hrel
    obtain ⟨p0, p1, p2, p3, p4⟩ := id hx
    by_cases hlt : k < 9
    · have c0 : wr.cell? ⟨w.heap.size + 1 + 1, k * 2, none⟩ = some (.int .i64 0) := by rw [hB.cell, arr_get _ _ _ _ (by omega), if_neg (by omega)]
      have c1 : wr.cell? ⟨w.heap.size + 1 + 1, k * 2 + 1, none⟩ = some (.int .i64 0) := by rw [hB.cell, arr_get _ _ _ _ (by omega), if_neg (by omega)]
      have f0 := hB.frozen (k * 2)
      have f1 := hB.frozen (k * 2 + 1)
      have hsz := hB.lt
      go_wp2
      go_roundw
      case rel => exact ⟨k + 1, by omega, by go_num, by go_grown, by simp [Box2, go_sem, *], by rw [← arr_step a b k hlt]; exact (hB.set_ _ _).set_ _ _, (hC.far (p := ⟨w.heap.size + 1 + 1, k * 2, none⟩) (by simp) _).far (p := ⟨w.heap.size + 1 + 1, k * 2 + 1, none⟩) (by simp) _⟩
      case measure => simp [intOf]; omega
    · have h9 : k = 9 := by omega
      subst h9
      have hl := hB.lt
      have h1 : ∀ v ∈ (arr a b 9).toList, v.oneCell' = true := by
        intro v hv
        simp [arr] at hv
        obtain ⟨j, _, rfl⟩ := hv
        split <;> rfl
      have hst := run_storeCells_from (P := Tryd.prog) (w.heap.size + 1) 159 (arr a b 9).toList 0 (arr a b 0) wr hC (by simp [arr]) h1
      simp only [List.take_zero, List.nil_append, Array.toArray_toList] at hst
      go_wp2_with (refine wpList_load_row rfl 159 _ rfl (w.heap.size + 1 + 1) rfl 159 (arr a b 9) (0, 0) _ hB Tryd.underlying159 rfl (by kernel_rfl) ?_)
      exact bodyPost_ret (v := .agg (arr a b 9)) (by exact results_cell_row Tryd.results81 _ _ (w.heap.size + 1) 159 (arr a b 9) (0, 0) _ rfl (setRow_heap _ _ _ _ _ _ hC) Tryd.underlying159 rfl (by kernel_rfl)) rfl ⟨rfl, below_setRow hb (by omega) _⟩
theorem pts_i0 (a b : Int) (w : World) : (Instr.index 159 (.agg (ptsA a b)) (.int .i64 ((0 : Nat) : Int))).run Tryd.prog w = .ok (Pt (a - 1 + ((0 : Nat) : Int) % 3) (b - 1 + ((0 : Nat) : Int) / 3)) w := by kernel_rfl
theorem pts_i1 (a b : Int) (w : World) : (Instr.index 159 (.agg (ptsA a b)) (.int .i64 ((1 : Nat) : Int))).run Tryd.prog w = .ok (Pt (a - 1 + ((1 : Nat) : Int) % 3) (b - 1 + ((1 : Nat) : Int) / 3)) w := by kernel_rfl
theorem pts_i2 (a b : Int) (w : World) : (Instr.index 159 (.agg (ptsA a b)) (.int .i64 ((2 : Nat) : Int))).run Tryd.prog w = .ok (Pt (a - 1 + ((2 : Nat) : Int) % 3) (b - 1 + ((2 : Nat) : Int) / 3)) w := by kernel_rfl
theorem pts_i3 (a b : Int) (w : World) : (Instr.index 159 (.agg (ptsA a b)) (.int .i64 ((3 : Nat) : Int))).run Tryd.prog w = .ok (Pt (a - 1 + ((3 : Nat) : Int) % 3) (b - 1 + ((3 : Nat) : Int) / 3)) w := by kernel_rfl
theorem pts_i4 (a b : Int) (w : World) : (Instr.index 159 (.agg (ptsA a b)) (.int .i64 ((4 : Nat) : Int))).run Tryd.prog w = .ok (Pt (a - 1 + ((4 : Nat) : Int) % 3) (b - 1 + ((4 : Nat) : Int) / 3)) w := by kernel_rfl
theorem pts_i5 (a b : Int) (w : World) : (Instr.index 159 (.agg (ptsA a b)) (.int .i64 ((5 : Nat) : Int))).run Tryd.prog w = .ok (Pt (a - 1 + ((5 : Nat) : Int) % 3) (b - 1 + ((5 : Nat) : Int) / 3)) w := by kernel_rfl
theorem pts_i6 (a b : Int) (w : World) : (Instr.index 159 (.agg (ptsA a b)) (.int .i64 ((6 : Nat) : Int))).run Tryd.prog w = .ok (Pt (a - 1 + ((6 : Nat) : Int) % 3) (b - 1 + ((6 : Nat) : Int) / 3)) w := by kernel_rfl
theorem pts_i7 (a b : Int) (w : World) : (Instr.index 159 (.agg (ptsA a b)) (.int .i64 ((7 : Nat) : Int))).run Tryd.prog w = .ok (Pt (a - 1 + ((7 : Nat) : Int) % 3) (b - 1 + ((7 : Nat) : Int) / 3)) w := by kernel_rfl
theorem pts_i8 (a b : Int) (w : World) : (Instr.index 159 (.agg (ptsA a b)) (.int .i64 ((8 : Nat) : Int))).run Tryd.prog w = .ok (Pt (a - 1 + ((8 : Nat) : Int) % 3) (b - 1 + ((8 : Nat) : Int) / 3)) w := by kernel_rfl
/-- The k-th of the nine points. -/
theorem pts_index (a b : Int) (k : Nat) (hk : k < 9) (w : World) : (Instr.index 159 (.agg (ptsA a b)) (.int .i64 k)).run Tryd.prog w = .ok (Pt (a - 1 + (k : Int) % 3) (b - 1 + (k : Int) / 3)) w := by
  have h9 : k = 0 ∨ k = 1 ∨ k = 2 ∨ k = 3 ∨ k = 4 ∨ k = 5 ∨ k = 6 ∨ k = 7 ∨ k = 8 := by omega
  rcases h9 with rfl | rfl | rfl | rfl | rfl | rfl | rfl | rfl | rfl
  · exact pts_i0 a b w
  · exact pts_i1 a b w
  · exact pts_i2 a b w
  · exact pts_i3 a b w
  · exact pts_i4 a b w
  · exact pts_i5 a b w
  · exact pts_i6 a b w
  · exact pts_i7 a b w
  · exact pts_i8 a b w
end Go.Proofs.YtcmfkdhadmfgkaaDoor.Ce
