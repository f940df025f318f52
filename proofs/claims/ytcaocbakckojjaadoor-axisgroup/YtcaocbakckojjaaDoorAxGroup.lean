/- AxisGroup: of any three operators: what two do as one, in whatever way three are put together; what undoes one; points beside each other are brought to such. No conditions. -/
import Derived.Test.YtcaocbakckojjaaDoorAxR
import Derived.Test.YtcaocbakckojjaaDoorAxW5
import Derived.BigRegion
import Derived.Deep.RegionHeld3
import Derived.Deep.DeepCutAuto
namespace Go.Proofs.YtcaocbakckojjaaDoor.Ax
open Go.RowKit

theorem op_add (o a b c d : Int) : opA o (a + c) (b + d) = opA o a b + opA o c d ∧ opB o (a + c) (b + d) = opB o a b + opB o c d := by
  have hk : (o % 6).toNat < 6 := by omega
  unfold opA opB
  rcases six_cases hk with h | h | h | h | h | h <;> rw [h] <;> simp only [tn] <;> split <;> omega
theorem and255 (o : Int) : 0 ≤ bits .and .i64 o 255 ∧ bits .and .i64 o 255 ≤ 255 := by
  have h : (BitVec.ofInt 64 o &&& BitVec.ofInt 64 255).toNat ≤ 255 := by
    rw [BitVec.toNat_and]
    exact Nat.le_trans Nat.and_le_right (by decide)
  show 0 ≤ IntKind.i64.wrap ((BitVec.ofInt 64 o &&& BitVec.ofInt 64 255).toNat : Int) ∧ IntKind.i64.wrap ((BitVec.ofInt 64 o &&& BitVec.ofInt 64 255).toNat : Int) ≤ 255
  rw [IntKind.wrap_i64]
  omega
theorem op12 (o : Int) : 0 ≤ (bits .and .i64 o 255).tmod 12 ∧ (bits .and .i64 o 255).tmod 12 < 12 := by
  obtain ⟨h0, h1⟩ := and255 o
  generalize bits .and .i64 o 255 = u at *
  rw [Int.tmod_eq_emod_of_nonneg h0]
  omega
theorem ix6 (o : Int) : 0 ≤ (bits .and .i64 o 255).tmod 6 ∧ (bits .and .i64 o 255).tmod 6 < 6 := by
  obtain ⟨h0, h1⟩ := and255 o
  generalize bits .and .i64 o 255 = u at *
  rw [Int.tmod_eq_emod_of_nonneg h0]
  omega
theorem mod38 (a : Int) : -274877906944 < a.tmod 274877906944 ∧ a.tmod 274877906944 < 274877906944 := by
  have h1 := Int.tmod_lt_of_pos a (show (0 : Int) < 274877906944 by decide)
  have h2 := Int.lt_tmod_of_pos a (show (0 : Int) < 274877906944 by decide)
  omega
/-- The group's laws, over all twelve. -/
theorem grp_fin : ∀ x y z : Fin 12, thenV (thenV x.val y.val) z.val = thenV x.val (thenV y.val z.val) := by decide +kernel
theorem grp1_fin : ∀ x : Fin 12, thenV x.val (backV x.val) = 0 ∧ thenV (backV x.val) x.val = 0 ∧ thenV x.val 0 = x.val ∧ 0 ≤ backV x.val ∧ backV x.val < 12 := by decide +kernel
theorem grp (x y z : Int) (x0 : 0 ≤ x) (x1 : x < 12) (y0 : 0 ≤ y) (y1 : y < 12) (z0 : 0 ≤ z) (z1 : z < 12) : thenV (thenV x y) z = thenV x (thenV y z) := by
  have h := grp_fin ⟨x.toNat, by omega⟩ ⟨y.toNat, by omega⟩ ⟨z.toNat, by omega⟩
  simp only [Int.toNat_of_nonneg x0, Int.toNat_of_nonneg y0, Int.toNat_of_nonneg z0] at h
  exact h
theorem grp1 (x : Int) (x0 : 0 ≤ x) (x1 : x < 12) : thenV x (backV x) = 0 ∧ thenV (backV x) x = 0 ∧ thenV x 0 = x ∧ 0 ≤ backV x ∧ backV x < 12 := by
  have h := grp1_fin ⟨x.toNat, by omega⟩
  simp only [Int.toNat_of_nonneg x0] at h
  exact h
theorem opthen_fin : ∀ x y : Fin 12, (mt x.val y.val (thenV x.val y.val) 1 0 && mt x.val y.val (thenV x.val y.val) 0 1) = true := by decide +kernel
/-- Every operator is fixed by where it brings two of the six. -/
theorem op_lin (o a b : Int) : opA o a b = a * opA o 1 0 + b * opA o 0 1 ∧ opB o a b = a * opB o 1 0 + b * opB o 0 1 := by
  have hk : (o % 6).toNat < 6 := by omega
  unfold opA opB
  rcases six_cases hk with h | h | h | h | h | h <;> rw [h] <;> simp only [tn] <;> split <;> omega

theorem op_then (x y a b : Int) (x0 : 0 ≤ x) (x1 : x < 12) (y0 : 0 ≤ y) (y1 : y < 12) : opA (thenV x y) a b = opA y (opA x a b) (opB x a b) ∧ opB (thenV x y) a b = opB y (opA x a b) (opB x a b) := by
  have h := opthen_fin ⟨x.toNat, by omega⟩ ⟨y.toNat, by omega⟩
  simp only [Int.toNat_of_nonneg x0, Int.toNat_of_nonneg y0] at h
  unfold mt at h
  simp only [Bool.and_eq_true, beq_iff_eq] at h
  obtain ⟨⟨h1, h2⟩, h3, h4⟩ := h
  have e1 := op_lin (thenV x y) a b
  have e2 := op_lin x a b
  have e3 := op_lin y (opA x a b) (opB x a b)
  have e4 := op_lin y (opA x 1 0) (opB x 1 0)
  have e5 := op_lin y (opA x 0 1) (opB x 0 1)
  generalize opA x a b = u at *
  generalize opB x a b = v at *
  grind
/-- The six points by their numbers. -/
def sA (i : Int) : Int := if i = 0 then 1 else if i = 1 then 0 else if i = 2 then -1 else if i = 3 then -1 else if i = 4 then 0 else 1
def sB (i : Int) : Int := if i = 0 then 0 else if i = 1 then 1 else if i = 2 then 1 else if i = 3 then 0 else if i = 4 then -1 else -1
theorem s_bd (i : Int) : (-1 ≤ sA i ∧ sA i ≤ 1) ∧ (-1 ≤ sB i ∧ sB i ≤ 1) := by
  unfold sA sB
  repeat' split
  all_goals omega
theorem idx_0 (w : World) : (Instr.index 42 (.agg sixCells) (.int .i64 0)).run Tryd.prog w = .ok (Pt (1) (0)) w := by kernel_rfl
theorem idx_1 (w : World) : (Instr.index 42 (.agg sixCells) (.int .i64 1)).run Tryd.prog w = .ok (Pt (0) (1)) w := by kernel_rfl
theorem idx_2 (w : World) : (Instr.index 42 (.agg sixCells) (.int .i64 2)).run Tryd.prog w = .ok (Pt (-1) (1)) w := by kernel_rfl
theorem idx_3 (w : World) : (Instr.index 42 (.agg sixCells) (.int .i64 3)).run Tryd.prog w = .ok (Pt (-1) (0)) w := by kernel_rfl
theorem idx_4 (w : World) : (Instr.index 42 (.agg sixCells) (.int .i64 4)).run Tryd.prog w = .ok (Pt (0) (-1)) w := by kernel_rfl
theorem idx_5 (w : World) : (Instr.index 42 (.agg sixCells) (.int .i64 5)).run Tryd.prog w = .ok (Pt (1) (-1)) w := by kernel_rfl
theorem idx (i : Int) (h0 : 0 ≤ i) (h1 : i < 6) (w : World) : (Instr.index 42 (.agg sixCells) (.int .i64 i)).run Tryd.prog w = .ok (Pt (sA i) (sB i)) w := by
  have : i = 0 ∨ i = 1 ∨ i = 2 ∨ i = 3 ∨ i = 4 ∨ i = 5 := by omega
  rcases this with rfl | rfl | rfl | rfl | rfl | rfl
  · exact idx_0 w
  · exact idx_1 w
  · exact idx_2 w
  · exact idx_3 w
  · exact idx_4 w
  · exact idx_5 w
/-- Where an operator brings one of the six: the first of them that it is. -/
def sg (x j : Int) : Nat := ((List.range 6).find? fun i : Nat => (sA (i : Int) == opA x (sA j) (sB j)) && (sB (i : Int) == opB x (sA j) (sB j))).getD 0
theorem sg_fin : ∀ (x : Fin 12) (j : Fin 6), sg x.val j.val < 6 ∧ sA (sg x.val j.val) = opA x.val (sA j.val) (sB j.val) ∧ sB (sg x.val j.val) = opB x.val (sA j.val) (sB j.val) := by decide +kernel
theorem sg_spec (x j : Int) (x0 : 0 ≤ x) (x1 : x < 12) (j0 : 0 ≤ j) (j1 : j < 6) : sg x j < 6 ∧ sA (sg x j) = opA x (sA j) (sB j) ∧ sB (sg x j) = opB x (sA j) (sB j) := by
  have h := sg_fin ⟨x.toNat, by omega⟩ ⟨j.toNat, by omega⟩
  simp only [Int.toNat_of_nonneg x0, Int.toNat_of_nonneg j0] at h
  exact h
theorem s_inj_fin : ∀ i j : Fin 6, i ≠ j → (sA i.val == sA j.val && sB i.val == sB j.val) = false := by decide +kernel
theorem s_inj (i j : Nat) (hi : i < 6) (hj : j < 6) (h : i ≠ j) : (sA i == sA j && sB i == sB j) = false :=
  s_inj_fin ⟨i, hi⟩ ⟨j, hj⟩ (fun e => h (by simpa using e))

theorem keep2 {B : Nat} {W w1 : World} {x y : Int} (h : Box2 B W x y) (hb : Below W.heap.size W w1) : w1.cell? ⟨B, 0, none⟩ = some (.int .i64 x) ∧ w1.cell? ⟨B, 1, none⟩ = some (.int .i64 y) :=
  ⟨(box2_below h hb).1, (box2_below h hb).2.1⟩
/-- A store into another block turns no box. -/
theorem box2_far {B C i : Nat} {W : World} {x y : Int} (h : Box2 B W x y) (hne : C ≠ B) (v : Value) : Box2 B (W.setCell ⟨C, i, none⟩ v) x y := by
  obtain ⟨h1, h2, h3, h4, h5⟩ := h
  exact ⟨(World.cell?_setCell_far _ _ _ _ hne).trans h1, (World.cell?_setCell_far _ _ _ _ hne).trans h2, by simpa using h3, by simpa using h4, by simpa [World.setCell] using h5⟩
theorem box2_far2 {B C i j : Nat} {W : World} {x y : Int} (h : Box2 B W x y) (hne : C ≠ B) (u v : Value) : Box2 B ((W.setCell ⟨C, i, none⟩ u).setCell ⟨C, j, none⟩ v) x y := box2_far (box2_far h hne u) hne v
theorem keep2s {B C i j : Nat} {W : World} {x y : Int} {u v : Value} (h : Box2 B W x y) (hne : C ≠ B) : ((W.setCell ⟨C, i, none⟩ u).setCell ⟨C, j, none⟩ v).cell? ⟨B, 0, none⟩ = some (.int .i64 x) ∧ ((W.setCell ⟨C, i, none⟩ u).setCell ⟨C, j, none⟩ v).cell? ⟨B, 1, none⟩ = some (.int .i64 y) :=
  ⟨(box2_far2 h hne u v).1, (box2_far2 h hne u v).2.1⟩
/-- A new box that was laid ahead of the call. -/
theorem boxz {W w5 : World} {X : Obj} {t : TypeId} (hb : Below ((W.alloc X).alloc (.cells #[.int .i64 0, .int .i64 0] t)).drew.heap.size ((W.alloc X).alloc (.cells #[.int .i64 0, .int .i64 0] t)).drew w5) : Box2 (W.heap.size + 1) w5 0 0 :=
  box2_below (by simp [Box2, go_sem]) hb
theorem boxn {W w5 : World} {t : TypeId} (hb : Below (W.alloc (.cells #[.int .i64 0, .int .i64 0] t)).heap.size (W.alloc (.cells #[.int .i64 0, .int .i64 0] t)) w5) : Box2 W.heap.size w5 0 0 :=
  box2_below (by simp [Box2, go_sem]) hb
theorem boxd {W w5 : World} {t : TypeId} (hb : Below (W.alloc (.cells #[.int .i64 0, .int .i64 0] t)).drew.heap.size (W.alloc (.cells #[.int .i64 0, .int .i64 0] t)).drew w5) : Box2 W.heap.size w5 0 0 :=
  box2_below (by simp [Box2, go_sem]) hb
/-- What stands behind Plus: where its answer lies, and what lies where it lay. -/
def Rel10 (w : World) (B3 B4 g : Nat) (X1 Y1 X2 Y2 NA NB : Int) (v n : Value) (wx : World) : Prop :=
  ∃ f, v = .pointer (some ⟨f, 0, none⟩) ∧ n = .nilIface ∧ Box2 f wx NA NB ∧ Box2 B3 wx X1 Y1 ∧ Box2 B4 wx X2 Y2 ∧ Box2 g wx X2 Y2 ∧ Below w.heap.size w wx
/-- What holds at the head of a round of the search among the six. -/
def Rel15 (w : World) (B3 B7 : Nat) (X1 Y1 BA BB : Int) (S : Nat) (i : Value) (wr : World) : Prop :=
  ∃ n : Nat, n ≤ S ∧ i = .int .i64 n ∧ Box2 B3 wr X1 Y1 ∧ Box2 B7 wr BA BB ∧ Below w.heap.size w wr
theorem on_near (x A B j X1 Y1 : Int) (S : Nat) (x0 : 0 ≤ x) (x1 : x < 12) (hX : opA x A B = X1) (hY : opB x A B = Y1) (h6 : sA S = opA x (sA j) (sB j)) (h7 : sB S = opB x (sA j) (sB j))
    (g1 : goodB (A + sA j) (B + sB j) = true) (g2 : goodB (X1 + sA S) (Y1 + sB S) = true) (w : World) :
    Calls Tryd.prog 15 #[.int .i64 x, Pt (A + sA j) (B + sB j)] w fun e w' => e = .returned (.tuple #[Pt (X1 + sA S) (Y1 + sB S), .nilIface]) ∧ Below w.heap.size w w' := by
  obtain ⟨e1, e2⟩ := op_add x A B (sA j) (sB j)
  rw [hX, ← h6] at e1
  rw [hY, ← h7] at e2
  rw [← e1, ← e2] at g2 ⊢
  exact on_yes _ _ _ w x0 x1 g1 g2
/-- What stands behind the third call of On: where its answer lies, and what lies where it lay. -/
def Rel9 (w : World) (B3 B4 : Nat) (A B X1 Y1 X2 Y2 : Int) (v n : Value) (wx : World) : Prop :=
  ∃ g, v = .pointer (some ⟨g, 0, none⟩) ∧ n = .nilIface ∧ Box2 g wx X2 Y2 ∧ Box2 w.heap.size wx A B ∧ Box2 B3 wx X1 Y1 ∧ Box2 B4 wx X2 Y2 ∧ Below w.heap.size w wx
theorem on_then (x y A B : Int) (x0 : 0 ≤ x) (x1 : x < 12) (y0 : 0 ≤ y) (y1 : y < 12) (g1 : goodB A B = true) (g2 : goodB (opA y (opA x A B) (opB x A B)) (opB y (opA x A B) (opB x A B)) = true) (w : World) :
    Calls Tryd.prog 15 #[.int .i64 (thenV x y), Pt A B] w fun e w' => e = .returned (.tuple #[Pt (opA y (opA x A B) (opB x A B)) (opB y (opA x A B) (opB x A B)), .nilIface]) ∧ Below w.heap.size w w' := by
  obtain ⟨t0, t1⟩ := then_bd x y x0 x1 y0 y1
  obtain ⟨e1, e2⟩ := op_then x y A B x0 x1 y0 y1
  rw [← e1, ← e2] at g2 ⊢
  exact on_yes _ _ _ w t0 t1 g1 g2

set_option maxRecDepth 100000 in
set_option maxHeartbeats 4000000 in
theorem axisGroup_walk (a : Int) (wa : (Lit.int .i64 a).wf = true) (b : Int) (wb : (Lit.int .i64 b).wf = true) (c : Int) (wc : (Lit.int .i64 c).wf = true) (k : Int) (wk : (Lit.int .i64 k).wf = true) (pA : Int) (wpA : (Lit.int .i64 pA).wf = true) (pB : Int) (wpB : (Lit.int .i64 pB).wf = true) (w : World) (hs : SixIs w) :
    Calls Tryd.prog 6 #[.int .i64 a, .int .i64 b, .int .i64 c, .int .i64 k, Pt pA pB] w fun e w' => e = .returned (.bool true) ∧ Below w.heap.size w w' := by
  clear wa wb wc wk wpA wpB
  obtain ⟨x0, x1⟩ := op12 a
  obtain ⟨y0, y1⟩ := op12 b
  obtain ⟨z0, z1⟩ := op12 c
  obtain ⟨a0, a1⟩ := mod38 pA
  obtain ⟨b0, b1⟩ := mod38 pB
  go_enter Tryd.func6, Tryd.ntmps6
  go_wp2_with fail
  refine (awake_any _ (hs.below (by go_grown))).mono ?_
  rintro e w1 ⟨rfl, hb⟩
  have bp1 : Box2 w.heap.size w1 pA pB := box2_below (by simp [Box2, go_sem]) hb
  have hb1 := below_call (B := w.heap.size) (w := w) hb (by go_grown) (by go_size)
  clear hb
  obtain ⟨p1, p2, p3, p4, p5⟩ := id bp1
  go_wp2_with fail
  generalize (bits BinOp.and IntKind.i64 a 255).tmod 12 = x at *
  generalize (bits BinOp.and IntKind.i64 b 255).tmod 12 = y at *
  generalize (bits BinOp.and IntKind.i64 c 255).tmod 12 = z at *
  obtain ⟨t0, t1⟩ := then_bd x y x0 x1 y0 y1
  obtain ⟨u0, u1⟩ := then_bd y z y0 y1 z0 z1
  obtain ⟨g1, g2, g3, v0, v1⟩ := grp1 x x0 x1
  have g0 := grp x y z x0 x1 y0 y1 z0 z1
  have G0 : (thenV (thenV x y) z != thenV x (thenV y z)) = false := by simp [g0]
  have G1 : (thenV x (backV x) != 0) = false := by simp [g1]
  have G2 : (thenV (backV x) x != 0) = false := by simp [g2]
  have G3 : (thenV x 0 != x) = false := by simp [g3]
  have G4 : (thenV x y != thenV x y) = false := by simp
  clear g0 g1 g2 g3
  go_wp2_with (first | (go_at_call 18; refine (then_any _ _ _ (by omega) (by omega) (by omega) (by omega)).mono ?_; rintro e w' ⟨rfl, rfl⟩) | (go_at_call 20; refine (back_any _ _ (by omega) (by omega)).mono ?_; rintro e w' ⟨rfl, rfl⟩))
  refine (refthen_any x y _ x0 x1 y0 y1).mono ?_
  rintro e w2 ⟨rfl, hb⟩
  have bp2 : Box2 w.heap.size w2 (pA.tmod 274877906944) (pB.tmod 274877906944) := box2_below (box2_set bp1 _ _) hb
  have hb2 := below_call (B := w.heap.size) (w := w) hb (by go_grown) (by have := hb1.size; simp; omega)
  clear hb p1 p2 p3 p4 p5 bp1 hb1
  obtain ⟨p1, p2, p3, p4, p5⟩ := id bp2
  generalize pA.tmod 274877906944 = A at *
  generalize pB.tmod 274877906944 = B at *
  go_wp2_with (first | (go_at_call 18; refine (then_any _ _ _ (by omega) (by omega) (by omega) (by omega)).mono ?_; rintro e w' ⟨rfl, rfl⟩) | (go_at_call 20; refine (back_any _ _ (by omega) (by omega)).mono ?_; rintro e w' ⟨rfl, rfl⟩))
  obtain ⟨⟨e1, e2⟩, e3, e4⟩ := op_bd x A B 274877906944 (by omega) (by omega) (by omega) (by omega)
  have hq := op_then x y A B x0 x1 y0 y1
  obtain ⟨⟨f1, f2⟩, f3, f4⟩ := op_bd (thenV x y) A B 274877906944 (by omega) (by omega) (by omega) (by omega)
  rw [hq.1] at f1 f2
  rw [hq.2] at f3 f4
  clear hq G0 G1 G2 G3 G4
  refine (on_yes _ _ _ _ x0 x1 (goodB_iff.2 (by omega)) (goodB_iff.2 (by omega))).mono ?_
  rintro e w3 ⟨rfl, hb⟩
  have bp := box2_below bp2 hb
  have hb3 := below_call (B := w.heap.size) (w := w) hb hb2 hb2.size
  have c3 := Lib.hid (on_then x y A B x0 x1 y0 y1 (goodB_iff.2 (by omega)) (goodB_iff.2 (by omega)))
  clear hb p1 p2 p3 p4 p5 bp2 hb2
  have HX := Lib.hid (show opA x A B = opA x A B from rfl)
  go_wp2_with fail
  refine (on_yes _ _ _ _ y0 y1 (goodB_iff.2 (by omega)) (goodB_iff.2 (by omega))).mono ?_
  rintro e w4 ⟨rfl, hb⟩
  have bp := box2_below (box2_below bp (by go_grown)) hb
  have bo : Box2 w3.heap.size w4 (opA x A B) (opB x A B) := box2_below (by simp [Box2, go_sem]) hb
  have s3 := hb3.size
  have hb4 := below_call (B := w.heap.size) (w := w) hb (by go_grown) (by simp; omega)
  have s4 := hb4.size
  clear hb
  have HX1 := Lib.hid (show opA x A B = opA x A B from rfl)
  clear HX HX1
  generalize hX1 : opA x A B = X1 at *
  generalize hY1 : opB x A B = Y1 at *
  generalize hX2 : opA y X1 Y1 = X2 at *
  generalize hY2 : opB y X1 Y1 = Y2 at *
  have HX1 := Lib.hid hX1
  have HY1 := Lib.hid hY1
  clear hX1 hY1 hX2 hY2
  have s34 : w3.heap.size < w4.heap.size := bo.2.2.2.2
  go_upto_region 9 with fail
  have bp : Box2 w.heap.size (w4.alloc (.cells #[.int .i64 X2, .int .i64 Y2] 27)) A B := box2_below bp (by go_grown)
  have bo : Box2 w3.heap.size (w4.alloc (.cells #[.int .i64 X2, .int .i64 Y2] 27)) X1 Y1 := box2_below bo (by go_grown)
  have bt : Box2 w4.heap.size (w4.alloc (.cells #[.int .i64 X2, .int .i64 Y2] 27)) X2 Y2 := by simp [Box2, go_sem]
  have hb0 : Below w.heap.size w (w4.alloc (.cells #[.int .i64 X2, .int .i64 Y2] 27)) := by go_grown
  go_cut [18, 19] (fun v n wx => Rel9 w w3.heap.size w4.heap.size A B X1 Y1 X2 Y2 v n wx)
  case first =>
    go_region_held3 (fun w' => w'.cell? ⟨w.heap.size, 0, none⟩ = some (.int .i64 A) ∧ w'.cell? ⟨w.heap.size, 1, none⟩ = some (.int .i64 B)) (first | (refine keep2s bp ?_; omega) | (refine keep2 bp ?_; go_grown; done))
      (first | (go_at_call 18; refine (then_any _ _ _ (by omega) (by omega) (by omega) (by omega)).mono ?_; rintro e w' ⟨rfl, rfl⟩) | (go_at_call 15; refine (c3.out _).mono ?_; rintro e w5 ⟨rfl, hb⟩; (try (have bz := boxz hb; obtain ⟨o1, o2, o3, o4, o5⟩ := id bz)); have bp := box2_below (box2_below bp (by go_grown)) hb; have bo := box2_below (box2_below bo (by go_grown)) hb; have bt := box2_below (box2_below bt (by go_grown)) hb; have hb0 := below_call hb (hb0.trans (Below.mono (by go_grown) hb0.size)) (by simp; omega); have s5 := hb0.size; clear hb))
    all_goals go_wp2_with fail
    all_goals go_meet
    all_goals first
      | exact ⟨w5.heap.size, rfl, rfl, by simp [Box2, go_sem], box2_below bp (by go_grown), box2_below bo (by go_grown), box2_below bt (by go_grown), by go_grown⟩
      | exact ⟨w4.heap.size + 1, rfl, rfl, box2_set bz _ _, box2_far2 bp (by omega) _ _, box2_far2 bo (by omega) _ _, box2_far2 bt (by omega) _ _, by go_grown⟩
  case rest =>
    obtain ⟨g, rfl, rfl, bg, bp, bo, bt, hb0⟩ := hcut
    obtain ⟨j0, j1⟩ := ix6 k
    have hk6 := idx _ j0 j1
    obtain ⟨⟨m1, m2⟩, m3, m4⟩ := s_bd ((bits BinOp.and IntKind.i64 k 255).tmod 6)
    obtain ⟨m5, m6, m7⟩ := sg_spec x ((bits BinOp.and IntKind.i64 k 255).tmod 6) x0 x1 j0 j1
    have M6 := Lib.hid m6
    have M7 := Lib.hid m7
    clear c3 hb3 hb4 s3 s4 s34 m6 m7
    have l1 := bp.2.2.2.2
    have l2 := bo.2.2.2.2
    have l3 := bt.2.2.2.2
    have l4 := bg.2.2.2.2
    go_upto_region 10 with fail
    go_cut [20, 21] (fun v n wx => Rel10 w w3.heap.size w4.heap.size g X1 Y1 X2 Y2 (A + sA ((bits BinOp.and IntKind.i64 k 255).tmod 6)) (B + sB ((bits BinOp.and IntKind.i64 k 255).tmod 6)) v n wx)
    case first =>
      go_region_held3 (fun w' => w'.cell? ⟨w.heap.size, 0, none⟩ = some (.int .i64 A) ∧ w'.cell? ⟨w.heap.size, 1, none⟩ = some (.int .i64 B)) (first | (refine keep2s bp ?_; omega) | (refine keep2 bp ?_; go_grown; done))
        (first | (go_at_call 21; refine (six_any _ (hs.below (hb0.trans (Below.mono (by go_grown) hb0.size)))).mono ?_; rintro e w5 ⟨rfl, hb⟩; (try (have bz := boxd hb; obtain ⟨o1, o2, o3, o4, o5⟩ := id bz)); have bp := box2_below (box2_below bp (by go_grown)) hb; have bo := box2_below (box2_below bo (by go_grown)) hb; have bt := box2_below (box2_below bt (by go_grown)) hb; have bg := box2_below (box2_below bg (by go_grown)) hb; have hb0 := below_call hb (hb0.trans (Below.mono (by go_grown) hb0.size)) (by have := hb0.size; simp; omega); clear hb; have l1 := bp.2.2.2.2; have l2 := bo.2.2.2.2; have l3 := bt.2.2.2.2; have l4 := bg.2.2.2.2) | (go_at_call 11; refine (plus_good _ _ _ _ _ (goodB_iff.2 (by omega)) (goodB_iff.2 (by omega)) (goodB_iff.2 (by omega))).mono ?_; rintro e w6 ⟨rfl, hb⟩; (try (have bz := box2_below bz hb; obtain ⟨o1, o2, o3, o4, o5⟩ := id bz)); (try (have bz := boxn hb; obtain ⟨o1, o2, o3, o4, o5⟩ := id bz)); have bp := box2_below (box2_below bp (by go_grown)) hb; have bo := box2_below (box2_below bo (by go_grown)) hb; have bt := box2_below (box2_below bt (by go_grown)) hb; have bg := box2_below (box2_below bg (by go_grown)) hb; have hb0 := below_call hb (hb0.trans (Below.mono (by go_grown) hb0.size)) (by have := hb0.size; simp; omega); clear hb; have l1 := bp.2.2.2.2; have l2 := bo.2.2.2.2; have l3 := bt.2.2.2.2; have l4 := bg.2.2.2.2))
      all_goals go_wp2_with fail
      all_goals go_meet
      all_goals first
        | exact ⟨w6.heap.size, rfl, rfl, by simp [Box2, go_sem], box2_below bo (by go_grown), box2_below bt (by go_grown), box2_below bg (by go_grown), by go_grown⟩
        | exact ⟨_, rfl, rfl, box2_set bz _ _, box2_far2 bo (by omega) _ _, box2_far2 bt (by omega) _ _, box2_far2 bg (by omega) _ _, by go_grown⟩
    case rest =>
      obtain ⟨f, rfl, rfl, bf, bo, bt, bg, hb0⟩ := hcut
      obtain ⟨⟨n1, n2⟩, n3, n4⟩ := s_bd (sg x ((bits BinOp.and IntKind.i64 k 255).tmod 6))
      have c7 := Lib.hid (on_near x A B _ X1 Y1 _ x0 x1 HX1.out HY1.out M6.out M7.out (goodB_iff.2 (by omega)) (goodB_iff.2 (by omega)))
      generalize sA ((bits BinOp.and IntKind.i64 k 255).tmod 6) = SA at *
      generalize sB ((bits BinOp.and IntKind.i64 k 255).tmod 6) = SB at *
      generalize sg x ((bits BinOp.and IntKind.i64 k 255).tmod 6) = S at *
      clear bp hk6 l1 l2 l3 l4 M6 M7
      obtain ⟨f1', f2', _, _, f5'⟩ := id bf
      go_wp2_with fail
      refine (c7.out _).mono ?_
      rintro e w7 ⟨rfl, hb⟩
      have bo := box2_below bo hb
      have bt := box2_below bt hb
      have bg := box2_below bg hb
      have hb7 := hb0.trans (hb.mono hb0.size)
      have s7 := hb7.size
      clear hb bf f1' f2' f5' hb0 c7
      have bo7 := box2_below bo (show Below w7.heap.size w7 (w7.alloc (.cells #[.int .i64 (X1 + sA S), .int .i64 (Y1 + sB S)] 27)) from by go_grown)
      have bq7 : Box2 w7.heap.size (w7.alloc (.cells #[.int .i64 (X1 + sA S), .int .i64 (Y1 + sB S)] 27)) (X1 + sA S) (Y1 + sB S) := by simp [Box2, go_sem]
      have hb0 : Below w.heap.size w (w7.alloc (.cells #[.int .i64 (X1 + sA S), .int .i64 (Y1 + sB S)] 27)) := by go_grown
      obtain ⟨t1', t2', _, _, t5'⟩ := id bt
      obtain ⟨g1', g2', _, _, g5'⟩ := id bg
      have hne : ∀ w, (binOp .neq 27 (Pt X2 Y2) (Pt X2 Y2)).run Tryd.prog w = .ok (.bool false) w := fun w => by rw [neq_pt]; simp
      go_wp2_with fail
      refine (six_any _ (hs.below hb0)).mono ?_
      rintro e w8 ⟨rfl, hb⟩
      have bo := box2_below bo7 hb
      have bq := box2_below bq7 hb
      have hb8 := hb0.trans (hb.mono hb0.size)
      clear hb bo7 bq7 hb0 bt bg t1' t2' t5' g1' g2' g5' hne
      go_wp2_with fail
      go_loopw [147] (fun i wr => Rel15 w w3.heap.size w7.heap.size X1 Y1 (X1 + sA S) (Y1 + sB S) S i wr) (fun i _ => 6 - (intOf i).toNat)
      case atStart => exact ⟨0, Nat.zero_le _, rfl, bo, bq, hb8⟩
      case round =>
        clear bo bq hb8
        obtain ⟨n, hn, rfl, bo, bq, hb0⟩ := hrel
        have hn6 : (n : Int) < 6 := by omega
        have hi := idx (n : Int) (by omega) hn6
        obtain ⟨⟨r1, r2⟩, r3, r4⟩ := s_bd (n : Int)
        obtain ⟨o1, o2, _, _, o5⟩ := id bo
        have s0 := hb0.size
        by_cases e : n = S
        · have heq : ∀ w, (binOp .eql 27 (Pt (X1 + sA n) (Y1 + sB n)) (Pt (X1 + sA S) (Y1 + sB S))).run Tryd.prog w = .ok (.bool true) w := fun w => by rw [eql_pt, e]; simp
          clear e
          go_wp2_with fail; refine (plus_good _ _ _ _ _ (goodB_iff.2 (by omega)) (goodB_iff.2 (by omega)) (goodB_iff.2 (by omega))).mono ?_; rintro e w9 ⟨rfl, hb⟩; have bo9 := box2_below (box2_below bo (by go_grown)) hb; have bq9 := box2_below (box2_below bq (by go_grown)) hb; have hb9 := below_call hb (hb0.trans (Below.mono (by go_grown) s0)) (by simp; omega); clear hb; obtain ⟨q1, q2, _, _, q5⟩ := id bq9; have s9 := hb9.size
          go_wp2_with fail
          go_ret
          exact ⟨rfl, by go_grown⟩
        · have heq : ∀ w, (binOp .eql 27 (Pt (X1 + sA n) (Y1 + sB n)) (Pt (X1 + sA S) (Y1 + sB S))).run Tryd.prog w = .ok (.bool false) w := fun w => by
            have hj := s_inj n S (by omega) m5 e
            rw [eql_pt]
            simp only [Bool.and_eq_false_iff, beq_eq_false_iff_ne] at hj ⊢
            congr 2
            rw [Bool.and_eq_false_iff, beq_eq_false_iff_ne, beq_eq_false_iff_ne]
            omega
          go_wp2_with fail; refine (plus_good _ _ _ _ _ (goodB_iff.2 (by omega)) (goodB_iff.2 (by omega)) (goodB_iff.2 (by omega))).mono ?_; rintro e w9 ⟨rfl, hb⟩; have bo9 := box2_below (box2_below bo (by go_grown)) hb; have bq9 := box2_below (box2_below bq (by go_grown)) hb; have hb9 := below_call hb (hb0.trans (Below.mono (by go_grown) s0)) (by simp; omega); clear hb; obtain ⟨q1, q2, _, _, q5⟩ := id bq9; have s9 := hb9.size
          go_wp2_with fail
          go_roundw
          case rel => exact ⟨n + 1, by omega, by go_num, box2_below bo9 (by go_grown), box2_below bq9 (by go_grown), by go_grown⟩
          case measure => simp [intOf]; omega

section axisGroupFrame
open Go.ChangeShapes Go.WideShapes Go.ChangeAt Go.RowKit Go.Joins
theorem axisGroup_contract (H : Type) (enc : TypeId × Value → H) (W : World) (base : Nat) (args : Array Value) (ds gs : List (DataW H)) (before : List MemPlace)
    (hval : ∀ (j : Nat) t v, Tryd.f6.params[j]? = some t → args[j]? = some v → Value.okWide Tryd.prog W .any base t v)
    (hW : DataW.Whole enc Tryd.prog Tryd.f6.params.toList Rows.axisGroupSpec.vars false W args.toList ds gs before) (hL : laidMetH Tryd.prog Rows.axisGroupRow.laid W) :
    Calls Tryd.prog 6 args W fun e W' => ∃ v, e = .returned v ∧ Rows.axisGroupSpec.post enc Tryd.prog Tryd.f6 false true false false W args v W' := by
  have hW' := hW
  obtain ⟨p, q, hA0, hV, rfl, hfz, hnd⟩ := hW
  have hA : DataW.TrodAll enc Tryd.prog W 0 (fun _ => true) true Tryd.f6.params.toList args.toList ds p := hA0
  rw [Tryd.params6] at hA hval
  obtain ⟨v0, vs0, d0, ds0, p0, q0, hargs, rfl, rfl, h0, r0⟩ := trodAll_cons hA
  obtain ⟨v1, vs1, d1, ds1, p1, q1, rfl, rfl, rfl, h1, r1⟩ := trodAll_cons r0
  obtain ⟨v2, vs2, d2, ds2, p2, q2, rfl, rfl, rfl, h2, r2⟩ := trodAll_cons r1
  obtain ⟨v3, vs3, d3, ds3, p3, q3, rfl, rfl, rfl, h3, r3⟩ := trodAll_cons r2
  obtain ⟨v4, vs4, d4, ds4, p4, q4, rfl, rfl, rfl, h4, r4⟩ := trodAll_cons r3
  obtain ⟨rfl, rfl, rfl⟩ := trodAll_nil r4
  obtain rfl : args = #[v0, v1, v2, v3, v4] := by cases args; simp_all
  obtain ⟨rfl, rfl⟩ := trodVars_none hV
  obtain ⟨a, rfl, rfl, rfl, w_a⟩ := open_int Tryd.underlying3 (hval 0 3 v0 rfl rfl) h0
  obtain ⟨b, rfl, rfl, rfl, w_b⟩ := open_int Tryd.underlying3 (hval 1 3 v1 rfl rfl) h1
  obtain ⟨c, rfl, rfl, rfl, w_c⟩ := open_int Tryd.underlying3 (hval 2 3 v2 rfl rfl) h2
  obtain ⟨k, rfl, rfl, rfl, w_k⟩ := open_int Tryd.underlying3 (hval 3 3 v3 rfl rfl) h3
  obtain ⟨c40, c41, y40, y41, m4, rfl, rfl, rfl, hy40, hy41⟩ := open_agg2 Tryd.underlying27 (by kernel_rfl) cellsPt (hval 4 27 v4 rfl rfl) h4
  obtain ⟨pA, e40, rfl, w_pA⟩ := DataW.trod_int Tryd.underlying2 hy40
  simp at e40; subst e40
  obtain ⟨pB, e41, rfl, w_pB⟩ := DataW.trod_int Tryd.underlying2 hy41
  simp at e41; subst e41
  refine (axisGroup_walk a w_a b w_b c w_c k w_k pA w_pA pB w_pB W (six_of_laid hL)).mono fun e W' ⟨he, hb⟩ => ?_
  exact ⟨_, he, law_post laidOut rfl rfl Tryd.underlying4 (by kernel_rfl) hW' hb ⟨rfl, rfl, rfl⟩⟩
theorem axisGroup_met (os : Os) : laidMet Tryd.prog Rows.axisGroupRow.laid ((laidWorld os).forCall (fun _ _ => 0) ⟨#[], #[.int .i64 0, .int .i64 0, .int .i64 0, .int .i64 0, .agg #[.int .i64 0, .int .i64 0]], []⟩).memory :=
  laidMet_of_run' 8 (by kernel_rfl) (by kernel_rfl)
theorem axisGroup_reads (os : Os) {H : Type} (enc : TypeId × Value → H) : ∃ places, DataW.whole enc Tryd.prog ((laidWorld os).forCall (fun _ _ => 0) ⟨#[], #[.int .i64 0, .int .i64 0, .int .i64 0, .int .i64 0, .agg #[.int .i64 0, .int .i64 0]], []⟩).memory Tryd.f6.params.toList Rows.axisGroupSpec.vars false #[(.int .i64 0 : Value), (.int .i64 0 : Value), (.int .i64 0 : Value), (.int .i64 0 : Value), (.agg #[.int .i64 0, .int .i64 0] : Value)].toList 8 = some ([.lit (.int .i64 0), .lit (.int .i64 0), .lit (.int .i64 0), .lit (.int .i64 0), .agg [.lit (.int .i64 0), .lit (.int .i64 0)]], [], places) :=
  ⟨[], by kernel_rfl⟩
set_option maxRecDepth 100000 in
theorem axisGroup_lifted (os : Os) (started : os.Started) (H : Type) (enc : TypeId × Value → H) (F : Stop.Interp) :
    ReturnsInHanded {} Tryd.checked os 6 .any ((OpenSpec.ofChange Rows.axisGroupSpec).preRow enc Tryd.prog Tryd.f6 Rows.axisGroupRow.domain false Rows.axisGroupRow.laid) (((OpenSpec.ofChange Rows.axisGroupSpec).at F).post enc Tryd.prog Tryd.f6 false true false false) := by
  obtain ⟨places, hx⟩ := axisGroup_reads os enc
  refine returnsInHanded_of_row (C := Tryd.checked) (s := OpenSpec.ofChange Rows.axisGroupSpec) own started (by kernel_rfl) Tryd.func6
    (witness_row_at (enc := enc) (C := Tryd.checked) false (laidWorld os) #[.int .i64 0, .int .i64 0, .int .i64 0, .int .i64 0, .agg #[.int .i64 0, .int .i64 0]] rfl (by kernel_rfl) (by kernel_rfl) (by kernel_rfl)
      (OpenSpec.preRow_of_cond 8 hx (by kernel_rfl) (fun k hk => by cases hk) (by kernel_rfl) (axisGroup_met os))) ?_
  intro W base args ds gs before hval hW _ _ _ hL _ _
  exact axisGroup_contract H enc W base args ds gs before hval hW hL
theorem axisGroup_said : Rows.AxisGroupSaid :=
  OpenClaim.holds_of_cond 6 Tryd.f6 rfl rfl rfl rfl rfl rfl rfl ⟨rfl, rfl, rfl, rfl, rfl⟩ rfl rfl rfl rfl rfl (by kernel_rfl) Tryd.func6 (by kernel_rfl)
    (of_decide_eq_true (by kernel_rfl)) (by unfold Func.isWrapper; first | (rw [if_pos (by decide +kernel)]; kernel_rfl) | (rw [if_neg (by decide +kernel)]; exact ⟨rfl, rfl⟩))
    (fun os started H enc _ F => by rw [OpenClaim.pre_eq_preRow]; exact axisGroup_lifted os started H enc F)
theorem axisGroup_plain (f : FuncId) (fn : Func) (hf : Tryd.pinned.checked.prog.funcNamed "honeycomb/honeycomblaw01.AxisGroup" = some f) (hfn : Tryd.pinned.checked.prog.funcs[f]? = some fn) :
    true = Tryd.pinned.checked.prog.looks [] ∧ ∀ (j : Nat) t, fn.params[j]? = some t → Tryd.pinned.checked.prog.wantsStandIn t = false := by
  obtain rfl : f = 6 := Option.some.inj ((show Tryd.prog.funcNamed "honeycomb/honeycomblaw01.AxisGroup" = some 6 by kernel_rfl).symm.trans hf) |>.symm
  obtain rfl : fn = Tryd.f6 := (Option.some.inj (Tryd.func6.symm.trans hfn)).symm
  refine ⟨by kernel_rfl, fun j t ht => ?_⟩
  have hall : (Tryd.f6.params.toList.all fun t => !Tryd.prog.wantsStandIn t) = true := by kernel_rfl
  have hm : t ∈ Tryd.f6.params.toList := by simpa using Array.mem_of_getElem? ht
  have := List.all_eq_true.1 hall t hm
  exact (show Tryd.prog.wantsStandIn t = false by simpa using this)
end axisGroupFrame
/-- AxisGroup: the card: for every input the law answers true. -/
theorem axisGroup_card : Rows.AxisGroupCardSaid :=
  Claim7.holds_tied_plain_at .later [] _ _ _ _ axisGroup_said (fun _ h => by cases h) (by kernel_rfl) (fun _ h => by cases h) axisGroup_row_tie rfl ⟨rfl, rfl⟩ (by kernel_rfl) rfl axisGroup_plain (by kernel_rfl)
end Go.Proofs.YtcaocbakckojjaaDoor.Ax
namespace Go.Proofs.YtcaocbakckojjaaDoor
theorem axisGroup_proved : Rows.AxisGroupCardSaid := Ax.axisGroup_card
#print axioms axisGroup_proved
end Go.Proofs.YtcaocbakckojjaaDoor
