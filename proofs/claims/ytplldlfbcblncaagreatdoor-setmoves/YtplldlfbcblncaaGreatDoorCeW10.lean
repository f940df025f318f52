/- The document's own On of a cell, by its corners. -/
import Derived.Test.YtplldlfbcblncaaGreatDoorCeW8
import Derived.Test.YtplldlfbcblncaaGreatDoorCeW9
import Derived.BigQuiet
import Derived.Deep.QuietTactic
import Derived.IntWalk
namespace Go.Proofs.YtplldlfbcblncaaGreatDoor.Ce
open Go.RowKit Go.Proofs.YtplldlfbcblncaaGreatDoor.Ax
open Go.Proofs.YtplldlfbcblncaaGreatDoor.Ba (Blk)

theorem tnL_bd (k : Nat) (a b : Int) (hk : k ≤ 6) (ha : -4398046511104 ≤ a ∧ a ≤ 4398046511104) (hb : -4398046511104 ≤ b ∧ b ≤ 4398046511104) :
    (-8796093022208 ≤ (tn k a b).1 ∧ (tn k a b).1 ≤ 8796093022208) ∧ (-8796093022208 ≤ (tn k a b).2 ∧ (tn k a b).2 ≤ 8796093022208) := by
  have : k = 0 ∨ k = 1 ∨ k = 2 ∨ k = 3 ∨ k = 4 ∨ k = 5 ∨ k = 6 := by omega
  rcases this with rfl | rfl | rfl | rfl | rfl | rfl | rfl <;> simp only [tn] <;> omega
theorem refonL_core (o a b x y : Int) (w : World) (h0 : 0 ≤ o) (h1 : o < 12) (hx : x = if 6 ≤ o then b else a) (hy : y = if 6 ≤ o then a else b) (ha : -4398046511104 ≤ a ∧ a ≤ 4398046511104) (hb : -4398046511104 ≤ b ∧ b ≤ 4398046511104) :
    Calls Tryz.prog 46 #[.int .i64 o, .int .i64 a, .int .i64 b] w fun e w' => e = .returned (.tuple #[.int .i64 (tn (o % 6).toNat x y).1, .int .i64 (tn (o % 6).toNat x y).2]) ∧ w = w' := by
  have hxb : -4398046511104 ≤ x ∧ x ≤ 4398046511104 := by rw [hx]; split <;> assumption
  have hyb : -4398046511104 ≤ y ∧ y ≤ 4398046511104 := by rw [hy]; split <;> assumption
  by_cases hs : 6 ≤ o
  · rw [if_pos hs] at hx hy
    subst hx hy
    have hs' : 5 < o := by omega
    clear hs
    go_enter Tryz.func46, Tryz.ntmps46
    go_wp2
    go_loop [1, 2, 8] (fun p q i => ∃ k : Nat, k ≤ (o % 6).toNat ∧ p = .int .i64 (tn k x y).1 ∧ q = .int .i64 (tn k x y).2 ∧ i = .int .i64 k) (fun _ _ i => (o % 6).toNat - (intOf i).toNat)
    case atStart => exact ⟨0, Nat.zero_le _, rfl, rfl, rfl⟩
    case round =>
      obtain ⟨k, hk, rfl, rfl, rfl⟩ := hrel
      obtain ⟨⟨x1, x2⟩, y1, y2⟩ := tnL_bd k x y (by omega) (by omega) (by omega)
      by_cases hlt : (k : Int) < o % 6
      · have HA := Lib.hid (show (tn (k + 1) x y).1 = -(tn k x y).2 from rfl)
        have HB := Lib.hid (show (tn (k + 1) x y).2 = (tn k x y).1 + (tn k x y).2 from rfl)
        generalize (tn k x y).1 = u at *
        generalize (tn k x y).2 = v at *
        go_wp2
        go_round
        case rel => exact ⟨k + 1, by omega, by rw [HA.out], by rw [HB.out], by go_num⟩
        case measure => simp [intOf]; omega
      · have e : k = (o % 6).toNat := by omega
        subst e
        go_wp2
        go_ret2
        exact ⟨rfl, rfl⟩
  · rw [if_neg hs] at hx hy
    subst hx hy
    have hs' : ¬ 5 < o := by omega
    clear hs
    go_enter Tryz.func46, Tryz.ntmps46
    go_wp2
    go_loop [1, 2, 8] (fun p q i => ∃ k : Nat, k ≤ (o % 6).toNat ∧ p = .int .i64 (tn k x y).1 ∧ q = .int .i64 (tn k x y).2 ∧ i = .int .i64 k) (fun _ _ i => (o % 6).toNat - (intOf i).toNat)
    case atStart => exact ⟨0, Nat.zero_le _, rfl, rfl, rfl⟩
    case round =>
      obtain ⟨k, hk, rfl, rfl, rfl⟩ := hrel
      obtain ⟨⟨x1, x2⟩, y1, y2⟩ := tnL_bd k x y (by omega) (by omega) (by omega)
      by_cases hlt : (k : Int) < o % 6
      · have HA := Lib.hid (show (tn (k + 1) x y).1 = -(tn k x y).2 from rfl)
        have HB := Lib.hid (show (tn (k + 1) x y).2 = (tn k x y).1 + (tn k x y).2 from rfl)
        generalize (tn k x y).1 = u at *
        generalize (tn k x y).2 = v at *
        go_wp2
        go_round
        case rel => exact ⟨k + 1, by omega, by rw [HA.out], by rw [HB.out], by go_num⟩
        case measure => simp [intOf]; omega
      · have e : k = (o % 6).toNat := by omega
        subst e
        go_wp2
        go_ret2
        exact ⟨rfl, rfl⟩
theorem refonL_any (o a b : Int) (w : World) (h0 : 0 ≤ o) (h1 : o < 12) (ha : -4398046511104 ≤ a ∧ a ≤ 4398046511104) (hb : -4398046511104 ≤ b ∧ b ≤ 4398046511104) :
    Calls Tryz.prog 46 #[.int .i64 o, .int .i64 a, .int .i64 b] w fun e w' => e = .returned (.tuple #[.int .i64 (opA o a b), .int .i64 (opB o a b)]) ∧ w = w' :=
  refonL_core o a b _ _ w h0 h1 rfl rfl ha hb

/-- A list of three lists of two numbers, from block B on. -/
def Cor (w : World) (B X : Nat) (x0 y0 x1 y1 x2 y2 : Int) : Prop :=
  ∃ g0 g1 g2 : Nat, (w.cell? ⟨X, 0, none⟩ = some (.slice (some ⟨g0, 0, none⟩) 2 2) ∧ w.cell? ⟨X, 1, none⟩ = some (.slice (some ⟨g1, 0, none⟩) 2 2) ∧ w.cell? ⟨X, 2, none⟩ = some (.slice (some ⟨g2, 0, none⟩) 2 2) ∧ X < w.heap.size) ∧
    (w.cell? ⟨g0, 0, none⟩ = some (.int .i64 x0) ∧ w.cell? ⟨g0, 1, none⟩ = some (.int .i64 y0) ∧ g0 < w.heap.size) ∧ (w.cell? ⟨g1, 0, none⟩ = some (.int .i64 x1) ∧ w.cell? ⟨g1, 1, none⟩ = some (.int .i64 y1) ∧ g1 < w.heap.size) ∧ (w.cell? ⟨g2, 0, none⟩ = some (.int .i64 x2) ∧ w.cell? ⟨g2, 1, none⟩ = some (.int .i64 y2) ∧ g2 < w.heap.size) ∧
    B ≤ X ∧ B ≤ g0 ∧ B ≤ g1 ∧ B ≤ g2
theorem Cor.below {w w' : World} {B X : Nat} {x0 y0 x1 y1 x2 y2 : Int} (h : Cor w B X x0 y0 x1 y1 x2 y2) (hb : Below w.heap.size w w') : Cor w' B X x0 y0 x1 y1 x2 y2 := by
  obtain ⟨g0, g1, g2, ⟨a0, a1, a2, al⟩, ⟨b0, b1, bl⟩, ⟨c0, c1, cl⟩, ⟨d0, d1, dl⟩, hB⟩ := h
  have hz := hb.size
  exact ⟨g0, g1, g2, ⟨(hb.cell (p := ⟨X, 0, none⟩) al).trans a0, (hb.cell (p := ⟨X, 1, none⟩) al).trans a1, (hb.cell (p := ⟨X, 2, none⟩) al).trans a2, by omega⟩,
    ⟨(hb.cell (p := ⟨g0, 0, none⟩) bl).trans b0, (hb.cell (p := ⟨g0, 1, none⟩) bl).trans b1, by omega⟩, ⟨(hb.cell (p := ⟨g1, 0, none⟩) cl).trans c0, (hb.cell (p := ⟨g1, 1, none⟩) cl).trans c1, by omega⟩, ⟨(hb.cell (p := ⟨g2, 0, none⟩) dl).trans d0, (hb.cell (p := ⟨g2, 1, none⟩) dl).trans d1, by omega⟩, hB⟩
theorem Cor.far {w : World} {B X T i : Nat} {x0 y0 x1 y1 x2 y2 : Int} (h : Cor w B X x0 y0 x1 y1 x2 y2) (hT : T < B) (v : Value) : Cor (w.setCell ⟨T, i, none⟩ v) B X x0 y0 x1 y1 x2 y2 := by
  obtain ⟨g0, g1, g2, ⟨a0, a1, a2, al⟩, ⟨b0, b1, bl⟩, ⟨c0, c1, cl⟩, ⟨d0, d1, dl⟩, hB⟩ := h
  have e : (w.setCell ⟨T, i, none⟩ v).heap.size = w.heap.size := by simp [World.setCell]
  refine ⟨g0, g1, g2, ⟨?_, ?_, ?_, by omega⟩, ⟨?_, ?_, by omega⟩, ⟨?_, ?_, by omega⟩, ⟨?_, ?_, by omega⟩, hB⟩
  · exact (World.cell?_setCell_far _ _ _ _ (show T ≠ X by omega)).trans a0
  · exact (World.cell?_setCell_far _ _ _ _ (show T ≠ X by omega)).trans a1
  · exact (World.cell?_setCell_far _ _ _ _ (show T ≠ X by omega)).trans a2
  · exact (World.cell?_setCell_far _ _ _ _ (show T ≠ g0 by omega)).trans b0
  · exact (World.cell?_setCell_far _ _ _ _ (show T ≠ g0 by omega)).trans b1
  · exact (World.cell?_setCell_far _ _ _ _ (show T ≠ g1 by omega)).trans c0
  · exact (World.cell?_setCell_far _ _ _ _ (show T ≠ g1 by omega)).trans c1
  · exact (World.cell?_setCell_far _ _ _ _ (show T ≠ g2 by omega)).trans d0
  · exact (World.cell?_setCell_far _ _ _ _ (show T ≠ g2 by omega)).trans d1
def CorPost (w : World) (x0 y0 x1 y1 x2 y2 : Int) (e : Ending) (w' : World) : Prop := ∃ X, e = .returned (.slice (some ⟨X, 0, none⟩) 3 3) ∧ Cor w' w.heap.size X x0 y0 x1 y1 x2 y2 ∧ Below w.heap.size w w'
theorem refcorners_any (a b h : Int) (w : World) (a0 : -8796093022208 ≤ a ∧ a ≤ 8796093022208) (b0 : -8796093022208 ≤ b ∧ b ≤ 8796093022208) :
    Calls Tryz.prog 47 #[Ce a b h] w (CorPost w (a + cX h 0) (b + cY h 0) (a + cX h 1) (b + cY h 1) (a + cX h 2) (b + cY h 2)) := by
  obtain ⟨a1, a2⟩ := a0
  obtain ⟨b1, b2⟩ := b0
  by_cases h0 : h = 0
  · subst h0
    go_enter Tryz.func47, Tryz.ntmps47
    go_wp2
    go_ret
    exact ⟨w.heap.size + 1 + 1 + 1 + 1, rfl, ⟨w.heap.size + 1, w.heap.size + 1 + 1, w.heap.size + 1 + 1 + 1, by simp [go_sem, cX, cY]; omega⟩, by go_grown⟩
  · have h' : (h == 0) = false := by simpa using h0
    have H0 := Lib.hid h0
    clear h0
    go_enter Tryz.func47, Tryz.ntmps47
    go_wp2
    go_ret
    exact ⟨w.heap.size + 1 + 1 + 1 + 1, rfl, ⟨w.heap.size + 1, w.heap.size + 1 + 1, w.heap.size + 1 + 1 + 1, by simp [go_sem, cX, cY, H0.out]; omega⟩, by go_grown⟩
theorem tt_bd : ∀ o : Fin 12, ∀ h ∈ [(0 : Int), 1], ((-2 ≤ tA o.val h ∧ tA o.val h ≤ 2) ∧ (-2 ≤ tB o.val h ∧ tB o.val h ≤ 2)) ∧ (tH o.val h = 0 ∨ tH o.val h = 1) := by decide +kernel
theorem tt_bd' (o h : Int) (h0 : 0 ≤ o) (h1 : o < 12) (hh : h = 0 ∨ h = 1) : ((-2 ≤ tA o h ∧ tA o h ≤ 2) ∧ (-2 ≤ tB o h ∧ tB o h ≤ 2)) ∧ (tH o h = 0 ∨ tH o h = 1) := by
  have := tt_bd ⟨o.toNat, by omega⟩ h (by rcases hh with rfl | rfl <;> simp)
  simp only [Int.toNat_of_nonneg h0] at this
  exact this
/-- The least of the first k; their sum. -/
def lowN (x0 x1 x2 : Int) : Nat → Int
  | 0 => 1152921504606846976
  | 1 => x0
  | 2 => if x1 < x0 then x1 else x0
  | _ => mn3 x0 x1 x2
def sumN (x0 y0 x1 y1 x2 y2 : Int) : Nat → Int
  | 0 => 0
  | 1 => x0 + y0
  | 2 => x0 + y0 + (x1 + y1)
  | _ => x0 + y0 + (x1 + y1) + (x2 + y2)
def ROn (w : World) (X T : Nat) (c0 d0 c1 d1 c2 d2 x0 y0 x1 y1 x2 y2 : Int) (s i : Value) (wr : World) : Prop :=
  ∃ k : Nat, k ≤ 3 ∧ i = .int .i64 k ∧ s = .int .i64 (sumN x0 y0 x1 y1 x2 y2 k) ∧ Below w.heap.size w wr ∧ Cor wr (T + 1) X c0 d0 c1 d1 c2 d2 ∧ Blk wr T 2 #[.int .i64 (lowN x0 x1 x2 k), .int .i64 (lowN y0 y1 y2 k)] ∧ Box3 (w.heap.size + 1) wr 0 0 0 ∧ w.heap.size + 1 < T
theorem half_fin : ∀ o : Fin 12, ∀ h ∈ [(0 : Int), 1], (2 < sumN (opA o.val (cX h 0) (cY h 0)) (opB o.val (cX h 0) (cY h 0)) (opA o.val (cX h 1) (cY h 1)) (opB o.val (cX h 1) (cY h 1)) (opA o.val (cX h 2) (cY h 2)) (opB o.val (cX h 2) (cY h 2)) 3 - 3 * (tA o.val h + tB o.val h) ∧ tH o.val h = 1) ∨ (¬ 2 < sumN (opA o.val (cX h 0) (cY h 0)) (opB o.val (cX h 0) (cY h 0)) (opA o.val (cX h 1) (cY h 1)) (opB o.val (cX h 1) (cY h 1)) (opA o.val (cX h 2) (cY h 2)) (opB o.val (cX h 2) (cY h 2)) 3 - 3 * (tA o.val h + tB o.val h) ∧ tH o.val h = 0) := by decide +kernel
theorem half_of (o a b h : Int) (h0 : 0 ≤ o) (h1 : o < 12) (hh : h = 0 ∨ h = 1) :
    (2 < sumN (opA o (a + cX h 0) (b + cY h 0)) (opB o (a + cX h 0) (b + cY h 0)) (opA o (a + cX h 1) (b + cY h 1)) (opB o (a + cX h 1) (b + cY h 1)) (opA o (a + cX h 2) (b + cY h 2)) (opB o (a + cX h 2) (b + cY h 2)) 3 - 3 * (opA o a b + tA o h + (opB o a b + tB o h)) ∧ tH o h = 1) ∨
    (¬ 2 < sumN (opA o (a + cX h 0) (b + cY h 0)) (opB o (a + cX h 0) (b + cY h 0)) (opA o (a + cX h 1) (b + cY h 1)) (opB o (a + cX h 1) (b + cY h 1)) (opA o (a + cX h 2) (b + cY h 2)) (opB o (a + cX h 2) (b + cY h 2)) 3 - 3 * (opA o a b + tA o h + (opB o a b + tB o h)) ∧ tH o h = 0) := by
  have := half_fin ⟨o.toNat, by omega⟩ h (by rcases hh with rfl | rfl <;> simp)
  simp only [Int.toNat_of_nonneg h0] at this
  simp only [(op_sum o a b _ _).1, (op_sum o a b _ _).2, sumN] at this ⊢
  omega
set_option maxRecDepth 100000 in
set_option maxHeartbeats 8000000 in
theorem refOn_tri (l o a b h : Int) (w : World) (hl : l = 2 ∨ l = 3) (h0 : 0 ≤ o) (h1 : o < 12) (hg : goodB a b = true) (hh : h = 0 ∨ h = 1) :
    Calls Tryz.prog 30 #[.int .i64 l, .int .i64 o, Ce a b h] w fun e w' => e = .returned (Ce (opA o a b + tA o h) (opB o a b + tB o h) (tH o h)) ∧ Below w.heap.size w w' := by
  obtain ⟨⟨a1, a2⟩, b1, b2⟩ := goodB_iff.1 hg
  have hl1 : (l == 1) = false := by simp; omega
  have hcx0 := cX_bd h 0
  have hcx1 := cX_bd h 1
  have hcx2 := cX_bd h 2
  have hcy0 := cY_bd h 0
  have hcy1 := cY_bd h 1
  have hcy2 := cY_bd h 2
  have z0 := op_size o (a + cX h 0) (b + cY h 0) 1099511627777 (by omega) (by omega) (by omega) (by omega)
  have z1 := op_size o (a + cX h 1) (b + cY h 1) 1099511627777 (by omega) (by omega) (by omega) (by omega)
  have z2 := op_size o (a + cX h 2) (b + cY h 2) 1099511627777 (by omega) (by omega) (by omega) (by omega)
  have T1 := Lib.hid (tri_all o a b h)
  have T2 := Lib.hid (half_of o a b h h0 h1 hh)
  go_enter Tryz.func30, Tryz.ntmps30
  go_wp2_with fail
  refine (refcorners_any a b h _ (by omega) (by omega)).mono ?_
  rintro e w1 ⟨X, rfl, hcor, hb⟩
  have k1 : Box3 (w.heap.size + 1) w1 0 0 0 := box3_below (by simp [Box3, go_sem]) hb
  have kt : Blk w1 (w.heap.size + 1 + 1) 2 #[.int .i64 1152921504606846976, .int .i64 1152921504606846976] := (Blk.newAt ((w.alloc (.cells #[.int .i64 a, .int .i64 b, .int .i64 h] 48)).alloc (.cells #[.int .i64 0, .int .i64 0, .int .i64 0] 48)) _ _ _ (by simp)).below hb (by simp)
  have hb1 := below_call (B := w.heap.size) (w := w) hb (by go_grown) (by go_size)
  clear hb
  obtain ⟨x0, hx0⟩ : ∃ x, opA o (a + cX h 0) (b + cY h 0) = x := ⟨_, rfl⟩
  obtain ⟨y0, hy0⟩ : ∃ x, opB o (a + cX h 0) (b + cY h 0) = x := ⟨_, rfl⟩
  obtain ⟨x1, hx1⟩ : ∃ x, opA o (a + cX h 1) (b + cY h 1) = x := ⟨_, rfl⟩
  obtain ⟨y1, hy1⟩ : ∃ x, opB o (a + cX h 1) (b + cY h 1) = x := ⟨_, rfl⟩
  obtain ⟨x2, hx2⟩ : ∃ x, opA o (a + cX h 2) (b + cY h 2) = x := ⟨_, rfl⟩
  obtain ⟨y2, hy2⟩ : ∃ x, opB o (a + cX h 2) (b + cY h 2) = x := ⟨_, rfl⟩
  have n0 := fun W => refonL_any o (a + cX h 0) (b + cY h 0) W h0 h1 (by omega) (by omega)
  have n1 := fun W => refonL_any o (a + cX h 1) (b + cY h 1) W h0 h1 (by omega) (by omega)
  have n2 := fun W => refonL_any o (a + cX h 2) (b + cY h 2) W h0 h1 (by omega) (by omega)
  have T3 := T1.out
  have T4 := T2.out
  rw [hx0, hy0] at n0 z0
  rw [hx1, hy1] at n1 z1
  rw [hx2, hy2] at n2 z2
  rw [hx0, hy0, hx1, hy1, hx2, hy2] at T3 T4
  have U3 := Lib.hid T3
  have U4 := Lib.hid T4
  have N0 := Lib.hid n0
  have N1 := Lib.hid n1
  have N2 := Lib.hid n2
  clear hx0 hy0 hx1 hy1 hx2 hy2 T1 T2 T3 T4 n0 n1 n2 hcx0 hcx1 hcx2 hcy0 hcy1 hcy2
  generalize a + cX h 0 = c0 at *
  generalize a + cX h 1 = c1 at *
  generalize a + cX h 2 = c2 at *
  generalize b + cY h 0 = d0 at *
  generalize b + cY h 1 = d1 at *
  generalize b + cY h 2 = d2 at *
  replace z0 : (-2199023255554 ≤ x0 ∧ x0 ≤ 2199023255554) ∧ (-2199023255554 ≤ y0 ∧ y0 ≤ 2199023255554) := by omega
  replace z1 : (-2199023255554 ≤ x1 ∧ x1 ≤ 2199023255554) ∧ (-2199023255554 ≤ y1 ∧ y1 ≤ 2199023255554) := by omega
  replace z2 : (-2199023255554 ≤ x2 ∧ x2 ≤ 2199023255554) ∧ (-2199023255554 ≤ y2 ∧ y2 ≤ 2199023255554) := by omega
  obtain ⟨⟨z00, z01⟩, z02, z03⟩ := z0
  obtain ⟨⟨z10, z11⟩, z12, z13⟩ := z1
  obtain ⟨⟨z20, z21⟩, z22, z23⟩ := z2
  have hT : w.heap.size + 1 < w.heap.size + 1 + 1 := by omega
  replace hcor : Cor w1 (w.heap.size + 1 + 1 + 1) X c0 d0 c1 d1 c2 d2 := by simpa using hcor
  generalize w.heap.size + 1 + 1 = T at *
  go_wp2_with fail
  go_loopw [10, 34] (fun s i wr => ROn w X T c0 d0 c1 d1 c2 d2 x0 y0 x1 y1 x2 y2 s i wr) (fun _ i _ => 3 - (intOf i).toNat)
  case atStart => exact ⟨0, by omega, rfl, rfl, hb1, hcor, kt, k1, hT⟩
  case round =>
    clear hb1 hcor kt k1
    obtain ⟨k, hk, rfl, rfl, hb1, hcor, kt, k1, _⟩ := hrel
    have hk4 : k = 0 ∨ k = 1 ∨ k = 2 ∨ k = 3 := by omega
    have hz1 := hb1.size
    have htl := kt.lt
    rcases hk4 with rfl | rfl | rfl | rfl
    · obtain ⟨g0, g1, g2, ⟨e0, e1, e2, el⟩, ⟨p0, p1, pl⟩, ⟨r0, r1, rl⟩, ⟨s0, s1, sl⟩, _⟩ := id hcor
      go_wp2_with fail
      go_quiet ((go_at_call 46; exact q_first N0.out))
      have q0 := kt.cell 0
      have q1 := kt.cell 1
      have f0 := kt.frozen 0
      have f1 := kt.frozen 1
      simp only [lowN, List.getElem?_toArray, List.getElem?_cons_zero, List.getElem?_cons_succ] at q0 q1
      go_wp2
      go_roundw
      case rel => exact ⟨1, by omega, by go_num, by simp [sumN]; unfold wrap64; omega, by go_grown; (repeat (refine below_dr _ ?_; go_grown)), (((hcor.below (below_dr nq (Below.refl _ _))).far (by omega) _).far (by omega) _), by simpa [lowN, mn3] using ((kt.drewN nq).set_ 0 _).set_ 1 _, (box3_far (box3_far (box3_below k1 (below_dr nq (Below.refl _ _))) (by omega) _) (by omega) _), hT⟩
      case measure => simp [intOf]
    · obtain ⟨g0, g1, g2, ⟨e0, e1, e2, el⟩, ⟨p0, p1, pl⟩, ⟨r0, r1, rl⟩, ⟨s0, s1, sl⟩, _⟩ := id hcor
      go_wp2_with fail
      go_quiet ((go_at_call 46; exact q_first N1.out))
      have q0 := kt.cell 0
      have q1 := kt.cell 1
      have f0 := kt.frozen 0
      have f1 := kt.frozen 1
      simp only [lowN, List.getElem?_toArray, List.getElem?_cons_zero, List.getElem?_cons_succ] at q0 q1
      go_wp2
      go_roundw
      case rel => exact ⟨2, by omega, by go_num, by simp [sumN]; unfold wrap64; omega, by go_grown; (repeat (refine below_dr _ ?_; go_grown)), (((hcor.below (below_dr nq (Below.refl _ _))).far (by omega) _).far (by omega) _), by simpa [lowN, mn3] using ((kt.drewN nq).set_ 0 _).set_ 1 _, (box3_far (box3_far (box3_below k1 (below_dr nq (Below.refl _ _))) (by omega) _) (by omega) _), hT⟩
      case measure => simp [intOf]
    · obtain ⟨g0, g1, g2, ⟨e0, e1, e2, el⟩, ⟨p0, p1, pl⟩, ⟨r0, r1, rl⟩, ⟨s0, s1, sl⟩, _⟩ := id hcor
      go_wp2_with fail
      go_quiet ((go_at_call 46; exact q_first N2.out))
      have q0 := kt.cell 0
      have q1 := kt.cell 1
      have f0 := kt.frozen 0
      have f1 := kt.frozen 1
      simp only [lowN, List.getElem?_toArray, List.getElem?_cons_zero, List.getElem?_cons_succ] at q0 q1
      go_wp2
      go_roundw
      case rel => exact ⟨3, by omega, by go_num, by simp [sumN]; unfold wrap64; omega, by go_grown; (repeat (refine below_dr _ ?_; go_grown)), (((hcor.below (below_dr nq (Below.refl _ _))).far (by omega) _).far (by omega) _), by simpa [lowN, mn3] using ((kt.drewN nq).set_ 0 _).set_ 1 _, (box3_far (box3_far (box3_below k1 (below_dr nq (Below.refl _ _))) (by omega) _) (by omega) _), hT⟩
      case measure => simp [intOf]
    · have U1 := U3.out
      have q0 := kt.cell 0
      have q1 := kt.cell 1
      simp only [lowN, List.getElem?_toArray, List.getElem?_cons_zero, List.getElem?_cons_succ] at q0 q1
      rw [U1.1] at q0
      rw [U1.2.1] at q1
      clear U1
      obtain ⟨⟨r0, r1, r2⟩, ⟨f0, f1, f2⟩, rl⟩ := id k1
      have y0' : -8796093022208 ≤ opA o a b + tA o h ∧ opA o a b + tA o h ≤ 8796093022208 := by have := op_size o a b 1099511627776 (by omega) (by omega) (by omega) (by omega); have := tt_bd' o h h0 h1 hh; omega
      have y1' : -8796093022208 ≤ opB o a b + tB o h ∧ opB o a b + tB o h ≤ 8796093022208 := by have := op_size o a b 1099511627776 (by omega) (by omega) (by omega) (by omega); have := tt_bd' o h h0 h1 hh; omega
      have ys : -100000000000000 ≤ sumN x0 y0 x1 y1 x2 y2 3 ∧ sumN x0 y0 x1 y1 x2 y2 3 ≤ 100000000000000 := by simp only [sumN]; omega
      have hneq : w.heap.size + 1 ≠ T := by omega
      generalize sumN x0 y0 x1 y1 x2 y2 3 = S at *
      generalize hXX : opA o a b + tA o h = XX at *
      generalize hYY : opB o a b + tB o h = YY at *
      have HXX := Lib.hid hXX
      have HYY := Lib.hid hYY
      clear hXX hYY
      obtain ⟨y00, y01⟩ := y0'
      obtain ⟨y10, y11⟩ := y1'
      obtain ⟨ys0, ys1⟩ := ys
      have v1 : IntKind.i64.wrap (XX + YY) = XX + YY := IntWalk.i64_in _ (by omega)
      have v2 : IntKind.i64.wrap (3 * (XX + YY)) = 3 * (XX + YY) := IntWalk.i64_in _ (by omega)
      have v3 : IntKind.i64.wrap (S - 3 * (XX + YY)) = S - 3 * (XX + YY) := IntWalk.i64_in _ (by omega)
      rcases U4.out with ⟨u1, u2⟩ | ⟨u1, u2⟩
      · have HU := Lib.hid u2
        have u3 : decide (2 < S - 3 * (XX + YY)) = true := by simpa using u1
        clear u2
        go_wp2_with fail
        go_quiet (fail)
        clear v1 v2 v3
        go_wp2_with fail
        go_region
        all_goals
          go_wp2_with fail
          exact bodyPost_ret (v := Ce XX YY 1) (by simp [results, Tryz.results30, go_sem, *]) rfl ⟨by rw [HXX.out, HYY.out, HU.out], by go_grown; (repeat (refine below_dr _ ?_; go_grown))⟩
      · have HU := Lib.hid u2
        have u3 : decide (2 < S - 3 * (XX + YY)) = false := by simpa using u1
        clear u2
        go_wp2_with fail
        go_quiet (fail)
        clear v1 v2 v3
        go_wp2_with fail
        go_region
        all_goals
          go_wp2_with fail
          exact bodyPost_ret (v := Ce XX YY 0) (by simp [results, Tryz.results30, go_sem, *]) rfl ⟨by rw [HXX.out, HYY.out, HU.out], by go_grown; (repeat (refine below_dr _ ?_; go_grown))⟩
theorem refOn_hex (o a b h : Int) (w : World) (h0 : 0 ≤ o) (h1 : o < 12) (hg : goodB a b = true) :
    Calls Tryz.prog 30 #[.int .i64 1, .int .i64 o, Ce a b h] w fun e w' => e = .returned (Ce (opA o a b) (opB o a b) 0) ∧ Below w.heap.size w w' := by
  obtain ⟨⟨a1, a2⟩, b1, b2⟩ := goodB_iff.1 hg
  go_enter Tryz.func30, Tryz.ntmps30
  go_wp2_with (go_at_call 46; refine (refonL_any o a b _ h0 h1 (by omega) (by omega)).mono ?_; rintro e w' ⟨rfl, rfl⟩)
  exact bodyPost_ret (v := Ce (opA o a b) (opB o a b) 0) (by simp [results, Tryz.results30, go_sem]) rfl ⟨rfl, by go_grown⟩
theorem refOn_any (l o a b h : Int) (w : World) (hl : l = 1 ∨ l = 2 ∨ l = 3) (h0 : 0 ≤ o) (h1 : o < 12) (hg : goodB a b = true) (hh0 : 0 ≤ h) (hh1 : h < halvesV l) :
    Calls Tryz.prog 30 #[.int .i64 l, .int .i64 o, Ce a b h] w fun e w' => e = .returned (Ce (onA l o a b h) (onB l o a b h) (onH l o h)) ∧ Below w.heap.size w w' := by
  rcases hl with rfl | hl
  · exact refOn_hex o a b h w h0 h1 hg
  · have hl1 : ¬ l = 1 := by omega
    have hh : h = 0 ∨ h = 1 := by unfold halvesV at hh1; rw [if_neg hl1] at hh1; omega
    unfold onA onB onH
    rw [if_neg hl1, if_neg hl1, if_neg hl1]
    exact refOn_tri l o a b h w hl h0 h1 hg hh
end Go.Proofs.YtplldlfbcblncaaGreatDoor.Ce
