/- The contract of cell.On: where an operator brings a cell. -/
import Derived.Test.YtplldlfbcblncaaGreatDoorCeW7
import Derived.Test.YtplldlfbcblncaaGreatDoorBs
namespace Go.Proofs.YtplldlfbcblncaaGreatDoor.Ce
open Go.RowKit Go.Proofs.YtplldlfbcblncaaGreatDoor.Ax
open Go.Proofs.YtplldlfbcblncaaGreatDoor.Ba (Blk)

abbrev cornV (a b h : Int) : Value := .agg #[.int .i64 (a + cX h 0), .int .i64 (b + cY h 0), .int .i64 (a + cX h 1), .int .i64 (b + cY h 1), .int .i64 (a + cX h 2), .int .i64 (b + cY h 2)]
theorem cornA_eq (a b h : Int) : Value.agg (cornA a b h) = cornV a b h := by
  by_cases h0 : h = 0 <;> simp [cornA, cX, cY, h0]
theorem corners_v (a b h : Int) (w : World) (a0 : -8796093022208 ≤ a) (a1 : a ≤ 8796093022208) (b0 : -8796093022208 ≤ b) (b1 : b ≤ 8796093022208) :
    Calls Tryz.prog 44 #[Ce a b h] w fun e w' => e = .returned (cornV a b h) ∧ Below w.heap.size w w' := by
  rw [← cornA_eq]; exact corners_any a b h w a0 a1 b0 b1


theorem op_lin (o a b : Int) : opA o a b = a * opA o 1 0 + b * opA o 0 1 ∧ opB o a b = a * opB o 1 0 + b * opB o 0 1 := by
  have hk : (o % 6).toNat = 0 ∨ (o % 6).toNat = 1 ∨ (o % 6).toNat = 2 ∨ (o % 6).toNat = 3 ∨ (o % 6).toNat = 4 ∨ (o % 6).toNat = 5 := by omega
  unfold opA opB
  rcases hk with h | h | h | h | h | h <;> rw [h] <;> simp only [tn] <;> split <;> omega
theorem op_sum (o a b c d : Int) : opA o (a + c) (b + d) = opA o a b + opA o c d ∧ opB o (a + c) (b + d) = opB o a b + opB o c d := by
  have hk : (o % 6).toNat = 0 ∨ (o % 6).toNat = 1 ∨ (o % 6).toNat = 2 ∨ (o % 6).toNat = 3 ∨ (o % 6).toNat = 4 ∨ (o % 6).toNat = 5 := by omega
  unfold opA opB
  rcases hk with h | h | h | h | h | h <;> rw [h] <;> simp only [tn] <;> split <;> omega
theorem op_size (o a b M : Int) (a0 : -M ≤ a) (a1 : a ≤ M) (b0 : -M ≤ b) (b1 : b ≤ M) :
    (-(2 * M) ≤ opA o a b ∧ opA o a b ≤ 2 * M) ∧ (-(2 * M) ≤ opB o a b ∧ opB o a b ≤ 2 * M) := by
  have hk : (o % 6).toNat = 0 ∨ (o % 6).toNat = 1 ∨ (o % 6).toNat = 2 ∨ (o % 6).toNat = 3 ∨ (o % 6).toNat = 4 ∨ (o % 6).toNat = 5 := by omega
  unfold opA opB
  rcases hk with h | h | h | h | h | h <;> rw [h] <;> simp only [tn] <;> split <;> omega
theorem mn3_shift (a x y z : Int) : mn3 (a + x) (a + y) (a + z) = a + mn3 x y z := by
  unfold mn3
  by_cases h1 : y < x <;> by_cases h2 : z < y <;> by_cases h3 : z < x <;> simp [h1, h2, h3]
/-- The triangle at the origin, brought: its point, its half. -/
def tA (o h : Int) : Int := mn3 (opA o (cX h 0) (cY h 0)) (opA o (cX h 1) (cY h 1)) (opA o (cX h 2) (cY h 2))
def tB (o h : Int) : Int := mn3 (opB o (cX h 0) (cY h 0)) (opB o (cX h 1) (cY h 1)) (opB o (cX h 2) (cY h 2))
def tH (o h : Int) : Int := triH (opA o (cX h 0) (cY h 0)) (opB o (cX h 0) (cY h 0)) (opA o (cX h 1) (cY h 1)) (opB o (cX h 1) (cY h 1)) (opA o (cX h 2) (cY h 2)) (opB o (cX h 2) (cY h 2))
theorem triH_shift (a b x0 y0 x1 y1 x2 y2 : Int) : triH (a + x0) (b + y0) (a + x1) (b + y1) (a + x2) (b + y2) = triH x0 y0 x1 y1 x2 y2 := by
  have e : ∀ p q r : Int, ((p + q == p + r) = (q == r)) := fun p q r => by
    rw [Bool.eq_iff_iff]; simp
  unfold triH
  simp only [mn3_shift, e]
theorem tri_all (o a b h : Int) :
    mn3 (opA o (a + cX h 0) (b + cY h 0)) (opA o (a + cX h 1) (b + cY h 1)) (opA o (a + cX h 2) (b + cY h 2)) = opA o a b + tA o h ∧
    mn3 (opB o (a + cX h 0) (b + cY h 0)) (opB o (a + cX h 1) (b + cY h 1)) (opB o (a + cX h 2) (b + cY h 2)) = opB o a b + tB o h ∧
    triH (opA o (a + cX h 0) (b + cY h 0)) (opB o (a + cX h 0) (b + cY h 0)) (opA o (a + cX h 1) (b + cY h 1)) (opB o (a + cX h 1) (b + cY h 1)) (opA o (a + cX h 2) (b + cY h 2)) (opB o (a + cX h 2) (b + cY h 2)) = tH o h := by
  simp only [(op_sum o a b _ _).1, (op_sum o a b _ _).2, mn3_shift, triH_shift]
  exact ⟨rfl, rfl, rfl⟩
/-- Where an operator brings a cell. -/
def onA (l o a b h : Int) : Int := if l = 1 then opA o a b else opA o a b + tA o h
def onB (l o a b h : Int) : Int := if l = 1 then opB o a b else opB o a b + tB o h
def onH (l o h : Int) : Int := if l = 1 then 0 else tH o h

/-- What On answers for one of the twelve, and a cell that may be. -/
def OnPost (w : World) (l o a b h : Int) (e : Ending) (w' : World) : Prop :=
  ((goodB (onA l o a b h) (onB l o a b h) = true ∧ e = .returned (.tuple #[Ce (onA l o a b h) (onB l o a b h) (onH l o h), .nilIface])) ∨
   (goodB (onA l o a b h) (onB l o a b h) = false ∧ e = .returned (.tuple #[Ce 0 0 0, Er 6]))) ∧ Below w.heap.size w w'
theorem con_err (l o a b h : Int) (w : World) (n : Int) (hc : ∀ w, Calls Tryz.prog 42 #[.int .i64 l, Ce a b h] w fun e w' => e = .returned (Er n) ∧ Below w.heap.size w w') :
    Calls Tryz.prog 28 #[.int .i64 l, .int .i64 o, Ce a b h] w fun e w' => e = .returned (.tuple #[Ce 0 0 0, Er n]) ∧ Below w.heap.size w w' := by
  go_enter Tryz.func28, Tryz.ntmps28
  go_wp2_with fail
  refine (hc _).mono ?_
  rintro e w1 ⟨rfl, hb⟩
  have hb1 := below_call (B := w.heap.size) (w := w) hb (by go_grown) (by go_size)
  have k1 : Box3 (w.heap.size + 1) w1 0 0 0 := box3_below (by simp [Box3, go_sem]) hb
  clear hb
  obtain ⟨⟨r0, r1, r2⟩, ⟨f0, f1, f2⟩, rl⟩ := k1
  have hz := hb1.size
  go_wp2
  exact bodyPost_ret (v := .tuple #[Ce 0 0 0, Er n]) (by simp [results, Tryz.results28, go_sem, *]) rfl ⟨rfl, by go_grown⟩
theorem con_arg (l o a b h : Int) (w : World) (ho : o < 0 ∨ 11 < o) (hc : ∀ w, Calls Tryz.prog 42 #[.int .i64 l, Ce a b h] w fun e w' => e = .returned .nilIface ∧ Below w.heap.size w w') :
    Calls Tryz.prog 28 #[.int .i64 l, .int .i64 o, Ce a b h] w fun e w' => e = .returned (.tuple #[Ce 0 0 0, Er 4]) ∧ Below w.heap.size w w' := by
  go_enter Tryz.func28, Tryz.ntmps28
  go_wp2_with fail
  refine (hc _).mono ?_
  rintro e w1 ⟨rfl, hb⟩
  have hb1 := below_call (B := w.heap.size) (w := w) hb (by go_grown) (by go_size)
  have k1 : Box3 (w.heap.size + 1) w1 0 0 0 := box3_below (by simp [Box3, go_sem]) hb
  clear hb
  go_wp2_with fail
  refine (mover_no _ _ ho).mono ?_
  rintro e w2 ⟨rfl, hb⟩
  have hb2 := below_call (B := w.heap.size) (w := w) hb hb1 hb1.size
  have k2 := box3_below k1 hb
  clear hb k1 hb1
  obtain ⟨⟨r0, r1, r2⟩, ⟨f0, f1, f2⟩, rl⟩ := k2
  have hz := hb2.size
  go_wp2
  exact bodyPost_ret (v := .tuple #[Ce 0 0 0, Er 4]) (by simp [results, Tryz.results28, go_sem, *]) rfl ⟨rfl, by go_grown⟩
/-- The function that mover made brings any point near where the operator does. -/
theorem moved (o p q : Int) (A B : Nat) (w : World) (hA : Box2 A w (opA o 1 0) (opB o 1 0)) (hB : Box2 B w (opA o 0 1) (opB o 0 1)) (hp : -8796093022208 ≤ p ∧ p ≤ 8796093022208) (hq : -8796093022208 ≤ q ∧ q ≤ 8796093022208) :
    Calls Tryz.prog 67 #[Pt p q, .pointer (some ⟨A, 0, none⟩), .pointer (some ⟨B, 0, none⟩)] w fun e w' => e = .returned (Pt (opA o p q) (opB o p q)) ∧ Below w.heap.size w w' := by
  obtain ⟨⟨u1, u2⟩, u3, u4⟩ := op_unit o
  rw [(op_lin o p q).1, (op_lin o p q).2]
  exact move_any A B p q _ _ _ _ w hA hB hp hq u1 u2 u3 u4
set_option maxRecDepth 100000 in
set_option maxHeartbeats 4000000 in
theorem con_hex (o a b : Int) (w : World) (h0 : 0 ≤ o) (h1 : o < 12) (hg : goodB a b = true) :
    Calls Tryz.prog 28 #[.int .i64 1, .int .i64 o, Ce a b 0] w (OnPost w 1 o a b 0) := by
  obtain ⟨⟨a1, a2⟩, b1, b2⟩ := goodB_iff.1 hg
  have e1 : onA 1 o a b 0 = opA o a b := rfl
  have e2 : onB 1 o a b 0 = opB o a b := rfl
  have e3 : onH 1 o 0 = 0 := rfl
  unfold OnPost
  rw [e1, e2, e3]
  clear e1 e2 e3
  go_enter Tryz.func28, Tryz.ntmps28
  go_wp2_with fail
  refine (check_nil 1 a b 0 _ (by decide) (by decide) (by decide) hg).mono ?_
  rintro e w1 ⟨rfl, hb⟩
  have hb1 := below_call (B := w.heap.size) (w := w) hb (by go_grown) (by go_size)
  have kc : Box3 w.heap.size w1 a b 0 := box3_below (by simp [Box3, go_sem]) hb
  have k1 : Box3 (w.heap.size + 1) w1 0 0 0 := box3_below (by simp [Box3, go_sem]) hb
  clear hb
  go_wp2_with fail
  refine (mover_yes _ _ h0 h1).mono ?_
  rintro e w2 ⟨A, B, rfl, hA, hB, hb⟩
  have hb2 := below_call (B := w.heap.size) (w := w) hb hb1 hb1.size
  have k2 := box3_below k1 hb
  have kc2 := box3_below kc hb
  clear hb k1 hb1 kc
  obtain ⟨⟨c0, c1, c2⟩, _, cl⟩ := id kc2
  go_wp2_with fail
  refine (moved o a b A B _ hA hB (by omega) (by omega)).mono ?_
  rintro e w3 ⟨rfl, hb⟩
  have hb3 := below_call (B := w.heap.size) (w := w) hb hb2 hb2.size
  have k3 := box3_below k2 hb
  clear hb k2 hb2 kc2 c0 c1 c2 cl hA hB
  have hz3 := hb3.size
  have hb4 : Below w.heap.size w (w3.alloc (.cells #[.int .i64 (opA o a b), .int .i64 (opB o a b), .int .i64 0] 45)) := by go_grown
  have k4 := box3_below k3 (show Below w3.heap.size w3 (w3.alloc (.cells #[.int .i64 (opA o a b), .int .i64 (opB o a b), .int .i64 0] 45)) by go_grown)
  have kd4 : Box3 w3.heap.size (w3.alloc (.cells #[.int .i64 (opA o a b), .int .i64 (opB o a b), .int .i64 0] 45)) (opA o a b) (opB o a b) 0 := by simp [Box3, go_sem]
  (obtain ⟨⟨r0, r1, r2⟩, ⟨f0, f1, f2⟩, rl⟩ := id k4; obtain ⟨⟨d0, d1, d2⟩, _, dl⟩ := id kd4; cases hgd : goodB (opA o a b) (opB o a b)); (· have HG := Lib.hid hgd; go_wp2_with fail; refine (pgood_any _ _ _).mono ?_; rintro e w5 ⟨rfl, hb⟩; have hb5 := below_call (B := w.heap.size) (w := w) hb hb4 hb4.size; have k5 := box3_below k4 hb; have kd5 := box3_below kd4 hb; clear hb r0 r1 r2 f0 f1 f2 rl d0 d1 d2 dl; obtain ⟨⟨r0, r1, r2⟩, ⟨f0, f1, f2⟩, rl⟩ := id k5; obtain ⟨⟨d0, d1, d2⟩, _, dl⟩ := id kd5; have hz := hb5.size; go_wp2_with fail; exact bodyPost_ret (v := .tuple #[Ce 0 0 0, Er 6]) (by simp [results, Tryz.results28, go_sem, *]) rfl ⟨.inr ⟨HG.out, rfl⟩, by go_grown⟩); (· have HG := Lib.hid hgd; go_wp2_with fail; refine (pgood_any _ _ _).mono ?_; rintro e w5 ⟨rfl, hb⟩; have hb5 := below_call (B := w.heap.size) (w := w) hb hb4 hb4.size; have k5 := box3_below k4 hb; have kd5 := box3_below kd4 hb; clear hb r0 r1 r2 f0 f1 f2 rl d0 d1 d2 dl; obtain ⟨⟨r0, r1, r2⟩, ⟨f0, f1, f2⟩, rl⟩ := id k5; obtain ⟨⟨d0, d1, d2⟩, _, dl⟩ := id kd5; have hz := hb5.size; go_wp2_with fail; exact bodyPost_ret (v := .tuple #[Ce (opA o a b) (opB o a b) 0, .nilIface]) (by simp [results, Tryz.results28, go_sem, *]) rfl ⟨.inl ⟨HG.out, rfl⟩, by go_grown⟩)
/-- The one or the other. -/
def pk (k j : Nat) (u v : Int) : Int := if j < k then u else v
def TLRel (w : World) (T D A B : Nat) (o a b h : Int) (d1 d2 : Int) (i : Value) (wr : World) : Prop :=
  ∃ k : Nat, k ≤ 3 ∧ i = .int .i64 k ∧ Below w.heap.size w wr ∧
    Blk wr T 84 #[.int .i64 (pk k 0 (opA o (a + cX h 0) (b + cY h 0)) (a + cX h 0)), .int .i64 (pk k 0 (opB o (a + cX h 0) (b + cY h 0)) (b + cY h 0)), .int .i64 (pk k 1 (opA o (a + cX h 1) (b + cY h 1)) (a + cX h 1)), .int .i64 (pk k 1 (opB o (a + cX h 1) (b + cY h 1)) (b + cY h 1)), .int .i64 (pk k 2 (opA o (a + cX h 2) (b + cY h 2)) (a + cX h 2)), .int .i64 (pk k 2 (opB o (a + cX h 2) (b + cY h 2)) (b + cY h 2))] ∧
    Box3 (w.heap.size + 1) wr 0 0 0 ∧ Box3 D wr d1 d2 0 ∧ Box2 A wr (opA o 1 0) (opB o 1 0) ∧ Box2 B wr (opA o 0 1) (opB o 0 1) ∧ (T ≠ D ∧ T ≠ A ∧ T ≠ B ∧ w.heap.size + 1 < T ∧ w.heap.size + 1 < D)
theorem box2_far {B C i : Nat} {W : World} {x y : Int} (h : Box2 B W x y) (hne : C ≠ B) (v : Value) : Box2 B (W.setCell ⟨C, i, none⟩ v) x y := by
  obtain ⟨h1, h2, h3, h4, h5⟩ := h
  exact ⟨(World.cell?_setCell_far _ _ _ _ hne).trans h1, (World.cell?_setCell_far _ _ _ _ hne).trans h2, by simpa using h3, by simpa using h4, by simpa [World.setCell] using h5⟩
theorem box3_far {B C i : Nat} {W : World} {x y z : Int} (h : Box3 B W x y z) (hne : C ≠ B) (v : Value) : Box3 B (W.setCell ⟨C, i, none⟩ v) x y z := by
  obtain ⟨⟨h1, h2, h3⟩, ⟨h4, h5, h6⟩, h7⟩ := h
  exact ⟨⟨(World.cell?_setCell_far _ _ _ _ hne).trans h1, (World.cell?_setCell_far _ _ _ _ hne).trans h2, (World.cell?_setCell_far _ _ _ _ hne).trans h3⟩, ⟨by simpa using h4, by simpa using h5, by simpa using h6⟩, by simpa [World.setCell] using h7⟩
set_option maxRecDepth 100000 in
set_option maxHeartbeats 8000000 in
theorem con_tri (l o a b h : Int) (w : World) (hl : l = 2 ∨ l = 3) (h0 : 0 ≤ o) (h1 : o < 12) (hg : goodB a b = true) (hh : h = 0 ∨ h = 1) :
    Calls Tryz.prog 28 #[.int .i64 l, .int .i64 o, Ce a b h] w (OnPost w l o a b h) := by
  obtain ⟨⟨a1, a2⟩, b1, b2⟩ := goodB_iff.1 hg
  have hl1 : ¬ l = 1 := by omega
  have hlat : latB l = true := by rcases hl with rfl | rfl <;> decide
  have hlv : halvesV l = 2 := if_neg hl1
  have hln : (l != 1) = true := by simpa using hl1
  have e1 : onA l o a b h = opA o a b + tA o h := if_neg hl1
  have e2 : onB l o a b h = opB o a b + tB o h := if_neg hl1
  have e3 : onH l o h = tH o h := if_neg hl1
  unfold OnPost
  rw [e1, e2, e3]
  clear e1 e2 e3
  have i0 := idx3_0
  have i1 := idx3_1
  have i2 := idx3_2
  have hcx0 := cX_bd h 0
  have hcx1 := cX_bd h 1
  have hcx2 := cX_bd h 2
  have hcy0 := cY_bd h 0
  have hcy1 := cY_bd h 1
  have hcy2 := cY_bd h 2
  go_enter Tryz.func28, Tryz.ntmps28
  go_wp2_with fail
  refine (check_nil l a b h _ hlat (by omega) (by omega) hg).mono ?_
  rintro e w1 ⟨rfl, hb⟩
  have hb1 := below_call (B := w.heap.size) (w := w) hb (by go_grown) (by go_size)
  have kc : Box3 w.heap.size w1 a b h := box3_below (by simp [Box3, go_sem]) hb
  have k1 : Box3 (w.heap.size + 1) w1 0 0 0 := box3_below (by simp [Box3, go_sem]) hb
  clear hb
  go_wp2_with fail
  refine (mover_yes _ _ h0 h1).mono ?_
  rintro e w2 ⟨A, B, rfl, hA, hB, hb⟩
  have hb2 := below_call (B := w.heap.size) (w := w) hb hb1 hb1.size
  have k2 := box3_below k1 hb
  have kc2 := box3_below kc hb
  clear hb k1 hb1 kc
  obtain ⟨⟨c0, c1, c2⟩, _, cl⟩ := id kc2
  go_wp2_with fail
  refine (moved o a b A B _ hA hB (by omega) (by omega)).mono ?_
  rintro e w3 ⟨rfl, hb⟩
  have hb3 := below_call (B := w.heap.size) (w := w) hb hb2 hb2.size
  have k3 := box3_below k2 hb
  have kc3 := box3_below kc2 hb
  have hA3 := box2_below hA hb
  have hB3 := box2_below hB hb
  clear hb k2 hb2 kc2 c0 c1 c2 cl hA hB
  have hz3 := hb3.size
  obtain ⟨⟨c0, c1, c2⟩, _, cl⟩ := id kc3
  go_wp2_with fail
  refine (corners_v a b h _ (by omega) (by omega) (by omega) (by omega)).mono ?_
  rintro e w4 ⟨rfl, hb⟩
  have hd : Below w3.heap.size w3 (w3.alloc (.cells #[.int .i64 (opA o a b), .int .i64 (opB o a b), .int .i64 0] 45)) := by go_grown
  have k4 := box3_below (box3_below k3 hd) hb
  have kd4 : Box3 w3.heap.size w4 (opA o a b) (opB o a b) 0 := box3_below (by simp [Box3, go_sem]) hb
  have hA4 := box2_below (box2_below hA3 hd) hb
  have hB4 := box2_below (box2_below hB3 hd) hb
  have hb4 := below_call (B := w.heap.size) (w := w) hb (hb3.trans (hd.mono hz3)) (by simp; omega)
  have hz4 := hb.size
  simp at hz4
  have hl3 := k3.2.2
  clear hb hd k3 kc3 hA3 hB3 hb3 c0 c1 c2
  have hDl : w.heap.size + 1 < w3.heap.size := hl3
  generalize w3.heap.size = D at *
  go_wp2_with fail
  have kt : Blk (w4.alloc (.cells #[.int .i64 (a + cX h 0), .int .i64 (b + cY h 0), .int .i64 (a + cX h 1), .int .i64 (b + cY h 1), .int .i64 (a + cX h 2), .int .i64 (b + cY h 2)] 84)) w4.heap.size 84 #[.int .i64 (a + cX h 0), .int .i64 (b + cY h 0), .int .i64 (a + cX h 1), .int .i64 (b + cY h 1), .int .i64 (a + cX h 2), .int .i64 (b + cY h 2)] := Blk.newAt _ _ _ _ rfl
  have hd : Below w4.heap.size w4 (w4.alloc (.cells #[.int .i64 (a + cX h 0), .int .i64 (b + cY h 0), .int .i64 (a + cX h 1), .int .i64 (b + cY h 1), .int .i64 (a + cX h 2), .int .i64 (b + cY h 2)] 84)) := by go_grown
  replace k4 := box3_below k4 hd
  have hD := kd4.2.2
  replace kd4 := box3_below kd4 hd
  have hA' := hA4.2.2.2.2
  have hB' := hB4.2.2.2.2
  replace hA4 := box2_below hA4 hd
  replace hB4 := box2_below hB4 hd
  replace hb4 := hb4.trans (hd.mono hb4.size)
  have hne : w4.heap.size ≠ D ∧ w4.heap.size ≠ A ∧ w4.heap.size ≠ B ∧ w.heap.size + 1 < w4.heap.size ∧ w.heap.size + 1 < D := by omega
  clear hd hD hA' hB' hz4 hz3 cl
  generalize (w4.alloc (.cells #[.int .i64 (a + cX h 0), .int .i64 (b + cY h 0), .int .i64 (a + cX h 1), .int .i64 (b + cY h 1), .int .i64 (a + cX h 2), .int .i64 (b + cY h 2)] 84)) = w6 at *
  generalize w4.heap.size = T at *
  go_loopw [41] (fun i wr => TLRel w T D A B o a b h (opA o a b) (opB o a b) i wr) (fun i _ => 3 - (intOf i).toNat)
  case atStart => exact ⟨0, by omega, rfl, hb4, by simpa [pk] using kt, k4, kd4, hA4, hB4, hne⟩
  case round =>
    clear hb4 kt k4 kd4 hA4 hB4 hne
    obtain ⟨k, hk, rfl, hb4, kt, k4, kd4, hA4, hB4, hne⟩ := hrel
    have hk4 : k = 0 ∨ k = 1 ∨ k = 2 ∨ k = 3 := by omega
    have hz4 := hb4.size
    have hal := hA4.2.2.2.2
    have hbl := hB4.2.2.2.2
    have hne4 := hne.2.2.2.1
    have hne5 := hne.2.2.2.2
    rcases hk4 with rfl | rfl | rfl | rfl
    · (have q0 := kt.cell 0; have q1 := kt.cell (0 + 1); go_wp2_with fail; refine (moved o (a + cX h 0) (b + cY h 0) A B _ (box2_below hA4 (by go_grown)) (box2_below hB4 (by go_grown)) (by omega) (by omega)).mono ?_; rintro e w5 ⟨rfl, hb⟩; have hw : Below wr.heap.size wr w5 := below_call hb (by go_grown) (by go_size); have kt5 := kt.below hw kt.lt; have f0 := kt5.frozen 0; have f1 := kt5.frozen (0 + 1); have q0 := (hw.cell (p := ⟨T, 0, none⟩) kt.lt).trans q0; have q1 := (hw.cell (p := ⟨T, 0 + 1, none⟩) kt.lt).trans q1; simp [pk] at q0 q1; have k5 := box3_below k4 hw; have kd5 := box3_below kd4 hw; have hA5 := box2_below hA4 hw; have hB5 := box2_below hB4 hw; have hb5 := below_call (B := w.heap.size) (w := w) hw hb4 hb4.size; have hl5 := kt5.lt; have hz5 := hb5.size; clear hb; go_wp2_with fail; go_roundw; (case rel => exact ⟨0 + 1, by omega, by go_num, by go_grown, by simpa [pk] using (kt5.set_ 0 _).set_ (0 + 1) _, box3_far (box3_far k5 (by omega) _) (by omega) _, box3_far (box3_far kd5 hne.1 _) hne.1 _, box2_far (box2_far hA5 hne.2.1 _) hne.2.1 _, box2_far (box2_far hB5 hne.2.2.1 _) hne.2.2.1 _, hne⟩); (case measure => simp [intOf]))
    · (have q0 := kt.cell 2; have q1 := kt.cell (2 + 1); go_wp2_with fail; refine (moved o (a + cX h 1) (b + cY h 1) A B _ (box2_below hA4 (by go_grown)) (box2_below hB4 (by go_grown)) (by omega) (by omega)).mono ?_; rintro e w5 ⟨rfl, hb⟩; have hw : Below wr.heap.size wr w5 := below_call hb (by go_grown) (by go_size); have kt5 := kt.below hw kt.lt; have f0 := kt5.frozen 2; have f1 := kt5.frozen (2 + 1); have q0 := (hw.cell (p := ⟨T, 2, none⟩) kt.lt).trans q0; have q1 := (hw.cell (p := ⟨T, 2 + 1, none⟩) kt.lt).trans q1; simp [pk] at q0 q1; have k5 := box3_below k4 hw; have kd5 := box3_below kd4 hw; have hA5 := box2_below hA4 hw; have hB5 := box2_below hB4 hw; have hb5 := below_call (B := w.heap.size) (w := w) hw hb4 hb4.size; have hl5 := kt5.lt; have hz5 := hb5.size; clear hb; go_wp2_with fail; go_roundw; (case rel => exact ⟨1 + 1, by omega, by go_num, by go_grown, by simpa [pk] using (kt5.set_ 2 _).set_ (2 + 1) _, box3_far (box3_far k5 (by omega) _) (by omega) _, box3_far (box3_far kd5 hne.1 _) hne.1 _, box2_far (box2_far hA5 hne.2.1 _) hne.2.1 _, box2_far (box2_far hB5 hne.2.2.1 _) hne.2.2.1 _, hne⟩); (case measure => simp [intOf]))
    · (have q0 := kt.cell 4; have q1 := kt.cell (4 + 1); go_wp2_with fail; refine (moved o (a + cX h 2) (b + cY h 2) A B _ (box2_below hA4 (by go_grown)) (box2_below hB4 (by go_grown)) (by omega) (by omega)).mono ?_; rintro e w5 ⟨rfl, hb⟩; have hw : Below wr.heap.size wr w5 := below_call hb (by go_grown) (by go_size); have kt5 := kt.below hw kt.lt; have f0 := kt5.frozen 4; have f1 := kt5.frozen (4 + 1); have q0 := (hw.cell (p := ⟨T, 4, none⟩) kt.lt).trans q0; have q1 := (hw.cell (p := ⟨T, 4 + 1, none⟩) kt.lt).trans q1; simp [pk] at q0 q1; have k5 := box3_below k4 hw; have kd5 := box3_below kd4 hw; have hA5 := box2_below hA4 hw; have hB5 := box2_below hB4 hw; have hb5 := below_call (B := w.heap.size) (w := w) hw hb4 hb4.size; have hl5 := kt5.lt; have hz5 := hb5.size; clear hb; go_wp2_with fail; go_roundw; (case rel => exact ⟨2 + 1, by omega, by go_num, by go_grown, by simpa [pk] using (kt5.set_ 4 _).set_ (4 + 1) _, box3_far (box3_far k5 (by omega) _) (by omega) _, box3_far (box3_far kd5 hne.1 _) hne.1 _, box2_far (box2_far hA5 hne.2.1 _) hne.2.1 _, box2_far (box2_far hB5 hne.2.2.1 _) hne.2.2.1 _, hne⟩); (case measure => simp [intOf]))
    · simp [pk] at kt
      have q0 := kt.cell 0
      have q1 := kt.cell 1
      have q2 := kt.cell 2
      have q3 := kt.cell 3
      have q4 := kt.cell 4
      have q5 := kt.cell 5
      simp only [List.getElem?_toArray, List.getElem?_cons_zero, List.getElem?_cons_succ] at q0 q1 q2 q3 q4 q5
      obtain ⟨s1, s2, s3⟩ := tri_all o a b h
      have tr := triangle_any (opA o (a + cX h 0) (b + cY h 0)) (opB o (a + cX h 0) (b + cY h 0)) (opA o (a + cX h 1) (b + cY h 1)) (opB o (a + cX h 1) (b + cY h 1)) (opA o (a + cX h 2) (b + cY h 2)) (opB o (a + cX h 2) (b + cY h 2))
      rw [s1, s2, s3] at tr
      clear s1 s2 s3
      go_wp2_with fail
      refine (tr _).mono ?_
      rintro e w7 ⟨rfl, hb⟩
      have hb7 := below_call (B := w.heap.size) (w := w) hb hb4 hb4.size
      have k7 := box3_below k4 hb
      have kd7 := box3_below kd4 hb
      clear hb tr q0 q1 q2 q3 q4 q5 k4 kd4 hb4
      obtain ⟨⟨d0, d1, d2⟩, ⟨e0, e1, e2⟩, dl⟩ := id kd7
      have hz7 := hb7.size
      have hDn : w.heap.size + 1 < D := by omega
      have hb4 : Below w.heap.size w (((w7.setCell ⟨D, 0, none⟩ (.int .i64 (opA o a b + tA o h))).setCell ⟨D, 1, none⟩ (.int .i64 (opB o a b + tB o h))).setCell ⟨D, 2, none⟩ (.int .i64 (tH o h))) := by go_grown
      have k4 : Box3 (w.heap.size + 1) (((w7.setCell ⟨D, 0, none⟩ (.int .i64 (opA o a b + tA o h))).setCell ⟨D, 1, none⟩ (.int .i64 (opB o a b + tB o h))).setCell ⟨D, 2, none⟩ (.int .i64 (tH o h))) 0 0 0 := box3_far (box3_far (box3_far k7 (by omega) _) (by omega) _) (by omega) _
      have kd4 : Box3 D (((w7.setCell ⟨D, 0, none⟩ (.int .i64 (opA o a b + tA o h))).setCell ⟨D, 1, none⟩ (.int .i64 (opB o a b + tB o h))).setCell ⟨D, 2, none⟩ (.int .i64 (tH o h))) (opA o a b + tA o h) (opB o a b + tB o h) (tH o h) := by simp [Box3, go_sem, *]
      (obtain ⟨⟨r0, r1, r2⟩, ⟨f0, f1, f2⟩, rl⟩ := id k4; obtain ⟨⟨d0, d1, d2⟩, _, dl⟩ := id kd4; cases hgd : goodB (opA o a b + tA o h) (opB o a b + tB o h)); (· have HG := Lib.hid hgd; go_wp2_with fail; refine (pgood_any _ _ _).mono ?_; rintro e w5 ⟨rfl, hb⟩; have hb5 := below_call (B := w.heap.size) (w := w) hb hb4 hb4.size; have k5 := box3_below k4 hb; have kd5 := box3_below kd4 hb; clear hb r0 r1 r2 f0 f1 f2 rl d0 d1 d2 dl; obtain ⟨⟨r0, r1, r2⟩, ⟨f0, f1, f2⟩, rl⟩ := id k5; obtain ⟨⟨d0, d1, d2⟩, _, dl⟩ := id kd5; have hz := hb5.size; go_wp2_with fail; exact bodyPost_ret (v := .tuple #[Ce 0 0 0, Er 6]) (by simp [results, Tryz.results28, go_sem, *]) rfl ⟨.inr ⟨HG.out, rfl⟩, by go_grown⟩); (· have HG := Lib.hid hgd; go_wp2_with fail; refine (pgood_any _ _ _).mono ?_; rintro e w5 ⟨rfl, hb⟩; have hb5 := below_call (B := w.heap.size) (w := w) hb hb4 hb4.size; have k5 := box3_below k4 hb; have kd5 := box3_below kd4 hb; clear hb r0 r1 r2 f0 f1 f2 rl d0 d1 d2 dl; obtain ⟨⟨r0, r1, r2⟩, ⟨f0, f1, f2⟩, rl⟩ := id k5; obtain ⟨⟨d0, d1, d2⟩, _, dl⟩ := id kd5; have hz := hb5.size; go_wp2_with fail; exact bodyPost_ret (v := .tuple #[Ce (opA o a b + tA o h) (opB o a b + tB o h) (tH o h), .nilIface]) (by simp [results, Tryz.results28, go_sem, *]) rfl ⟨.inl ⟨HG.out, rfl⟩, by go_grown⟩)
end Go.Proofs.YtplldlfbcblncaaGreatDoor.Ce
