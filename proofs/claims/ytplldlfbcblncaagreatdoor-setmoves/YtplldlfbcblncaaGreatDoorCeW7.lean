/- The contracts of cell.mover, of the function that it makes, and of cell.triangle. -/
import Derived.Test.YtplldlfbcblncaaGreatDoorCeW1
import Derived.Test.YtplldlfbcblncaaGreatDoorAxEq
import Derived.BigRegion
import Derived.WalkLawsBesides
import Derived.Deep.RegionHeld3
import Derived.Deep.DeepCutAuto
import Derived.BigQuiet
import Derived.Deep.QuietTactic
import Derived.IntWalk
import Derived.Outline
import Derived.Deep.DeepCutAuto
namespace Go.Proofs.YtplldlfbcblncaaGreatDoor.Ce
open Go.RowKit Go.Proofs.YtplldlfbcblncaaGreatDoor.Ax

theorem mul_bd (p m : Int) (hp : -8796093022208 ≤ p ∧ p ≤ 8796093022208) (hm : -1 ≤ m ∧ m ≤ 1) : -8796093022208 ≤ p * m ∧ p * m ≤ 8796093022208 := by
  have : m = -1 ∨ m = 0 ∨ m = 1 := by omega
  rcases this with rfl | rfl | rfl <;> omega
set_option maxHeartbeats 1000000 in
theorem move_any (A B : Nat) (p q m1 m2 n1 n2 : Int) (w : World) (hA : Box2 A w m1 m2) (hB : Box2 B w n1 n2) (hp : -8796093022208 ≤ p ∧ p ≤ 8796093022208) (hq : -8796093022208 ≤ q ∧ q ≤ 8796093022208)
    (b1 : -1 ≤ m1 ∧ m1 ≤ 1) (b2 : -1 ≤ m2 ∧ m2 ≤ 1) (b3 : -1 ≤ n1 ∧ n1 ≤ 1) (b4 : -1 ≤ n2 ∧ n2 ≤ 1) :
    Calls Tryz.prog 67 #[Pt p q, .pointer (some ⟨A, 0, none⟩), .pointer (some ⟨B, 0, none⟩)] w fun e w' => e = .returned (Pt (p * m1 + q * n1) (p * m2 + q * n2)) ∧ Below w.heap.size w w' := by
  obtain ⟨a0, a1, _, _, al⟩ := hA
  obtain ⟨c0, c1, _, _, cl⟩ := hB
  obtain ⟨x1, x2⟩ := mul_bd p m1 hp b1
  obtain ⟨x3, x4⟩ := mul_bd q n1 hq b3
  obtain ⟨x5, x6⟩ := mul_bd p m2 hp b2
  obtain ⟨x7, x8⟩ := mul_bd q n2 hq b4
  clear hp hq b1 b2 b3 b4
  go_enter Tryz.func67, Tryz.ntmps67
  go_wp2
  exact bodyPost_ret (v := Pt (p * m1 + q * n1) (p * m2 + q * n2)) (by simp [results, Tryz.results67, go_sem]) rfl ⟨rfl, by go_grown⟩

/-- What mover answers for one of the twelve: a function over two boxes that hold where the axes are brought. -/
def MovPost (w : World) (o : Int) (e : Ending) (w' : World) : Prop :=
  ∃ A B : Nat, e = .returned (.tuple #[.func (.func 67) #[] #[.pointer (some ⟨A, 0, none⟩), .pointer (some ⟨B, 0, none⟩)], .nilIface]) ∧ Box2 A w' (opA o 1 0) (opB o 1 0) ∧ Box2 B w' (opA o 0 1) (opB o 0 1) ∧ Below w.heap.size w w'
theorem op_unit (o : Int) : ((-1 ≤ opA o 1 0 ∧ opA o 1 0 ≤ 1) ∧ (-1 ≤ opB o 1 0 ∧ opB o 1 0 ≤ 1)) ∧ ((-1 ≤ opA o 0 1 ∧ opA o 0 1 ≤ 1) ∧ (-1 ≤ opB o 0 1 ∧ opB o 0 1 ≤ 1)) := by
  have hk : (o % 6).toNat = 0 ∨ (o % 6).toNat = 1 ∨ (o % 6).toNat = 2 ∨ (o % 6).toNat = 3 ∨ (o % 6).toNat = 4 ∨ (o % 6).toNat = 5 := by omega
  unfold opA opB
  rcases hk with h | h | h | h | h | h <;> rw [h] <;> simp only [tn] <;> split <;> omega
theorem mover_yes (o : Int) (w : World) (h0 : 0 ≤ o) (h1 : o < 12) :
    Calls Tryz.prog 43 #[.int .i64 o] w (MovPost w o) := by
  obtain ⟨⟨u1, u2⟩, u3, u4⟩ := op_unit o
  have hmf : ∀ (fn : Fn) (first cap : Array Value) (w : World), (Instr.makeFunc fn first cap).run Tryz.prog w = .ok (.func fn first cap) w := fun _ _ _ _ => rfl
  go_enter Tryz.func43, Tryz.ntmps43
  go_wp2_with fail
  refine (on_yes o 1 0 _ h0 h1 (by decide) (goodB_iff.2 (by omega))).mono ?_
  rintro e w1 ⟨rfl, hb⟩
  have hb1 := below_call (B := w.heap.size) (w := w) hb (by go_grown) (by go_size)
  clear hb
  have hz1 := hb1.size
  go_wp2_with fail
  refine (on_yes o 0 1 _ h0 h1 (by decide) (goodB_iff.2 (by omega))).mono ?_
  rintro e w2 ⟨rfl, hb⟩
  have ka : Box2 w1.heap.size w2 (opA o 1 0) (opB o 1 0) := box2_below (by simp [Box2, go_sem]) hb
  have hb2 := below_call (B := w.heap.size) (w := w) hb (by go_grown) (by go_size)
  clear hb
  have hz2 := hb2.size
  go_wp2_with fail
  go_ret2
  exact ⟨_, _, rfl, box2_below ka (by go_grown), by simp [Box2, go_sem], by go_grown⟩
theorem mover_no (o : Int) (w : World) (h : o < 0 ∨ 11 < o) :
    Calls Tryz.prog 43 #[.int .i64 o] w fun e w' => e = .returned (.tuple #[.nilFunc, Er 4]) ∧ Below w.heap.size w w' := by
  go_enter Tryz.func43, Tryz.ntmps43
  go_wp2_with fail
  refine (on_arg o 1 0 _ h).mono ?_
  rintro e w1 ⟨rfl, hb⟩
  have hb1 := below_call (B := w.heap.size) (w := w) hb (by go_grown) (by go_size)
  clear hb
  have hz1 := hb1.size
  go_wp2_with fail
  go_ret2
  exact ⟨rfl, by go_grown⟩

/-- A cell's box, which may be written. -/
def Box3 (B : Nat) (w : World) (x y z : Int) : Prop := (w.cell? ⟨B, 0, none⟩ = some (.int .i64 x) ∧ w.cell? ⟨B, 1, none⟩ = some (.int .i64 y) ∧ w.cell? ⟨B, 2, none⟩ = some (.int .i64 z)) ∧ (w.frozen? ⟨B, 0, none⟩ = false ∧ w.frozen? ⟨B, 1, none⟩ = false ∧ w.frozen? ⟨B, 2, none⟩ = false) ∧ B < w.heap.size
theorem box3_below {B : Nat} {W w1 : World} {x y z : Int} (h : Box3 B W x y z) (hb : Below W.heap.size W w1) : Box3 B w1 x y z := by
  obtain ⟨⟨h1, h2, h3⟩, ⟨h4, h5, h6⟩, h7⟩ := h
  exact ⟨⟨(hb.cell (p := ⟨B, 0, none⟩) h7).trans h1, (hb.cell (p := ⟨B, 1, none⟩) h7).trans h2, (hb.cell (p := ⟨B, 2, none⟩) h7).trans h3⟩, ⟨(hb.frozen (p := ⟨B, 0, none⟩) h7).trans h4, (hb.frozen (p := ⟨B, 1, none⟩) h7).trans h5, (hb.frozen (p := ⟨B, 2, none⟩) h7).trans h6⟩, Nat.lt_of_lt_of_le h7 hb.size⟩
/-- A triangle's point and half, of its corners in any order. -/
def mn3 (x0 x1 x2 : Int) : Int := if x2 < (if x1 < x0 then x1 else x0) then x2 else if x1 < x0 then x1 else x0
def triH (x0 y0 x1 y1 x2 y2 : Int) : Int :=
  if (!(x0 == mn3 x0 x1 x2 && y0 == mn3 y0 y1 y2) && (!(x1 == mn3 x0 x1 x2 && y1 == mn3 y0 y1 y2) && !(x2 == mn3 x0 x1 x2 && y2 == mn3 y0 y1 y2))) = true then 1 else 0
def TrRel (w : World) (x0 y0 x1 y1 x2 y2 : Int) (t3 t4 t5 : Value) (wx : World) : Prop :=
  ∃ A B D : Nat, t3 = .pointer (some ⟨A, 0, none⟩) ∧ t4 = .pointer (some ⟨B, 0, none⟩) ∧ t5 = .pointer (some ⟨D, 0, none⟩) ∧ Box2 A wx x0 y0 ∧ Box2 B wx x1 y1 ∧ Box2 D wx x2 y2 ∧ Box3 (w.heap.size + 1) wx 0 0 0 ∧ Below w.heap.size w wx
set_option maxRecDepth 100000 in
set_option maxHeartbeats 4000000 in
theorem triangle_any (x0 y0 x1 y1 x2 y2 : Int) (w : World) :
    Calls Tryz.prog 45 #[.agg #[.int .i64 x0, .int .i64 y0, .int .i64 x1, .int .i64 y1, .int .i64 x2, .int .i64 y2]] w fun e w' => e = .returned (Ce (mn3 x0 x1 x2) (mn3 y0 y1 y2) (triH x0 y0 x1 y1 x2 y2)) ∧ Below w.heap.size w w' := by
  go_enter Tryz.func45, Tryz.ntmps45
  go_upto_region 1 with fail
  go_cut [3, 4, 5] (fun t3 t4 t5 wx => TrRel w x0 y0 x1 y1 x2 y2 t3 t4 t5 wx)
  case first =>
    go_region
    all_goals go_wp2_with fail
    all_goals go_meet
    all_goals exact ⟨_, _, _, rfl, rfl, rfl, by simp [Box2, go_sem], by simp [Box2, go_sem], by simp [Box2, go_sem], by simp [Box3, go_sem], by go_grown⟩
  case rest =>
    obtain ⟨A, B, D, rfl, rfl, rfl, ⟨a0, a1, _, _, al⟩, ⟨b0, b1, _, _, bl⟩, ⟨d0, d1, _, _, dl⟩, ⟨⟨r0, r1, r2⟩, ⟨f0, f1, f2⟩, rl⟩, hb⟩ := hcut
    have hz := hb.size
    go_upto_region 3 with fail
    obtain ⟨mx, hmx⟩ : ∃ m, mn3 x0 x1 x2 = m := ⟨_, rfl⟩
    obtain ⟨my, hmy⟩ : ∃ m, mn3 y0 y1 y2 = m := ⟨_, rfl⟩
    rw [show (if x2 < if x1 < x0 then x1 else x0 then x2 else if x1 < x0 then x1 else x0) = mx from hmx, show (if y2 < if y1 < y0 then y1 else y0 then y2 else if y1 < y0 then y1 else y0) = my from hmy]
    have HX := Lib.hid hmx
    have HY := Lib.hid hmy
    clear hmx hmy
    have rl' : w.heap.size + 1 ≠ wc.heap.size := by omega
    have n0 := neq_pt x0 y0 mx my
    have n1 := neq_pt x1 y1 mx my
    have n2 := neq_pt x2 y2 mx my
    have HT := Lib.hid (show triH x0 y0 x1 y1 x2 y2 = if (!(x0 == mx && y0 == my) && (!(x1 == mx && y1 == my) && !(x2 == mx && y2 == my))) = true then 1 else 0 by unfold triH; rw [HX.out, HY.out])
    cases g0 : (!(x0 == mx && y0 == my)) <;> cases g1 : (!(x1 == mx && y1 == my)) <;> cases g2 : (!(x2 == mx && y2 == my))
    all_goals
      rw [g0] at n0
      rw [g1] at n1
      rw [g2] at n2
      have HE := Lib.hid HT.out
      rw [g0, g1, g2] at HE
      have E := Lib.hid HE.out
      clear g0 g1 g2 HE
      go_wp2
      refine bodyPost_ret (v := Ce mx my (triH x0 y0 x1 y1 x2 y2)) ?_ rfl ⟨by rw [HX.out, HY.out], by go_grown⟩
      rw [E.out]
      simp [results, Tryz.results45, go_sem, *]
end Go.Proofs.YtplldlfbcblncaaGreatDoor.Ce
