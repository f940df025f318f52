/- Several texts, joined. -/
import Derived.Test.YtjongkbjhiblmaaDoorCeLat
import Derived.Test.YtjongkbjhiblmaaDoorCeW5
import Derived.BigQuiet
import Derived.Deep.QuietTactic
import Derived.Deep.RegionHeld3
import Derived.Deep.AppendLies
import Derived.IntWalk
/- The document's own corners; what a cell is told as (as in CellW9 and CellW10, over fewer texts). -/
namespace Go.Proofs.YtjongkbjhiblmaaDoor.Ce
open Go.RowKit Go.Proofs.YtjongkbjhiblmaaDoor.Ax

def Cor (w : World) (B X : Nat) (x0 y0 x1 y1 x2 y2 : Int) : Prop :=
  ∃ g0 g1 g2 : Nat, (w.cell? ⟨X, 0, none⟩ = some (.slice (some ⟨g0, 0, none⟩) 2 2) ∧ w.cell? ⟨X, 1, none⟩ = some (.slice (some ⟨g1, 0, none⟩) 2 2) ∧ w.cell? ⟨X, 2, none⟩ = some (.slice (some ⟨g2, 0, none⟩) 2 2) ∧ X < w.heap.size) ∧
    (w.cell? ⟨g0, 0, none⟩ = some (.int .i64 x0) ∧ w.cell? ⟨g0, 1, none⟩ = some (.int .i64 y0) ∧ g0 < w.heap.size) ∧ (w.cell? ⟨g1, 0, none⟩ = some (.int .i64 x1) ∧ w.cell? ⟨g1, 1, none⟩ = some (.int .i64 y1) ∧ g1 < w.heap.size) ∧ (w.cell? ⟨g2, 0, none⟩ = some (.int .i64 x2) ∧ w.cell? ⟨g2, 1, none⟩ = some (.int .i64 y2) ∧ g2 < w.heap.size) ∧
    B ≤ X ∧ B ≤ g0 ∧ B ≤ g1 ∧ B ≤ g2
theorem Cor.below {w w' : World} {B X : Nat} {x0 y0 x1 y1 x2 y2 : Int} (h : Cor w B X x0 y0 x1 y1 x2 y2) (hb : Below w.heap.size w w') : Cor w' B X x0 y0 x1 y1 x2 y2 := by
  obtain ⟨g0, g1, g2, ⟨a0, a1, a2, al⟩, ⟨b0, b1, bl⟩, ⟨c0, c1, cl⟩, ⟨d0, d1, dl⟩, hB⟩ := h
  have hz := hb.size
  exact ⟨g0, g1, g2, ⟨(hb.cell (p := ⟨X, 0, none⟩) al).trans a0, (hb.cell (p := ⟨X, 1, none⟩) al).trans a1, (hb.cell (p := ⟨X, 2, none⟩) al).trans a2, by omega⟩,
    ⟨(hb.cell (p := ⟨g0, 0, none⟩) bl).trans b0, (hb.cell (p := ⟨g0, 1, none⟩) bl).trans b1, by omega⟩, ⟨(hb.cell (p := ⟨g1, 0, none⟩) cl).trans c0, (hb.cell (p := ⟨g1, 1, none⟩) cl).trans c1, by omega⟩, ⟨(hb.cell (p := ⟨g2, 0, none⟩) dl).trans d0, (hb.cell (p := ⟨g2, 1, none⟩) dl).trans d1, by omega⟩, hB⟩
theorem Cor.far {w : World} {B X T i : Nat} {x0 y0 x1 y1 x2 y2 : Int} (h : Cor w B X x0 y0 x1 y1 x2 y2) (hT : T < B) (v : Value) : Cor (w.setCell ⟨T, i, none⟩ v) B X x0 y0 x1 y1 x2 y2 := by
  obtain ⟨g0, g1, g2, ⟨a0, a1, a2, al⟩, ⟨b0, b1, bl⟩, ⟨c0, c1, cl⟩, ⟨d0, d1, dl⟩, hB⟩ := h
  have e : (w.setCell ⟨T, i, none⟩ v).heap.size = w.heap.size := by simp [World.setCell]
  refine ⟨g0, g1, g2, ⟨?_, ?_, ?_, by omega⟩, ⟨?_, ?_, by omega⟩, ⟨?_, ?_, by omega⟩, ⟨?_, ?_, by omega⟩, hB⟩
  · exact (World.cell?_setCell_far _ _ _ _ (show T ≠ X by omega)).trans a0
  · exact (World.cell?_setCell_far _ _ _ _ (show T ≠ X by omega)).trans a1
  · exact (World.cell?_setCell_far _ _ _ _ (show T ≠ X by omega)).trans a2
  · exact (World.cell?_setCell_far _ _ _ _ (show T ≠ g0 by omega)).trans b0
  · exact (World.cell?_setCell_far _ _ _ _ (show T ≠ g0 by omega)).trans b1
  · exact (World.cell?_setCell_far _ _ _ _ (show T ≠ g1 by omega)).trans c0
  · exact (World.cell?_setCell_far _ _ _ _ (show T ≠ g1 by omega)).trans c1
  · exact (World.cell?_setCell_far _ _ _ _ (show T ≠ g2 by omega)).trans d0
  · exact (World.cell?_setCell_far _ _ _ _ (show T ≠ g2 by omega)).trans d1
def CorPost (w : World) (x0 y0 x1 y1 x2 y2 : Int) (e : Ending) (w' : World) : Prop := ∃ X, e = .returned (.slice (some ⟨X, 0, none⟩) 3 3) ∧ Cor w' w.heap.size X x0 y0 x1 y1 x2 y2 ∧ Below w.heap.size w w'
theorem refcorners_any (a b h : Int) (w : World) (a0 : -8796093022208 ≤ a ∧ a ≤ 8796093022208) (b0 : -8796093022208 ≤ b ∧ b ≤ 8796093022208) :
    Calls Tryd.prog 76 #[Ce a b h] w (CorPost w (a + cX h 0) (b + cY h 0) (a + cX h 1) (b + cY h 1) (a + cX h 2) (b + cY h 2)) := by
  obtain ⟨a1, a2⟩ := a0
  obtain ⟨b1, b2⟩ := b0
  by_cases h0 : h = 0
  · subst h0
    go_enter Tryd.func76, Tryd.ntmps76
    go_wp2
    go_ret
    exact ⟨w.heap.size + 1 + 1 + 1 + 1, rfl, ⟨w.heap.size + 1, w.heap.size + 1 + 1, w.heap.size + 1 + 1 + 1, by simp [go_sem, cX, cY]; omega⟩, by go_grown⟩
  · have h' : (h == 0) = false := by simpa using h0
    have H0 := Lib.hid h0
    clear h0
    go_enter Tryd.func76, Tryd.ntmps76
    go_wp2
    go_ret
    exact ⟨w.heap.size + 1 + 1 + 1 + 1, rfl, ⟨w.heap.size + 1, w.heap.size + 1 + 1, w.heap.size + 1 + 1 + 1, by simp [go_sem, cX, cY, H0.out]; omega⟩, by go_grown⟩
def Box3 (B : Nat) (w : World) (x y z : Int) : Prop := (w.cell? ⟨B, 0, none⟩ = some (.int .i64 x) ∧ w.cell? ⟨B, 1, none⟩ = some (.int .i64 y) ∧ w.cell? ⟨B, 2, none⟩ = some (.int .i64 z)) ∧ (w.frozen? ⟨B, 0, none⟩ = false ∧ w.frozen? ⟨B, 1, none⟩ = false ∧ w.frozen? ⟨B, 2, none⟩ = false) ∧ B < w.heap.size
theorem box3_below {B : Nat} {W w1 : World} {x y z : Int} (h : Box3 B W x y z) (hb : Below W.heap.size W w1) : Box3 B w1 x y z := by
  obtain ⟨⟨h1, h2, h3⟩, ⟨h4, h5, h6⟩, h7⟩ := h
  exact ⟨⟨(hb.cell (p := ⟨B, 0, none⟩) h7).trans h1, (hb.cell (p := ⟨B, 1, none⟩) h7).trans h2, (hb.cell (p := ⟨B, 2, none⟩) h7).trans h3⟩, ⟨(hb.frozen (p := ⟨B, 0, none⟩) h7).trans h4, (hb.frozen (p := ⟨B, 1, none⟩) h7).trans h5, (hb.frozen (p := ⟨B, 2, none⟩) h7).trans h6⟩, Nat.lt_of_lt_of_le h7 hb.size⟩
/-- A triangle's point and half, of its corners in any order. -/
theorem told_any (a b h : Int) (w : World) :
    Calls Tryd.prog 18 #[Ce a b h] w fun e w' => e = .returned (Ce a b h) ∧ Below w.heap.size w w' := by
  go_enter Tryd.func18, Tryd.ntmps18
  go_wp2
  exact bodyPost_ret (v := Ce a b h) (by simp [results, Tryd.results18, go_sem, *]) rfl ⟨rfl, by go_grown⟩
end Go.Proofs.YtjongkbjhiblmaaDoor.Ce

/- The document's own count of corners that two triangles share, and its Near. -/
namespace Go.Proofs.YtjongkbjhiblmaaDoor.Ce
open Go.RowKit Go.Proofs.YtjongkbjhiblmaaDoor.Ax

def Pair (w : World) (g : Nat) (x y : Int) : Prop := w.cell? ⟨g, 0, none⟩ = some (.int .i64 x) ∧ w.cell? ⟨g, 1, none⟩ = some (.int .i64 y) ∧ g < w.heap.size
theorem Pair.below {w w' : World} {g : Nat} {x y : Int} (h : Pair w g x y) (hb : Below w.heap.size w w') : Pair w' g x y :=
  ⟨(hb.cell (p := ⟨g, 0, none⟩) h.2.2).trans h.1, (hb.cell (p := ⟨g, 1, none⟩) h.2.2).trans h.2.1, Nat.lt_of_lt_of_le h.2.2 hb.size⟩
def RcOut (w : World) (B X : Nat) (a' b' h' u0 v0 u1 v1 u2 v2 x0 y0 x1 y1 x2 y2 : Int) (n i : Value) (wr : World) : Prop :=
  ∃ k : Nat, k ≤ 3 ∧ i = .int .i64 k ∧ n = .int .i64 (com3 u0 v0 u1 v1 u2 v2 x0 y0 x1 y1 x2 y2 k) ∧ Below w.heap.size w wr ∧ Cor wr B X u0 v0 u1 v1 u2 v2 ∧ Box3 (w.heap.size + 1) wr a' b' h'
def RcIn (w : World) (B BB X X2 g : Nat) (u v a' b' h' n0 u0 v0 u1 v1 u2 v2 x0 y0 x1 y1 x2 y2 : Int) (n j : Value) (wr : World) : Prop :=
  ∃ k : Nat, k ≤ 3 ∧ j = .int .i64 k ∧ n = .int .i64 (n0 + cnt3 u v x0 y0 x1 y1 x2 y2 k) ∧ Below w.heap.size w wr ∧ Cor wr B X u0 v0 u1 v1 u2 v2 ∧ Cor wr BB X2 x0 y0 x1 y1 x2 y2 ∧ Pair wr g u v ∧ Box3 (w.heap.size + 1) wr a' b' h'
set_option maxRecDepth 100000 in
set_option maxHeartbeats 8000000 in
theorem refcommon_core (a b h a' b' h' u0 v0 u1 v1 u2 v2 x0 y0 x1 y1 x2 y2 : Int) (w : World)
    (hU : ∀ w, Calls Tryd.prog 76 #[Ce a b h] w (CorPost w u0 v0 u1 v1 u2 v2))
    (hX : ∀ w, Calls Tryd.prog 76 #[Ce a' b' h'] w (CorPost w x0 y0 x1 y1 x2 y2)) :
    Calls Tryd.prog 53 #[Ce a b h, Ce a' b' h'] w fun e w' => e = .returned (.int .i64 (com3 u0 v0 u1 v1 u2 v2 x0 y0 x1 y1 x2 y2 3)) ∧ Below w.heap.size w w' := by
  go_enter Tryd.func53, Tryd.ntmps53
  go_wp2_with fail
  refine (hU _).mono ?_
  rintro e w1 ⟨X, rfl, hcor, hb⟩
  have kd : Box3 (w.heap.size + 1) w1 a' b' h' := box3_below (by simp [Box3, go_sem]) hb
  have hb2 := below_call (B := w.heap.size) (w := w) hb (by go_grown) (by go_size)
  clear hb hU
  generalize ((w.alloc _).alloc _).heap.size = B at hcor
  go_wp2_with fail
  go_loopw [5, 13] (fun n i wr => RcOut w B X a' b' h' u0 v0 u1 v1 u2 v2 x0 y0 x1 y1 x2 y2 n i wr) (fun _ i _ => 3 - (intOf i).toNat)
  case atStart => exact ⟨0, by omega, rfl, rfl, hb2, hcor, kd⟩
  case round =>
    clear hb2 hcor kd
    obtain ⟨k, hk, rfl, rfl, hb2, hcor, kd⟩ := hrel
    have hsz := hb2.size
    obtain ⟨hcm0, hcm1⟩ := com3_bd u0 v0 u1 v1 u2 v2 x0 y0 x1 y1 x2 y2 k
    obtain ⟨⟨c0, c1, c2⟩, _, cl⟩ := id kd
    have hk4 : k = 0 ∨ k = 1 ∨ k = 2 ∨ k = 3 := by omega
    rcases hk4 with rfl | rfl | rfl | rfl
    · obtain ⟨g0, g1, g2, ⟨e0, e1, e2, el⟩, ⟨p0, p1, pl⟩, ⟨r0, r1, rl⟩, ⟨s0, s1, sl⟩, _⟩ := id hcor
      go_wp2_with fail
      refine (hX _).mono ?_
      rintro e w3 ⟨X2, rfl, hcor2, hb⟩
      have hb3 := below_call (B := w.heap.size) (w := w) hb hb2 hb2.size
      have kd3 := box3_below kd hb
      have hcor3 := hcor.below hb
      have hpr : Pair w3 g0 u0 v0 := Pair.below ⟨p0, p1, pl⟩ hb
      clear hb e0 e1 e2 el p0 p1 pl r0 r1 rl s0 s1 sl kd c0 c1 c2 cl
      generalize wr.heap.size = BB at *
      go_wp2_with fail
      go_loopw [5, 20] (fun n j wq => RcIn w B BB X X2 g0 u0 v0 a' b' h' (com3 u0 v0 u1 v1 u2 v2 x0 y0 x1 y1 x2 y2 0) u0 v0 u1 v1 u2 v2 x0 y0 x1 y1 x2 y2 n j wq) (fun _ j _ => 3 - (intOf j).toNat)
      case atStart => exact ⟨0, by omega, rfl, by simp [cnt3], hb3, hcor3, hcor2, hpr, kd3⟩
      case round =>
        clear hb3 kd3 hcor3 hcor2 hpr hcor
        obtain ⟨m, hm, rfl, rfl, hb3, hcor3, hcor2, hpr, kd3⟩ := hrel
        have hsz3 := hb3.size
        obtain ⟨hcn0, hcn1⟩ := cnt3_bd u0 v0 x0 y0 x1 y1 x2 y2 m
        obtain ⟨q0, q1, ql⟩ := id hpr
        have hm4 : m = 0 ∨ m = 1 ∨ m = 2 ∨ m = 3 := by omega
        rcases hm4 with rfl | rfl | rfl | rfl
        · obtain ⟨j0, j1, j2, ⟨f0, f1, f2, fl⟩, ⟨t0, t1, tl⟩, _, _⟩ := id hcor2
          (have HS := Lib.hid (show cnt3 u0 v0 x0 y0 x1 y1 x2 y2 1 = cnt3 u0 v0 x0 y0 x1 y1 x2 y2 0 + eqn u0 v0 x0 y0 from by simp [cnt3]); have HE := Lib.hid (eqn_of u0 v0 x0 y0); cases g1 : (u0 == x0) <;> cases g2 : (v0 == y0) <;> (have G1 := Lib.hid g1; have G2 := Lib.hid g2; go_wp2_with fail; go_quiet (fail); go_wp2; go_roundw; (case rel => exact ⟨1, by omega, by go_num, by rw [HS.out, HE.out, G1.out, G2.out]; simp [Int.add_assoc], below_dr _ hb3, hcor3.below (below_dr _ (Below.refl _ _)), hcor2.below (below_dr _ (Below.refl _ _)), hpr.below (below_dr _ (Below.refl _ _)), box3_below kd3 (below_dr _ (Below.refl _ _))⟩); (case measure => simp [intOf])))
        · obtain ⟨j0, j1, j2, ⟨f0, f1, f2, fl⟩, _, ⟨t0, t1, tl⟩, _⟩ := id hcor2
          (have HS := Lib.hid (show cnt3 u0 v0 x0 y0 x1 y1 x2 y2 2 = cnt3 u0 v0 x0 y0 x1 y1 x2 y2 1 + eqn u0 v0 x1 y1 from by simp [cnt3]); have HE := Lib.hid (eqn_of u0 v0 x1 y1); cases g1 : (u0 == x1) <;> cases g2 : (v0 == y1) <;> (have G1 := Lib.hid g1; have G2 := Lib.hid g2; go_wp2_with fail; go_quiet (fail); go_wp2; go_roundw; (case rel => exact ⟨2, by omega, by go_num, by rw [HS.out, HE.out, G1.out, G2.out]; simp [Int.add_assoc], below_dr _ hb3, hcor3.below (below_dr _ (Below.refl _ _)), hcor2.below (below_dr _ (Below.refl _ _)), hpr.below (below_dr _ (Below.refl _ _)), box3_below kd3 (below_dr _ (Below.refl _ _))⟩); (case measure => simp [intOf])))
        · obtain ⟨j0, j1, j2, ⟨f0, f1, f2, fl⟩, _, _, ⟨t0, t1, tl⟩, _⟩ := id hcor2
          (have HS := Lib.hid (show cnt3 u0 v0 x0 y0 x1 y1 x2 y2 3 = cnt3 u0 v0 x0 y0 x1 y1 x2 y2 2 + eqn u0 v0 x2 y2 from by simp [cnt3]); have HE := Lib.hid (eqn_of u0 v0 x2 y2); cases g1 : (u0 == x2) <;> cases g2 : (v0 == y2) <;> (have G1 := Lib.hid g1; have G2 := Lib.hid g2; go_wp2_with fail; go_quiet (fail); go_wp2; go_roundw; (case rel => exact ⟨3, by omega, by go_num, by rw [HS.out, HE.out, G1.out, G2.out]; simp [Int.add_assoc], below_dr _ hb3, hcor3.below (below_dr _ (Below.refl _ _)), hcor2.below (below_dr _ (Below.refl _ _)), hpr.below (below_dr _ (Below.refl _ _)), box3_below kd3 (below_dr _ (Below.refl _ _))⟩); (case measure => simp [intOf])))
        · go_wp2
          go_roundw
          case rel => exact ⟨1, by omega, by go_num, by simp [com3], hb3, hcor3, kd3⟩
          case measure => simp [intOf]
    · obtain ⟨g0, g1, g2, ⟨e0, e1, e2, el⟩, ⟨p0, p1, pl⟩, ⟨r0, r1, rl⟩, ⟨s0, s1, sl⟩, _⟩ := id hcor
      go_wp2_with fail
      refine (hX _).mono ?_
      rintro e w3 ⟨X2, rfl, hcor2, hb⟩
      have hb3 := below_call (B := w.heap.size) (w := w) hb hb2 hb2.size
      have kd3 := box3_below kd hb
      have hcor3 := hcor.below hb
      have hpr : Pair w3 g1 u1 v1 := Pair.below ⟨r0, r1, rl⟩ hb
      clear hb e0 e1 e2 el p0 p1 pl r0 r1 rl s0 s1 sl kd c0 c1 c2 cl
      generalize wr.heap.size = BB at *
      go_wp2_with fail
      go_loopw [5, 20] (fun n j wq => RcIn w B BB X X2 g1 u1 v1 a' b' h' (com3 u0 v0 u1 v1 u2 v2 x0 y0 x1 y1 x2 y2 1) u0 v0 u1 v1 u2 v2 x0 y0 x1 y1 x2 y2 n j wq) (fun _ j _ => 3 - (intOf j).toNat)
      case atStart => exact ⟨0, by omega, rfl, by simp [cnt3], hb3, hcor3, hcor2, hpr, kd3⟩
      case round =>
        clear hb3 kd3 hcor3 hcor2 hpr hcor
        obtain ⟨m, hm, rfl, rfl, hb3, hcor3, hcor2, hpr, kd3⟩ := hrel
        have hsz3 := hb3.size
        obtain ⟨hcn0, hcn1⟩ := cnt3_bd u1 v1 x0 y0 x1 y1 x2 y2 m
        obtain ⟨q0, q1, ql⟩ := id hpr
        have hm4 : m = 0 ∨ m = 1 ∨ m = 2 ∨ m = 3 := by omega
        rcases hm4 with rfl | rfl | rfl | rfl
        · obtain ⟨j0, j1, j2, ⟨f0, f1, f2, fl⟩, ⟨t0, t1, tl⟩, _, _⟩ := id hcor2
          (have HS := Lib.hid (show cnt3 u1 v1 x0 y0 x1 y1 x2 y2 1 = cnt3 u1 v1 x0 y0 x1 y1 x2 y2 0 + eqn u1 v1 x0 y0 from by simp [cnt3]); have HE := Lib.hid (eqn_of u1 v1 x0 y0); cases g1 : (u1 == x0) <;> cases g2 : (v1 == y0) <;> (have G1 := Lib.hid g1; have G2 := Lib.hid g2; go_wp2_with fail; go_quiet (fail); go_wp2; go_roundw; (case rel => exact ⟨1, by omega, by go_num, by rw [HS.out, HE.out, G1.out, G2.out]; simp [Int.add_assoc], below_dr _ hb3, hcor3.below (below_dr _ (Below.refl _ _)), hcor2.below (below_dr _ (Below.refl _ _)), hpr.below (below_dr _ (Below.refl _ _)), box3_below kd3 (below_dr _ (Below.refl _ _))⟩); (case measure => simp [intOf])))
        · obtain ⟨j0, j1, j2, ⟨f0, f1, f2, fl⟩, _, ⟨t0, t1, tl⟩, _⟩ := id hcor2
          (have HS := Lib.hid (show cnt3 u1 v1 x0 y0 x1 y1 x2 y2 2 = cnt3 u1 v1 x0 y0 x1 y1 x2 y2 1 + eqn u1 v1 x1 y1 from by simp [cnt3]); have HE := Lib.hid (eqn_of u1 v1 x1 y1); cases g1 : (u1 == x1) <;> cases g2 : (v1 == y1) <;> (have G1 := Lib.hid g1; have G2 := Lib.hid g2; go_wp2_with fail; go_quiet (fail); go_wp2; go_roundw; (case rel => exact ⟨2, by omega, by go_num, by rw [HS.out, HE.out, G1.out, G2.out]; simp [Int.add_assoc], below_dr _ hb3, hcor3.below (below_dr _ (Below.refl _ _)), hcor2.below (below_dr _ (Below.refl _ _)), hpr.below (below_dr _ (Below.refl _ _)), box3_below kd3 (below_dr _ (Below.refl _ _))⟩); (case measure => simp [intOf])))
        · obtain ⟨j0, j1, j2, ⟨f0, f1, f2, fl⟩, _, _, ⟨t0, t1, tl⟩, _⟩ := id hcor2
          (have HS := Lib.hid (show cnt3 u1 v1 x0 y0 x1 y1 x2 y2 3 = cnt3 u1 v1 x0 y0 x1 y1 x2 y2 2 + eqn u1 v1 x2 y2 from by simp [cnt3]); have HE := Lib.hid (eqn_of u1 v1 x2 y2); cases g1 : (u1 == x2) <;> cases g2 : (v1 == y2) <;> (have G1 := Lib.hid g1; have G2 := Lib.hid g2; go_wp2_with fail; go_quiet (fail); go_wp2; go_roundw; (case rel => exact ⟨3, by omega, by go_num, by rw [HS.out, HE.out, G1.out, G2.out]; simp [Int.add_assoc], below_dr _ hb3, hcor3.below (below_dr _ (Below.refl _ _)), hcor2.below (below_dr _ (Below.refl _ _)), hpr.below (below_dr _ (Below.refl _ _)), box3_below kd3 (below_dr _ (Below.refl _ _))⟩); (case measure => simp [intOf])))
        · go_wp2
          go_roundw
          case rel => exact ⟨2, by omega, by go_num, by simp [com3], hb3, hcor3, kd3⟩
          case measure => simp [intOf]
    · obtain ⟨g0, g1, g2, ⟨e0, e1, e2, el⟩, ⟨p0, p1, pl⟩, ⟨r0, r1, rl⟩, ⟨s0, s1, sl⟩, _⟩ := id hcor
      go_wp2_with fail
      refine (hX _).mono ?_
      rintro e w3 ⟨X2, rfl, hcor2, hb⟩
      have hb3 := below_call (B := w.heap.size) (w := w) hb hb2 hb2.size
      have kd3 := box3_below kd hb
      have hcor3 := hcor.below hb
      have hpr : Pair w3 g2 u2 v2 := Pair.below ⟨s0, s1, sl⟩ hb
      clear hb e0 e1 e2 el p0 p1 pl r0 r1 rl s0 s1 sl kd c0 c1 c2 cl
      generalize wr.heap.size = BB at *
      go_wp2_with fail
      go_loopw [5, 20] (fun n j wq => RcIn w B BB X X2 g2 u2 v2 a' b' h' (com3 u0 v0 u1 v1 u2 v2 x0 y0 x1 y1 x2 y2 2) u0 v0 u1 v1 u2 v2 x0 y0 x1 y1 x2 y2 n j wq) (fun _ j _ => 3 - (intOf j).toNat)
      case atStart => exact ⟨0, by omega, rfl, by simp [cnt3], hb3, hcor3, hcor2, hpr, kd3⟩
      case round =>
        clear hb3 kd3 hcor3 hcor2 hpr hcor
        obtain ⟨m, hm, rfl, rfl, hb3, hcor3, hcor2, hpr, kd3⟩ := hrel
        have hsz3 := hb3.size
        obtain ⟨hcn0, hcn1⟩ := cnt3_bd u2 v2 x0 y0 x1 y1 x2 y2 m
        obtain ⟨q0, q1, ql⟩ := id hpr
        have hm4 : m = 0 ∨ m = 1 ∨ m = 2 ∨ m = 3 := by omega
        rcases hm4 with rfl | rfl | rfl | rfl
        · obtain ⟨j0, j1, j2, ⟨f0, f1, f2, fl⟩, ⟨t0, t1, tl⟩, _, _⟩ := id hcor2
          (have HS := Lib.hid (show cnt3 u2 v2 x0 y0 x1 y1 x2 y2 1 = cnt3 u2 v2 x0 y0 x1 y1 x2 y2 0 + eqn u2 v2 x0 y0 from by simp [cnt3]); have HE := Lib.hid (eqn_of u2 v2 x0 y0); cases g1 : (u2 == x0) <;> cases g2 : (v2 == y0) <;> (have G1 := Lib.hid g1; have G2 := Lib.hid g2; go_wp2_with fail; go_quiet (fail); go_wp2; go_roundw; (case rel => exact ⟨1, by omega, by go_num, by rw [HS.out, HE.out, G1.out, G2.out]; simp [Int.add_assoc], below_dr _ hb3, hcor3.below (below_dr _ (Below.refl _ _)), hcor2.below (below_dr _ (Below.refl _ _)), hpr.below (below_dr _ (Below.refl _ _)), box3_below kd3 (below_dr _ (Below.refl _ _))⟩); (case measure => simp [intOf])))
        · obtain ⟨j0, j1, j2, ⟨f0, f1, f2, fl⟩, _, ⟨t0, t1, tl⟩, _⟩ := id hcor2
          (have HS := Lib.hid (show cnt3 u2 v2 x0 y0 x1 y1 x2 y2 2 = cnt3 u2 v2 x0 y0 x1 y1 x2 y2 1 + eqn u2 v2 x1 y1 from by simp [cnt3]); have HE := Lib.hid (eqn_of u2 v2 x1 y1); cases g1 : (u2 == x1) <;> cases g2 : (v2 == y1) <;> (have G1 := Lib.hid g1; have G2 := Lib.hid g2; go_wp2_with fail; go_quiet (fail); go_wp2; go_roundw; (case rel => exact ⟨2, by omega, by go_num, by rw [HS.out, HE.out, G1.out, G2.out]; simp [Int.add_assoc], below_dr _ hb3, hcor3.below (below_dr _ (Below.refl _ _)), hcor2.below (below_dr _ (Below.refl _ _)), hpr.below (below_dr _ (Below.refl _ _)), box3_below kd3 (below_dr _ (Below.refl _ _))⟩); (case measure => simp [intOf])))
        · obtain ⟨j0, j1, j2, ⟨f0, f1, f2, fl⟩, _, _, ⟨t0, t1, tl⟩, _⟩ := id hcor2
          (have HS := Lib.hid (show cnt3 u2 v2 x0 y0 x1 y1 x2 y2 3 = cnt3 u2 v2 x0 y0 x1 y1 x2 y2 2 + eqn u2 v2 x2 y2 from by simp [cnt3]); have HE := Lib.hid (eqn_of u2 v2 x2 y2); cases g1 : (u2 == x2) <;> cases g2 : (v2 == y2) <;> (have G1 := Lib.hid g1; have G2 := Lib.hid g2; go_wp2_with fail; go_quiet (fail); go_wp2; go_roundw; (case rel => exact ⟨3, by omega, by go_num, by rw [HS.out, HE.out, G1.out, G2.out]; simp [Int.add_assoc], below_dr _ hb3, hcor3.below (below_dr _ (Below.refl _ _)), hcor2.below (below_dr _ (Below.refl _ _)), hpr.below (below_dr _ (Below.refl _ _)), box3_below kd3 (below_dr _ (Below.refl _ _))⟩); (case measure => simp [intOf])))
        · go_wp2
          go_roundw
          case rel => exact ⟨3, by omega, by go_num, by simp [com3], hb3, hcor3, kd3⟩
          case measure => simp [intOf]
    · go_wp2
      go_ret
      exact ⟨rfl, hb2⟩
theorem refcommon_any (a b h a' b' h' : Int) (w : World) (a0 : -8796093022208 ≤ a ∧ a ≤ 8796093022208) (b0 : -8796093022208 ≤ b ∧ b ≤ 8796093022208) (c0 : -8796093022208 ≤ a' ∧ a' ≤ 8796093022208) (d0 : -8796093022208 ≤ b' ∧ b' ≤ 8796093022208) :
    Calls Tryd.prog 53 #[Ce a b h, Ce a' b' h'] w fun e w' => e = .returned (.int .i64 (comN a b h a' b' h' 3)) ∧ Below w.heap.size w w' := by
  rw [comN_three]
  exact refcommon_core a b h a' b' h' _ _ _ _ _ _ _ _ _ _ _ _ w (fun w => refcorners_any a b h w a0 b0) (fun w => refcorners_any a' b' h' w c0 d0)
end Go.Proofs.YtjongkbjhiblmaaDoor.Ce

/- The document's own Near and Beside. -/
namespace Go.Proofs.YtjongkbjhiblmaaDoor.Ce
open Go.RowKit Go.Proofs.YtjongkbjhiblmaaDoor.Ax

/-- The document's Near. -/
def hexB (x y : Int) : Bool := decide (-1 ≤ x) && (decide (x ≤ 1) && (decide (-1 ≤ y) && (decide (y ≤ 1) && (x != y))))
def nearB (l a b h a' b' h' : Int) : Bool :=
  if (a == a' && (b == b' && h == h')) = true then false else if l = 1 then hexB (a' - a) (b' - b) else if l = 2 then comN a b h a' b' h' 3 == 2 else decide (0 < comN a b h a' b' h' 3)
theorem nearB_shift (l a b h i j h' : Int) : nearB l a b h (a + i) (b + j) h' = nearB l 0 0 h i j h' := by
  unfold nearB
  rw [comN_shift, show a + i - a = i - 0 by omega, show b + j - b = j - 0 by omega]
  have e1 : (a == a + i) = (0 == i) := by rw [Bool.eq_iff_iff]; simp; omega
  have e2 : (b == b + j) = (0 == j) := by rw [Bool.eq_iff_iff]; simp; omega
  rw [e1, e2]
theorem near_same (l a b h a' b' h' : Int) (w : World) (hq : (a == a' && (b == b' && h == h')) = true) :
    Calls Tryd.prog 39 #[.int .i64 l, Ce a b h, Ce a' b' h'] w fun e w' => e = .returned (.bool false) ∧ Below w.heap.size w w' := by
  have er := eql_rc a b h a' b' h'
  rw [hq] at er
  clear hq
  go_enter Tryd.func39, Tryd.ntmps39
  go_wp2
  go_ret
  exact ⟨rfl, by go_grown⟩
theorem near_hex (a b h a' b' h' : Int) (w : World) (hq : (a == a' && (b == b' && h == h')) = false) (a0 : -8796093022208 ≤ a ∧ a ≤ 8796093022208) (b0 : -8796093022208 ≤ b ∧ b ≤ 8796093022208) (c0 : -8796093022208 ≤ a' ∧ a' ≤ 8796093022208) (d0 : -8796093022208 ≤ b' ∧ b' ≤ 8796093022208) :
    Calls Tryd.prog 39 #[.int .i64 1, Ce a b h, Ce a' b' h'] w fun e w' => e = .returned (.bool (hexB (a' - a) (b' - b))) ∧ Below w.heap.size w w' := by
  have er := eql_rc a b h a' b' h'
  rw [hq] at er
  clear hq
  have v1 : IntKind.i64.wrap (a' - a) = a' - a := IntWalk.i64_in _ (by omega)
  have v2 : IntKind.i64.wrap (b' - b) = b' - b := IntWalk.i64_in _ (by omega)
  go_enter Tryd.func39, Tryd.ntmps39
  go_wp2_with fail
  go_quiet (fail)
  obtain ⟨x, hx⟩ : ∃ x, a' - a = x := ⟨_, rfl⟩
  obtain ⟨y, hy⟩ : ∃ y, b' - b = y := ⟨_, rfl⟩
  have HX := Lib.hid hx
  have HY := Lib.hid hy
  rw [hx, hy]
  clear v1 v2 hx hy
  have U := Lib.hid (show hexB x y = (decide (-1 ≤ x) && (decide (x ≤ 1) && (decide (-1 ≤ y) && (decide (y ≤ 1) && (x != y))))) from rfl)
  cases g1 : decide (-1 ≤ x) <;> cases g2 : decide (x ≤ 1) <;> cases g3 : decide (-1 ≤ y) <;> cases g4 : decide (y ≤ 1)
  all_goals
    have UU := Lib.hid U.out
    rw [g1, g2, g3, g4] at UU
    have V := Lib.hid UU.out
    clear UU
    go_wp2
    go_ret
    exact ⟨by rw [HX.out, HY.out, V.out]; simp, by go_grown; (repeat (refine below_dr _ ?_; go_grown))⟩
theorem near_tri (l a b h a' b' h' : Int) (w : World) (hl : l = 2 ∨ l = 3) (hq : (a == a' && (b == b' && h == h')) = false) (a0 : -8796093022208 ≤ a ∧ a ≤ 8796093022208) (b0 : -8796093022208 ≤ b ∧ b ≤ 8796093022208) (c0 : -8796093022208 ≤ a' ∧ a' ≤ 8796093022208) (d0 : -8796093022208 ≤ b' ∧ b' ≤ 8796093022208) :
    Calls Tryd.prog 39 #[.int .i64 l, Ce a b h, Ce a' b' h'] w fun e w' => e = .returned (.bool (if l = 2 then comN a b h a' b' h' 3 == 2 else decide (0 < comN a b h a' b' h' 3))) ∧ Below w.heap.size w w' := by
  have er := eql_rc a b h a' b' h'
  rw [hq] at er
  clear hq
  rcases hl with rfl | rfl
  · rw [if_pos rfl]
    go_enter Tryd.func39, Tryd.ntmps39
    go_wp2_with fail
    refine (refcommon_any _ _ _ _ _ _ _ a0 b0 c0 d0).mono ?_
    rintro e w1 ⟨rfl, hb⟩
    have hb1 := below_call (B := w.heap.size) (w := w) hb (by go_grown) (by go_size)
    clear hb
    go_wp2
    go_ret
    exact ⟨rfl, hb1⟩
  · rw [if_neg (by decide)]
    go_enter Tryd.func39, Tryd.ntmps39
    go_wp2_with fail
    refine (refcommon_any _ _ _ _ _ _ _ a0 b0 c0 d0).mono ?_
    rintro e w1 ⟨rfl, hb⟩
    have hb1 := below_call (B := w.heap.size) (w := w) hb (by go_grown) (by go_size)
    clear hb
    go_wp2
    go_ret
    exact ⟨rfl, hb1⟩
theorem near_any (l a b h a' b' h' : Int) (w : World) (hl : l = 1 ∨ l = 2 ∨ l = 3) (a0 : -8796093022208 ≤ a ∧ a ≤ 8796093022208) (b0 : -8796093022208 ≤ b ∧ b ≤ 8796093022208) (c0 : -8796093022208 ≤ a' ∧ a' ≤ 8796093022208) (d0 : -8796093022208 ≤ b' ∧ b' ≤ 8796093022208) (t : Bool) (ht : nearB l a b h a' b' h' = t) :
    Calls Tryd.prog 39 #[.int .i64 l, Ce a b h, Ce a' b' h'] w fun e w' => e = .returned (.bool t) ∧ Below w.heap.size w w' := by
  subst ht
  unfold nearB
  cases hq : (a == a' && (b == b' && h == h'))
  · rw [if_neg (by simp)]
    rcases hl with rfl | hl
    · rw [if_pos rfl]; exact near_hex a b h a' b' h' w hq a0 b0 c0 d0
    · rw [if_neg (show ¬ l = 1 by omega)]; exact near_tri l a b h a' b' h' w hl hq a0 b0 c0 d0
  · rw [if_pos rfl]; exact near_same l a b h a' b' h' w hq
end Go.Proofs.YtjongkbjhiblmaaDoor.Ce


/- The document's own Beside. -/
namespace Go.Proofs.YtjongkbjhiblmaaDoor.Ce
open Go.RowKit Go.Proofs.YtjongkbjhiblmaaDoor.Ax

/-- The n-th cell at the twenty-five points around a point; those of the first n that are near. -/
def cr (a b : Int) (n : Nat) : C := (a - 2 + ((n / 2 % 5 : Nat) : Int), b - 2 + ((n / 10 : Nat) : Int), ((n % 2 : Nat) : Int))
def selB (l a b h : Int) (d : C) : Bool := (decide (1 < l) || d.2.2 == 0) && nearB l a b h d.1 d.2.1 d.2.2
def rb (l a b h : Int) (n : Nat) : List C := ((List.range n).map (cr a b)).filter (selB l a b h)
theorem cr_at (a b : Int) (i j m : Nat) (hj : j < 5) (hm : m < 2) : cr a b (i * 10 + j * 2 + m) = (a - 2 + (j : Int), b - 2 + (i : Int), (m : Int)) := by
  unfold cr
  simp only [Prod.mk.injEq]
  omega
theorem cr_shift (a b : Int) (n : Nat) : cr a b n = sh a b (cr 0 0 n) := by
  unfold cr sh
  simp only [Prod.mk.injEq, and_true]
  omega
theorem sel_shift (l a b h : Int) (d : C) : selB l a b h (sh a b d) = selB l 0 0 h d := by
  unfold selB sh
  dsimp only
  rw [nearB_shift]
theorem rb_yes (l a b h : Int) (n : Nat) (ht : selB l a b h (cr a b n) = true) : rb l a b h (n + 1) = rb l a b h n ++ [cr a b n] := by
  simp [rb, List.range_succ, List.filter_append, ht]
theorem rb_no (l a b h : Int) (n : Nat) (ht : selB l a b h (cr a b n) = false) : rb l a b h (n + 1) = rb l a b h n := by
  simp [rb, List.range_succ, List.filter_append, ht]
theorem rb_shift (l a b h : Int) (n : Nat) : rb l a b h n = (rb l 0 0 h n).map (sh a b) := by
  induction n with
  | zero => rfl
  | succ n ih =>
    have e : selB l a b h (cr a b n) = selB l 0 0 h (cr 0 0 n) := by rw [cr_shift]; exact sel_shift ..
    cases ht : selB l 0 0 h (cr 0 0 n)
    · rw [rb_no _ _ _ _ _ ht, rb_no _ _ _ _ _ (e.trans ht), ih]
    · rw [rb_yes _ _ _ _ _ ht, rb_yes _ _ _ _ _ (e.trans ht), ih, List.map_append, cr_shift]; rfl
theorem rb_len (l a b h : Int) (n : Nat) : (rb l a b h n).length ≤ n := by
  unfold rb; exact Nat.le_trans (List.length_filter_le _ _) (by simp)
theorem rb_fin : ∀ l ∈ [(1 : Int), 2, 3], ∀ h ∈ [(0 : Int), 1], h < (if l = 1 then 1 else 2) → rb l 0 0 h 50 = besAll l 0 0 h := by decide +kernel
theorem rb_all {l a b h : Int} (hl : l = 1 ∨ l = 2 ∨ l = 3) (h0 : 0 ≤ h) (h1 : h < halvesV l) : rb l a b h 50 = besAll l a b h := by
  have hh : h = 0 ∨ h = 1 := by unfold halvesV at h1; split at h1 <;> omega
  rw [rb_shift, besAll_shift, rb_fin l (by rcases hl with rfl | rfl | rfl <;> simp) h (by rcases hh with rfl | rfl <;> simp) h1]
def RbRel (w : World) (B0 : Nat) (l a b h : Int) (n : Nat) (v f : Value) (wq : World) : Prop :=
  f = .bool (allG (rb l a b h n)) ∧ wq.ownsRow B0 58 3 v (rb l a b h n).length (flat (rb l a b h n)) ∧ Below w.heap.size w wq ∧ Blk wq w.heap.size 58 #[.int .i64 a, .int .i64 b, .int .i64 h] ∧ B0 ≤ wq.heap.size
def Rb1 (w : World) (B0 : Nat) (l a b h : Int) (v f y : Value) (wq : World) : Prop := ∃ i : Nat, i ≤ 5 ∧ y = .int .i64 (b - 2 + (i : Int)) ∧ RbRel w B0 l a b h (i * 10) v f wq
def Rb2 (w : World) (B0 : Nat) (l a b h : Int) (i : Nat) (v f x : Value) (wq : World) : Prop := ∃ j : Nat, j ≤ 5 ∧ x = .int .i64 (a - 2 + (j : Int)) ∧ RbRel w B0 l a b h (i * 10 + j * 2) v f wq
def Rb3 (w : World) (B0 : Nat) (l a b h : Int) (i j : Nat) (v f z : Value) (wq : World) : Prop := ∃ m : Nat, m ≤ 2 ∧ z = .int .i64 (m : Int) ∧ RbRel w B0 l a b h (i * 10 + j * 2 + m) v f wq
theorem rcell_info : (Tryd.prog.info? 58).map (fun i => (i.zero, i.size, i.bytes)) = some (some (.agg #[.int .i64 0, .int .i64 0, .int .i64 0]), 3, 24) := by kernel_rfl
def RBesPost (w : World) (l a b h : Int) (e : Ending) (w' : World) : Prop :=
  ∃ v, e = .returned (.tuple #[v, .bool (allG (rb l a b h 50))]) ∧ w'.ownsRow w.heap.size 58 3 v (rb l a b h 50).length (flat (rb l a b h 50)) ∧ Below w.heap.size w w'
end Go.Proofs.YtjongkbjhiblmaaDoor.Ce
