/- The document's own count of corners that two triangles share, and its Near. -/
import Derived.Test.YtcmfkdhadmfgkaaDoorCeW10
namespace Go.Proofs.YtcmfkdhadmfgkaaDoor.Ce
open Go.RowKit Go.Proofs.YtcmfkdhadmfgkaaDoor.Ax

def Pair (w : World) (g : Nat) (x y : Int) : Prop := w.cell? ⟨g, 0, none⟩ = some (.int .i64 x) ∧ w.cell? ⟨g, 1, none⟩ = some (.int .i64 y) ∧ g < w.heap.size
theorem Pair.below {w w' : World} {g : Nat} {x y : Int} (h : Pair w g x y) (hb : Below w.heap.size w w') : Pair w' g x y :=
  ⟨(hb.cell (p := ⟨g, 0, none⟩) h.2.2).trans h.1, (hb.cell (p := ⟨g, 1, none⟩) h.2.2).trans h.2.1, Nat.lt_of_lt_of_le h.2.2 hb.size⟩
def RcOut (w : World) (B X : Nat) (a' b' h' u0 v0 u1 v1 u2 v2 x0 y0 x1 y1 x2 y2 : Int) (n i : Value) (wr : World) : Prop :=
  ∃ k : Nat, k ≤ 3 ∧ i = .int .i64 k ∧ n = .int .i64 (com3 u0 v0 u1 v1 u2 v2 x0 y0 x1 y1 x2 y2 k) ∧ Below w.heap.size w wr ∧ Cor wr B X u0 v0 u1 v1 u2 v2 ∧ Box3 (w.heap.size + 1) wr a' b' h'
def RcIn (w : World) (B BB X X2 g : Nat) (u v a' b' h' n0 u0 v0 u1 v1 u2 v2 x0 y0 x1 y1 x2 y2 : Int) (n j : Value) (wr : World) : Prop :=
  ∃ k : Nat, k ≤ 3 ∧ j = .int .i64 k ∧ n = .int .i64 (n0 + cnt3 u v x0 y0 x1 y1 x2 y2 k) ∧ Below w.heap.size w wr ∧ Cor wr B X u0 v0 u1 v1 u2 v2 ∧ Cor wr BB X2 x0 y0 x1 y1 x2 y2 ∧ Pair wr g u v ∧ Box3 (w.heap.size + 1) wr a' b' h'
set_option maxRecDepth 100000 in
set_option maxHeartbeats 8000000 in
theorem refcommon_core (a b h a' b' h' u0 v0 u1 v1 u2 v2 x0 y0 x1 y1 x2 y2 : Int) (w : World)
    (hU : ∀ w, Calls Tryd.prog 93 #[Ce a b h] w (CorPost w u0 v0 u1 v1 u2 v2))
    (hX : ∀ w, Calls Tryd.prog 93 #[Ce a' b' h'] w (CorPost w x0 y0 x1 y1 x2 y2)) :
    Calls Tryd.prog 89 #[Ce a b h, Ce a' b' h'] w fun e w' => e = .returned (.int .i64 (com3 u0 v0 u1 v1 u2 v2 x0 y0 x1 y1 x2 y2 3)) ∧ Below w.heap.size w w' := by
  go_enter Tryd.func89, Tryd.ntmps89
  go_wp2_with fail
  refine (hU _).mono ?_
  rintro e w1 ⟨X, rfl, hcor, hb⟩
  have kd : Box3 (w.heap.size + 1) w1 a' b' h' := box3_below (by simp [Box3, go_sem]) hb
  have hb2 := below_call (B := w.heap.size) (w := w) hb (by go_grown) (by go_size)
  clear hb hU
  generalize ((w.alloc _).alloc _).heap.size = B at hcor
  go_wp2_with fail
  go_loopw [5, 13] (fun n i wr => RcOut w B X a' b' h' u0 v0 u1 v1 u2 v2 x0 y0 x1 y1 x2 y2 n i wr) (fun _ i _ => 3 - (intOf i).toNat)
  case atStart => exact ⟨0, by omega, rfl, rfl, hb2, hcor, kd⟩
  case round =>
    clear hb2 hcor kd
    obtain ⟨k, hk, rfl, rfl, hb2, hcor, kd⟩ := hrel
    have hsz := hb2.size
    obtain ⟨hcm0, hcm1⟩ := com3_bd u0 v0 u1 v1 u2 v2 x0 y0 x1 y1 x2 y2 k
    obtain ⟨⟨c0, c1, c2⟩, _, cl⟩ := id kd
    have hk4 : k = 0 ∨ k = 1 ∨ k = 2 ∨ k = 3 := by omega
    rcases hk4 with rfl | rfl | rfl | rfl
    · obtain ⟨g0, g1, g2, ⟨e0, e1, e2, el⟩, ⟨p0, p1, pl⟩, ⟨r0, r1, rl⟩, ⟨s0, s1, sl⟩, _⟩ := id hcor
      go_wp2_with fail
      refine (hX _).mono ?_
      rintro e w3 ⟨X2, rfl, hcor2, hb⟩
      have hb3 := below_call (B := w.heap.size) (w := w) hb hb2 hb2.size
      have kd3 := box3_below kd hb
      have hcor3 := hcor.below hb
      have hpr : Pair w3 g0 u0 v0 := Pair.below ⟨p0, p1, pl⟩ hb
      clear hb e0 e1 e2 el p0 p1 pl r0 r1 rl s0 s1 sl kd c0 c1 c2 cl
      generalize wr.heap.size = BB at *
      go_wp2_with fail
      go_loopw [5, 20] (fun n j wq => RcIn w B BB X X2 g0 u0 v0 a' b' h' (com3 u0 v0 u1 v1 u2 v2 x0 y0 x1 y1 x2 y2 0) u0 v0 u1 v1 u2 v2 x0 y0 x1 y1 x2 y2 n j wq) (fun _ j _ => 3 - (intOf j).toNat)
      case atStart => exact ⟨0, by omega, rfl, by simp [cnt3], hb3, hcor3, hcor2, hpr, kd3⟩
      case round =>
        clear hb3 kd3 hcor3 hcor2 hpr hcor
        obtain ⟨m, hm, rfl, rfl, hb3, hcor3, hcor2, hpr, kd3⟩ := hrel
        have hsz3 := hb3.size
        obtain ⟨hcn0, hcn1⟩ := cnt3_bd u0 v0 x0 y0 x1 y1 x2 y2 m
        obtain ⟨q0, q1, ql⟩ := id hpr
        have hm4 : m = 0 ∨ m = 1 ∨ m = 2 ∨ m = 3 := by omega
        rcases hm4 with rfl | rfl | rfl | rfl
        · obtain ⟨j0, j1, j2, ⟨f0, f1, f2, fl⟩, ⟨t0, t1, tl⟩, _, _⟩ := id hcor2
          (have HS := Lib.hid (show cnt3 u0 v0 x0 y0 x1 y1 x2 y2 1 = cnt3 u0 v0 x0 y0 x1 y1 x2 y2 0 + eqn u0 v0 x0 y0 from by simp [cnt3]); have HE := Lib.hid (eqn_of u0 v0 x0 y0); cases g1 : (u0 == x0) <;> cases g2 : (v0 == y0) <;> (have G1 := Lib.hid g1; have G2 := Lib.hid g2; go_wp2_with fail; go_quiet (fail); go_wp2; go_roundw; (case rel => exact ⟨1, by omega, by go_num, by rw [HS.out, HE.out, G1.out, G2.out]; simp [Int.add_assoc], below_dr _ hb3, hcor3.below (below_dr _ (Below.refl _ _)), hcor2.below (below_dr _ (Below.refl _ _)), hpr.below (below_dr _ (Below.refl _ _)), box3_below kd3 (below_dr _ (Below.refl _ _))⟩); (case measure => simp [intOf])))
        · obtain ⟨j0, j1, j2, ⟨f0, f1, f2, fl⟩, _, ⟨t0, t1, tl⟩, _⟩ := id hcor2
          (have HS := Lib.hid (show cnt3 u0 v0 x0 y0 x1 y1 x2 y2 2 = cnt3 u0 v0 x0 y0 x1 y1 x2 y2 1 + eqn u0 v0 x1 y1 from by simp [cnt3]); have HE := Lib.hid (eqn_of u0 v0 x1 y1); cases g1 : (u0 == x1) <;> cases g2 : (v0 == y1) <;> (have G1 := Lib.hid g1; have G2 := Lib.hid g2; go_wp2_with fail; go_quiet (fail); go_wp2; go_roundw; (case rel => exact ⟨2, by omega, by go_num, by rw [HS.out, HE.out, G1.out, G2.out]; simp [Int.add_assoc], below_dr _ hb3, hcor3.below (below_dr _ (Below.refl _ _)), hcor2.below (below_dr _ (Below.refl _ _)), hpr.below (below_dr _ (Below.refl _ _)), box3_below kd3 (below_dr _ (Below.refl _ _))⟩); (case measure => simp [intOf])))
        · obtain ⟨j0, j1, j2, ⟨f0, f1, f2, fl⟩, _, _, ⟨t0, t1, tl⟩, _⟩ := id hcor2
          (have HS := Lib.hid (show cnt3 u0 v0 x0 y0 x1 y1 x2 y2 3 = cnt3 u0 v0 x0 y0 x1 y1 x2 y2 2 + eqn u0 v0 x2 y2 from by simp [cnt3]); have HE := Lib.hid (eqn_of u0 v0 x2 y2); cases g1 : (u0 == x2) <;> cases g2 : (v0 == y2) <;> (have G1 := Lib.hid g1; have G2 := Lib.hid g2; go_wp2_with fail; go_quiet (fail); go_wp2; go_roundw; (case rel => exact ⟨3, by omega, by go_num, by rw [HS.out, HE.out, G1.out, G2.out]; simp [Int.add_assoc], below_dr _ hb3, hcor3.below (below_dr _ (Below.refl _ _)), hcor2.below (below_dr _ (Below.refl _ _)), hpr.below (below_dr _ (Below.refl _ _)), box3_below kd3 (below_dr _ (Below.refl _ _))⟩); (case measure => simp [intOf])))
        · go_wp2
          go_roundw
          case rel => exact ⟨1, by omega, by go_num, by simp [com3], hb3, hcor3, kd3⟩
          case measure => simp [intOf]
    · obtain ⟨g0, g1, g2, ⟨e0, e1, e2, el⟩, ⟨p0, p1, pl⟩, ⟨r0, r1, rl⟩, ⟨s0, s1, sl⟩, _⟩ := id hcor
      go_wp2_with fail
      refine (hX _).mono ?_
      rintro e w3 ⟨X2, rfl, hcor2, hb⟩
      have hb3 := below_call (B := w.heap.size) (w := w) hb hb2 hb2.size
      have kd3 := box3_below kd hb
      have hcor3 := hcor.below hb
      have hpr : Pair w3 g1 u1 v1 := Pair.below ⟨r0, r1, rl⟩ hb
      clear hb e0 e1 e2 el p0 p1 pl r0 r1 rl s0 s1 sl kd c0 c1 c2 cl
      generalize wr.heap.size = BB at *
      go_wp2_with fail
      go_loopw [5, 20] (fun n j wq => RcIn w B BB X X2 g1 u1 v1 a' b' h' (com3 u0 v0 u1 v1 u2 v2 x0 y0 x1 y1 x2 y2 1) u0 v0 u1 v1 u2 v2 x0 y0 x1 y1 x2 y2 n j wq) (fun _ j _ => 3 - (intOf j).toNat)
      case atStart => exact ⟨0, by omega, rfl, by simp [cnt3], hb3, hcor3, hcor2, hpr, kd3⟩
      case round =>
        clear hb3 kd3 hcor3 hcor2 hpr hcor
        obtain ⟨m, hm, rfl, rfl, hb3, hcor3, hcor2, hpr, kd3⟩ := hrel
        have hsz3 := hb3.size
        obtain ⟨hcn0, hcn1⟩ := cnt3_bd u1 v1 x0 y0 x1 y1 x2 y2 m
        obtain ⟨q0, q1, ql⟩ := id hpr
        have hm4 : m = 0 ∨ m = 1 ∨ m = 2 ∨ m = 3 := by omega
        rcases hm4 with rfl | rfl | rfl | rfl
        · obtain ⟨j0, j1, j2, ⟨f0, f1, f2, fl⟩, ⟨t0, t1, tl⟩, _, _⟩ := id hcor2
          (have HS := Lib.hid (show cnt3 u1 v1 x0 y0 x1 y1 x2 y2 1 = cnt3 u1 v1 x0 y0 x1 y1 x2 y2 0 + eqn u1 v1 x0 y0 from by simp [cnt3]); have HE := Lib.hid (eqn_of u1 v1 x0 y0); cases g1 : (u1 == x0) <;> cases g2 : (v1 == y0) <;> (have G1 := Lib.hid g1; have G2 := Lib.hid g2; go_wp2_with fail; go_quiet (fail); go_wp2; go_roundw; (case rel => exact ⟨1, by omega, by go_num, by rw [HS.out, HE.out, G1.out, G2.out]; simp [Int.add_assoc], below_dr _ hb3, hcor3.below (below_dr _ (Below.refl _ _)), hcor2.below (below_dr _ (Below.refl _ _)), hpr.below (below_dr _ (Below.refl _ _)), box3_below kd3 (below_dr _ (Below.refl _ _))⟩); (case measure => simp [intOf])))
        · obtain ⟨j0, j1, j2, ⟨f0, f1, f2, fl⟩, _, ⟨t0, t1, tl⟩, _⟩ := id hcor2
          (have HS := Lib.hid (show cnt3 u1 v1 x0 y0 x1 y1 x2 y2 2 = cnt3 u1 v1 x0 y0 x1 y1 x2 y2 1 + eqn u1 v1 x1 y1 from by simp [cnt3]); have HE := Lib.hid (eqn_of u1 v1 x1 y1); cases g1 : (u1 == x1) <;> cases g2 : (v1 == y1) <;> (have G1 := Lib.hid g1; have G2 := Lib.hid g2; go_wp2_with fail; go_quiet (fail); go_wp2; go_roundw; (case rel => exact ⟨2, by omega, by go_num, by rw [HS.out, HE.out, G1.out, G2.out]; simp [Int.add_assoc], below_dr _ hb3, hcor3.below (below_dr _ (Below.refl _ _)), hcor2.below (below_dr _ (Below.refl _ _)), hpr.below (below_dr _ (Below.refl _ _)), box3_below kd3 (below_dr _ (Below.refl _ _))⟩); (case measure => simp [intOf])))
        · obtain ⟨j0, j1, j2, ⟨f0, f1, f2, fl⟩, _, _, ⟨t0, t1, tl⟩, _⟩ := id hcor2
          (have HS := Lib.hid (show cnt3 u1 v1 x0 y0 x1 y1 x2 y2 3 = cnt3 u1 v1 x0 y0 x1 y1 x2 y2 2 + eqn u1 v1 x2 y2 from by simp [cnt3]); have HE := Lib.hid (eqn_of u1 v1 x2 y2); cases g1 : (u1 == x2) <;> cases g2 : (v1 == y2) <;> (have G1 := Lib.hid g1; have G2 := Lib.hid g2; go_wp2_with fail; go_quiet (fail); go_wp2; go_roundw; (case rel => exact ⟨3, by omega, by go_num, by rw [HS.out, HE.out, G1.out, G2.out]; simp [Int.add_assoc], below_dr _ hb3, hcor3.below (below_dr _ (Below.refl _ _)), hcor2.below (below_dr _ (Below.refl _ _)), hpr.below (below_dr _ (Below.refl _ _)), box3_below kd3 (below_dr _ (Below.refl _ _))⟩); (case measure => simp [intOf])))
        · go_wp2
          go_roundw
          case rel => exact ⟨2, by omega, by go_num, by simp [com3], hb3, hcor3, kd3⟩
          case measure => simp [intOf]
    · obtain ⟨g0, g1, g2, ⟨e0, e1, e2, el⟩, ⟨p0, p1, pl⟩, ⟨r0, r1, rl⟩, ⟨s0, s1, sl⟩, _⟩ := id hcor
      go_wp2_with fail
      refine (hX _).mono ?_
      rintro e w3 ⟨X2, rfl, hcor2, hb⟩
      have hb3 := below_call (B := w.heap.size) (w := w) hb hb2 hb2.size
      have kd3 := box3_below kd hb
      have hcor3 := hcor.below hb
      have hpr : Pair w3 g2 u2 v2 := Pair.below ⟨s0, s1, sl⟩ hb
      clear hb e0 e1 e2 el p0 p1 pl r0 r1 rl s0 s1 sl kd c0 c1 c2 cl
      generalize wr.heap.size = BB at *
      go_wp2_with fail
      go_loopw [5, 20] (fun n j wq => RcIn w B BB X X2 g2 u2 v2 a' b' h' (com3 u0 v0 u1 v1 u2 v2 x0 y0 x1 y1 x2 y2 2) u0 v0 u1 v1 u2 v2 x0 y0 x1 y1 x2 y2 n j wq) (fun _ j _ => 3 - (intOf j).toNat)
      case atStart => exact ⟨0, by omega, rfl, by simp [cnt3], hb3, hcor3, hcor2, hpr, kd3⟩
      case round =>
        clear hb3 kd3 hcor3 hcor2 hpr hcor
        obtain ⟨m, hm, rfl, rfl, hb3, hcor3, hcor2, hpr, kd3⟩ := hrel
        have hsz3 := hb3.size
        obtain ⟨hcn0, hcn1⟩ := cnt3_bd u2 v2 x0 y0 x1 y1 x2 y2 m
        obtain ⟨q0, q1, ql⟩ := id hpr
        have hm4 : m = 0 ∨ m = 1 ∨ m = 2 ∨ m = 3 := by omega
        rcases hm4 with rfl | rfl | rfl | rfl
        · obtain ⟨j0, j1, j2, ⟨f0, f1, f2, fl⟩, ⟨t0, t1, tl⟩, _, _⟩ := id hcor2
          (have HS := Lib.hid (show cnt3 u2 v2 x0 y0 x1 y1 x2 y2 1 = cnt3 u2 v2 x0 y0 x1 y1 x2 y2 0 + eqn u2 v2 x0 y0 from by simp [cnt3]); have HE := Lib.hid (eqn_of u2 v2 x0 y0); cases g1 : (u2 == x0) <;> cases g2 : (v2 == y0) <;> (have G1 := Lib.hid g1; have G2 := Lib.hid g2; go_wp2_with fail; go_quiet (fail); go_wp2; go_roundw; (case rel => exact ⟨1, by omega, by go_num, by rw [HS.out, HE.out, G1.out, G2.out]; simp [Int.add_assoc], below_dr _ hb3, hcor3.below (below_dr _ (Below.refl _ _)), hcor2.below (below_dr _ (Below.refl _ _)), hpr.below (below_dr _ (Below.refl _ _)), box3_below kd3 (below_dr _ (Below.refl _ _))⟩); (case measure => simp [intOf])))
        · obtain ⟨j0, j1, j2, ⟨f0, f1, f2, fl⟩, _, ⟨t0, t1, tl⟩, _⟩ := id hcor2
          (have HS := Lib.hid (show cnt3 u2 v2 x0 y0 x1 y1 x2 y2 2 = cnt3 u2 v2 x0 y0 x1 y1 x2 y2 1 + eqn u2 v2 x1 y1 from by simp [cnt3]); have HE := Lib.hid (eqn_of u2 v2 x1 y1); cases g1 : (u2 == x1) <;> cases g2 : (v2 == y1) <;> (have G1 := Lib.hid g1; have G2 := Lib.hid g2; go_wp2_with fail; go_quiet (fail); go_wp2; go_roundw; (case rel => exact ⟨2, by omega, by go_num, by rw [HS.out, HE.out, G1.out, G2.out]; simp [Int.add_assoc], below_dr _ hb3, hcor3.below (below_dr _ (Below.refl _ _)), hcor2.below (below_dr _ (Below.refl _ _)), hpr.below (below_dr _ (Below.refl _ _)), box3_below kd3 (below_dr _ (Below.refl _ _))⟩); (case measure => simp [intOf])))
        · obtain ⟨j0, j1, j2, ⟨f0, f1, f2, fl⟩, _, _, ⟨t0, t1, tl⟩, _⟩ := id hcor2
          (have HS := Lib.hid (show cnt3 u2 v2 x0 y0 x1 y1 x2 y2 3 = cnt3 u2 v2 x0 y0 x1 y1 x2 y2 2 + eqn u2 v2 x2 y2 from by simp [cnt3]); have HE := Lib.hid (eqn_of u2 v2 x2 y2); cases g1 : (u2 == x2) <;> cases g2 : (v2 == y2) <;> (have G1 := Lib.hid g1; have G2 := Lib.hid g2; go_wp2_with fail; go_quiet (fail); go_wp2; go_roundw; (case rel => exact ⟨3, by omega, by go_num, by rw [HS.out, HE.out, G1.out, G2.out]; simp [Int.add_assoc], below_dr _ hb3, hcor3.below (below_dr _ (Below.refl _ _)), hcor2.below (below_dr _ (Below.refl _ _)), hpr.below (below_dr _ (Below.refl _ _)), box3_below kd3 (below_dr _ (Below.refl _ _))⟩); (case measure => simp [intOf])))
        · go_wp2
          go_roundw
          case rel => exact ⟨3, by omega, by go_num, by simp [com3], hb3, hcor3, kd3⟩
          case measure => simp [intOf]
    · go_wp2
      go_ret
      exact ⟨rfl, hb2⟩
theorem refcommon_any (a b h a' b' h' : Int) (w : World) (a0 : -8796093022208 ≤ a ∧ a ≤ 8796093022208) (b0 : -8796093022208 ≤ b ∧ b ≤ 8796093022208) (c0 : -8796093022208 ≤ a' ∧ a' ≤ 8796093022208) (d0 : -8796093022208 ≤ b' ∧ b' ≤ 8796093022208) :
    Calls Tryd.prog 89 #[Ce a b h, Ce a' b' h'] w fun e w' => e = .returned (.int .i64 (comN a b h a' b' h' 3)) ∧ Below w.heap.size w w' := by
  rw [comN_three]
  exact refcommon_core a b h a' b' h' _ _ _ _ _ _ _ _ _ _ _ _ w (fun w => refcorners_any a b h w a0 b0) (fun w => refcorners_any a' b' h' w c0 d0)
end Go.Proofs.YtcmfkdhadmfgkaaDoor.Ce
