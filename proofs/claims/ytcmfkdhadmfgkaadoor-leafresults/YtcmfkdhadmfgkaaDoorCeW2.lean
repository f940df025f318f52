/- The contract of cell.common: how many corners two triangles share. -/
import Derived.Test.YtcmfkdhadmfgkaaDoorCeW1
import Derived.Test.YtcmfkdhadmfgkaaDoorAxEq
namespace Go.Proofs.YtcmfkdhadmfgkaaDoor.Ce
open Go.RowKit Go.Proofs.YtcmfkdhadmfgkaaDoor.Ax

abbrev cornV (a b h : Int) : Value := .agg #[.int .i64 (a + cX h 0), .int .i64 (b + cY h 0), .int .i64 (a + cX h 1), .int .i64 (b + cY h 1), .int .i64 (a + cX h 2), .int .i64 (b + cY h 2)]
theorem cornA_eq (a b h : Int) : Value.agg (cornA a b h) = cornV a b h := by
  by_cases h0 : h = 0 <;> simp [cornA, cX, cY, h0]
theorem corners_v (a b h : Int) (w : World) (a0 : -8796093022208 ≤ a) (a1 : a ≤ 8796093022208) (b0 : -8796093022208 ≤ b) (b1 : b ≤ 8796093022208) :
    Calls Tryd.prog 95 #[Ce a b h] w fun e w' => e = .returned (cornV a b h) ∧ Below w.heap.size w w' := by
  rw [← cornA_eq]; exact corners_any a b h w a0 a1 b0 b1

/-- A block that holds three points. -/
def Box6 (B : Nat) (w : World) (x0 y0 x1 y1 x2 y2 : Int) : Prop :=
  w.cell? ⟨B, 0, none⟩ = some (.int .i64 x0) ∧ w.cell? ⟨B, 1, none⟩ = some (.int .i64 y0) ∧ w.cell? ⟨B, 2, none⟩ = some (.int .i64 x1) ∧ w.cell? ⟨B, 3, none⟩ = some (.int .i64 y1) ∧ w.cell? ⟨B, 4, none⟩ = some (.int .i64 x2) ∧ w.cell? ⟨B, 5, none⟩ = some (.int .i64 y2) ∧ B < w.heap.size
theorem box6_below {B : Nat} {W w1 : World} {x0 y0 x1 y1 x2 y2 : Int} (h : Box6 B W x0 y0 x1 y1 x2 y2) (hb : Below W.heap.size W w1) : Box6 B w1 x0 y0 x1 y1 x2 y2 := by
  obtain ⟨h0, h1, h2, h3, h4, h5, hB⟩ := h
  exact ⟨(hb.cell (p := ⟨B, 0, none⟩) hB).trans h0, (hb.cell (p := ⟨B, 1, none⟩) hB).trans h1, (hb.cell (p := ⟨B, 2, none⟩) hB).trans h2, (hb.cell (p := ⟨B, 3, none⟩) hB).trans h3, (hb.cell (p := ⟨B, 4, none⟩) hB).trans h4, (hb.cell (p := ⟨B, 5, none⟩) hB).trans h5, Nat.lt_of_lt_of_le hB hb.size⟩

def InRel (w : World) (B P : Nat) (x y n0 : Int) (x0 y0 x1 y1 x2 y2 : Int) (s : Nat → Int) (n j : Value) (wq : World) : Prop :=
  ∃ m : Nat, m ≤ 3 ∧ j = .int .i64 m ∧ n = .int .i64 (n0 + s m) ∧ Below w.heap.size w wq ∧ Box6 B wq x0 y0 x1 y1 x2 y2 ∧ Box2 P wq x y
def OutRel (w : World) (B : Nat) (x0 y0 x1 y1 x2 y2 : Int) (s : Nat → Int) (n i : Value) (wq : World) : Prop :=
  ∃ m : Nat, m ≤ 3 ∧ i = .int .i64 m ∧ n = .int .i64 (s m) ∧ Below w.heap.size w wq ∧ Box6 B wq x0 y0 x1 y1 x2 y2

theorem eqn_of (x y x' y' : Int) : eqn x y x' y' = if (x == x' && y == y') = true then 1 else 0 := by
  unfold eqn; simp

/-- How many of the first m of three points a point is; how many of the first m of three are among three. -/
def cnt3 (x y x0 y0 x1 y1 x2 y2 : Int) : Nat → Int
  | 0 => 0
  | 1 => eqn x y x0 y0
  | 2 => eqn x y x0 y0 + eqn x y x1 y1
  | _ => eqn x y x0 y0 + eqn x y x1 y1 + eqn x y x2 y2
def com3 (u0 v0 u1 v1 u2 v2 x0 y0 x1 y1 x2 y2 : Int) : Nat → Int
  | 0 => 0
  | 1 => cnt3 u0 v0 x0 y0 x1 y1 x2 y2 3
  | 2 => cnt3 u0 v0 x0 y0 x1 y1 x2 y2 3 + cnt3 u1 v1 x0 y0 x1 y1 x2 y2 3
  | _ => cnt3 u0 v0 x0 y0 x1 y1 x2 y2 3 + cnt3 u1 v1 x0 y0 x1 y1 x2 y2 3 + cnt3 u2 v2 x0 y0 x1 y1 x2 y2 3
theorem cnt3_bd (x y x0 y0 x1 y1 x2 y2 : Int) (m : Nat) : 0 ≤ cnt3 x y x0 y0 x1 y1 x2 y2 m ∧ cnt3 x y x0 y0 x1 y1 x2 y2 m ≤ 3 := by
  have h0 := eqn_bd x y x0 y0; have h1 := eqn_bd x y x1 y1; have h2 := eqn_bd x y x2 y2
  unfold cnt3; split <;> omega
theorem com3_bd (u0 v0 u1 v1 u2 v2 x0 y0 x1 y1 x2 y2 : Int) (m : Nat) : 0 ≤ com3 u0 v0 u1 v1 u2 v2 x0 y0 x1 y1 x2 y2 m ∧ com3 u0 v0 u1 v1 u2 v2 x0 y0 x1 y1 x2 y2 m ≤ 9 := by
  have h0 := cnt3_bd u0 v0 x0 y0 x1 y1 x2 y2 3; have h1 := cnt3_bd u1 v1 x0 y0 x1 y1 x2 y2 3; have h2 := cnt3_bd u2 v2 x0 y0 x1 y1 x2 y2 3
  unfold com3; split <;> omega
theorem comN_three (a b h a' b' h' : Int) : comN a b h a' b' h' 3 = com3 (a + cX h 0) (b + cY h 0) (a + cX h 1) (b + cY h 1) (a + cX h 2) (b + cY h 2) (a' + cX h' 0) (b' + cY h' 0) (a' + cX h' 1) (b' + cY h' 1) (a' + cX h' 2) (b' + cY h' 2) 3 := by
  simp [comN, rowN, com3, cnt3]

set_option maxRecDepth 100000 in
set_option maxHeartbeats 4000000 in
theorem common_core (a b h a' b' h' u0 v0 u1 v1 u2 v2 x0 y0 x1 y1 x2 y2 : Int) (w : World)
    (hU : ∀ w, Calls Tryd.prog 95 #[Ce a b h] w fun e w' => e = .returned (.agg #[.int .i64 u0, .int .i64 v0, .int .i64 u1, .int .i64 v1, .int .i64 u2, .int .i64 v2]) ∧ Below w.heap.size w w')
    (hX : ∀ w, Calls Tryd.prog 95 #[Ce a' b' h'] w fun e w' => e = .returned (.agg #[.int .i64 x0, .int .i64 y0, .int .i64 x1, .int .i64 y1, .int .i64 x2, .int .i64 y2]) ∧ Below w.heap.size w w') :
    Calls Tryd.prog 91 #[Ce a b h, Ce a' b' h'] w fun e w' => e = .returned (.int .i64 (com3 u0 v0 u1 v1 u2 v2 x0 y0 x1 y1 x2 y2 3)) ∧ Below w.heap.size w w' := by
  go_enter Tryd.func91, Tryd.ntmps91
  go_wp2_with fail
  refine (hX _).mono ?_
  rintro e w1 ⟨rfl, hb⟩
  obtain ⟨hc_w1, hf_w1⟩ := bcell hb; have hz_w1 := hb.size; (try simp at hz_w1); have hb_w1 := below_call (B := w.heap.size) (w := w) hb (by go_grown) (by go_size); clear hb; (try have hy0_w1 : w.heap.size < w1.heap.size := by omega); (try have hy1_w1 : w.heap.size + 1 < w1.heap.size := by omega); (try have hy2_w1 : w.heap.size + 1 + 1 < w1.heap.size := by omega)
  go_wp2_with fail
  refine (hU _).mono ?_
  rintro e w2 ⟨rfl, hb⟩
  have k1 : Box6 w1.heap.size w2 x0 y0 x1 y1 x2 y2 := box6_below (by simp [Box6, go_sem]) hb
  have hb2 := below_call (B := w.heap.size) (w := w) hb (by go_grown) (by go_size)
  clear hb hc_w1 hf_w1 hz_w1 hb_w1 hy0_w1 hy1_w1 hU hX
  generalize w1.heap.size = B at *
  have e0 := eql_pt
  have i0 := idx3_0
  have i1 := idx3_1
  have i2 := idx3_2
  go_wp2_with fail
  go_loopw [5, 15] (fun n i wr => OutRel w B x0 y0 x1 y1 x2 y2 (com3 u0 v0 u1 v1 u2 v2 x0 y0 x1 y1 x2 y2) n i wr) (fun _ i _ => 3 - (intOf i).toNat)
  case atStart => exact ⟨0, by omega, rfl, rfl, hb2, k1⟩
  case round =>
    clear hb2 k1
    obtain ⟨m, hm, rfl, rfl, hb2, k1⟩ := hrel
    have hsz := hb2.size
    obtain ⟨hcm0, hcm1⟩ := com3_bd u0 v0 u1 v1 u2 v2 x0 y0 x1 y1 x2 y2 m
    obtain ⟨q0, q1, q2, q3, q4, q5, hB⟩ := id k1
    have hm4 : m = 0 ∨ m = 1 ∨ m = 2 ∨ m = 3 := by omega
    rcases hm4 with rfl | rfl | rfl | rfl
    · go_wp2
      (go_loopw [5, 19] (fun n j wq => InRel w B wr.heap.size u0 v0 (com3 u0 v0 u1 v1 u2 v2 x0 y0 x1 y1 x2 y2 0) x0 y0 x1 y1 x2 y2 (cnt3 u0 v0 x0 y0 x1 y1 x2 y2) n j wq) (fun _ j _ => 3 - (intOf j).toNat))
      case atStart => exact ⟨0, by omega, rfl, by simp [cnt3], by go_grown, box6_below k1 (by go_grown), by simp [Box2, go_sem]⟩
      case round =>
        clear k1 q0 q1 q2 q3 q4 q5
        obtain ⟨m, hm, rfl, rfl, hb3, k1, k2⟩ := hrel
        have hsz3 := hb3.size
        obtain ⟨hcn0, hcn1⟩ := cnt3_bd u0 v0 x0 y0 x1 y1 x2 y2 m
        obtain ⟨q0, q1, q2, q3, q4, q5, hB3⟩ := id k1
        obtain ⟨r0, r1, _, _, hP⟩ := id k2
        have hm4 : m = 0 ∨ m = 1 ∨ m = 2 ∨ m = 3 := by omega
        rcases hm4 with rfl | rfl | rfl | rfl
        · (cases g : (u0 == x0 && v0 == y0) <;> (have HS := Lib.hid (show cnt3 u0 v0 x0 y0 x1 y1 x2 y2 1 = cnt3 u0 v0 x0 y0 x1 y1 x2 y2 0 + eqn u0 v0 x0 y0 from by simp [cnt3]); have HE := Lib.hid (eqn_of u0 v0 x0 y0); have HG := Lib.hid g; go_wp2; go_roundw; (case rel => exact ⟨1, by omega, by go_num, by rw [HS.out, HE.out, HG.out]; simp [Int.add_assoc], by go_grown, box6_below k1 (by go_grown), box2_below k2 (by go_grown)⟩); (case measure => simp [intOf])))
        · (cases g : (u0 == x1 && v0 == y1) <;> (have HS := Lib.hid (show cnt3 u0 v0 x0 y0 x1 y1 x2 y2 2 = cnt3 u0 v0 x0 y0 x1 y1 x2 y2 1 + eqn u0 v0 x1 y1 from by simp [cnt3]); have HE := Lib.hid (eqn_of u0 v0 x1 y1); have HG := Lib.hid g; go_wp2; go_roundw; (case rel => exact ⟨2, by omega, by go_num, by rw [HS.out, HE.out, HG.out]; simp [Int.add_assoc], by go_grown, box6_below k1 (by go_grown), box2_below k2 (by go_grown)⟩); (case measure => simp [intOf])))
        · (cases g : (u0 == x2 && v0 == y2) <;> (have HS := Lib.hid (show cnt3 u0 v0 x0 y0 x1 y1 x2 y2 3 = cnt3 u0 v0 x0 y0 x1 y1 x2 y2 2 + eqn u0 v0 x2 y2 from by simp [cnt3]); have HE := Lib.hid (eqn_of u0 v0 x2 y2); have HG := Lib.hid g; go_wp2; go_roundw; (case rel => exact ⟨3, by omega, by go_num, by rw [HS.out, HE.out, HG.out]; simp [Int.add_assoc], by go_grown, box6_below k1 (by go_grown), box2_below k2 (by go_grown)⟩); (case measure => simp [intOf])))
        · go_wp2
          go_roundw
          case rel => exact ⟨1, by omega, by go_num, by simp [com3], hb3, k1⟩
          case measure => simp [intOf]
    · go_wp2
      (go_loopw [5, 19] (fun n j wq => InRel w B wr.heap.size u1 v1 (com3 u0 v0 u1 v1 u2 v2 x0 y0 x1 y1 x2 y2 1) x0 y0 x1 y1 x2 y2 (cnt3 u1 v1 x0 y0 x1 y1 x2 y2) n j wq) (fun _ j _ => 3 - (intOf j).toNat))
      case atStart => exact ⟨0, by omega, rfl, by simp [cnt3], by go_grown, box6_below k1 (by go_grown), by simp [Box2, go_sem]⟩
      case round =>
        clear k1 q0 q1 q2 q3 q4 q5
        obtain ⟨m, hm, rfl, rfl, hb3, k1, k2⟩ := hrel
        have hsz3 := hb3.size
        obtain ⟨hcn0, hcn1⟩ := cnt3_bd u1 v1 x0 y0 x1 y1 x2 y2 m
        obtain ⟨q0, q1, q2, q3, q4, q5, hB3⟩ := id k1
        obtain ⟨r0, r1, _, _, hP⟩ := id k2
        have hm4 : m = 0 ∨ m = 1 ∨ m = 2 ∨ m = 3 := by omega
        rcases hm4 with rfl | rfl | rfl | rfl
        · (cases g : (u1 == x0 && v1 == y0) <;> (have HS := Lib.hid (show cnt3 u1 v1 x0 y0 x1 y1 x2 y2 1 = cnt3 u1 v1 x0 y0 x1 y1 x2 y2 0 + eqn u1 v1 x0 y0 from by simp [cnt3]); have HE := Lib.hid (eqn_of u1 v1 x0 y0); have HG := Lib.hid g; go_wp2; go_roundw; (case rel => exact ⟨1, by omega, by go_num, by rw [HS.out, HE.out, HG.out]; simp [Int.add_assoc], by go_grown, box6_below k1 (by go_grown), box2_below k2 (by go_grown)⟩); (case measure => simp [intOf])))
        · (cases g : (u1 == x1 && v1 == y1) <;> (have HS := Lib.hid (show cnt3 u1 v1 x0 y0 x1 y1 x2 y2 2 = cnt3 u1 v1 x0 y0 x1 y1 x2 y2 1 + eqn u1 v1 x1 y1 from by simp [cnt3]); have HE := Lib.hid (eqn_of u1 v1 x1 y1); have HG := Lib.hid g; go_wp2; go_roundw; (case rel => exact ⟨2, by omega, by go_num, by rw [HS.out, HE.out, HG.out]; simp [Int.add_assoc], by go_grown, box6_below k1 (by go_grown), box2_below k2 (by go_grown)⟩); (case measure => simp [intOf])))
        · (cases g : (u1 == x2 && v1 == y2) <;> (have HS := Lib.hid (show cnt3 u1 v1 x0 y0 x1 y1 x2 y2 3 = cnt3 u1 v1 x0 y0 x1 y1 x2 y2 2 + eqn u1 v1 x2 y2 from by simp [cnt3]); have HE := Lib.hid (eqn_of u1 v1 x2 y2); have HG := Lib.hid g; go_wp2; go_roundw; (case rel => exact ⟨3, by omega, by go_num, by rw [HS.out, HE.out, HG.out]; simp [Int.add_assoc], by go_grown, box6_below k1 (by go_grown), box2_below k2 (by go_grown)⟩); (case measure => simp [intOf])))
        · go_wp2
          go_roundw
          case rel => exact ⟨2, by omega, by go_num, by simp [com3], hb3, k1⟩
          case measure => simp [intOf]
    · go_wp2
      (go_loopw [5, 19] (fun n j wq => InRel w B wr.heap.size u2 v2 (com3 u0 v0 u1 v1 u2 v2 x0 y0 x1 y1 x2 y2 2) x0 y0 x1 y1 x2 y2 (cnt3 u2 v2 x0 y0 x1 y1 x2 y2) n j wq) (fun _ j _ => 3 - (intOf j).toNat))
      case atStart => exact ⟨0, by omega, rfl, by simp [cnt3], by go_grown, box6_below k1 (by go_grown), by simp [Box2, go_sem]⟩
      case round =>
        clear k1 q0 q1 q2 q3 q4 q5
        obtain ⟨m, hm, rfl, rfl, hb3, k1, k2⟩ := hrel
        have hsz3 := hb3.size
        obtain ⟨hcn0, hcn1⟩ := cnt3_bd u2 v2 x0 y0 x1 y1 x2 y2 m
        obtain ⟨q0, q1, q2, q3, q4, q5, hB3⟩ := id k1
        obtain ⟨r0, r1, _, _, hP⟩ := id k2
        have hm4 : m = 0 ∨ m = 1 ∨ m = 2 ∨ m = 3 := by omega
        rcases hm4 with rfl | rfl | rfl | rfl
        · (cases g : (u2 == x0 && v2 == y0) <;> (have HS := Lib.hid (show cnt3 u2 v2 x0 y0 x1 y1 x2 y2 1 = cnt3 u2 v2 x0 y0 x1 y1 x2 y2 0 + eqn u2 v2 x0 y0 from by simp [cnt3]); have HE := Lib.hid (eqn_of u2 v2 x0 y0); have HG := Lib.hid g; go_wp2; go_roundw; (case rel => exact ⟨1, by omega, by go_num, by rw [HS.out, HE.out, HG.out]; simp [Int.add_assoc], by go_grown, box6_below k1 (by go_grown), box2_below k2 (by go_grown)⟩); (case measure => simp [intOf])))
        · (cases g : (u2 == x1 && v2 == y1) <;> (have HS := Lib.hid (show cnt3 u2 v2 x0 y0 x1 y1 x2 y2 2 = cnt3 u2 v2 x0 y0 x1 y1 x2 y2 1 + eqn u2 v2 x1 y1 from by simp [cnt3]); have HE := Lib.hid (eqn_of u2 v2 x1 y1); have HG := Lib.hid g; go_wp2; go_roundw; (case rel => exact ⟨2, by omega, by go_num, by rw [HS.out, HE.out, HG.out]; simp [Int.add_assoc], by go_grown, box6_below k1 (by go_grown), box2_below k2 (by go_grown)⟩); (case measure => simp [intOf])))
        · (cases g : (u2 == x2 && v2 == y2) <;> (have HS := Lib.hid (show cnt3 u2 v2 x0 y0 x1 y1 x2 y2 3 = cnt3 u2 v2 x0 y0 x1 y1 x2 y2 2 + eqn u2 v2 x2 y2 from by simp [cnt3]); have HE := Lib.hid (eqn_of u2 v2 x2 y2); have HG := Lib.hid g; go_wp2; go_roundw; (case rel => exact ⟨3, by omega, by go_num, by rw [HS.out, HE.out, HG.out]; simp [Int.add_assoc], by go_grown, box6_below k1 (by go_grown), box2_below k2 (by go_grown)⟩); (case measure => simp [intOf])))
        · go_wp2
          go_roundw
          case rel => exact ⟨3, by omega, by go_num, by simp [com3], hb3, k1⟩
          case measure => simp [intOf]
    · go_wp2
      go_ret
      exact ⟨rfl, hb2⟩
theorem common_any (a b h a' b' h' : Int) (w : World) (a0 : -8796093022208 ≤ a ∧ a ≤ 8796093022208) (b0 : -8796093022208 ≤ b ∧ b ≤ 8796093022208) (c0 : -8796093022208 ≤ a' ∧ a' ≤ 8796093022208) (d0 : -8796093022208 ≤ b' ∧ b' ≤ 8796093022208) :
    Calls Tryd.prog 91 #[Ce a b h, Ce a' b' h'] w fun e w' => e = .returned (.int .i64 (comN a b h a' b' h' 3)) ∧ Below w.heap.size w w' := by
  rw [comN_three]
  exact common_core a b h a' b' h' _ _ _ _ _ _ _ _ _ _ _ _ w (fun w => corners_v a b h w a0.1 a0.2 b0.1 b0.2) (fun w => corners_v a' b' h' w c0.1 c0.2 d0.1 d0.2)
end Go.Proofs.YtcmfkdhadmfgkaaDoor.Ce
