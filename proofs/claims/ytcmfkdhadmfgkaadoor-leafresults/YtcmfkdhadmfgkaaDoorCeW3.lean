/- The contracts of slices.Index and slices.Contains at the six points, and of cell.touch: do two cells stand beside each other? -/
import Derived.Test.YtcmfkdhadmfgkaaDoorCeW2
import Derived.Deep.RegionHeld3
import Derived.IntWalk
namespace Go.Proofs.YtcmfkdhadmfgkaaDoor.Ce
open Go.RowKit Go.Proofs.YtcmfkdhadmfgkaaDoor.Ax

def sX : Nat → Int
  | 0 => 1 | 1 => 0 | 2 => -1 | 3 => -1 | 4 => 0 | _ => 1
def sY : Nat → Int
  | 0 => 0 | 1 => 1 | 2 => 1 | 3 => 0 | 4 => -1 | _ => -1
def SixAt (B : Nat) (w : World) : Prop := (∀ k, k < 6 → w.cell? ⟨B, 2 * k, none⟩ = some (.int .i64 (sX k)) ∧ w.cell? ⟨B, 2 * k + 1, none⟩ = some (.int .i64 (sY k))) ∧ B < w.heap.size
theorem SixAt.below {B : Nat} {w w' : World} (h : SixAt B w) (hb : Below w.heap.size w w') : SixAt B w' :=
  ⟨fun k hk => ⟨(hb.cell (p := ⟨B, 2 * k, none⟩) h.2).trans (h.1 k hk).1, (hb.cell (p := ⟨B, 2 * k + 1, none⟩) h.2).trans (h.1 k hk).2⟩, Nat.lt_of_lt_of_le h.2 hb.size⟩
def IxRel (w : World) (B : Nat) (x y : Int) (i : Value) (wr : World) : Prop :=
  ∃ k : Nat, k ≤ 6 ∧ i = .int .i64 k ∧ (∀ j, j < k → ¬ (x = sX j ∧ y = sY j)) ∧ Below w.heap.size w wr ∧ Box2 w.heap.size wr x y ∧ SixAt B wr
def IxPost (w : World) (x y : Int) (e : Ending) (w' : World) : Prop := ∃ n : Int, e = .returned (.int .i64 n) ∧ inSix x y = decide (0 ≤ n) ∧ Below w.heap.size w w' ∧ (0 ≤ n → n < 6 ∧ x = sX n.toNat ∧ y = sY n.toNat)
theorem inSix_at (x y : Int) (k : Nat) (hk : k < 6) (h : x = sX k ∧ y = sY k) : inSix x y = true := by
  have : k = 0 ∨ k = 1 ∨ k = 2 ∨ k = 3 ∨ k = 4 ∨ k = 5 := by omega
  obtain ⟨rfl, rfl⟩ := h
  rcases this with rfl | rfl | rfl | rfl | rfl | rfl <;> decide
theorem inSix_no (x y : Int) (h : ∀ j, j < 6 → ¬ (x = sX j ∧ y = sY j)) : inSix x y = false := by
  unfold inSix
  have h0 := h 0 (by omega); have h1 := h 1 (by omega); have h2 := h 2 (by omega); have h3 := h 3 (by omega); have h4 := h 4 (by omega); have h5 := h 5 (by omega)
  simp only [sX, sY] at h0 h1 h2 h3 h4 h5
  simp only [decide_eq_false_iff_not]
  omega

theorem ix_next {x y : Int} {k : Nat} (h : ∀ j, j < k → ¬ (x = sX j ∧ y = sY j)) (g : (x == sX k && y == sY k) = false) : ∀ j, j < k + 1 → ¬ (x = sX j ∧ y = sY j) := by
  intro j hj
  rcases Nat.lt_or_ge j k with h' | h'
  · exact h j h'
  · have : j = k := by omega
    subst this
    rintro ⟨rfl, rfl⟩
    simp at g
theorem ix_hit {x y : Int} {k : Nat} (hk : k < 6) (g : (x == sX k && y == sY k) = true) : inSix x y = true := by
  simp only [Bool.and_eq_true, beq_iff_eq] at g
  exact inSix_at x y k hk g
theorem ix_is {x y : Int} {k : Nat} (g : (x == sX k && y == sY k) = true) : x = sX ((k : Int)).toNat ∧ y = sY ((k : Int)).toNat := by
  simp only [Bool.and_eq_true, beq_iff_eq] at g
  exact g
set_option maxHeartbeats 4000000 in
theorem index_six (B : Nat) (x y : Int) (w : World) (hS : SixAt B w) :
    Calls Tryd.prog 94 #[.slice (some ⟨B, 0, none⟩) 6 6, Pt x y] w (IxPost w x y) := by
  have e0 := eql_pt
  go_enter Tryd.func94, Tryd.ntmps94
  go_wp2
  go_loopw [8] (fun i wr => IxRel w B x y i wr) (fun i _ => 6 - (intOf i).toNat)
  case atStart => exact ⟨0, by omega, rfl, fun j hj => absurd hj (by omega), by go_grown, by simp [Box2, go_sem], hS.below (by go_grown)⟩
  case round =>
    clear hS
    obtain ⟨k, hk, rfl, hno, hb, hx, hS⟩ := hrel
    have hk6 : k = 0 ∨ k = 1 ∨ k = 2 ∨ k = 3 ∨ k = 4 ∨ k = 5 ∨ k = 6 := by omega
    have Hno := Lib.hid hno
    clear hno
    obtain ⟨b0, b1, _, _, b4⟩ := id hx
    have hsz := hb.size
    have hBl := hS.2
    rcases hk6 with rfl | rfl | rfl | rfl | rfl | rfl | rfl
    · (obtain ⟨p0, p1⟩ := hS.1 0 (by omega); simp [sX, sY] at p0 p1; have HS := Lib.hid hS; clear hS; go_wp2_with fail; cases g : (x == sX 0 && y == sY 0)); (· have HG := Lib.hid g; simp only [sX, sY] at g; go_quiet (fail); go_wp2; go_roundw; (case rel => exact ⟨0 + 1, by omega, by go_num, ix_next Hno.out HG.out, below_dr _ hb, box2_below hx (below_dr _ (Below.refl _ _)), HS.out.below (below_dr _ (Below.refl _ _))⟩); (case measure => simp [intOf])); (· have HG := Lib.hid g; simp only [sX, sY] at g; go_quiet (fail); go_wp2; go_ret; exact ⟨0, rfl, by rw [ix_hit (by omega) HG.out]; simp, below_dr _ hb, fun _ => ⟨by omega, ix_is HG.out⟩⟩)
    · (obtain ⟨p0, p1⟩ := hS.1 1 (by omega); simp [sX, sY] at p0 p1; have HS := Lib.hid hS; clear hS; go_wp2_with fail; cases g : (x == sX 1 && y == sY 1)); (· have HG := Lib.hid g; simp only [sX, sY] at g; go_quiet (fail); go_wp2; go_roundw; (case rel => exact ⟨1 + 1, by omega, by go_num, ix_next Hno.out HG.out, below_dr _ hb, box2_below hx (below_dr _ (Below.refl _ _)), HS.out.below (below_dr _ (Below.refl _ _))⟩); (case measure => simp [intOf])); (· have HG := Lib.hid g; simp only [sX, sY] at g; go_quiet (fail); go_wp2; go_ret; exact ⟨1, rfl, by rw [ix_hit (by omega) HG.out]; simp, below_dr _ hb, fun _ => ⟨by omega, ix_is HG.out⟩⟩)
    · (obtain ⟨p0, p1⟩ := hS.1 2 (by omega); simp [sX, sY] at p0 p1; have HS := Lib.hid hS; clear hS; go_wp2_with fail; cases g : (x == sX 2 && y == sY 2)); (· have HG := Lib.hid g; simp only [sX, sY] at g; go_quiet (fail); go_wp2; go_roundw; (case rel => exact ⟨2 + 1, by omega, by go_num, ix_next Hno.out HG.out, below_dr _ hb, box2_below hx (below_dr _ (Below.refl _ _)), HS.out.below (below_dr _ (Below.refl _ _))⟩); (case measure => simp [intOf])); (· have HG := Lib.hid g; simp only [sX, sY] at g; go_quiet (fail); go_wp2; go_ret; exact ⟨2, rfl, by rw [ix_hit (by omega) HG.out]; simp, below_dr _ hb, fun _ => ⟨by omega, ix_is HG.out⟩⟩)
    · (obtain ⟨p0, p1⟩ := hS.1 3 (by omega); simp [sX, sY] at p0 p1; have HS := Lib.hid hS; clear hS; go_wp2_with fail; cases g : (x == sX 3 && y == sY 3)); (· have HG := Lib.hid g; simp only [sX, sY] at g; go_quiet (fail); go_wp2; go_roundw; (case rel => exact ⟨3 + 1, by omega, by go_num, ix_next Hno.out HG.out, below_dr _ hb, box2_below hx (below_dr _ (Below.refl _ _)), HS.out.below (below_dr _ (Below.refl _ _))⟩); (case measure => simp [intOf])); (· have HG := Lib.hid g; simp only [sX, sY] at g; go_quiet (fail); go_wp2; go_ret; exact ⟨3, rfl, by rw [ix_hit (by omega) HG.out]; simp, below_dr _ hb, fun _ => ⟨by omega, ix_is HG.out⟩⟩)
    · (obtain ⟨p0, p1⟩ := hS.1 4 (by omega); simp [sX, sY] at p0 p1; have HS := Lib.hid hS; clear hS; go_wp2_with fail; cases g : (x == sX 4 && y == sY 4)); (· have HG := Lib.hid g; simp only [sX, sY] at g; go_quiet (fail); go_wp2; go_roundw; (case rel => exact ⟨4 + 1, by omega, by go_num, ix_next Hno.out HG.out, below_dr _ hb, box2_below hx (below_dr _ (Below.refl _ _)), HS.out.below (below_dr _ (Below.refl _ _))⟩); (case measure => simp [intOf])); (· have HG := Lib.hid g; simp only [sX, sY] at g; go_quiet (fail); go_wp2; go_ret; exact ⟨4, rfl, by rw [ix_hit (by omega) HG.out]; simp, below_dr _ hb, fun _ => ⟨by omega, ix_is HG.out⟩⟩)
    · (obtain ⟨p0, p1⟩ := hS.1 5 (by omega); simp [sX, sY] at p0 p1; have HS := Lib.hid hS; clear hS; go_wp2_with fail; cases g : (x == sX 5 && y == sY 5)); (· have HG := Lib.hid g; simp only [sX, sY] at g; go_quiet (fail); go_wp2; go_roundw; (case rel => exact ⟨5 + 1, by omega, by go_num, ix_next Hno.out HG.out, below_dr _ hb, box2_below hx (below_dr _ (Below.refl _ _)), HS.out.below (below_dr _ (Below.refl _ _))⟩); (case measure => simp [intOf])); (· have HG := Lib.hid g; simp only [sX, sY] at g; go_quiet (fail); go_wp2; go_ret; exact ⟨5, rfl, by rw [ix_hit (by omega) HG.out]; simp, below_dr _ hb, fun _ => ⟨by omega, ix_is HG.out⟩⟩)
    · go_wp2
      go_ret
      exact ⟨-1, rfl, inSix_no x y Hno.out, hb, fun h => absurd h (by omega)⟩
theorem contains_six (B : Nat) (x y : Int) (w : World) (hS : SixAt B w) :
    Calls Tryd.prog 90 #[.slice (some ⟨B, 0, none⟩) 6 6, Pt x y] w fun e w' => e = .returned (.bool (inSix x y)) ∧ Below w.heap.size w w' := by
  go_enter Tryd.func90, Tryd.ntmps90
  go_wp2_with fail
  refine (index_six B x y _ (hS.below (by go_grown))).mono ?_
  rintro e w1 ⟨n, rfl, he, hb, _⟩
  have hb1 := below_call (B := w.heap.size) (w := w) hb (by go_grown) (by go_size)
  have HE := Lib.hid he
  clear hb he
  go_wp2
  go_ret
  exact ⟨congrArg (fun b : Bool => Ending.returned (.bool b)) HE.out.symm, hb1⟩

theorem slice6 (B : Nat) (w : World) : (Instr.sliceAt 137 (.pointer (some ⟨B, 0, none⟩)) none none none).run Tryd.prog w = .ok (.slice (some ⟨B, 0, none⟩) 6 6) w := by kernel_rfl
set_option maxRecDepth 100000 in
set_option maxHeartbeats 2000000 in
theorem touch_hex (a b h a' b' h' : Int) (w : World) (hs : SixIs w) (a0 : -8796093022208 ≤ a ∧ a ≤ 8796093022208) (b0 : -8796093022208 ≤ b ∧ b ≤ 8796093022208) (c0 : -8796093022208 ≤ a' ∧ a' ≤ 8796093022208) (d0 : -8796093022208 ≤ b' ∧ b' ≤ 8796093022208) :
    Calls Tryd.prog 82 #[.int .i64 1, Ce a b h, Ce a' b' h'] w fun e w' => e = .returned (.bool (touchB 1 a b h a' b' h')) ∧ Below w.heap.size w w' := by
  have e : touchB 1 a b h a' b' h' = inSix (a' - a) (b' - b) := by simp [touchB]
  rw [e]
  clear e
  obtain ⟨a1, a2⟩ := a0
  obtain ⟨b1, b2⟩ := b0
  obtain ⟨c1, c2⟩ := c0
  obtain ⟨d1, d2⟩ := d0
  go_enter Tryd.func82, Tryd.ntmps82
  go_wp2_with fail
  refine (six_any _ (hs.below (by go_grown))).mono ?_
  rintro e w1 ⟨rfl, hb⟩
  obtain ⟨hc_w1, hf_w1⟩ := bcell hb; have hz_w1 := hb.size; (try simp at hz_w1); have hb_w1 := below_call (B := w.heap.size) (w := w) hb (by go_grown) (by go_size); clear hb; (try have hy0_w1 : w.heap.size < w1.heap.size := by omega); (try have hy1_w1 : w.heap.size + 1 < w1.heap.size := by omega); (try have hy2_w1 : w.heap.size + 1 + 1 < w1.heap.size := by omega)
  unfold sixCells
  go_wp2_with fail
  have hsl := slice6
  have hS : SixAt w1.heap.size (w1.alloc (.cells sixCells 137)) := ⟨fun k hk => by
    have : k = 0 ∨ k = 1 ∨ k = 2 ∨ k = 3 ∨ k = 4 ∨ k = 5 := by omega
    rcases this with rfl | rfl | rfl | rfl | rfl | rfl <;> simp [go_sem, sixCells, sX, sY], by simp⟩
  have hbn : Below w.heap.size w (w1.alloc (.cells sixCells 137)) := by go_grown
  have q0 : (w1.alloc (.cells sixCells 137)).cell? ⟨w.heap.size, 0, none⟩ = some (.int .i64 a) := by simp [go_sem, *]
  have q1 : (w1.alloc (.cells sixCells 137)).cell? ⟨w.heap.size, 1, none⟩ = some (.int .i64 b) := by simp [go_sem, *]
  have q2 : (w1.alloc (.cells sixCells 137)).cell? ⟨w.heap.size + 1, 0, none⟩ = some (.int .i64 a') := by simp [go_sem, *]
  have q3 : (w1.alloc (.cells sixCells 137)).cell? ⟨w.heap.size + 1, 1, none⟩ = some (.int .i64 b') := by simp [go_sem, *]
  have hlt : w.heap.size + 1 < (w1.alloc (.cells sixCells 137)).heap.size := by simp; omega
  unfold sixCells at hS hbn q0 q1 q2 q3 hlt
  generalize hP : w1.heap.size = B at *
  generalize (w1.alloc _) = W at *
  clear hc_w1 hf_w1 hz_w1 hb_w1 hy0_w1 hy1_w1 hP hs
  have x1 : IntKind.i64.wrap (a' - a) = a' - a := IntWalk.i64_in _ (by omega)
  have x2 : IntKind.i64.wrap (b' - b) = b' - b := IntWalk.i64_in _ (by omega)
  have hl0 : w.heap.size < W.drew.heap.size := show w.heap.size < W.heap.size by omega
  replace hlt : w.heap.size + 1 < W.drew.heap.size := hlt
  replace hbn : Below w.heap.size w W.drew := hbn.trans ⟨rfl, rfl, rfl, Nat.le_refl _, fun _ _ => rfl⟩
  replace hS : SixAt B W.drew := hS.below ⟨rfl, rfl, rfl, Nat.le_refl _, fun _ _ => rfl⟩
  go_region_held3 (fun w' => w'.cell? ⟨w.heap.size, 0, none⟩ = some (.int .i64 a) ∧ w'.cell? ⟨w.heap.size, 1, none⟩ = some (.int .i64 b) ∧ w'.cell? ⟨w.heap.size + 1, 0, none⟩ = some (.int .i64 a') ∧ w'.cell? ⟨w.heap.size + 1, 1, none⟩ = some (.int .i64 b') ∧ Below w.heap.size w w') (first | exact ⟨q0, q1, q2, q3, hbn⟩) (first | (go_at_call 90; refine (contains_six B (a' - a) (b' - b) _ hS).mono ?_; rintro e w7 ⟨rfl, hb7⟩; have hbn := hbn.trans (hb7.mono hbn.size); have q0 := (hb7.cell (p := ⟨w.heap.size, 0, none⟩) hl0).trans q0; have q1 := (hb7.cell (p := ⟨w.heap.size, 1, none⟩) hl0).trans q1; have q2 := (hb7.cell (p := ⟨w.heap.size + 1, 0, none⟩) hlt).trans q2; have q3 := (hb7.cell (p := ⟨w.heap.size + 1, 1, none⟩) hlt).trans q3))
  all_goals
    go_wp2
    go_ret
    exact ⟨rfl, hbn⟩
theorem touch_edge (a b h a' b' h' : Int) (w : World) (a0 : -8796093022208 ≤ a ∧ a ≤ 8796093022208) (b0 : -8796093022208 ≤ b ∧ b ≤ 8796093022208) (c0 : -8796093022208 ≤ a' ∧ a' ≤ 8796093022208) (d0 : -8796093022208 ≤ b' ∧ b' ≤ 8796093022208) :
    Calls Tryd.prog 82 #[.int .i64 2, Ce a b h, Ce a' b' h'] w fun e w' => e = .returned (.bool (touchB 2 a b h a' b' h')) ∧ Below w.heap.size w w' := by
  have e : touchB 2 a b h a' b' h' = (comN a b h a' b' h' 3 == 2) := by simp [touchB]
  rw [e]
  clear e
  go_enter Tryd.func82, Tryd.ntmps82
  go_wp2_with fail
  refine (common_any _ _ _ _ _ _ _ a0 b0 c0 d0).mono ?_
  rintro e w1 ⟨rfl, hb⟩
  obtain ⟨hc_w1, hf_w1⟩ := bcell hb; have hz_w1 := hb.size; (try simp at hz_w1); have hb_w1 := below_call (B := w.heap.size) (w := w) hb (by go_grown) (by go_size); clear hb; (try have hy0_w1 : w.heap.size < w1.heap.size := by omega); (try have hy1_w1 : w.heap.size + 1 < w1.heap.size := by omega); (try have hy2_w1 : w.heap.size + 1 + 1 < w1.heap.size := by omega)
  go_wp2
  go_ret
  exact ⟨rfl, hb_w1⟩
theorem touch_vertex (a b h a' b' h' : Int) (w : World) (a0 : -8796093022208 ≤ a ∧ a ≤ 8796093022208) (b0 : -8796093022208 ≤ b ∧ b ≤ 8796093022208) (c0 : -8796093022208 ≤ a' ∧ a' ≤ 8796093022208) (d0 : -8796093022208 ≤ b' ∧ b' ≤ 8796093022208) :
    Calls Tryd.prog 82 #[.int .i64 3, Ce a b h, Ce a' b' h'] w fun e w' => e = .returned (.bool (touchB 3 a b h a' b' h')) ∧ Below w.heap.size w w' := by
  have e : touchB 3 a b h a' b' h' = (comN a b h a' b' h' 3 == 1 || comN a b h a' b' h' 3 == 2) := by simp [touchB]
  rw [e]
  clear e
  cases g : (comN a b h a' b' h' 3 == 1)
  all_goals
    go_enter Tryd.func82, Tryd.ntmps82
    go_wp2_with fail
    refine (common_any _ _ _ _ _ _ _ a0 b0 c0 d0).mono ?_
    rintro e w1 ⟨rfl, hb⟩
    obtain ⟨hc_w1, hf_w1⟩ := bcell hb; have hz_w1 := hb.size; (try simp at hz_w1); have hb_w1 := below_call (B := w.heap.size) (w := w) hb (by go_grown) (by go_size); clear hb; (try have hy0_w1 : w.heap.size < w1.heap.size := by omega); (try have hy1_w1 : w.heap.size + 1 < w1.heap.size := by omega); (try have hy2_w1 : w.heap.size + 1 + 1 < w1.heap.size := by omega)
    go_wp2
    go_ret
    exact ⟨by simp, hb_w1⟩
end Go.Proofs.YtcmfkdhadmfgkaaDoor.Ce
