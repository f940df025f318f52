/- Contracts of package block: corner, State, Empty, leaf, Middle. A block is its eight rows. -/
import Derived.Test.YtcmfkdhadmfgkaaDoorBs
import Derived.Test.YtcmfkdhadmfgkaaDoorSiM
namespace Go.Proofs.YtcmfkdhadmfgkaaDoor.Bk
open Go.RowKit Go.Proofs.YtcmfkdhadmfgkaaDoor.Ba Go.Proofs.YtcmfkdhadmfgkaaDoor.Si

theorem ret_int {k : IntKind} {a b : Int} (h : a = b) : Ending.returned (.int k a) = .returned (.int k b) := by rw [h]
def bkA (x : Nat → Nat) : Array Value := #[.int .u16 (x 0), .int .u16 (x 1), .int .u16 (x 2), .int .u16 (x 3), .int .u16 (x 4), .int .u16 (x 5), .int .u16 (x 6), .int .u16 (x 7)]
theorem bkA_get (x : Nat → Nat) (r : Nat) (h : r < 8) : (bkA x)[r]? = some (.int .u16 (x r)) := by
  have : r = 0 ∨ r = 1 ∨ r = 2 ∨ r = 3 ∨ r = 4 ∨ r = 5 ∨ r = 6 ∨ r = 7 := by omega
  rcases this with rfl | rfl | rfl | rfl | rfl | rfl | rfl | rfl <;> rfl
theorem bkA_set (x : Nat → Nat) (r v : Nat) (h : r < 8) : (bkA x).setIfInBounds r (.int .u16 v) = bkA (fun i => if i = r then v else x i) := by
  have : r = 0 ∨ r = 1 ∨ r = 2 ∨ r = 3 ∨ r = 4 ∨ r = 5 ∨ r = 6 ∨ r = 7 := by omega
  rcases this with rfl | rfl | rfl | rfl | rfl | rfl | rfl | rfl <;> rfl
theorem corner_any (i : Nat) (h : i < 4) (w : World) :
    Calls Tryd.prog 42 #[.int .i64 i] w fun e w' => e = .returned (.tuple #[.int .i64 ((i % 2 * 4 : Nat) : Int), .int .i64 ((i / 2 * 4 : Nat) : Int)]) ∧ w = w' := by
  have h4 : i = 0 ∨ i = 1 ∨ i = 2 ∨ i = 3 := by omega
  clear h
  rcases h4 with rfl | rfl | rfl | rfl
  all_goals
    go_enter Tryd.func42, Tryd.ntmps42
    go_wp2
    first
      | (refine bodyPost_ret (v := .tuple #[.int .i64 0, .int .i64 0]) (by simp [results, Tryd.results42, go_sem]) rfl ⟨rfl, rfl⟩; done)
      | (refine bodyPost_ret (v := .tuple #[.int .i64 4, .int .i64 0]) (by simp [results, Tryd.results42, go_sem]) rfl ⟨rfl, rfl⟩; done)
      | (refine bodyPost_ret (v := .tuple #[.int .i64 0, .int .i64 4]) (by simp [results, Tryd.results42, go_sem]) rfl ⟨rfl, rfl⟩; done)
      | (refine bodyPost_ret (v := .tuple #[.int .i64 4, .int .i64 4]) (by simp [results, Tryd.results42, go_sem]) rfl ⟨rfl, rfl⟩; done)
theorem u16_and3 (f p : Nat) (hf : f < 65536) : bits .and .u16 ((f : Int) / 2 ^ p) 3 = ((f / 2 ^ p % 4 : Nat) : Int) := by
  have e : ((f : Int) / 2 ^ p) = ((f / 2 ^ p : Nat) : Int) := by simp
  have h := u16_and_nat (f / 2 ^ p) 3 (Nat.lt_of_le_of_lt (Nat.div_le_self _ _) hf) (by decide)
  rw [e]
  rw [nat_mask2] at h
  exact h
theorem bstate_in (x : Nat → Nat) (hx : ∀ r, r < 8 → x r < 65536) (a b : Nat) (ha : a < 8) (hb : b < 8) (w : World) :
    Calls Tryd.prog 17 #[.agg (bkA x), .int .i64 a, .int .i64 b] w fun e w' => e = .returned (.int .i64 ((x b / 2 ^ (2 * a) % 4 : Nat) : Int)) ∧ Below w.heap.size w w' := by
  have h3 := u16_and3 (x b) (2 * a) (hx b hb)
  have kb := Blk.newAt w 27 (bkA x) _ rfl
  have hc := (kb.cell b).trans (bkA_get x b hb)
  obtain ⟨p, hp⟩ : ∃ p : Nat, 2 * a = p := ⟨_, rfl⟩
  have hp2 : (2 : Int) * (a : Int) = (p : Int) := by omega
  rw [hp] at h3 ⊢
  have hb8 : (b : Int) < 8 := by omega
  have hp16 : p < 16 := by omega
  clear hp
  go_enter Tryd.func17, Tryd.ntmps17
  go_wp2
  go_ret
  exact ⟨ret_int (by simp), (Below.refl _ _).alloc (Nat.le_refl _) _⟩
/-- The four rows of a leaf, from a point on. -/
def lfT (x : Nat → Nat) (a b : Nat) : Nat → Nat
  | 0 => 0
  | k + 1 => lfT x a b k + x (b + k) / 2 ^ (2 * a) % 256 * 2 ^ (8 * k)
theorem lfT_lt (x : Nat → Nat) (a b : Nat) : ∀ k, lfT x a b k < 2 ^ (8 * k)
  | 0 => by simp [lfT]
  | k + 1 => by
    have ih := lfT_lt x a b k
    have hv : x (b + k) / 2 ^ (2 * a) % 256 < 256 := Nat.mod_lt _ (by decide)
    have h2 : 2 ^ (8 * (k + 1)) = 256 * 2 ^ (8 * k) := by rw [show 8 * (k + 1) = 8 + 8 * k by omega, Nat.pow_add]
    have h3 : x (b + k) / 2 ^ (2 * a) % 256 * 2 ^ (8 * k) ≤ 255 * 2 ^ (8 * k) := Nat.mul_le_mul_right _ (by omega)
    unfold lfT
    rw [h2]
    omega
theorem lf_or (x : Nat → Nat) (a b k : Nat) (hk : k < 4) : bits .or .u32 ((lfT x a b k : Nat) : Int) (((x (b + k) / 2 ^ (2 * a) % 256 : Nat) : Int) * 2 ^ (8 * k) % 4294967296) = ((lfT x a b (k + 1) : Nat) : Int) := by
  have ih := lfT_lt x a b k
  have hn := lfT_lt x a b (k + 1)
  have h32 : 2 ^ (8 * (k + 1)) ≤ 2 ^ 32 := Nat.pow_le_pow_right (by decide) (by omega)
  have hk1 : 2 ^ (8 * k) ≤ 2 ^ (8 * (k + 1)) := Nat.pow_le_pow_right (by decide) (by omega)
  have he : lfT x a b (k + 1) = lfT x a b k + x (b + k) / 2 ^ (2 * a) % 256 * 2 ^ (8 * k) := rfl
  have hlt : x (b + k) / 2 ^ (2 * a) % 256 * 2 ^ (8 * k) < 4294967296 := by omega
  have hm : (((x (b + k) / 2 ^ (2 * a) % 256 : Nat) : Int) * 2 ^ (8 * k) % 4294967296) = ((x (b + k) / 2 ^ (2 * a) % 256 * 2 ^ (8 * k) : Nat) : Int) := by
    rw [pow_nat, ← Int.natCast_mul]
    generalize x (b + k) / 2 ^ (2 * a) % 256 * 2 ^ (8 * k) = z at *
    omega
  rw [hm, u32_or_nat _ _ (by omega) hlt, Nat.or_comm, nat_join (8 * k) _ _ (Nat.mul_mod_left _ _) ih, he, Nat.add_comm]
theorem u16_and255 (f p : Nat) (hf : f < 65536) : bits .and .u16 ((f : Int) / 2 ^ p) 255 = ((f / 2 ^ p % 256 : Nat) : Int) := by
  have e : ((f : Int) / 2 ^ p) = ((f / 2 ^ p : Nat) : Int) := by simp
  have h := u16_and_nat (f / 2 ^ p) 255 (Nat.lt_of_le_of_lt (Nat.div_le_self _ _) hf) (by decide)
  rw [e]
  rw [nat_mask8] at h
  exact h
def LfR (w : World) (x : Nat → Nat) (a b : Nat) (f i : Value) (wr : World) : Prop := ∃ k : Nat, k ≤ 4 ∧ i = .int .i64 k ∧ f = .int .u32 (lfT x a b k) ∧ Blk wr w.heap.size 27 (bkA x) ∧ Below w.heap.size w wr
set_option maxHeartbeats 1000000 in
theorem leaf_any (x : Nat → Nat) (hx : ∀ r, r < 8 → x r < 65536) (a b : Nat) (ha : a ≤ 4) (hb : b ≤ 4) (w : World) :
    Calls Tryd.prog 44 #[.agg (bkA x), .int .i64 a, .int .i64 b] w fun e w' => e = .returned (.int .u32 (lfT x a b 4)) ∧ Below w.heap.size w w' := by
  have kb := Blk.newAt w 27 (bkA x) _ rfl
  go_enter Tryd.func44, Tryd.ntmps44
  go_wp2_with fail
  go_loopw [7, 9] (fun f i wr => LfR w x a b f i wr) (fun _ i _ => 4 - (intOf i).toNat)
  case atStart => exact ⟨0, by omega, rfl, rfl, kb, by go_grown⟩
  case round =>
    clear kb
    obtain ⟨k, hk, rfl, rfl, kb, hbw⟩ := hrel
    by_cases hlt : k < 4
    · obtain ⟨r, hr⟩ : ∃ r : Nat, b + k = r := ⟨_, rfl⟩
      have hr2 : (b : Int) + (k : Int) = (r : Int) := by omega
      have hc := (kb.cell r).trans (bkA_get x r (by omega))
      have hl := kb.lt
      obtain ⟨p, hp⟩ : ∃ p : Nat, 2 * a = p := ⟨_, rfl⟩
      have hp2 : (2 : Int) * (a : Int) = (p : Int) := by omega
      obtain ⟨q, hq⟩ : ∃ q : Nat, 8 * k = q := ⟨_, rfl⟩
      have hq2 : (8 : Int) * (k : Int) = (q : Int) := by omega
      have h3 := u16_and255 (x r) p (hx r (by omega))
      have ho := lf_or x a b k hlt
      rw [hr, hp, hq] at ho
      have hr8 : (r : Int) < 8 := by omega
      have hp16 : p < 16 := by omega
      have hq32 : q < 32 := by omega
      have hv : x r / 2 ^ p % 256 < 256 := Nat.mod_lt _ (by decide)
      generalize x r / 2 ^ p % 256 = y at *
      have HO := Lib.hid ho
      clear hr hp hq ho
      go_wp2_with fail
      rw [HO.out]
      exact ⟨⟨k + 1, by omega, by go_num, rfl, kb, hbw⟩, by simp [intOf]; omega⟩
    · obtain rfl : k = 4 := by omega
      go_wp2_with fail
      go_ret
      exact ⟨rfl, hbw⟩
theorem middle_any (x : Nat → Nat) (hx : ∀ r, r < 8 → x r < 65536) (w : World) :
    Calls Tryd.prog 14 #[.agg (bkA x)] w fun e w' => e = .returned (.int .u32 (lfT x 2 2 4)) ∧ Below w.heap.size w w' := by
  have kb := Blk.newAt w 27 (bkA x) _ rfl
  have hl := fun W => leaf_any x hx 2 2 (by omega) (by omega) W
  have c0 := kb.cell 0
  have c1 := kb.cell 1
  have c2 := kb.cell 2
  have c3 := kb.cell 3
  have c4 := kb.cell 4
  have c5 := kb.cell 5
  have c6 := kb.cell 6
  have c7 := kb.cell 7
  rw [bkA_get x _ (by decide)] at c0 c1 c2 c3 c4 c5 c6 c7
  go_enter Tryd.func14, Tryd.ntmps14
  go_wp2_with fail
  refine (hl _).mono ?_
  rintro e w1 ⟨rfl, hb1⟩
  have hbw := below_call (B := w.heap.size) (w := w) hb1 ((Below.refl _ _).alloc (Nat.le_refl _) _) (by simp)
  clear c0 c1 c2 c3 c4 c5 c6 c7 hl hb1
  go_wp2_with fail
  go_ret
  exact ⟨rfl, hbw⟩
/-! Of. -/
def qA (f : Nat → Nat) : Array Value := #[.int .u32 (f 0), .int .u32 (f 1), .int .u32 (f 2), .int .u32 (f 3)]
/-- What a quarter gives a row; the rows behind some quarters, and some rows of the next one. -/
def con (f : Nat → Nat) (j r : Nat) : Nat := if r / 4 = j / 2 then f j / 2 ^ (8 * (r % 4)) % 256 * 2 ^ (8 * (j % 2)) else 0
def ofT (f : Nat → Nat) (i row r : Nat) : Nat := (if 0 < i then con f 0 r else 0) + (if 1 < i then con f 1 r else 0) + (if 2 < i then con f 2 r else 0) + (if 3 < i then con f 3 r else 0) + (if r / 4 = i / 2 ∧ r % 4 < row then con f i r else 0)
def ofB (f : Nat → Nat) (r : Nat) : Nat := con f 0 r + con f 1 r + con f 2 r + con f 3 r
theorem ofT_all (f : Nat → Nat) (r : Nat) (_h : r < 8) : ofT f 4 0 r = ofB f r := by unfold ofT ofB; simp
theorem ofT_zero (f : Nat → Nat) (r : Nat) : ofT f 0 0 r = 0 := by unfold ofT; simp
theorem ofT_turn (f : Nat → Nat) (i r : Nat) (h : i < 4) : ofT f i 4 r = ofT f (i + 1) 0 r := by
  have h4 : i = 0 ∨ i = 1 ∨ i = 2 ∨ i = 3 := by omega
  have hm : r % 4 < 4 := Nat.mod_lt _ (by decide)
  rcases h4 with rfl | rfl | rfl | rfl <;> simp [ofT, con, hm] <;> (intros; omega)
theorem con_lt (f : Nat → Nat) (j r : Nat) : con f j r < 256 * 2 ^ (8 * (j % 2)) := by
  unfold con
  split
  · exact Nat.mul_lt_mul_of_pos_right (Nat.mod_lt _ (by decide)) (Nat.two_pow_pos _)
  · exact Nat.mul_pos (by decide) (Nat.two_pow_pos _)
theorem ofT_low (f : Nat → Nat) (i row r : Nat) (h : i < 4) (hw : row < 4) (hr : r = i / 2 * 4 + row) : ofT f i row r < 2 ^ (8 * (i % 2)) := by
  subst hr
  have h4 : i = 0 ∨ i = 1 ∨ i = 2 ∨ i = 3 := by omega
  have e1 : (0 * 4 + row) / 4 = 0 := by omega
  have e2 : (1 * 4 + row) / 4 = 1 := by omega
  have e3 : (0 * 4 + row) % 4 = row := by omega
  have e4 : (1 * 4 + row) % 4 = row := by omega
  rcases h4 with rfl | rfl | rfl | rfl <;> simp only [ofT, con, Nat.reduceDiv, Nat.reduceMod, e1, e2, e3, e4] <;> simp <;> omega
theorem ofT_here (f : Nat → Nat) (i row r : Nat) (hw : row < 4) (hr : r = i / 2 * 4 + row) : ofT f i (row + 1) r = ofT f i row r + f i / 2 ^ (8 * row) % 256 * 2 ^ (8 * (i % 2)) := by
  have e1 : r / 4 = i / 2 := by omega
  have e2 : r % 4 = row := by omega
  have e3 : r / 4 = i / 2 ∧ r % 4 < row + 1 := by omega
  have e4 : ¬ (r / 4 = i / 2 ∧ r % 4 < row) := by omega
  have e5 : con f i r = f i / 2 ^ (8 * row) % 256 * 2 ^ (8 * (i % 2)) := by unfold con; rw [if_pos e1, e2]
  unfold ofT
  rw [if_pos e3, if_neg e4, e5, Nat.add_zero]
theorem ofT_else (f : Nat → Nat) (i row r : Nat) (hr : r ≠ i / 2 * 4 + row) : ofT f i (row + 1) r = ofT f i row r := by
  unfold ofT
  by_cases h : r / 4 = i / 2 ∧ r % 4 < row
  · rw [if_pos h, if_pos (show r / 4 = i / 2 ∧ r % 4 < row + 1 from ⟨h.1, by omega⟩)]
  · rw [if_neg h, if_neg (show ¬ (r / 4 = i / 2 ∧ r % 4 < row + 1) by omega)]
theorem of_or (f : Nat → Nat) (i row r : Nat) (h : i < 4) (hw : row < 4) (hr : r = i / 2 * 4 + row) :
    bits .or .u16 ((ofT f i row r : Nat) : Int) (((f i / 2 ^ (8 * row) % 256 : Nat) : Int) * 2 ^ (8 * (i % 2)) % 65536) = ((ofT f i (row + 1) r : Nat) : Int) := by
  have hl := ofT_low f i row r h hw hr
  have hh := ofT_here f i row r hw hr
  have hv : f i / 2 ^ (8 * row) % 256 < 256 := Nat.mod_lt _ (by decide)
  generalize f i / 2 ^ (8 * row) % 256 = y at *
  have hp : i % 2 = 0 ∨ i % 2 = 1 := by omega
  rw [hh]
  generalize ofT f i row r = z at *
  rcases hp with e | e
  · rw [e] at hl ⊢
    have : z = 0 := by simpa using hl
    subst this
    have := u16_or_nat 0 y (by decide) (by omega)
    simp only [Nat.mul_zero, Int.pow_zero, Int.mul_one, Nat.pow_zero, Nat.mul_one, Nat.zero_add, Nat.zero_or] at this ⊢
    rw [show ((y : Int) % 65536) = (y : Int) by omega]
    exact this
  · rw [e] at hl ⊢
    have hz : z < 256 := hl
    have := u16_or_nat z (y * 256) (by omega) (by omega)
    rw [Nat.or_comm, nat_join 8 (y * 256) z (Nat.mul_mod_left _ _) hz, Nat.add_comm] at this
    rw [show ((y : Int) * 2 ^ (8 * 1) % 65536) = ((y * 256 : Nat) : Int) by omega]
    exact this
theorem idx_q (f : Nat → Nat) (i : Nat) (h : i < 4) (W : World) : (Instr.index 30 (.agg #[.int .u32 (f 0), .int .u32 (f 1), .int .u32 (f 2), .int .u32 (f 3)]) (.int .i64 (i : Int))).run Tryd.prog W = .ok (.int .u32 (f i)) W := by
  have h4 : i = 0 ∨ i = 1 ∨ i = 2 ∨ i = 3 := by omega
  clear h
  rcases h4 with rfl | rfl | rfl | rfl
  all_goals
    refine Eq.trans (b := Result.ok (.int .u32 _) W) ?_ rfl
    kernel_rfl
theorem u32_and255 (f p : Nat) (hf : f < 4294967296) : bits .and .u32 ((f : Int) / 2 ^ p) 255 = ((f / 2 ^ p % 256 : Nat) : Int) := by
  have e : ((f : Int) / 2 ^ p) = ((f / 2 ^ p : Nat) : Int) := by simp
  have h := u32_and_nat (f / 2 ^ p) 255 (Nat.lt_of_le_of_lt (Nat.div_le_self _ _) hf) (by decide)
  rw [e]
  rw [nat_mask8] at h
  exact h
def OfR1 (w : World) (f : Nat → Nat) (i : Value) (wr : World) : Prop := ∃ (k : Nat) (x : Nat → Nat), k ≤ 4 ∧ i = .int .i64 k ∧ (∀ r, r < 8 → x r = ofT f k 0 r) ∧ Blk wr (w.heap.size + 1 + 1) 27 (bkA x) ∧ Blk wr (w.heap.size + 1) 27 (bkA fun _ => 0) ∧ Below w.heap.size w wr
def OfR2 (w : World) (f : Nat → Nat) (k : Nat) (j : Value) (wr : World) : Prop := ∃ (row : Nat) (x : Nat → Nat), row ≤ 4 ∧ j = .int .i64 row ∧ (∀ r, r < 8 → x r = ofT f k row r) ∧ Blk wr (w.heap.size + 1 + 1) 27 (bkA x) ∧ Blk wr (w.heap.size + 1) 27 (bkA fun _ => 0) ∧ Below w.heap.size w wr
set_option maxRecDepth 100000 in
set_option maxHeartbeats 1000000 in
theorem bof_any (f : Nat → Nat) (hf : ∀ i, i < 4 → f i < 4294967296) (w : World) :
    Calls Tryd.prog 10 #[.agg (qA f)] w fun e w' => e = .returned (.agg (bkA (ofB f))) ∧ Below w.heap.size w w' := by
  have kq := Blk.newAt w 30 (qA f) _ rfl
  have hq0 : (qA f)[0]? = some (.int .u32 (f 0)) := rfl
  have hq1 : (qA f)[1]? = some (.int .u32 (f 1)) := rfl
  have hq2 : (qA f)[2]? = some (.int .u32 (f 2)) := rfl
  have hq3 : (qA f)[3]? = some (.int .u32 (f 3)) := rfl
  go_enter Tryd.func10, Tryd.ntmps10
  go_wp2_with fail
  clear hq0 hq1 hq2 hq3
  obtain ⟨W0, hW0⟩ : ∃ W0, ((w.alloc (.cells (qA f) 30)).alloc (.cells (bkA fun _ => 0) 27)).alloc (.cells (bkA fun _ => 0) 27) = W0 := ⟨_, rfl⟩
  have k1 : Blk W0 (w.heap.size + 1) 27 (bkA fun _ => 0) := by rw [← hW0]; exact (Blk.newAt _ _ _ _ (by simp)).alloc _
  have k2 : Blk W0 (w.heap.size + 1 + 1) 27 (bkA fun _ => 0) := by rw [← hW0]; exact Blk.newAt _ _ _ _ (by simp)
  have hB0 : Below w.heap.size w W0 := by rw [← hW0]; go_grown
  change Code.wp _ _ _ _ (((w.alloc (.cells (qA f) 30)).alloc (.cells (bkA fun _ => 0) 27)).alloc (.cells (bkA fun _ => 0) 27))
  rw [hW0]
  clear hW0 kq
  go_loopw [10] (fun i wr => OfR1 w f i wr) (fun i _ => 4 - (intOf i).toNat)
  case atStart => exact ⟨0, fun _ => 0, by omega, rfl, fun r _ => (ofT_zero f r).symm, k2, k1, hB0⟩
  case round =>
    clear k1 k2 hB0
    obtain ⟨k, x, hk, rfl, hx, k2, k1, hB⟩ := hrel
    by_cases hlt : k < 4
    · have hdb : decide ((k : Int) < 4) = true := by simp; omega
      have hidx := idx_q f k hlt
      have hco := corner_any k hlt
      have hfk := hf k hlt
      have hk1 : k % 2 * 4 ≤ 4 := by omega
      have hk2 : k / 2 * 4 ≤ 4 := by omega
      obtain ⟨a, ha⟩ : ∃ a : Nat, k % 2 * 4 = a := ⟨_, rfl⟩
      obtain ⟨b, hb⟩ : ∃ b : Nat, k / 2 * 4 = b := ⟨_, rfl⟩
      rw [ha, hb] at hco
      have HA := Lib.hid ha
      have HB := Lib.hid hb
      have ha4 : a ≤ 4 := by omega
      have hb4 : b ≤ 4 := by omega
      have HX := Lib.hid hx
      clear ha hb hk1 hk2 hx
      go_wp2_with fail
      refine (hco _).mono ?_
      rintro e w' ⟨rfl, rfl⟩
      clear hidx hco
      go_wp2_with fail
      clear hdb
      go_loopw [19] (fun j wr => OfR2 w f k j wr) (fun j _ => 4 - (intOf j).toNat)
      case atStart => exact ⟨0, x, by omega, rfl, HX.out, k2, k1, hB⟩
      case round =>
        clear k1 k2 hB HX
        obtain ⟨row, y, hrow, rfl, hy, k2, k1, hB⟩ := hrel
        by_cases hlr : row < 4
        · obtain ⟨r, hr⟩ : ∃ r : Nat, b + row = r := ⟨_, rfl⟩
          have hr2 : (b : Int) + (row : Int) = (r : Int) := by omega
          have hr8 : (r : Int) < 8 := by omega
          have hrk : r = k / 2 * 4 + row := by rw [HB.out]; omega
          have hc := (k2.cell r).trans (bkA_get y r (by omega))
          have hz := k2.frozen r
          have hl := k2.lt
          obtain ⟨p, hp⟩ : ∃ p : Nat, 8 * row = p := ⟨_, rfl⟩
          have hp2 : (8 : Int) * (row : Int) = (p : Int) := by omega
          obtain ⟨q, hq⟩ : ∃ q : Nat, 2 * a = q := ⟨_, rfl⟩
          have hq2 : (2 : Int) * (a : Int) = (q : Int) := by omega
          have hqk : 8 * (k % 2) = q := by have := HA.out; omega
          have h3 := u32_and255 (f k) p hfk
          have ho := of_or f k row r hlt hlr hrk
          rw [hp, hqk, ← hy r (by omega)] at ho
          have HO := Lib.hid ho
          have HY := Lib.hid (show ∀ s, s < 8 → (if s = r then ofT f k (row + 1) r else y s) = ofT f k (row + 1) s from fun s hs => by
            by_cases e : s = r
            · rw [if_pos e, e]
            · rw [if_neg e, ofT_else f k row s (by omega)]; exact hy s hs)
          have hv : f k / 2 ^ p % 256 < 256 := Nat.mod_lt _ (by decide)
          generalize f k / 2 ^ p % 256 = z at *
          have hp32 : p < 32 := by omega
          have hq16 : q < 16 := by omega
          clear hr hrk hp hq hqk ho hy
          go_wp2_with fail
          go_region
          all_goals go_wp2_with fail
          all_goals
            rw [IntKind.wrap_u16, HO.out]
            have k2' : Blk (wr.setCell ⟨w.heap.size + 1 + 1, r, none⟩ (.int .u16 (ofT f k (row + 1) r : Nat))) (w.heap.size + 1 + 1) 27 (bkA fun i => if i = r then ofT f k (row + 1) r else y i) := by
              rw [← bkA_set y r _ (by omega)]
              exact k2.set_ r _
            have k1' := k1.far (p := ⟨w.heap.size + 1 + 1, r, none⟩) (by show w.heap.size + 1 ≠ w.heap.size + 1 + 1; omega) (.int .u16 (ofT f k (row + 1) r : Nat))
            have hB' := hB.setCell (p := ⟨w.heap.size + 1 + 1, r, none⟩) (by show w.heap.size ≤ w.heap.size + 1 + 1; omega) (.int .u16 (ofT f k (row + 1) r : Nat))
            exact ⟨⟨row + 1, _, by omega, by go_num, HY.out, k2', k1', hB'.trans ⟨rfl, rfl, rfl, Nat.le_refl _, fun _ _ => rfl⟩⟩, by simp [intOf]; omega⟩
        · obtain rfl : row = 4 := by omega
          have HY := Lib.hid (show ∀ s, s < 8 → y s = ofT f (k + 1) 0 s from fun s hs => by rw [hy s hs, ofT_turn f k s hlt])
          clear hy
          go_wp2_with fail
          exact ⟨⟨k + 1, y, by omega, by go_num, HY.out, k2, k1, hB⟩, by simp [intOf]; omega⟩
    · obtain rfl : k = 4 := by omega
      have c0 := (k2.cell 0).trans (bkA_get x 0 (by decide))
      have d0 := (k1.cell 0).trans (bkA_get (fun _ => 0) 0 (by decide))
      have z0 := k1.frozen 0
      have c1 := (k2.cell 1).trans (bkA_get x 1 (by decide))
      have d1 := (k1.cell 1).trans (bkA_get (fun _ => 0) 1 (by decide))
      have z1 := k1.frozen 1
      have c2 := (k2.cell 2).trans (bkA_get x 2 (by decide))
      have d2 := (k1.cell 2).trans (bkA_get (fun _ => 0) 2 (by decide))
      have z2 := k1.frozen 2
      have c3 := (k2.cell 3).trans (bkA_get x 3 (by decide))
      have d3 := (k1.cell 3).trans (bkA_get (fun _ => 0) 3 (by decide))
      have z3 := k1.frozen 3
      have c4 := (k2.cell 4).trans (bkA_get x 4 (by decide))
      have d4 := (k1.cell 4).trans (bkA_get (fun _ => 0) 4 (by decide))
      have z4 := k1.frozen 4
      have c5 := (k2.cell 5).trans (bkA_get x 5 (by decide))
      have d5 := (k1.cell 5).trans (bkA_get (fun _ => 0) 5 (by decide))
      have z5 := k1.frozen 5
      have c6 := (k2.cell 6).trans (bkA_get x 6 (by decide))
      have d6 := (k1.cell 6).trans (bkA_get (fun _ => 0) 6 (by decide))
      have z6 := k1.frozen 6
      have c7 := (k2.cell 7).trans (bkA_get x 7 (by decide))
      have d7 := (k1.cell 7).trans (bkA_get (fun _ => 0) 7 (by decide))
      have z7 := k1.frozen 7
      have hl1 := k1.lt
      have hl2 := k2.lt
      have e : bkA x = bkA (ofB f) := by
        unfold bkA
        simp only [hx _ (show 0 < 8 by decide), hx _ (show 1 < 8 by decide), hx _ (show 2 < 8 by decide), hx _ (show 3 < 8 by decide), hx _ (show 4 < 8 by decide), hx _ (show 5 < 8 by decide), hx _ (show 6 < 8 by decide), hx _ (show 7 < 8 by decide), ofT_all f _ (show 0 < 8 by decide), ofT_all f _ (show 1 < 8 by decide), ofT_all f _ (show 2 < 8 by decide), ofT_all f _ (show 3 < 8 by decide), ofT_all f _ (show 4 < 8 by decide), ofT_all f _ (show 5 < 8 by decide), ofT_all f _ (show 6 < 8 by decide), ofT_all f _ (show 7 < 8 by decide)]
      have HE := Lib.hid e
      clear hx e
      go_wp2_with fail
      exact bodyPost_ret (v := .agg (bkA (ofB f))) (by rw [← HE.out]; simp [results, Tryd.results10, go_sem, bkA, *]) rfl ⟨rfl, ((((((((hB.setCell (p := ⟨w.heap.size + 1, 0, none⟩) (Nat.le_succ _) _).setCell (p := ⟨w.heap.size + 1, 1, none⟩) (Nat.le_succ _) _).setCell (p := ⟨w.heap.size + 1, 2, none⟩) (Nat.le_succ _) _).setCell (p := ⟨w.heap.size + 1, 3, none⟩) (Nat.le_succ _) _).setCell (p := ⟨w.heap.size + 1, 4, none⟩) (Nat.le_succ _) _).setCell (p := ⟨w.heap.size + 1, 5, none⟩) (Nat.le_succ _) _).setCell (p := ⟨w.heap.size + 1, 6, none⟩) (Nat.le_succ _) _).setCell (p := ⟨w.heap.size + 1, 7, none⟩) (Nat.le_succ _) _)⟩
end Go.Proofs.YtcmfkdhadmfgkaaDoor.Bk
