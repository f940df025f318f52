/- The document's own leaves: Of, Cells. -/
import Derived.Test.YtnabbeconabbnaaDoorSiR1
namespace Go.Proofs.YtnabbeconabbnaaDoor.Si
open Go.RowKit Go.Proofs.YtnabbeconabbnaaDoor.Ba Go.Proofs.YtnabbeconabbnaaDoor.Se Go.Proofs.YtnabbeconabbnaaDoor.Ax Go.Lib

/-- The word of sixteen states, from the last one on. -/
def ofF (s : Nat → Nat) : Nat → Nat
  | 0 => 0
  | j + 1 => 4 * ofF s j + s (15 - j)
theorem ofF_lt (s : Nat → Nat) (hs : ∀ i, s i < 4) : ∀ j, ofF s j < 4 ^ j
  | 0 => by simp [ofF]
  | j + 1 => by
    have := ofF_lt s hs j
    have h2 := hs (15 - j)
    unfold ofF
    rw [Nat.pow_succ]
    omega
theorem st_zero (n d : Nat) (hd : d < 4) : st (4 * n + d) 0 = d := by unfold st; simp; omega
theorem st_succ (n d i : Nat) (hd : d < 4) : st (4 * n + d) (i + 1) = st n i := by
  unfold st
  rw [show 2 ^ (2 * (i + 1)) = 4 * 2 ^ (2 * i) by rw [show 2 * (i + 1) = 2 * i + 2 by omega, Nat.pow_add]; omega, ← Nat.div_div_eq_div_mul, show (4 * n + d) / 4 = n by omega]
theorem st_ofF (s : Nat → Nat) (hs : ∀ i, s i < 4) : ∀ j, j ≤ 16 → ∀ i, i < j → st (ofF s j) i = s (16 - j + i)
  | 0, _, i, hi => by omega
  | j + 1, hj, 0, _ => by
    unfold ofF
    rw [st_zero _ _ (hs _), show 16 - (j + 1) + 0 = 15 - j by omega]
  | j + 1, hj, i + 1, hi => by
    unfold ofF
    rw [st_succ _ _ _ (hs _), st_ofF s hs j (by omega) i (by omega), show 16 - j + i = 16 - (j + 1) + (i + 1) by omega]
theorem ofF_eq (s : Nat → Nat) (hs : ∀ i, s i < 4) (g : Nat) (hg : g < 4294967296) (h : ∀ i, i < 16 → st g i = s i) : ofF s 16 = g :=
  st_ext _ _ (ofF_lt s hs 16) hg fun j hj => by rw [st_ofF s hs 16 (Nat.le_refl _) j hj, h j hj]; simp
def OfR (s : Nat → Nat) (n i : Value) : Prop := ∃ j : Nat, j ≤ 16 ∧ i = .int .i64 (15 - (j : Int)) ∧ n = .int .u32 (ofF s j)
set_option maxHeartbeats 1000000 in
theorem refof9_any (s : Nat → Nat) (hs : ∀ i, s i < 4) (g cap : Nat) (w : World) (hr : ∀ i, i < 16 → w.cell? ⟨g, i, none⟩ = some (.int .i64 (s i))) (_hg : g < w.heap.size) :
    Calls Tryd.prog 12 #[.slice (some ⟨g, 0, none⟩) 16 cap] w fun e w' => e = .returned (.int .u32 (ofF s 16)) ∧ w = w' := by
  have HR := Lib.hid hr
  clear hr
  go_enter Tryd.func12, Tryd.ntmps12
  go_wp2_with fail
  go_loop [3, 4] (fun n i => OfR s n i) (fun _ i => (intOf i + 1).toNat)
  case atStart => exact ⟨0, Nat.zero_le _, rfl, rfl⟩
  case round =>
    obtain ⟨j, hj, rfl, rfl⟩ := hrel
    by_cases hlt : j < 16
    · obtain ⟨q, hq⟩ : ∃ q : Nat, 15 - (j : Int) = q := ⟨15 - j, by omega⟩
      have hc := HR.out q (by omega)
      have hl := ofF_lt s hs j
      have h4 : 4 ^ j ≤ 4 ^ 15 := Nat.pow_le_pow_right (by decide) (by omega)
      have HN := Lib.hid (show ofF s (j + 1) = 4 * ofF s j + s q by rw [show q = 15 - j by omega]; rfl)
      have hsq := hs q
      have hx : ofF s j < 4 ^ 15 := Nat.lt_of_lt_of_le hl h4
      clear hl h4
      generalize ofF s j = x at *
      generalize s q = y at *
      rw [hq]
      have hq15 : q ≤ 15 := by omega
      have HQ := Lib.hid hq
      clear hq
      go_wp2
      go_round
      case rel => exact ⟨j + 1, by omega, by first | rfl | (have := HQ.out; simp <;> omega), by (rw [HN.out]) <;> go_num⟩
      case measure => simp [intOf]
    · obtain rfl : j = 16 := by omega
      go_wp2
      go_ret
      exact ⟨rfl, rfl⟩
/-! Cells. -/
theorem pos_two (f i : Nat) : pos f (2 * i + 1) = pos f (2 * i) ++ (if st f i % 2 = 1 then [2 * i] else []) ∧ pos f (2 * (i + 1)) = pos f (2 * i + 1) ++ (if st f i / 2 % 2 = 1 then [2 * i + 1] else []) := by
  have h := st_test f i
  refine ⟨?_, ?_⟩
  · show pos f (2 * i) ++ _ = _
    rw [h]
    cases f.testBit (2 * i) <;> cases f.testBit (2 * i + 1) <;> rfl
  · show pos f (2 * i + 1) ++ _ = _
    rw [h]
    cases f.testBit (2 * i) <;> cases f.testBit (2 * i + 1) <;> rfl
/-- What is left of a state, and how many bits are done. -/
def RcR (w : World) (f : Nat) (A B : Int) (s i : Value) (wr : World) : Prop :=
  ∃ k : Nat, k ≤ 16 ∧ i = .int .i64 k ∧ wr.ownsRow w.heap.size 45 3 s (pos f (2 * k)).length (flat ((pos f (2 * k)).map (cAt A B))) ∧ Below w.heap.size w wr
def RcR2 (w : World) (f k : Nat) (A B : Int) (s x h : Value) (wr : World) : Prop :=
  ∃ j : Nat, j ≤ 2 ∧ h = .int .i64 j ∧ x = .int .i64 (st f k / 2 ^ j : Nat) ∧ wr.ownsRow w.heap.size 45 3 s (pos f (2 * k + j)).length (flat ((pos f (2 * k + j)).map (cAt A B))) ∧ Below w.heap.size w wr
theorem pos_next (f k j : Nat) (hj : j < 2) : pos f (2 * k + j + 1) = pos f (2 * k + j) ++ (if st f k / 2 ^ j % 2 = 1 then [2 * k + j] else []) := by
  obtain ⟨h1, h2⟩ := pos_two f k
  rcases (show j = 0 ∨ j = 1 by omega) with rfl | rfl
  · simpa using h1
  · simpa [Nat.mul_add] using h2
theorem pos_len_le (f n : Nat) : (pos f n).length ≤ n := by
  induction n with
  | zero => simp [pos]
  | succ n ih => unfold pos; rw [List.length_append]; split <;> simp <;> omega
set_option maxRecDepth 100000 in
set_option maxHeartbeats 1000000 in
theorem refcells_any (f : Nat) (A B : Int) (hf : f < 4294967296) (hA : -4611686018427387904 ≤ A ∧ A ≤ 4611686018427387904) (hB : -4611686018427387904 ≤ B ∧ B ≤ 4611686018427387904) (w : World) :
    Calls Tryd.prog 11 #[.int .u32 f, .int .i64 A, .int .i64 B] w fun e w' => ∃ v, e = .returned v ∧ SetAt w' v ((pos f 32).map (cAt A B)) ∧ Below w.heap.size w w' := by
  obtain ⟨i0, hi0, hz0, hz1, hz2⟩ := info_parts raw_info
  have HO := Lib.hid (World.ownsRow_made (base := w.heap.size) (e := 45) (size := 3) w #[] 0 (Nat.le_refl _) (Nat.zero_le _) (by simp))
  go_enter Tryd.func11, Tryd.ntmps11
  go_wp2_with fail
  refine (refstates_any f hf _).mono ?_
  rintro e w1 ⟨v, rfl, hst, hb1⟩
  have hown0 := own_below HO.out hb1
  have hbw : Below w.heap.size w w1 := below_call (B := w.heap.size) hb1 ((Below.refl _ _).alloc (Nat.le_refl _) _) (by simp)
  obtain ⟨g, cap, cur, rfl, kg, hcur⟩ : ∃ g cap cur, v = .slice (some ⟨g, 0, none⟩) 16 cap ∧ Blk w1 g 3 cur ∧ (∀ i, i < 16 → cur[i]? = some (.int .i64 (st f i))) := by
    rcases hst.2 with ⟨_, hn⟩ | ⟨g, cap, cur, rfl, hbs, hh, _⟩
    · cases hn
    · refine ⟨g, cap, cur, rfl, hh, fun i hi => ?_⟩
      have := hst.cellAt i (by omega)
      have e : Blk w1 g 3 cur := hh
      rw [e.cell i] at this
      rw [this]
      simp [ints, hi]
  clear hst hb1 HO
  have HG := Lib.hid hcur
  clear hcur
  go_wp2_with fail
  go_loopw [7, 15] (fun s i wr => RcR w f A B s i wr ∧ Blk wr g 3 cur) (fun _ i _ => 16 - (intOf i).toNat)
  case atStart => exact ⟨⟨0, Nat.zero_le _, rfl, hown0, hbw⟩, kg⟩
  case round =>
    clear hown0 hbw kg
    obtain ⟨⟨k, hk, rfl, hown, hb⟩, kg⟩ := hrel
    by_cases hlt : k < 16
    · have hc := (kg.cell k).trans (HG.out k hlt)
      have hgl := kg.lt
      have hdb : decide ((k : Int) < 16) = true := by simp; omega
      go_wp2_with fail
      clear hdb
      go_loopw [7, 9, 10] (fun s x h wr => RcR2 w f k A B s x h wr ∧ Blk wr g 3 cur) (fun _ _ h _ => 2 - (intOf h).toNat)
      case atStart => exact ⟨⟨0, Nat.zero_le _, rfl, by simp, hown, hb⟩, kg⟩
      case round =>
        clear hown hb kg hc hgl
        obtain ⟨⟨j, hj, rfl, rfl, hown, hb⟩, kg⟩ := hrel
        have hz := hb.size
        by_cases hjl : j < 2
        · have HP := Lib.hid (pos_next f k j hjl)
          have hle := pos_len_le f (2 * k + j)
          have HX := Lib.hid (show st f k / 2 ^ (j + 1) = st f k / 2 ^ j / 2 by rw [Nat.pow_succ, Nat.div_div_eq_div_mul])
          have HC := Lib.hid (show cAt A B (2 * k + j) = (A + (k : Int) % 4, B + (k : Int) / 4, (j : Int)) by
            unfold cAt
            refine Prod.ext ?_ (Prod.ext ?_ ?_) <;> dsimp only <;> omega)
          have hx4 : st f k / 2 ^ j < 4 := Nat.lt_of_le_of_lt (Nat.div_le_self _ _) (st_lt f k)
          generalize st f k / 2 ^ j = x at *
          by_cases hb2 : x % 2 = 1
          · rw [if_pos hb2] at HP
            have ht : ((x : Int) % 2 == 1) = true := by simp; omega
            obtain ⟨xa, hxa⟩ : ∃ xa : Int, xa = A + (k : Int) % 4 := ⟨_, rfl⟩
            obtain ⟨xb, hxb⟩ : ∃ xb : Int, xb = B + (k : Int) / 4 := ⟨_, rfl⟩
            have ew1 : wrap64 xa = xa := by unfold wrap64; omega
            have ew2 : wrap64 xb = xb := by unfold wrap64; omega
            rw [← hxa, ← hxb] at HC
            have ew4 := hxa.symm
            have ew5 := hxb.symm
            have hown2 := hown.alloc (.cells #[.int .i64 xa, .int .i64 xb, .int .i64 j] 45)
            have hnew := news1 wr 45 (xa, xb, (j : Int))
            have kg2 := kg.alloc (.cells #[.int .i64 xa, .int .i64 xb, .int .i64 j] 45)
            clear hxa hxb hb2 kg hown
            go_wp2_with (at_builtin; refine wpList_append_own _ rfl _ _ 32 rfl w.heap.size 45 i0 _ 3 24 Tryd.underlying32 hi0 hz0 hz1 hz2 rfl (by decide) _ _ _ rfl hown2 ⟨wr.heap.size, 0, none⟩ 1 1 (flat [(xa, xb, (j : Int))]) rfl (by simp [flat_len]) hnew (one_flat _) (by unfold maxLen; omega) (by omega) (by simp; omega) ?_)
            intro v' w' hown' hgr _
            have hb' : Below w.heap.size w w' := (hb.alloc hz _).grown hgr (by simp; omega) (fun q hq => (hown2.lt q hq).1)
            have kg' := kg2.grown hgr (own_blk_ne hown2 kg2 (by decide))
            rw [← HC.out] at hown'
            clear ew1 ew2 ew4 ew5 hgr hnew hown2 kg2 ht
            have HF := Lib.hid (show flat ((pos f (2 * k + (j + 1))).map (cAt A B)) = flat ((pos f (2 * k + j)).map (cAt A B)) ++ flat [cAt A B (2 * k + j)] by rw [← Nat.add_assoc, HP.out, List.map_append, flat_app]; rfl)
            have HL := Lib.hid (show (pos f (2 * k + (j + 1))).length = (pos f (2 * k + j)).length + 1 by rw [← Nat.add_assoc, HP.out, List.length_append]; rfl)
            clear hle
            go_wp2_with fail
            refine ⟨⟨⟨j + 1, by omega, by go_num, by rw [HX.out]; simp, ?_, hb'⟩, kg'⟩, by simp [intOf]; omega⟩
            rw [HF.out, HL.out]
            exact hown'
          · rw [if_neg hb2, List.append_nil] at HP
            have ht : ((x : Int) % 2 == 1) = false := by simp; omega
            clear hb2
            go_wp2_with fail
            refine ⟨⟨⟨j + 1, by omega, by go_num, by rw [HX.out]; simp, ?_, hb⟩, kg⟩, by simp [intOf]; omega⟩
            rw [← Nat.add_assoc, HP.out]
            exact hown
        · obtain rfl : j = 2 := by omega
          go_wp2_with fail
          exact ⟨⟨⟨k + 1, by omega, by go_num, hown, hb⟩, kg⟩, by simp [intOf]; omega⟩
    · obtain rfl : k = 16 := by omega
      have hs := set_own (L := (pos f 32).map (cAt A B)) (by rw [List.length_map]; exact hown)
      clear hown
      go_wp2_with fail
      go_ret
      exact ⟨_, rfl, hs, hb⟩
end Go.Proofs.YtnabbeconabbnaaDoor.Si
