/- Several texts, joined. -/
import Derived.Test.YtcmfkdhadmfgkaaDoorSiW6
import Derived.Test.YtcmfkdhadmfgkaaDoorSeR2
import Derived.Maps.AppendAt
import Derived.Test.YtcmfkdhadmfgkaaDoorBkW10
import Derived.Test.YtcmfkdhadmfgkaaDoorBkN2
import Derived.Test.YtcmfkdhadmfgkaaDoorBkW1
import Derived.Deep.RegionLaw
import Derived.Test.YtcmfkdhadmfgkaaDoorBkW8
import Derived.Test.YtcmfkdhadmfgkaaDoorFlS4
import Derived.StillTailTactics
import Derived.Test.YtcmfkdhadmfgkaaDoorBs
import Derived.Maps.OwnOps
import Derived.Maps.OwnSet
import Derived.Maps.Views
import Derived.Test.YtcmfkdhadmfgkaaDoorBkEq
import Derived.Test.YtcmfkdhadmfgkaaDoorRows
import Derived.ProofKit
import Derived.OpenShut
import Derived.Deep.DeepHandedRow
import Derived.Lib.SmallJoins
import Derived.ChangeSame
import Derived.DeepKeys4
import Derived.WideKeyEntry
import Derived.MapFrom
import Derived.Deep.QuietTactic
import Derived.BigQuiet
import Derived.Deep.Strs
import Derived.Deep.Slices
import Derived.Test.YtcmfkdhadmfgkaaDoorCards
import Derived.Test.YtcmfkdhadmfgkaaDoorTie
import Derived.Test.YtcmfkdhadmfgkaaDoorAxW3
import Derived.Test.YtcmfkdhadmfgkaaDoorAxEq
import Derived.Lib.LaidTab
import Derived.Test.YtcmfkdhadmfgkaaDoorTbW6
/- The document's own leaves: bit, State, States, Of. -/
namespace Go.Proofs.YtcmfkdhadmfgkaaDoor.Si
open Go.RowKit Go.Proofs.YtcmfkdhadmfgkaaDoor.Ba Go.Proofs.YtcmfkdhadmfgkaaDoor.Se Go.Proofs.YtcmfkdhadmfgkaaDoor.Ax Go.Lib

def BiR (f n : Nat) (l i : Value) : Prop := ∃ k : Nat, k ≤ n ∧ i = .int .i64 k ∧ l = .int .u32 (f / 2 ^ k : Nat)
theorem bit_any (f n : Nat) (hf : f < 4294967296) (hn : n ≤ 1000) (w : World) :
    Calls Tryd.prog 43 #[.int .u32 f, .int .i64 n] w fun e w' => e = .returned (.int .i64 (f / 2 ^ n % 2 : Nat)) ∧ w = w' := by
  go_enter Tryd.func43, Tryd.ntmps43
  go_wp2_with fail
  go_loop [0, 5] (fun l i => BiR f n l i) (fun _ i => n - (intOf i).toNat)
  case atStart => exact ⟨0, Nat.zero_le _, rfl, by simp⟩
  case round =>
    obtain ⟨k, hk, rfl, rfl⟩ := hrel
    have hle : f / 2 ^ k ≤ f := Nat.div_le_self _ _
    have HS := Lib.hid (show f / 2 ^ (k + 1) = f / 2 ^ k / 2 by rw [Nat.pow_succ, Nat.div_div_eq_div_mul])
    by_cases hlt : k < n
    · have hd : decide ((k : Int) < n) = true := by simpa using hlt
      generalize f / 2 ^ k = x at *
      go_wp2
      go_round
      case rel => exact ⟨k + 1, by omega, by go_num, by rw [HS.out]; first | rfl | simp⟩
      case measure => simp [intOf]; omega
    · obtain rfl : k = n := by omega
      clear HS
      generalize hx : f / 2 ^ k = x at *
      have HX := Lib.hid hx
      clear hx
      go_wp2
      go_ret
      exact ⟨ret_int (by rw [← HX.out]; simp), rfl⟩
theorem refstate_in (f k : Nat) (a b : Int) (hf : f < 4294967296) (ha : 0 ≤ a ∧ a < 4) (hb : 0 ≤ b ∧ b < 4) (hk : (k : Int) = 4 * b + a) (w : World) :
    Calls Tryd.prog 12 #[.int .u32 f, .int .i64 a, .int .i64 b] w fun e w' => e = .returned (.int .i64 (st f k)) ∧ w = w' := by
  have h1 := fun W => bit_any f (2 * k) hf (by omega) W
  have h2 := fun W => bit_any f (2 * k + 1) hf (by omega) W
  have e1 : 8 * b + 2 * a = ((2 * k : Nat) : Int) := by omega
  have HS := Lib.hid (st_bit f k)
  have l1 := Nat.mod_lt (f / 2 ^ (2 * k)) (show 2 > 0 by decide)
  have l2 := Nat.mod_lt (f / 2 ^ (2 * k + 1)) (show 2 > 0 by decide)
  have e3 : ((2 * k : Nat) : Int) + 1 = ((2 * k + 1 : Nat) : Int) := by omega
  obtain ⟨n1, hn1⟩ : ∃ n1 : Nat, n1 = 2 * k := ⟨_, rfl⟩
  obtain ⟨n2, hn2⟩ : ∃ n2 : Nat, n2 = 2 * k + 1 := ⟨_, rfl⟩
  rw [← hn1] at h1 e1
  rw [← hn2] at h2
  have e2 : (n1 : Int) + 1 = (n2 : Int) := by omega
  rw [← hn2, ← hn1] at HS
  rw [← hn1] at l1
  rw [← hn2] at l2
  generalize f / 2 ^ n1 % 2 = x1 at *
  generalize f / 2 ^ n2 % 2 = x2 at *
  have hn : n1 ≤ 31 := by omega
  clear hn1 hn2 e3 hk
  go_enter Tryd.func12, Tryd.ntmps12
  go_wp2_with fail
  with_reducible refine (h1 _).mono ?_
  rintro e w' ⟨rfl, rfl⟩
  go_wp2_with fail
  with_reducible refine (h2 _).mono ?_
  rintro e w' ⟨rfl, rfl⟩
  go_wp2
  go_ret
  exact ⟨ret_int (by rw [HS.out]; omega), rfl⟩
theorem refstate_out (f a b : Int) (h : ¬ (0 ≤ a ∧ a < 4 ∧ 0 ≤ b ∧ b < 4)) (w : World) :
    Calls Tryd.prog 12 #[.int .u32 f, .int .i64 a, .int .i64 b] w fun e w' => e = .returned (.int .i64 0) ∧ w = w' := by
  by_cases h1 : a < 0
  · go_enter Tryd.func12, Tryd.ntmps12
    go_wp2
    go_ret
    exact ⟨rfl, rfl⟩
  · by_cases h2 : b < 0
    · go_enter Tryd.func12, Tryd.ntmps12
      go_wp2
      go_ret
      exact ⟨rfl, rfl⟩
    · by_cases h3 : 3 < a
      · go_enter Tryd.func12, Tryd.ntmps12
        go_wp2
        go_ret
        exact ⟨rfl, rfl⟩
      · have h4 : 3 < b := by omega
        go_enter Tryd.func12, Tryd.ntmps12
        go_wp2
        go_ret
        exact ⟨rfl, rfl⟩
/-! States: a list of ints. -/
def ints (s : Nat → Nat) (k : Nat) : List Value := (List.range k).map fun i => .int .i64 (s i)
theorem ints_len (s : Nat → Nat) (k : Nat) : (ints s k).length = k := by simp [ints]
theorem ints_next (s : Nat → Nat) (k : Nat) : ints s (k + 1) = ints s k ++ [.int .i64 (s k)] := by simp [ints, List.range_succ]
theorem int_info : (Tryd.prog.info? 3).map (fun i => (i.zero, i.size, i.bytes)) = some (some (.int .i64 0), 1, 8) := by kernel_rfl
def StR (w : World) (f : Nat) (s i : Value) (wr : World) : Prop := ∃ b : Nat, b ≤ 4 ∧ i = .int .i64 b ∧ wr.ownsRow w.heap.size 3 1 s (4 * b) (ints (st f) (4 * b)) ∧ Below w.heap.size w wr
def StR2 (w : World) (f b : Nat) (s i : Value) (wr : World) : Prop := ∃ a : Nat, a ≤ 4 ∧ i = .int .i64 a ∧ wr.ownsRow w.heap.size 3 1 s (4 * b + a) (ints (st f) (4 * b + a)) ∧ Below w.heap.size w wr
set_option maxRecDepth 100000 in
set_option maxHeartbeats 1000000 in
theorem refstates_any (f : Nat) (hf : f < 4294967296) (w : World) :
    Calls Tryd.prog 66 #[.int .u32 f] w fun e w' => ∃ v, e = .returned v ∧ w'.ownsRow w.heap.size 3 1 v 16 (ints (st f) 16) ∧ Below w.heap.size w w' := by
  obtain ⟨i0, hi0, hz0, hz1, hz2⟩ := info_parts int_info
  have HO := Lib.hid (World.ownsRow_made (base := w.heap.size) (e := 3) (size := 1) w #[] 0 (Nat.le_refl _) (Nat.zero_le _) (by simp))
  go_enter Tryd.func66, Tryd.ntmps66
  go_wp2_with fail
  go_loopw [3, 4] (fun s i wr => StR w f s i wr) (fun _ i _ => 4 - (intOf i).toNat)
  case atStart => exact ⟨0, Nat.zero_le _, rfl, HO.out, by go_grown⟩
  case round =>
    obtain ⟨b, hb4, rfl, hown, hb⟩ := hrel
    by_cases hlt : b < 4
    · have hdb : decide ((b : Int) < 4) = true := by simp; omega
      go_wp2_with fail
      clear hdb
      go_loopw [3, 5] (fun s i wr => StR2 w f b s i wr) (fun _ i _ => 4 - (intOf i).toNat)
      case atStart => exact ⟨0, Nat.zero_le _, rfl, hown, hb⟩
      case round =>
        clear hown hb
        obtain ⟨a, ha4, rfl, hown, hb⟩ := hrel
        have hz := hb.size
        by_cases hla : a < 4
        · have hst := fun W => refstate_in f (4 * b + a) (a : Int) (b : Int) hf (by omega) (by omega) (by omega) W
          have HN := Lib.hid (ints_next (st f) (4 * b + a))
          generalize hx : st f (4 * b + a) = x at *
          clear hx
          go_wp2_with fail
          with_reducible refine (hst _).mono ?_
          rintro e w' ⟨rfl, rfl⟩
          have hown2 := hown.alloc (.cells #[.int .i64 x] 3)
          have hnew : ∀ j u, ([.int .i64 x] : List Value)[j]? = some u → (wr.alloc (.cells #[.int .i64 x] 3)).cell? ((⟨wr.heap.size, 0, none⟩ : Addr).add j) = some u := fun j u hu => by
            rw [Addr.add_lit, Nat.zero_add, (Blk.newAt wr _ _ _ rfl).cell j]
            simpa using hu
          clear hst hown
          go_wp2_with (at_builtin; refine wpList_append_own _ rfl _ _ 94 rfl w.heap.size 3 i0 _ 1 8 Tryd.underlying94 hi0 hz0 hz1 hz2 rfl (by decide) _ _ _ rfl hown2 ⟨wr.heap.size, 0, none⟩ 1 1 [.int .i64 x] rfl rfl hnew (by intro u hu; simp at hu; subst hu; rfl) (by unfold maxLen; omega) (by omega) (by simp; omega) ?_)
          intro v' w' hown' hgr _
          have hb' : Below w.heap.size w w' := (hb.alloc hz _).grown hgr (by simp; omega) (fun q hq => (hown2.lt q hq).1)
          clear hgr hnew hown2
          go_wp2_with fail
          go_roundw
          case rel => exact ⟨a + 1, by omega, by go_num, by rw [← Nat.add_assoc, HN.out]; exact hown', hb'⟩
          case measure => simp [intOf]; omega
        · obtain rfl : a = 4 := by omega
          go_wp2_with fail
          go_roundw
          case rel => exact ⟨b + 1, by omega, by go_num, hown, hb⟩
          case measure => simp [intOf]; omega
    · obtain rfl : b = 4 := by omega
      go_wp2_with fail
      go_ret
      exact ⟨_, rfl, hown, hb⟩
end Go.Proofs.YtcmfkdhadmfgkaaDoor.Si

/- The document's own leaves: Of, Cells. -/
namespace Go.Proofs.YtcmfkdhadmfgkaaDoor.Si
open Go.RowKit Go.Proofs.YtcmfkdhadmfgkaaDoor.Ba Go.Proofs.YtcmfkdhadmfgkaaDoor.Se Go.Proofs.YtcmfkdhadmfgkaaDoor.Ax Go.Lib

/-- The word of sixteen states, from the last one on. -/
def ofF (s : Nat → Nat) : Nat → Nat
  | 0 => 0
  | j + 1 => 4 * ofF s j + s (15 - j)
theorem ofF_lt (s : Nat → Nat) (hs : ∀ i, s i < 4) : ∀ j, ofF s j < 4 ^ j
  | 0 => by simp [ofF]
  | j + 1 => by
    have := ofF_lt s hs j
    have h2 := hs (15 - j)
    unfold ofF
    rw [Nat.pow_succ]
    omega
theorem st_zero (n d : Nat) (hd : d < 4) : st (4 * n + d) 0 = d := by unfold st; simp; omega
theorem st_succ (n d i : Nat) (hd : d < 4) : st (4 * n + d) (i + 1) = st n i := by
  unfold st
  rw [show 2 ^ (2 * (i + 1)) = 4 * 2 ^ (2 * i) by rw [show 2 * (i + 1) = 2 * i + 2 by omega, Nat.pow_add]; omega, ← Nat.div_div_eq_div_mul, show (4 * n + d) / 4 = n by omega]
theorem st_ofF (s : Nat → Nat) (hs : ∀ i, s i < 4) : ∀ j, j ≤ 16 → ∀ i, i < j → st (ofF s j) i = s (16 - j + i)
  | 0, _, i, hi => by omega
  | j + 1, hj, 0, _ => by
    unfold ofF
    rw [st_zero _ _ (hs _), show 16 - (j + 1) + 0 = 15 - j by omega]
  | j + 1, hj, i + 1, hi => by
    unfold ofF
    rw [st_succ _ _ _ (hs _), st_ofF s hs j (by omega) i (by omega), show 16 - j + i = 16 - (j + 1) + (i + 1) by omega]
theorem ofF_eq (s : Nat → Nat) (hs : ∀ i, s i < 4) (g : Nat) (hg : g < 4294967296) (h : ∀ i, i < 16 → st g i = s i) : ofF s 16 = g :=
  st_ext _ _ (ofF_lt s hs 16) hg fun j hj => by rw [st_ofF s hs 16 (Nat.le_refl _) j hj, h j hj]; simp
def OfR (s : Nat → Nat) (n i : Value) : Prop := ∃ j : Nat, j ≤ 16 ∧ i = .int .i64 (15 - (j : Int)) ∧ n = .int .u32 (ofF s j)
set_option maxHeartbeats 1000000 in
theorem refof9_any (s : Nat → Nat) (hs : ∀ i, s i < 4) (g cap : Nat) (w : World) (hr : ∀ i, i < 16 → w.cell? ⟨g, i, none⟩ = some (.int .i64 (s i))) (_hg : g < w.heap.size) :
    Calls Tryd.prog 46 #[.slice (some ⟨g, 0, none⟩) 16 cap] w fun e w' => e = .returned (.int .u32 (ofF s 16)) ∧ w = w' := by
  have HR := Lib.hid hr
  clear hr
  go_enter Tryd.func46, Tryd.ntmps46
  go_wp2_with fail
  go_loop [3, 4] (fun n i => OfR s n i) (fun _ i => (intOf i + 1).toNat)
  case atStart => exact ⟨0, Nat.zero_le _, rfl, rfl⟩
  case round =>
    obtain ⟨j, hj, rfl, rfl⟩ := hrel
    by_cases hlt : j < 16
    · obtain ⟨q, hq⟩ : ∃ q : Nat, 15 - (j : Int) = q := ⟨15 - j, by omega⟩
      have hc := HR.out q (by omega)
      have hl := ofF_lt s hs j
      have h4 : 4 ^ j ≤ 4 ^ 15 := Nat.pow_le_pow_right (by decide) (by omega)
      have HN := Lib.hid (show ofF s (j + 1) = 4 * ofF s j + s q by rw [show q = 15 - j by omega]; rfl)
      have hsq := hs q
      have hx : ofF s j < 4 ^ 15 := Nat.lt_of_lt_of_le hl h4
      clear hl h4
      generalize ofF s j = x at *
      generalize s q = y at *
      rw [hq]
      have hq15 : q ≤ 15 := by omega
      have HQ := Lib.hid hq
      clear hq
      go_wp2
      go_round
      case rel => exact ⟨j + 1, by omega, by first | rfl | (have := HQ.out; simp <;> omega), by (rw [HN.out]) <;> go_num⟩
      case measure => simp [intOf]
    · obtain rfl : j = 16 := by omega
      go_wp2
      go_ret
      exact ⟨rfl, rfl⟩
/-! Cells. -/
theorem pos_two (f i : Nat) : pos f (2 * i + 1) = pos f (2 * i) ++ (if st f i % 2 = 1 then [2 * i] else []) ∧ pos f (2 * (i + 1)) = pos f (2 * i + 1) ++ (if st f i / 2 % 2 = 1 then [2 * i + 1] else []) := by
  have h := st_test f i
  refine ⟨?_, ?_⟩
  · show pos f (2 * i) ++ _ = _
    rw [h]
    cases f.testBit (2 * i) <;> cases f.testBit (2 * i + 1) <;> rfl
  · show pos f (2 * i + 1) ++ _ = _
    rw [h]
    cases f.testBit (2 * i) <;> cases f.testBit (2 * i + 1) <;> rfl
/-- What is left of a state, and how many bits are done. -/
def RcR (w : World) (f : Nat) (A B : Int) (s i : Value) (wr : World) : Prop :=
  ∃ k : Nat, k ≤ 16 ∧ i = .int .i64 k ∧ wr.ownsRow w.heap.size 67 3 s (pos f (2 * k)).length (flat ((pos f (2 * k)).map (cAt A B))) ∧ Below w.heap.size w wr
def RcR2 (w : World) (f k : Nat) (A B : Int) (s x h : Value) (wr : World) : Prop :=
  ∃ j : Nat, j ≤ 2 ∧ h = .int .i64 j ∧ x = .int .i64 (st f k / 2 ^ j : Nat) ∧ wr.ownsRow w.heap.size 67 3 s (pos f (2 * k + j)).length (flat ((pos f (2 * k + j)).map (cAt A B))) ∧ Below w.heap.size w wr
theorem pos_next (f k j : Nat) (hj : j < 2) : pos f (2 * k + j + 1) = pos f (2 * k + j) ++ (if st f k / 2 ^ j % 2 = 1 then [2 * k + j] else []) := by
  obtain ⟨h1, h2⟩ := pos_two f k
  rcases (show j = 0 ∨ j = 1 by omega) with rfl | rfl
  · simpa using h1
  · simpa [Nat.mul_add] using h2
theorem pos_len_le (f n : Nat) : (pos f n).length ≤ n := by
  induction n with
  | zero => simp [pos]
  | succ n ih => unfold pos; rw [List.length_append]; split <;> simp <;> omega
set_option maxRecDepth 100000 in
set_option maxHeartbeats 1000000 in
theorem refcells_new (f : Nat) (A B : Int) (hf : f < 4294967296) (hA : -4611686018427387904 ≤ A ∧ A ≤ 4611686018427387904) (hB : -4611686018427387904 ≤ B ∧ B ≤ 4611686018427387904) (w : World) :
    Calls Tryd.prog 47 #[.int .u32 f, .int .i64 A, .int .i64 B] w fun e w' => ∃ v, e = .returned v ∧ SetAt w' v ((pos f 32).map (cAt A B)) ∧ (∀ b, v.ownBlock = some b → w.heap.size ≤ b) ∧ Below w.heap.size w w' := by
  obtain ⟨i0, hi0, hz0, hz1, hz2⟩ := info_parts raw_info
  have HO := Lib.hid (World.ownsRow_made (base := w.heap.size) (e := 67) (size := 3) w #[] 0 (Nat.le_refl _) (Nat.zero_le _) (by simp))
  go_enter Tryd.func47, Tryd.ntmps47
  go_wp2_with fail
  refine (refstates_any f hf _).mono ?_
  rintro e w1 ⟨v, rfl, hst, hb1⟩
  have hown0 := own_below HO.out hb1
  have hbw : Below w.heap.size w w1 := Ba.below_call (B := w.heap.size) hb1 ((Below.refl _ _).alloc (Nat.le_refl _) _) (by simp)
  obtain ⟨g, cap, cur, rfl, kg, hcur⟩ : ∃ g cap cur, v = .slice (some ⟨g, 0, none⟩) 16 cap ∧ Blk w1 g 3 cur ∧ (∀ i, i < 16 → cur[i]? = some (.int .i64 (st f i))) := by
    rcases hst.2 with ⟨_, hn⟩ | ⟨g, cap, cur, rfl, hbs, hh, _⟩
    · cases hn
    · refine ⟨g, cap, cur, rfl, hh, fun i hi => ?_⟩
      have := hst.cellAt i (by omega)
      have e : Blk w1 g 3 cur := hh
      rw [e.cell i] at this
      rw [this]
      simp [ints, hi]
  clear hst hb1 HO
  have HG := Lib.hid hcur
  clear hcur
  go_wp2_with fail
  go_loopw [7, 15] (fun s i wr => RcR w f A B s i wr ∧ Blk wr g 3 cur) (fun _ i _ => 16 - (intOf i).toNat)
  case atStart => exact ⟨⟨0, Nat.zero_le _, rfl, hown0, hbw⟩, kg⟩
  case round =>
    clear hown0 hbw kg
    obtain ⟨⟨k, hk, rfl, hown, hb⟩, kg⟩ := hrel
    by_cases hlt : k < 16
    · have hc := (kg.cell k).trans (HG.out k hlt)
      have hgl := kg.lt
      have hdb : decide ((k : Int) < 16) = true := by simp; omega
      go_wp2_with fail
      clear hdb
      go_loopw [7, 9, 10] (fun s x h wr => RcR2 w f k A B s x h wr ∧ Blk wr g 3 cur) (fun _ _ h _ => 2 - (intOf h).toNat)
      case atStart => exact ⟨⟨0, Nat.zero_le _, rfl, by simp, hown, hb⟩, kg⟩
      case round =>
        clear hown hb kg hc hgl
        obtain ⟨⟨j, hj, rfl, rfl, hown, hb⟩, kg⟩ := hrel
        have hz := hb.size
        by_cases hjl : j < 2
        · have HP := Lib.hid (pos_next f k j hjl)
          have hle := pos_len_le f (2 * k + j)
          have HX := Lib.hid (show st f k / 2 ^ (j + 1) = st f k / 2 ^ j / 2 by rw [Nat.pow_succ, Nat.div_div_eq_div_mul])
          have HC := Lib.hid (show cAt A B (2 * k + j) = (A + (k : Int) % 4, B + (k : Int) / 4, (j : Int)) by
            unfold cAt
            refine Prod.ext ?_ (Prod.ext ?_ ?_) <;> dsimp only <;> omega)
          have hx4 : st f k / 2 ^ j < 4 := Nat.lt_of_le_of_lt (Nat.div_le_self _ _) (st_lt f k)
          generalize st f k / 2 ^ j = x at *
          by_cases hb2 : x % 2 = 1
          · rw [if_pos hb2] at HP
            have ht : ((x : Int) % 2 == 1) = true := by simp; omega
            obtain ⟨xa, hxa⟩ : ∃ xa : Int, xa = A + (k : Int) % 4 := ⟨_, rfl⟩
            obtain ⟨xb, hxb⟩ : ∃ xb : Int, xb = B + (k : Int) / 4 := ⟨_, rfl⟩
            have ew1 : wrap64 xa = xa := by unfold wrap64; omega
            have ew2 : wrap64 xb = xb := by unfold wrap64; omega
            rw [← hxa, ← hxb] at HC
            have ew4 := hxa.symm
            have ew5 := hxb.symm
            have hown2 := hown.alloc (.cells #[.int .i64 xa, .int .i64 xb, .int .i64 j] 67)
            have hnew := news1 wr 67 (xa, xb, (j : Int))
            have kg2 := kg.alloc (.cells #[.int .i64 xa, .int .i64 xb, .int .i64 j] 67)
            clear hxa hxb hb2 kg hown
            go_wp2_with (at_builtin; refine wpList_append_own _ rfl _ _ 36 rfl w.heap.size 67 i0 _ 3 24 Tryd.underlying36 hi0 hz0 hz1 hz2 rfl (by decide) _ _ _ rfl hown2 ⟨wr.heap.size, 0, none⟩ 1 1 (flat [(xa, xb, (j : Int))]) rfl (by simp [flat_len]) hnew (one_flat _) (by unfold maxLen; omega) (by omega) (by simp; omega) ?_)
            intro v' w' hown' hgr _
            have hb' : Below w.heap.size w w' := (hb.alloc hz _).grown hgr (by simp; omega) (fun q hq => (hown2.lt q hq).1)
            have kg' := kg2.grown hgr (own_blk_ne hown2 kg2 (by decide))
            rw [← HC.out] at hown'
            clear ew1 ew2 ew4 ew5 hgr hnew hown2 kg2 ht
            have HF := Lib.hid (show flat ((pos f (2 * k + (j + 1))).map (cAt A B)) = flat ((pos f (2 * k + j)).map (cAt A B)) ++ flat [cAt A B (2 * k + j)] by rw [← Nat.add_assoc, HP.out, List.map_append, flat_app]; rfl)
            have HL := Lib.hid (show (pos f (2 * k + (j + 1))).length = (pos f (2 * k + j)).length + 1 by rw [← Nat.add_assoc, HP.out, List.length_append]; rfl)
            clear hle
            go_wp2_with fail
            refine ⟨⟨⟨j + 1, by omega, by go_num, by rw [HX.out]; simp, ?_, hb'⟩, kg'⟩, by simp [intOf]; omega⟩
            rw [HF.out, HL.out]
            exact hown'
          · rw [if_neg hb2, List.append_nil] at HP
            have ht : ((x : Int) % 2 == 1) = false := by simp; omega
            clear hb2
            go_wp2_with fail
            refine ⟨⟨⟨j + 1, by omega, by go_num, by rw [HX.out]; simp, ?_, hb⟩, kg⟩, by simp [intOf]; omega⟩
            rw [← Nat.add_assoc, HP.out]
            exact hown
        · obtain rfl : j = 2 := by omega
          go_wp2_with fail
          exact ⟨⟨⟨k + 1, by omega, by go_num, hown, hb⟩, kg⟩, by simp [intOf]; omega⟩
    · obtain rfl : k = 16 := by omega
      have hs := set_own (L := (pos f 32).map (cAt A B)) (by rw [List.length_map]; exact hown)
      have hnw : ∀ b, u7.ownBlock = some b → w.heap.size ≤ b := fun b hb' => (hown.lt b hb').1
      clear hown
      go_wp2_with fail
      go_ret
      exact ⟨_, rfl, hs, hnw, hb⟩
theorem refcells_any (f : Nat) (A B : Int) (hf : f < 4294967296) (hA : -4611686018427387904 ≤ A ∧ A ≤ 4611686018427387904) (hB : -4611686018427387904 ≤ B ∧ B ≤ 4611686018427387904) (w : World) :
    Calls Tryd.prog 47 #[.int .u32 f, .int .i64 A, .int .i64 B] w fun e w' => ∃ v, e = .returned v ∧ SetAt w' v ((pos f 32).map (cAt A B)) ∧ Below w.heap.size w w' := by
  refine (refcells_new f A B hf hA hB w).mono ?_
  rintro e w' ⟨v, rfl, hs, _, hb⟩
  exact ⟨v, rfl, hs, hb⟩
end Go.Proofs.YtcmfkdhadmfgkaaDoor.Si

/- The document's own leaves of a set: Leaf, Leaves. -/
namespace Go.Proofs.YtcmfkdhadmfgkaaDoor.Bk
open Go.RowKit Go.Proofs.YtcmfkdhadmfgkaaDoor.Ba Go.Proofs.YtcmfkdhadmfgkaaDoor.Si Go.Lib
open Go.Proofs.YtcmfkdhadmfgkaaDoor.Se (SetAt refhas_any)
abbrev C3 := Int × Int × Int

/-- The state of the k-th point of four times four from one on. -/
def rlS (S : List C3) (a b : Int) (k : Nat) : Nat := (if (a + ((k % 4 : Nat) : Int), b + ((k / 4 : Nat) : Int), (0 : Int)) ∈ S then 1 else 0) + (if (a + ((k % 4 : Nat) : Int), b + ((k / 4 : Nat) : Int), (1 : Int)) ∈ S then 2 else 0)
theorem rlS_lt (S : List C3) (a b : Int) (k : Nat) : rlS S a b k < 4 := by unfold rlS; split <;> split <;> omega
def L1R (w : World) (S : List C3) (a b : Int) (s t : Value) (wr : World) : Prop := ∃ j : Nat, j ≤ 4 ∧ t = .int .i64 (b + j) ∧ wr.ownsRow w.heap.size 3 1 s (4 * j) (ints (rlS S a b) (4 * j)) ∧ Below w.heap.size w wr
def L2R (w : World) (S : List C3) (a b : Int) (j : Nat) (s t : Value) (wr : World) : Prop := ∃ i : Nat, i ≤ 4 ∧ t = .int .i64 (a + i) ∧ wr.ownsRow w.heap.size 3 1 s (4 * j + i) (ints (rlS S a b) (4 * j + i)) ∧ Below w.heap.size w wr
theorem new_int (w : World) (x : Int) : ∀ j u, ([.int .i64 x] : List Value)[j]? = some u → (w.alloc (.cells #[.int .i64 x] 3)).cell? ((⟨w.heap.size, 0, none⟩ : Addr).add j) = some u := fun j u hu => by
  rw [Addr.add_lit, Nat.zero_add, (Blk.newAt w _ _ _ rfl).cell j]
  simpa using hu
theorem one_int (x : Int) : ∀ u ∈ [Value.int .i64 x], u.oneCell' = true := by intro u hu; simp at hu; subst hu; rfl
set_option maxRecDepth 100000 in
set_option maxHeartbeats 2000000 in
theorem leaf10_any (v : Value) (S : List C3) (a b : Int) (w : World) (h : SetAt w v S) (hL : S.length ≤ 1000000) (ha : -1000 ≤ a ∧ a ≤ 1000) (hb : -1000 ≤ b ∧ b ≤ 1000) :
    Calls Tryd.prog 15 #[v, .int .i64 a, .int .i64 b] w fun e w' => e = .returned (.int .u32 (ofF (rlS S a b) 16)) ∧ Below w.heap.size w w' := by
  obtain ⟨i0, hi0, hz0, hz1, hz2⟩ := info_parts int_info
  have HO := Lib.hid (World.ownsRow_made (base := w.heap.size) (e := 3) (size := 1) w #[] 0 (Nat.le_refl _) (Nat.zero_le _) (by simp))
  have HV := Lib.hid h
  clear h
  go_enter Tryd.func15, Tryd.ntmps15
  go_wp2_with fail
  go_loopw [7, 8] (fun s t wr => L1R w S a b s t wr) (fun _ t _ => (b + 4 - intOf t).toNat)
  case atStart => exact ⟨0, Nat.zero_le _, by simp, HO.out, by go_grown⟩
  case round =>
    obtain ⟨j, hj4, rfl, hown, hbw⟩ := hrel
    obtain ⟨y, hy⟩ : ∃ y : Int, b + (j : Int) = y := ⟨_, rfl⟩
    rw [hy]
    have wb4 : wrap64 (b + 4) = b + 4 := IntWalk.wrap64_in _ (by omega)
    by_cases hlt : j < 4
    · have hdb : decide (y < b + 4) = true := by simp; omega
      have hyb : -2000 ≤ y ∧ y ≤ 2000 := by omega
      have HY := Lib.hid hy
      clear hy
      go_wp2_with fail
      clear hdb
      go_loopw [7, 9] (fun s t wr => L2R w S a b j s t wr) (fun _ t _ => (a + 4 - intOf t).toNat)
      case atStart => exact ⟨0, Nat.zero_le _, by simp, hown, hbw⟩
      case round =>
        clear hown hbw
        obtain ⟨i, hi4, rfl, hown, hbw⟩ := hrel
        have hz := hbw.size
        obtain ⟨x, hx⟩ : ∃ x : Int, a + (i : Int) = x := ⟨_, rfl⟩
        rw [hx]
        have wa4 : wrap64 (a + 4) = a + 4 := IntWalk.wrap64_in _ (by omega)
        by_cases hla : i < 4
        · have hdx : decide (x < a + 4) = true := by simp; omega
          have hxb : -2000 ≤ x ∧ x ≤ 2000 := by omega
          have hn : rlS S a b (4 * j + i) = (if (x, y, (0 : Int)) ∈ S then 1 else 0) + (if (x, y, (1 : Int)) ∈ S then 2 else 0) := by
            unfold rlS
            rw [show (4 * j + i) % 4 = i by omega, show (4 * j + i) / 4 = j by omega, hx, HY.out]
          have HN := Lib.hid (ints_next (rlS S a b) (4 * j + i))
          have HX := Lib.hid hx
          have h0 := fun W (hb : Below w.heap.size w W) => refhas_any v S (x, y, 0) W (HV.out.below hb) hL
          have h1 := fun W (hb : Below w.heap.size w W) => refhas_any v S (x, y, 1) W (HV.out.below hb) hL
          obtain ⟨d0, hd0⟩ : ∃ d, decide ((x, y, (0 : Int)) ∈ S) = d := ⟨_, rfl⟩
          obtain ⟨d1, hd1⟩ : ∃ d, decide ((x, y, (1 : Int)) ∈ S) = d := ⟨_, rfl⟩
          rw [hd0] at h0
          rw [hd1] at h1
          have hn2 : rlS S a b (4 * j + i) = (if d0 = true then 1 else 0) + (if d1 = true then 2 else 0) := by rw [hn, ← hd0, ← hd1]; simp
          have HN2 := Lib.hid hn2
          clear hd0 hd1 hn hn2 hx
          have ex : x + 1 = a + ((i + 1 : Nat) : Int) := by have := HX.out; omega
          have hx1 : wrap64 (x + 1) = x + 1 := IntWalk.wrap64_in _ (by omega)
          have EX := Lib.hid ex
          clear ex
          have hm1 : 4 * j + i + 1 ≤ maxLen := by unfold maxLen; omega
          have hm2 : (4 * j + i + 1) * 8 ≤ 140737488355328 := by omega
          cases d0 <;> cases d1
          · (go_wp2_with fail; refine (h0 _ hbw).mono ?_; rintro e w1 ⟨rfl, hb1⟩; have hbw1 := hbw.trans (hb1.mono hz); have hown1 := own_below hown hb1; go_wp2_with fail; refine (h1 _ hbw1).mono ?_; rintro e w2 ⟨rfl, hb2⟩; have hbw2 := hbw1.trans (hb2.mono hbw1.size); have hown2 := (own_below hown1 hb2).alloc (.cells #[.int .i64 0] 3); have hz2' := hbw2.size; have hnew := new_int w2 0; have hone := one_int 0; have hbs : w.heap.size ≤ (w2.alloc (.cells #[.int .i64 0] 3)).heap.size := Nat.le_trans hz2' (by simp); clear h0 h1 hb1 hb2 hown hown1 hbw hbw1; go_wp2_with (at_builtin; refine wpList_append_own_at _ rfl _ _ 94 rfl w.heap.size 3 i0 _ 1 8 Tryd.underlying94 hi0 hz0 hz1 hz2 rfl (by decide) _ _ _ rfl hown2 ⟨w2.heap.size, 0, none⟩ 1 1 [.int .i64 0] rfl rfl hnew hone hm1 hm2 hbs ?_); intro v8 w8 ho8 hgr8 _ _; have hb8 := (hbw2.alloc hz2' _).grown hgr8 hbs (fun q hq => (hown2.lt q hq).1); clear hgr8 hnew hown2 hbw2; go_wp2_with fail; exact ⟨⟨i + 1, by omega, by rw [EX.out], by rw [← Nat.add_assoc, HN.out, HN2.out]; exact ho8, hb8⟩, by have := HX.out; simp [intOf]; omega⟩)
          · (go_wp2_with fail; refine (h0 _ hbw).mono ?_; rintro e w1 ⟨rfl, hb1⟩; have hbw1 := hbw.trans (hb1.mono hz); have hown1 := own_below hown hb1; go_wp2_with fail; refine (h1 _ hbw1).mono ?_; rintro e w2 ⟨rfl, hb2⟩; have hbw2 := hbw1.trans (hb2.mono hbw1.size); have hown2 := (own_below hown1 hb2).alloc (.cells #[.int .i64 2] 3); have hz2' := hbw2.size; have hnew := new_int w2 2; have hone := one_int 2; have hbs : w.heap.size ≤ (w2.alloc (.cells #[.int .i64 2] 3)).heap.size := Nat.le_trans hz2' (by simp); clear h0 h1 hb1 hb2 hown hown1 hbw hbw1; go_wp2_with (at_builtin; refine wpList_append_own_at _ rfl _ _ 94 rfl w.heap.size 3 i0 _ 1 8 Tryd.underlying94 hi0 hz0 hz1 hz2 rfl (by decide) _ _ _ rfl hown2 ⟨w2.heap.size, 0, none⟩ 1 1 [.int .i64 2] rfl rfl hnew hone hm1 hm2 hbs ?_); intro v8 w8 ho8 hgr8 _ _; have hb8 := (hbw2.alloc hz2' _).grown hgr8 hbs (fun q hq => (hown2.lt q hq).1); clear hgr8 hnew hown2 hbw2; go_wp2_with fail; exact ⟨⟨i + 1, by omega, by rw [EX.out], by rw [← Nat.add_assoc, HN.out, HN2.out]; exact ho8, hb8⟩, by have := HX.out; simp [intOf]; omega⟩)
          · (go_wp2_with fail; refine (h0 _ hbw).mono ?_; rintro e w1 ⟨rfl, hb1⟩; have hbw1 := hbw.trans (hb1.mono hz); have hown1 := own_below hown hb1; go_wp2_with fail; refine (h1 _ hbw1).mono ?_; rintro e w2 ⟨rfl, hb2⟩; have hbw2 := hbw1.trans (hb2.mono hbw1.size); have hown2 := (own_below hown1 hb2).alloc (.cells #[.int .i64 1] 3); have hz2' := hbw2.size; have hnew := new_int w2 1; have hone := one_int 1; have hbs : w.heap.size ≤ (w2.alloc (.cells #[.int .i64 1] 3)).heap.size := Nat.le_trans hz2' (by simp); clear h0 h1 hb1 hb2 hown hown1 hbw hbw1; go_wp2_with (at_builtin; refine wpList_append_own_at _ rfl _ _ 94 rfl w.heap.size 3 i0 _ 1 8 Tryd.underlying94 hi0 hz0 hz1 hz2 rfl (by decide) _ _ _ rfl hown2 ⟨w2.heap.size, 0, none⟩ 1 1 [.int .i64 1] rfl rfl hnew hone hm1 hm2 hbs ?_); intro v8 w8 ho8 hgr8 _ _; have hb8 := (hbw2.alloc hz2' _).grown hgr8 hbs (fun q hq => (hown2.lt q hq).1); clear hgr8 hnew hown2 hbw2; go_wp2_with fail; exact ⟨⟨i + 1, by omega, by rw [EX.out], by rw [← Nat.add_assoc, HN.out, HN2.out]; exact ho8, hb8⟩, by have := HX.out; simp [intOf]; omega⟩)
          · (go_wp2_with fail; refine (h0 _ hbw).mono ?_; rintro e w1 ⟨rfl, hb1⟩; have hbw1 := hbw.trans (hb1.mono hz); have hown1 := own_below hown hb1; go_wp2_with fail; refine (h1 _ hbw1).mono ?_; rintro e w2 ⟨rfl, hb2⟩; have hbw2 := hbw1.trans (hb2.mono hbw1.size); have hown2 := (own_below hown1 hb2).alloc (.cells #[.int .i64 3] 3); have hz2' := hbw2.size; have hnew := new_int w2 3; have hone := one_int 3; have hbs : w.heap.size ≤ (w2.alloc (.cells #[.int .i64 3] 3)).heap.size := Nat.le_trans hz2' (by simp); clear h0 h1 hb1 hb2 hown hown1 hbw hbw1; go_wp2_with (at_builtin; refine wpList_append_own_at _ rfl _ _ 94 rfl w.heap.size 3 i0 _ 1 8 Tryd.underlying94 hi0 hz0 hz1 hz2 rfl (by decide) _ _ _ rfl hown2 ⟨w2.heap.size, 0, none⟩ 1 1 [.int .i64 3] rfl rfl hnew hone hm1 hm2 hbs ?_); intro v8 w8 ho8 hgr8 _ _; have hb8 := (hbw2.alloc hz2' _).grown hgr8 hbs (fun q hq => (hown2.lt q hq).1); clear hgr8 hnew hown2 hbw2; go_wp2_with fail; exact ⟨⟨i + 1, by omega, by rw [EX.out], by rw [← Nat.add_assoc, HN.out, HN2.out]; exact ho8, hb8⟩, by have := HX.out; simp [intOf]; omega⟩)
        · obtain rfl : i = 4 := by omega
          have hdx : decide (x < a + 4) = false := by simp; omega
          clear hx
          have ey : y + 1 = b + ((j + 1 : Nat) : Int) := by have := HY.out; omega
          have hy1 : wrap64 (y + 1) = y + 1 := IntWalk.wrap64_in _ (by omega)
          have EY := Lib.hid ey
          clear ey
          go_wp2_with fail
          exact ⟨⟨j + 1, by omega, by rw [EY.out], by rw [Nat.mul_succ]; exact hown, hbw⟩, by have := HY.out; simp [intOf]; omega⟩
    · obtain rfl : j = 4 := by omega
      have hdb : decide (y < b + 4) = false := by simp; omega
      clear hy
      obtain ⟨g, cap, cur, rfl, kg, hcur⟩ : ∃ g cap cur, u7 = .slice (some ⟨g, 0, none⟩) 16 cap ∧ Blk wr g 3 cur ∧ (∀ i, i < 16 → cur[i]? = some (.int .i64 (rlS S a b i))) := by
        rcases hown.2 with ⟨_, hn⟩ | ⟨g, cap, cur, rfl, hbs, hh, _⟩
        · cases hn
        · refine ⟨g, cap, cur, rfl, hh, fun i hi => ?_⟩
          have := hown.cellAt i (by omega)
          have e : Blk wr g 3 cur := hh
          rw [e.cell i] at this
          rw [this]
          simp [ints, hi]
      have hof := fun W (e : W = wr) => refof9_any (rlS S a b) (rlS_lt S a b) g cap W (fun i hi => by rw [e]; exact (kg.cell i).trans (hcur i hi)) (by rw [e]; exact kg.lt)
      clear hown hcur kg
      go_wp2_with fail
      refine (hof _ rfl).mono ?_
      rintro e w' ⟨rfl, rfl⟩
      go_wp2_with fail
      go_ret
      exact ⟨rfl, hbw⟩
end Go.Proofs.YtcmfkdhadmfgkaaDoor.Bk

/- The document's own cells of four leaves. -/
namespace Go.Proofs.YtcmfkdhadmfgkaaDoor.Bk
open Go.RowKit Go.Proofs.YtcmfkdhadmfgkaaDoor.Ba Go.Proofs.YtcmfkdhadmfgkaaDoor.Si Go.Lib
open Go.Proofs.YtcmfkdhadmfgkaaDoor.Se (SetAt flat flat_app flat_one one_flat flat_len news1 set_own raw_info refof_any ofL)

def okH (l : Nat) (c : C3) : Bool := decide (1 < l) || c.2.2 == 0
def clM (q : Nat → Nat) (i : Nat) : List C3 := (pos (q i) 32).map (cAt ((i % 2 * 4 : Nat) : Int) ((i / 2 * 4 : Nat) : Int))
def clT (l : Nat) (q : Nat → Nat) : Nat → List C3
  | 0 => []
  | i + 1 => clT l q i ++ (clM q i).filter (okH l)
theorem set_lt {w : World} {v : Value} {L : List C3} (h : SetAt w v L) (b : Nat) (hb : v.ownBlock = some b) : b < w.heap.size := by
  rcases h with ⟨rfl, _⟩ | ⟨g, cap, rfl, _, hr⟩
  · simp [Value.ownBlock] at hb
  · have : g = b := by simpa [Value.ownBlock] using hb
    rw [← this]
    exact hr.2
theorem set_grown {w w' : World} {v : Value} {L : List C3} {row : Option Nat} (h : SetAt w v L) (hg : w.grownBy w' row) (hd : ∀ b, v.ownBlock = some b → row ≠ some b) : SetAt w' v L := by
  rcases h with h | ⟨g, cap, rfl, hc, hr⟩
  · exact .inl h
  · have hb := hg.block g hr.2 (fun e => hd g rfl e.symm)
    refine .inr ⟨g, cap, rfl, hc, fun i d hi => ?_, Nat.lt_of_lt_of_le hr.2 hg.size⟩
    obtain ⟨c0, c1, c2⟩ := hr.1 i d hi
    exact ⟨(World.cell?_of_block (a := ⟨g, i * 3, none⟩) hb).trans c0, (World.cell?_of_block (a := ⟨g, i * 3 + 1, none⟩) hb).trans c1, (World.cell?_of_block (a := ⟨g, i * 3 + 1 + 1, none⟩) hb).trans c2⟩
theorem clM_len (q : Nat → Nat) (i : Nat) : (clM q i).length ≤ 32 := by unfold clM; rw [List.length_map]; exact pos_len_le _ _
theorem clT_len (l : Nat) (q : Nat → Nat) : ∀ i, (clT l q i).length ≤ 32 * i
  | 0 => by simp [clT]
  | i + 1 => by
    have h1 := clT_len l q i
    have h2 := clM_len q i
    have h3 := List.length_filter_le (okH l) (clM q i)
    unfold clT
    rw [List.length_append]
    omega
def C1R (w : World) (l : Nat) (q : Nat → Nat) (s t : Value) (wr : World) : Prop := ∃ i : Nat, i ≤ 4 ∧ t = .int .i64 i ∧ wr.ownsRow w.heap.size 67 3 s (clT l q i).length (flat (clT l q i)) ∧ Below w.heap.size w wr
def C2R (w : World) (l i : Nat) (q : Nat → Nat) (M : List C3) (vM s t : Value) (wr : World) : Prop := ∃ j : Nat, j ≤ M.length ∧ t = .int .i64 j ∧ wr.ownsRow w.heap.size 67 3 s (clT l q i ++ (M.take j).filter (okH l)).length (flat (clT l q i ++ (M.take j).filter (okH l))) ∧ Below w.heap.size w wr ∧ SetAt wr vM M ∧ (∀ b, vM.ownBlock = some b → s.ownBlock ≠ some b ∧ b < wr.heap.size)
set_option maxRecDepth 100000 in
set_option maxHeartbeats 2000000 in
theorem cells10_any (l : Nat) (hl : 1 ≤ l ∧ l ≤ 3) (q : Nat → Nat) (hq : ∀ i, i < 4 → q i < 4294967296) (g cap : Nat) (w : World) (hc : ∀ i, i < 4 → w.cell? ⟨g, i, none⟩ = some (.int .u32 (q i))) (hg : g < w.heap.size) :
    Calls Tryd.prog 16 #[.int .i64 l, .slice (some ⟨g, 0, none⟩) 4 cap] w fun e w' => ∃ v, e = .returned v ∧ SetAt w' v (ofL (clT l q 4)) ∧ Below w.heap.size w w' := by
  obtain ⟨i0, hi0, hz0, hz1, hz2⟩ := info_parts raw_info
  have HO := Lib.hid (World.ownsRow_made (base := w.heap.size) (e := 67) (size := 3) w #[] 0 (Nat.le_refl _) (Nat.zero_le _) (by simp))
  have HC := Lib.hid hc
  clear hc
  go_enter Tryd.func16, Tryd.ntmps16
  go_wp2_with fail
  go_loopw [5, 13] (fun s t wr => C1R w l q s t wr) (fun _ t _ => 4 - (intOf t).toNat)
  case atStart => exact ⟨0, Nat.zero_le _, rfl, HO.out, by go_grown⟩
  case round =>
    obtain ⟨i, hi4, rfl, hown, hbw⟩ := hrel
    have hz := hbw.size
    by_cases hlt : i < 4
    · have hdb : decide ((i : Int) < 4) = true := by simp; omega
      have hcg : wr.cell? ⟨g, i, none⟩ = some (.int .u32 (q i)) := (hbw.cell (p := ⟨g, i, none⟩) hg).trans (HC.out i hlt)
      have hgl : g < wr.heap.size := by omega
      have e1 : ((i % 2 * 4 : Nat) : Int) = (i : Int) % 2 * 4 := by omega
      have e2 : ((i / 2 * 4 : Nat) : Int) = (i : Int) / 2 * 4 := by omega
      have hM : clM q i = (pos (q i) 32).map (cAt ((i : Int) % 2 * 4) ((i : Int) / 2 * 4)) := by unfold clM; rw [e1, e2]
      have hMl := clM_len q i
      have hTl := clT_len l q i
      have HT := Lib.hid (show clT l q (i + 1) = clT l q i ++ (clM q i).filter (okH l) from rfl)
      obtain ⟨pa, hpa⟩ : ∃ p : Int, (i : Int) % 2 * 4 = p := ⟨_, rfl⟩
      obtain ⟨pb, hpb⟩ : ∃ p : Int, (i : Int) / 2 * 4 = p := ⟨_, rfl⟩
      have wa : wrap64 pa = pa := IntWalk.wrap64_in _ (by omega)
      have wb : wrap64 pb = pb := IntWalk.wrap64_in _ (by omega)
      have hrc := fun W => refcells_new (q i) pa pb (hq i hlt) (by omega) (by omega) W
      rw [hpa, hpb] at hM
      rw [← hM] at hrc
      clear hM e1 e2
      generalize clM q i = M at *
      go_wp2_with fail
      refine (hrc _).mono ?_
      rintro e w1 ⟨vM, rfl, hvM, hnM, hb1⟩
      have hown1 := own_below hown hb1
      have hbw1 := hbw.trans (hb1.mono hz)
      obtain ⟨pM, cM, rfl⟩ : ∃ p c, vM = .slice p M.length c := by
        rcases hvM with ⟨rfl, rfl⟩ | ⟨g', cap', rfl, _, _⟩
        · exact ⟨none, 0, rfl⟩
        · exact ⟨_, _, rfl⟩
      have HV := Lib.hid hvM
      have HNo : Hid (∀ b, (Value.slice pM M.length cM).ownBlock = some b → u5.ownBlock ≠ some b ∧ b < w1.heap.size) := Lib.hid fun b hb => ⟨fun e => by have h1 := hnM b hb; have h2 := (hown.lt b e).2; omega, set_lt hvM b hb⟩
      clear hvM hrc hcg hgl hpa hpb wa wb hown hbw hb1 hdb
      go_wp2_with fail
      go_loopw [5, 27] (fun s t wr => C2R w l i q M (.slice pM M.length cM) s t wr) (fun _ t _ => 32 - (intOf t).toNat)
      case atStart => exact ⟨0, Nat.zero_le _, rfl, by simpa using hown1, hbw1, HV.out, HNo.out⟩
      case round =>
        clear hown1 hbw1
        obtain ⟨j, hj, rfl, hown, hbw, hsM, hdis⟩ := hrel
        have hz := hbw.size
        by_cases hlj : j < M.length
        · obtain ⟨x, hx⟩ : ∃ x, M[j]? = some x := ⟨_, List.getElem?_eq_getElem hlj⟩
          rcases id hsM with ⟨_, hnil⟩ | ⟨g', cap', hv, _, hr⟩
          · subst hnil; simp at hlj
          · injection hv with hv1 hv2 hv3
            subst hv1 hv3
            clear hv2
            obtain ⟨c0, c1, c2⟩ := hr.1 j x hx
            have hgl := hr.2
            have htk : (M.take (j + 1)).filter (okH l) = (M.take j).filter (okH l) ++ (if okH l x = true then [x] else []) := by
              rw [List.take_add_one, hx]
              simp only [Option.toList_some, List.filter_append]
              by_cases h : okH l x = true
              · simp [h]
              · simp [h]
            have hFl := List.length_filter_le (okH l) (M.take j)
            rw [List.length_take] at hFl
            obtain ⟨n, hnn⟩ : ∃ n, M.length = n := ⟨_, rfl⟩
            have HTK := Lib.hid htk
            have hdj : decide ((j : Int) < (M.length : Int)) = true := by simpa using hlj
            have hP : (clT l q i ++ (M.take j).filter (okH l)).length ≤ 200 := by rw [List.length_append]; omega
            clear hx hr htk hFl hnn
            obtain ⟨P, hPP⟩ : ∃ P, clT l q i ++ (M.take j).filter (okH l) = P := ⟨_, rfl⟩
            rw [hPP] at hown hP
            have HPP := Lib.hid hPP
            clear hPP
            have hnx : ∀ b, okH l x = b → clT l q i ++ (M.take (j + 1)).filter (okH l) = if b = true then P ++ [x] else P := fun b hb => by
              rw [HTK.out, hb, ← HPP.out, ← List.append_assoc]
              cases b <;> simp
            have HNX := Lib.hid hnx
            clear hnx
            have hown2 := (hown.alloc (.cells #[.int .i64 x.1, .int .i64 x.2.1, .int .i64 x.2.2] 67)).alloc (.cells #[.int .i64 x.1, .int .i64 x.2.1, .int .i64 x.2.2] 67)
            have hbA := hbw.alloc hz (.cells #[.int .i64 x.1, .int .i64 x.2.1, .int .i64 x.2.2] 67)
            have hb2 := hbA.alloc hbA.size (.cells #[.int .i64 x.1, .int .i64 x.2.1, .int .i64 x.2.2] 67)
            have hnew := news1 (wr.alloc (.cells #[.int .i64 x.1, .int .i64 x.2.1, .int .i64 x.2.2] 67)) 67 x
            rw [show (wr.alloc (.cells #[.int .i64 x.1, .int .i64 x.2.1, .int .i64 x.2.2] 67)).heap.size = wr.heap.size + 1 by simp] at hnew
            have hone := one_flat [x]
            have hm1 : P.length + 1 ≤ maxLen := by unfold maxLen; omega
            have hm2 : (P.length + 1) * 24 ≤ 140737488355328 := by omega
            have hbs := hb2.size
            have hs2 := (hsM.below (w' := wr.alloc (.cells #[.int .i64 x.1, .int .i64 x.2.1, .int .i64 x.2.2] 67)) (by go_grown)).below (w' := (wr.alloc (.cells #[.int .i64 x.1, .int .i64 x.2.1, .int .i64 x.2.2] 67)).alloc (.cells #[.int .i64 x.1, .int .i64 x.2.1, .int .i64 x.2.2] 67)) (by go_grown)
            by_cases h1 : 1 < l
            · have hd1 : decide (1 < (l : Int)) = true := by simp; omega
              have hok : okH l x = true := by unfold okH; simp [h1]
              have HNN := Lib.hid ((HNX.out true hok).trans (if_pos rfl))
              clear h1 hok
              go_wp2_with (at_builtin; refine wpList_append_own_at _ rfl _ _ 36 rfl w.heap.size 67 i0 _ 3 24 Tryd.underlying36 hi0 hz0 hz1 hz2 rfl (by decide) _ _ _ rfl hown2 ⟨wr.heap.size + 1, 0, none⟩ 1 1 (flat [x]) rfl rfl hnew hone hm1 hm2 hbs ?_)
              intro v8 w8 ho8 hgr8 _ hat8
              have hb8 := hb2.grown hgr8 hbs (fun k hk => (hown2.lt k hk).1)
              have hs8 := set_grown hs2 hgr8 (fun b hb => (hdis b hb).1)
              have hd8 : ∀ b, (Value.slice (some ⟨g', 0, none⟩) M.length cM).ownBlock = some b → v8.ownBlock ≠ some b ∧ b < w8.heap.size := fun b hb => by
                refine ⟨fun e => ?_, set_lt hs8 b hb⟩
                rcases hat8 with h | h
                · exact (hdis b hb).1 (h ▸ e)
                · rw [h] at e
                  injection e with e
                  have := (hdis b hb).2
                  omega
              clear hgr8 hnew hown2 hb2 hs2 hbA hown hsM hdis hat8
              go_wp2_with fail
              exact ⟨⟨j + 1, by omega, by go_num, by rw [HNN.out, flat_app, List.length_append]; exact ho8, hb8, hs8, hd8⟩, by simp [intOf]; omega⟩
            · have hd1 : decide (1 < (l : Int)) = false := by simp; omega
              by_cases h2 : x.2.2 = 0
              · have hok : okH l x = true := by unfold okH; simp [h2]
                have hx2 : (x.2.2 == 0) = true := by simpa using h2
                have HNN := Lib.hid ((HNX.out true hok).trans (if_pos rfl))
                clear h1 hok h2
                go_wp2_with (at_builtin; refine wpList_append_own_at _ rfl _ _ 36 rfl w.heap.size 67 i0 _ 3 24 Tryd.underlying36 hi0 hz0 hz1 hz2 rfl (by decide) _ _ _ rfl hown2 ⟨wr.heap.size + 1, 0, none⟩ 1 1 (flat [x]) rfl rfl hnew hone hm1 hm2 hbs ?_)
                intro v8 w8 ho8 hgr8 _ hat8
                have hb8 := hb2.grown hgr8 hbs (fun k hk => (hown2.lt k hk).1)
                have hs8 := set_grown hs2 hgr8 (fun b hb => (hdis b hb).1)
                have hd8 : ∀ b, (Value.slice (some ⟨g', 0, none⟩) M.length cM).ownBlock = some b → v8.ownBlock ≠ some b ∧ b < w8.heap.size := fun b hb => by
                  refine ⟨fun e => ?_, set_lt hs8 b hb⟩
                  rcases hat8 with h | h
                  · exact (hdis b hb).1 (h ▸ e)
                  · rw [h] at e
                    injection e with e
                    have := (hdis b hb).2
                    omega
                clear hgr8 hnew hown2 hb2 hs2 hbA hown hsM hdis hat8
                go_wp2_with fail
                exact ⟨⟨j + 1, by omega, by go_num, by rw [HNN.out, flat_app, List.length_append]; exact ho8, hb8, hs8, hd8⟩, by simp [intOf]; omega⟩
              · have hok : okH l x = false := by unfold okH; simp [h1, h2]
                have hx2 : (x.2.2 == 0) = false := by simpa using h2
                have HNN := Lib.hid ((HNX.out false hok).trans (if_neg (by decide)))
                have hbw' := hbA
                have hown' := hown.alloc (.cells #[.int .i64 x.1, .int .i64 x.2.1, .int .i64 x.2.2] 67)
                have hs' := hsM.below (w' := wr.alloc (.cells #[.int .i64 x.1, .int .i64 x.2.1, .int .i64 x.2.2] 67)) (by go_grown)
                clear h1 hok h2 hnew hown2 hb2 hs2 hbA hown hsM
                go_wp2_with fail
                exact ⟨⟨j + 1, by omega, by go_num, by rw [HNN.out]; exact hown', hbw', hs', fun b hb => ⟨(hdis b hb).1, set_lt hs' b hb⟩⟩, by simp [intOf]; omega⟩
        · obtain rfl : j = M.length := by omega
          rw [List.take_of_length_le (Nat.le_refl _)] at hown
          rw [← HT.out] at hown
          clear hsM hdis
          go_wp2_with fail
          exact ⟨⟨i + 1, by omega, by go_num, hown, hbw⟩, by simp [intOf]; omega⟩
    · obtain rfl : i = 4 := by omega
      have hs := set_own hown
      have hl := clT_len l q 4
      have hof := fun W (e : W = wr) => refof_any u5 (clT l q 4) W (e ▸ hs) (by omega)
      clear hown hs
      go_wp2_with fail
      refine (hof _ rfl).mono ?_
      rintro e w2 ⟨v, rfl, hv, hb2⟩
      have hb3 := hbw.trans (hb2.mono hz)
      clear hof hb2
      go_wp2_with fail
      go_ret
      exact ⟨v, rfl, hv, hb3⟩
end Go.Proofs.YtcmfkdhadmfgkaaDoor.Bk

/- The laws' own awake; Own. -/
namespace Go.Proofs.YtcmfkdhadmfgkaaDoor.Bk
open Go.RowKit Go.Proofs.YtcmfkdhadmfgkaaDoor.Ba Go.Proofs.YtcmfkdhadmfgkaaDoor.Si Go.Lib
open Go.Proofs.YtcmfkdhadmfgkaaDoor.Fl (C)
open Go.Proofs.YtcmfkdhadmfgkaaDoor.Ax (SixIs)
open Go.Proofs.YtcmfkdhadmfgkaaDoor.Tb (Tab sel wrongT)

theorem own10_any (a b c d : Nat) (w : World) :
    Calls Tryd.prog 11 #[.agg #[.int .u32 a, .int .u32 b, .int .u32 c, .int .u32 d]] w fun e w' => e = .returned (.agg #[.int .u32 a, .int .u32 b, .int .u32 c, .int .u32 d]) ∧ Below w.heap.size w w' := by
  go_enter Tryd.func11, Tryd.ntmps11
  go_wp2
  exact bodyPost_ret (v := .agg #[.int .u32 a, .int .u32 b, .int .u32 c, .int .u32 d]) (by simp [results, Tryd.results11, go_sem, *]) rfl ⟨rfl, by go_grown⟩
/-- Two blocks of the same bits. -/
theorem bk_ext {x y : Nat → Nat} (hx : ∀ r, r < 8 → x r < 65536) (hy : ∀ r, r < 8 → y r < 65536) (h : ∀ n h, n < 64 → h < 2 → (x (n / 8)).testBit (2 * (n % 8) + h) = (y (n / 8)).testBit (2 * (n % 8) + h)) : ∀ r, r < 8 → x r = y r := fun r hr => by
  refine Nat.eq_of_testBit_eq fun i => ?_
  by_cases hi : i < 16
  · have := h (8 * r + i / 2) (i % 2) (by omega) (by omega)
    rw [show (8 * r + i / 2) / 8 = r by omega, show 2 * ((8 * r + i / 2) % 8) + i % 2 = i by omega] at this
    exact this
  · have e : (65536 : Nat) ≤ 2 ^ i := Nat.le_trans (by decide : 65536 ≤ 2 ^ 16) (Nat.pow_le_pow_right (by decide) (by omega))
    rw [Nat.testBit_lt_two_pow (Nat.lt_of_lt_of_le (hx r hr) e), Nat.testBit_lt_two_pow (Nat.lt_of_lt_of_le (hy r hr) e)]
theorem bk_eq {x y : Nat → Nat} (h : ∀ r, r < 8 → x r = y r) : bkA x = bkA y := by
  unfold bkA
  rw [h 0 (by decide), h 1 (by decide), h 2 (by decide), h 3 (by decide), h 4 (by decide), h 5 (by decide), h 6 (by decide), h 7 (by decide)]
def oneF (i : Nat) : Nat := if i = 0 then 1 else 0
def allF (_ : Nat) : Nat := 4294967295
theorem aw_fin : ∀ n : Fin 64, ∀ h : Fin 2, (decide (h.val < Ce.H 1) && (sel 0 0 1 0 h.val ((plN (ofB oneF) h.val).testBit n.val)).testBit (numS 1 (ofB oneF) (NB 1 h.val) n.val)) = (ofB oneF (n.val / 8)).testBit (2 * (n.val % 8) + h.val) := by decide +kernel
theorem aw_rows : ∀ r : Fin 8, ofB oneF r.val < 65536 := by decide
theorem aw_step {Y : Nat → Nat} (h : BStp 1 0 0 1 0 (ofB oneF) Y) : bkA Y = bkA (ofB oneF) :=
  bk_eq (bk_ext h.lt (fun r hr => aw_rows ⟨r, hr⟩) fun n k hn hk => by
    rw [h.bit n k hn hk]
    exact aw_fin ⟨n, hn⟩ ⟨k, hk⟩)
theorem aw_mid : lfT (ofB allF) 2 2 4 = 4294967295 := by decide +kernel
theorem all_rows : ∀ r : Fin 8, ofB allF r.val < 65536 := by decide
theorem aw_good : Fl.Good 1 0 0 1 0 := ⟨.inl rfl, by decide, by decide, by decide, by decide, by decide +kernel⟩
theorem eql_self (x : Nat → Nat) (w : World) : (binOp .eql 27 (.agg (bkA x)) (.agg (bkA x))).run Tryd.prog w = .ok (.bool true) w := by
  rw [eql_bk]
  simp
set_option maxRecDepth 100000 in
set_option maxHeartbeats 4000000 in
theorem awake10 (w : World) (hs : SixIs w) : Calls Tryd.prog 9 #[] w fun e w' => e = .returned (.bool true) ∧ Below w.heap.size w w' := by
  have hnw := bnew_any 1 0 0 1 0 aw_good w hs
  have hof : ∀ W, Calls Tryd.prog 10 #[.agg #[.int .u32 1, .int .u32 0, .int .u32 0, .int .u32 0]] W fun e w' => e = .returned (.agg (bkA (ofB oneF))) ∧ Below W.heap.size W w' := fun W => bof_any oneF (by intro i _; unfold oneF; split <;> decide) W
  go_enter Tryd.func9, Tryd.ntmps9
  go_wp2_with fail
  refine hnw.mono ?_
  rintro e w1 ⟨g, rfl, hK, hgg, hb1⟩
  clear hnw
  unfold bkA at hof
  go_wp2_with fail
  refine (hof _).mono ?_
  rintro e w2 ⟨rfl, hb2⟩
  have hK2 := hK.under hb2
  have hb12 := hb1.trans (hb2.mono hb1.size)
  clear hof hK
  go_upto_region 4 with fail
  obtain ⟨W, hW⟩ : ∃ W, w2.alloc (.cells #[.int .u16 (ofB oneF 0), .int .u16 (ofB oneF 1), .int .u16 (ofB oneF 2), .int .u16 (ofB oneF 3), .int .u16 (ofB oneF 4), .int .u16 (ofB oneF 5), .int .u16 (ofB oneF 6), .int .u16 (ofB oneF 7)] 27) = W := ⟨_, rfl⟩
  have kx : Blk W w2.heap.size 27 (bkA (ofB oneF)) := by rw [← hW]; exact Blk.newAt w2 _ _ _ rfl
  have hb2W : Below w2.heap.size w2 W := by rw [← hW]; go_grown
  change Code.wp _ _ _ _ (w2.alloc (.cells #[.int .u16 (ofB oneF 0), .int .u16 (ofB oneF 1), .int .u16 (ofB oneF 2), .int .u16 (ofB oneF 3), .int .u16 (ofB oneF 4), .int .u16 (ofB oneF 5), .int .u16 (ofB oneF 6), .int .u16 (ofB oneF 7)] 27))
  rw [hW]
  clear hW
  have hK3 := hK2.under hb2W
  have hbW := hb12.trans (hb2W.mono hb12.size)
  have hxl := kx.lt
  have hrow : ∀ r, r < 8 → ofB oneF r < 65536 := fun r hr => aw_rows ⟨r, hr⟩
  have hstp : ∀ W', Below W.heap.size W.drew W' → Calls Tryd.prog 26 #[.pointer (some ⟨g, 0, none⟩), .agg (bkA (ofB oneF))] W' fun e w' => e = .returned (.agg (bkA (ofB oneF))) ∧ Below W.heap.size W.drew w' := fun W' hb => by
    refine (bstep_any w1.heap.size g 1 0 0 1 0 aw_good (ofB oneF) hrow W' (hK3.under ((show Below W.heap.size W W.drew from ⟨rfl, rfl, rfl, Nat.le_refl _, fun _ _ => rfl⟩).trans hb))).mono ?_
    rintro e w' ⟨Y, rfl, hY, hb'⟩
    exact ⟨by rw [aw_step hY], hb.trans (hb'.mono hb.size)⟩
  have hemp : ∀ W', Below W.heap.size W.drew W' → Calls Tryd.prog 18 #[.agg (bkA (ofB oneF))] W' fun e w' => e = .returned (.bool false) ∧ Below W.heap.size W.drew w' := fun W' hb => by
    refine (empty_any (ofB oneF) W').mono ?_
    rintro e w' ⟨rfl, hb'⟩
    exact ⟨by rw [show nilB (ofB oneF) = false by decide], hb.trans (hb'.mono hb.size)⟩
  have hsta : ∀ W', Below W.heap.size W.drew W' → Calls Tryd.prog 17 #[.agg (bkA (ofB oneF)), .int .i64 0, .int .i64 0] W' fun e w' => e = .returned (.int .i64 1) ∧ Below W.heap.size W.drew w' := fun W' hb => by
    refine (bstate_in (ofB oneF) hrow 0 0 (by decide) (by decide) W').mono ?_
    rintro e w' ⟨rfl, hb'⟩
    exact ⟨by rw [show ofB oneF 0 / 2 ^ (2 * 0) % 4 = 1 by decide]; rfl, hb.trans (hb'.mono hb.size)⟩
  have hofa : ∀ W', Below W.heap.size W.drew W' → Calls Tryd.prog 10 #[.agg #[.int .u32 4294967295, .int .u32 4294967295, .int .u32 4294967295, .int .u32 4294967295]] W' fun e w' => e = .returned (.agg (bkA (ofB allF))) ∧ Below W.heap.size W.drew w' := fun W' hb => by
    refine (bof_any allF (fun i _ => by unfold allF; decide) W').mono ?_
    rintro e w' ⟨rfl, hb'⟩
    exact ⟨rfl, hb.trans (hb'.mono hb.size)⟩
  have hmid : ∀ W', Below W.heap.size W.drew W' → Calls Tryd.prog 14 #[.agg (bkA (ofB allF))] W' fun e w' => e = .returned (.int .u32 4294967295) ∧ Below W.heap.size W.drew w' := fun W' hb => by
    refine (middle_any (ofB allF) (fun r hr => all_rows ⟨r, hr⟩) W').mono ?_
    rintro e w' ⟨rfl, hb'⟩
    exact ⟨by rw [aw_mid]; rfl, hb.trans (hb'.mono hb.size)⟩
  have heq := eql_self (ofB oneF)
  clear hK2 hb12 hb2 hb1 hK3 hb2W hrow
  unfold bkA at hstp hemp hsta hofa hmid heq kx
  generalize ofB oneF = x at *
  generalize ofB allF = y at *
  have c0 : W.cell? ⟨w2.heap.size, 0, none⟩ = some (.int .u16 (x 0)) := kx.cell 0
  have c1 : W.cell? ⟨w2.heap.size, 1, none⟩ = some (.int .u16 (x 1)) := kx.cell 1
  have c2 : W.cell? ⟨w2.heap.size, 2, none⟩ = some (.int .u16 (x 2)) := kx.cell 2
  have c3 : W.cell? ⟨w2.heap.size, 3, none⟩ = some (.int .u16 (x 3)) := kx.cell 3
  have c4 : W.cell? ⟨w2.heap.size, 4, none⟩ = some (.int .u16 (x 4)) := kx.cell 4
  have c5 : W.cell? ⟨w2.heap.size, 5, none⟩ = some (.int .u16 (x 5)) := kx.cell 5
  have c6 : W.cell? ⟨w2.heap.size, 6, none⟩ = some (.int .u16 (x 6)) := kx.cell 6
  have c7 : W.cell? ⟨w2.heap.size, 7, none⟩ = some (.int .u16 (x 7)) := kx.cell 7
  have keep : ∀ w', Below W.heap.size W.drew w' → w'.cell? ⟨w2.heap.size, 0, none⟩ = some (.int .u16 (x 0)) ∧ w'.cell? ⟨w2.heap.size, 1, none⟩ = some (.int .u16 (x 1)) ∧ w'.cell? ⟨w2.heap.size, 2, none⟩ = some (.int .u16 (x 2)) ∧ w'.cell? ⟨w2.heap.size, 3, none⟩ = some (.int .u16 (x 3)) ∧ w'.cell? ⟨w2.heap.size, 4, none⟩ = some (.int .u16 (x 4)) ∧ w'.cell? ⟨w2.heap.size, 5, none⟩ = some (.int .u16 (x 5)) ∧ w'.cell? ⟨w2.heap.size, 6, none⟩ = some (.int .u16 (x 6)) ∧ w'.cell? ⟨w2.heap.size, 7, none⟩ = some (.int .u16 (x 7)) := fun w' hb => ⟨(hb.cell (p := ⟨w2.heap.size, 0, none⟩) hxl).trans c0, (hb.cell (p := ⟨w2.heap.size, 1, none⟩) hxl).trans c1, (hb.cell (p := ⟨w2.heap.size, 2, none⟩) hxl).trans c2, (hb.cell (p := ⟨w2.heap.size, 3, none⟩) hxl).trans c3, (hb.cell (p := ⟨w2.heap.size, 4, none⟩) hxl).trans c4, (hb.cell (p := ⟨w2.heap.size, 5, none⟩) hxl).trans c5, (hb.cell (p := ⟨w2.heap.size, 6, none⟩) hxl).trans c6, (hb.cell (p := ⟨w2.heap.size, 7, none⟩) hxl).trans c7⟩
  clear kx
  go_region_held3 (fun w' => w'.cell? ⟨w2.heap.size, 0, none⟩ = some (.int .u16 (x 0)) ∧ w'.cell? ⟨w2.heap.size, 1, none⟩ = some (.int .u16 (x 1)) ∧ w'.cell? ⟨w2.heap.size, 2, none⟩ = some (.int .u16 (x 2)) ∧ w'.cell? ⟨w2.heap.size, 3, none⟩ = some (.int .u16 (x 3)) ∧ w'.cell? ⟨w2.heap.size, 4, none⟩ = some (.int .u16 (x 4)) ∧ w'.cell? ⟨w2.heap.size, 5, none⟩ = some (.int .u16 (x 5)) ∧ w'.cell? ⟨w2.heap.size, 6, none⟩ = some (.int .u16 (x 6)) ∧ w'.cell? ⟨w2.heap.size, 7, none⟩ = some (.int .u16 (x 7))) (first | exact keep _ (Below.refl _ _) | exact ⟨c0, c1, c2, c3, c4, c5, c6, c7⟩)
      (first
        | (go_at_call 10; refine Calls.mono (hofa _ (by first | exact hkb | exact Below.refl _ _)) ?_; rintro e wZ ⟨rfl, hbZ⟩; have hkb : Below W.heap.size W.drew wZ := hbZ; clear hbZ; obtain ⟨c0, c1, c2, c3, c4, c5, c6, c7⟩ := keep _ hkb)
        | (go_at_call 14; refine Calls.mono (hmid _ (by first | exact hkb | exact Below.refl _ _)) ?_; rintro e wZ ⟨rfl, hbZ⟩; have hkb : Below W.heap.size W.drew wZ := hbZ; clear hbZ; obtain ⟨c0, c1, c2, c3, c4, c5, c6, c7⟩ := keep _ hkb)
        | (go_at_call 26; refine Calls.mono (hstp _ (by first | exact hkb | exact Below.refl _ _)) ?_; rintro e wZ ⟨rfl, hbZ⟩; have hkb : Below W.heap.size W.drew wZ := hbZ; clear hbZ; obtain ⟨c0, c1, c2, c3, c4, c5, c6, c7⟩ := keep _ hkb)
        | (go_at_call 18; refine Calls.mono (hemp _ (by first | exact hkb | exact Below.refl _ _)) ?_; rintro e wZ ⟨rfl, hbZ⟩; have hkb : Below W.heap.size W.drew wZ := hbZ; clear hbZ; obtain ⟨c0, c1, c2, c3, c4, c5, c6, c7⟩ := keep _ hkb)
        | (go_at_call 17; refine Calls.mono (hsta _ (by first | exact hkb | exact Below.refl _ _)) ?_; rintro e wZ ⟨rfl, hbZ⟩; have hkb : Below W.heap.size W.drew wZ := hbZ; clear hbZ; obtain ⟨c0, c1, c2, c3, c4, c5, c6, c7⟩ := keep _ hkb))
  all_goals
    have HF := Lib.hid (hbW.trans (((show Below W.heap.size W W.drew from ⟨rfl, rfl, rfl, Nat.le_refl _, fun _ _ => rfl⟩).trans hkb).mono hbW.size))
    go_wp2_with fail
    go_ret
    exact ⟨rfl, HF.out⟩
end Go.Proofs.YtcmfkdhadmfgkaaDoor.Bk

/- Blocks of leaves, bit by bit; two blocks that are the same around a place: the mathematics. -/
namespace Go.Proofs.YtcmfkdhadmfgkaaDoor.Bk
open Go.Proofs.YtcmfkdhadmfgkaaDoor.Si
open Go.Proofs.YtcmfkdhadmfgkaaDoor.Ce (sh)
open Go.Proofs.YtcmfkdhadmfgkaaDoor.Fl (C)

theorem mod256_bit (f p m : Nat) (hm : m < 8) : (f / 2 ^ p % 256).testBit m = f.testBit (p + m) := by
  rw [show (256 : Nat) = 2 ^ 8 from rfl, Nat.testBit_mod_two_pow, Nat.testBit_div_two_pow]
  simp [hm, Nat.add_comm]
theorem ofB_low (f : Nat → Nat) (r : Nat) (h : r < 4) : ofB f r = 2 ^ 8 * (f 1 / 2 ^ (8 * r) % 256) + f 0 / 2 ^ (8 * r) % 256 := by
  have e1 : r / 4 = 0 := by omega
  have e2 : r % 4 = r := by omega
  unfold ofB con
  rw [e1, e2]
  simp
  omega
theorem ofB_high (f : Nat → Nat) (r : Nat) (h : 4 ≤ r) (h8 : r < 8) : ofB f r = 2 ^ 8 * (f 3 / 2 ^ (8 * (r - 4)) % 256) + f 2 / 2 ^ (8 * (r - 4)) % 256 := by
  have e1 : r / 4 = 1 := by omega
  have e2 : r % 4 = r - 4 := by omega
  unfold ofB con
  rw [e1, e2]
  simp
  omega
theorem two_bit (hi lo i : Nat) (h : lo < 256) : (2 ^ 8 * hi + lo).testBit i = if i < 8 then lo.testBit i else hi.testBit (i - 8) := Nat.testBit_two_pow_mul_add hi h i
theorem ofB_bit (f : Nat → Nat) (a b h : Nat) (ha : a < 8) (hb : b < 8) (hh : h < 2) : (ofB f b).testBit (2 * a + h) = (f (b / 4 * 2 + a / 4)).testBit (8 * (b % 4) + (2 * (a % 4) + h)) := by
  have m0 : ∀ z : Nat, z % 256 < 256 := fun z => Nat.mod_lt _ (by decide)
  by_cases h4 : b < 4
  · rw [ofB_low f b h4, two_bit _ _ _ (m0 _)]
    by_cases ha4 : a < 4
    · rw [if_pos (by omega), mod256_bit _ _ _ (by omega), show b / 4 * 2 + a / 4 = 0 by omega, show b % 4 = b by omega, show a % 4 = a by omega]
    · rw [if_neg (by omega), mod256_bit _ _ _ (by omega), show b / 4 * 2 + a / 4 = 1 by omega, show b % 4 = b by omega, show 2 * (a % 4) + h = 2 * a + h - 8 by omega]
  · rw [ofB_high f b (by omega) hb, two_bit _ _ _ (m0 _)]
    by_cases ha4 : a < 4
    · rw [if_pos (by omega), mod256_bit _ _ _ (by omega), show b / 4 * 2 + a / 4 = 2 by omega, show b % 4 = b - 4 by omega, show a % 4 = a by omega]
    · rw [if_neg (by omega), mod256_bit _ _ _ (by omega), show b / 4 * 2 + a / 4 = 3 by omega, show b % 4 = b - 4 by omega, show 2 * (a % 4) + h = 2 * a + h - 8 by omega]
theorem ofB_lt (f : Nat → Nat) (r : Nat) (h : r < 8) : ofB f r < 65536 := by
  have m0 : ∀ z : Nat, z % 256 < 256 := fun z => Nat.mod_lt _ (by decide)
  by_cases h4 : r < 4
  · rw [ofB_low f r h4]
    have := m0 (f 1 / 2 ^ (8 * r))
    have := m0 (f 0 / 2 ^ (8 * r))
    omega
  · rw [ofB_high f r (by omega) h]
    have := m0 (f 3 / 2 ^ (8 * (r - 4)))
    have := m0 (f 2 / 2 ^ (8 * (r - 4)))
    omega
theorem plN_at (x : Nat → Nat) (h a b : Nat) (ha : a < 8) (hb : b < 8) : (plN x h).testBit (8 * b + a) = (x b).testBit (2 * a + h) := by
  rw [plN_bit, show (8 * b + a) / 8 = b by omega, show (8 * b + a) % 8 = a by omega]
  simp; omega
theorem liv_at (x : Nat → Nat) (a b h : Nat) (ha : a < 8) (hb : b < 8) : liv x ((a : Int), (b : Int), (h : Int)) = (x b).testBit (2 * a + h) := by
  unfold liv
  dsimp only
  rw [decide_eq_true (by omega)]
  simp
/-- Two blocks whose neighbours are the same around two places. -/
theorem num_congr (l : Int) (x y : Nat → Nat) (n m : Nat) (hn : n < 64) (hm : m < 64) : ∀ L : List C, (∀ e ∈ L, 0 ≤ e.2.2 ∧ liv x (sh ((n % 8 : Nat) : Int) ((n / 8 : Nat) : Int) e) = liv y (sh ((m % 8 : Nat) : Int) ((m / 8 : Nat) : Int) e)) → numAt (dgs l x L) n = numAt (dgs l y L) m
  | [], _ => by simp [dgs, numAt]
  | e :: L, h => by
    have ih := num_congr l x y n m hn hm L fun e he => h e (by simp [he])
    obtain ⟨h0, he⟩ := h e (by simp)
    have hb : (nbP x e).testBit n = (nbP y e).testBit m := by rw [nbP_liv x e n hn h0, nbP_liv y e m hm h0, he]
    by_cases h1 : l = 1
    · subst h1
      unfold dgs
      rw [if_pos rfl, if_pos rfl, numAt_app, numAt_app, ih, hb, dgs_len_hex, dgs_len_hex]
    · unfold dgs
      rw [if_neg h1, if_neg h1, addL_num, addL_num, ih, hb]
theorem st_eq {u v p q : Nat} (h : ∀ h, h < 2 → u.testBit (p + h) = v.testBit (q + h)) : u / 2 ^ p % 4 = v / 2 ^ q % 4 := by
  refine Nat.eq_of_testBit_eq fun i => ?_
  rw [show (4 : Nat) = 2 ^ 2 from rfl, Nat.testBit_mod_two_pow, Nat.testBit_mod_two_pow, Nat.testBit_div_two_pow, Nat.testBit_div_two_pow]
  by_cases hi : i < 2
  · rw [Nat.add_comm i p, Nat.add_comm i q, h i hi]
  · simp [hi]
end Go.Proofs.YtcmfkdhadmfgkaaDoor.Bk

/- Contracts: a block's Quarters; the law's Is. -/
namespace Go.Proofs.YtcmfkdhadmfgkaaDoor.Bk
open Go.RowKit Go.Proofs.YtcmfkdhadmfgkaaDoor.Ba Go.Proofs.YtcmfkdhadmfgkaaDoor.Si

theorem qA_get (f : Nat → Nat) (r : Nat) (h : r < 4) : (qA f)[r]? = some (.int .u32 (f r)) := by
  have : r = 0 ∨ r = 1 ∨ r = 2 ∨ r = 3 := by omega
  rcases this with rfl | rfl | rfl | rfl <;> rfl
theorem qA_set (f : Nat → Nat) (r v : Nat) (h : r < 4) : (qA f).setIfInBounds r (.int .u32 v) = qA (fun i => if i = r then v else f i) := by
  have : r = 0 ∨ r = 1 ∨ r = 2 ∨ r = 3 := by omega
  rcases this with rfl | rfl | rfl | rfl <;> rfl
def quF (x : Nat → Nat) (i : Nat) : Nat := lfT x (i % 2 * 4) (i / 2 * 4) 4
def QtR (w : World) (x : Nat → Nat) (t : Value) (wr : World) : Prop := ∃ (k : Nat) (f : Nat → Nat), k ≤ 4 ∧ t = .int .i64 k ∧ (∀ i, i < 4 → f i = if i < k then quF x i else 0) ∧ Blk wr (w.heap.size + 2) 30 (qA f) ∧ Blk wr (w.heap.size + 1) 30 (qA fun _ => 0) ∧ Blk wr w.heap.size 27 (bkA x) ∧ Below w.heap.size w wr
set_option maxRecDepth 100000 in
set_option maxHeartbeats 2000000 in
theorem quarters_any (x : Nat → Nat) (hx : ∀ r, r < 8 → x r < 65536) (w : World) :
    Calls Tryd.prog 13 #[.agg (bkA x)] w fun e w' => e = .returned (.agg (qA (quF x))) ∧ Below w.heap.size w w' := by
  have HX := Lib.hid hx
  clear hx
  go_enter Tryd.func13, Tryd.ntmps13
  go_upto_region 2 with fail
  obtain ⟨W0, hW0⟩ : ∃ W0, ((w.alloc (.cells (bkA x) 27)).alloc (.cells (qA fun _ => 0) 30)).alloc (.cells (qA fun _ => 0) 30) = W0 := ⟨_, rfl⟩
  have kx : Blk W0 w.heap.size 27 (bkA x) := by rw [← hW0]; exact ((Blk.newAt w _ _ _ rfl).alloc _).alloc _
  have k1 : Blk W0 (w.heap.size + 1) 30 (qA fun _ => 0) := by rw [← hW0]; exact (Blk.newAt _ _ _ _ (by simp)).alloc _
  have k2 : Blk W0 (w.heap.size + 2) 30 (qA fun _ => 0) := by rw [← hW0]; exact Blk.newAt _ _ _ _ (by simp)
  have hB0 : Below w.heap.size w W0 := by rw [← hW0]; go_grown
  change Code.wp _ _ _ _ (((w.alloc (.cells (bkA x) 27)).alloc (.cells (qA fun _ => 0) 30)).alloc (.cells (qA fun _ => 0) 30))
  rw [hW0]
  clear hW0
  go_wp2_with fail
  go_loopw [5] (fun t wr => QtR w x t wr) (fun t _ => 4 - (intOf t).toNat)
  case atStart => exact ⟨0, fun _ => 0, by omega, rfl, fun i _ => by simp, k2, k1, kx, hB0⟩
  case round =>
    clear k1 k2 kx hB0
    obtain ⟨k, f, hk, rfl, hf, k2, k1, kx, hB⟩ := hrel
    by_cases hlt : k < 4
    · have hdb : decide ((k : Int) < 4) = true := by simp; omega
      have c0 := (kx.cell 0).trans (bkA_get x 0 (by decide))
      have c1 := (kx.cell 1).trans (bkA_get x 1 (by decide))
      have c2 := (kx.cell 2).trans (bkA_get x 2 (by decide))
      have c3 := (kx.cell 3).trans (bkA_get x 3 (by decide))
      have c4 := (kx.cell 4).trans (bkA_get x 4 (by decide))
      have c5 := (kx.cell 5).trans (bkA_get x 5 (by decide))
      have c6 := (kx.cell 6).trans (bkA_get x 6 (by decide))
      have c7 := (kx.cell 7).trans (bkA_get x 7 (by decide))
      have hxl := kx.lt
      have hqf : quF x k = lfT x (k % 2 * 4) (k / 2 * 4) 4 := rfl
      have hk1 : k % 2 * 4 ≤ 4 := by omega
      have hk2 : k / 2 * 4 ≤ 4 := by omega
      have hco := corner_any k hlt
      have hlf := fun W => leaf_any x HX.out (k % 2 * 4) (k / 2 * 4) hk1 hk2 W
      rw [← hqf] at hlf
      have hk4 : (k : Int) < 4 := by omega
      have HF := Lib.hid (show ∀ i, i < 4 → (if i = k then quF x k else f i) = if i < k + 1 then quF x i else 0 from fun i hi => by
        by_cases e : i = k
        · rw [if_pos e, if_pos (by omega), e]
        · rw [if_neg e, hf i hi]
          by_cases e2 : i < k
          · rw [if_pos e2, if_pos (by omega)]
          · rw [if_neg e2, if_neg (by omega)])
      clear hqf hk1 hk2 hf
      generalize k % 2 * 4 = ca at *
      generalize k / 2 * 4 = cb at *
      generalize quF x k = qk at *
      have hl2 := k2.lt
      have hz := k2.frozen k
      have hcq := (k2.cell k).trans (qA_get f k hlt)
      unfold bkA at hlf
      go_upto_region 5 with fail
      go_region_law
        (first
          | (go_simp; go_at_call 42; (with_reducible refine Calls.mono (hco _) ?_); rintro e w' ⟨rfl, rfl⟩)
          | (go_simp; go_at_call 44; (with_reducible refine Calls.mono (hlf _) ?_); rintro e w9 ⟨rfl, hb9⟩; have hb9 : Below wr.heap.size wr w9 := (show Below wr.heap.size wr wr.drew from ⟨rfl, rfl, rfl, Nat.le_refl _, fun _ _ => rfl⟩).trans hb9; have k29 := k2.under hb9; have hl9 := k29.lt; have hz9 := k29.frozen k; have hcq9 := (k29.cell k).trans (qA_get f k hlt)))
      all_goals
        have k29s : Blk (w9.setCell ⟨w.heap.size + 2, k, none⟩ (.int .u32 qk)) (w.heap.size + 2) 30 (qA fun i => if i = k then qk else f i) := by
          rw [← qA_set f k _ hlt]
          exact k29.set_ k _
        have k19 := (k1.under hb9).far (p := ⟨w.heap.size + 2, k, none⟩) (by show w.heap.size + 1 ≠ w.heap.size + 2; omega) (.int .u32 qk)
        have kx9 := (kx.under hb9).far (p := ⟨w.heap.size + 2, k, none⟩) (by show w.heap.size ≠ w.heap.size + 2; omega) (.int .u32 qk)
        have hb99 := (hB.trans (hb9.mono hB.size)).setCell (p := ⟨w.heap.size + 2, k, none⟩) (by show w.heap.size ≤ w.heap.size + 2; omega) (.int .u32 qk)
        have H1 := Lib.hid k29s
        have H2 := Lib.hid k19
        have H3 := Lib.hid kx9
        have H4 := Lib.hid hb99
        clear k29s k19 kx9 hb99 hco hlf k29 k2 k1 kx hB
      all_goals go_wp2_with fail
      all_goals exact ⟨⟨k + 1, _, by omega, by go_num, HF.out, H1.out, H2.out, H3.out, H4.out⟩, by simp [intOf]; omega⟩
    · obtain rfl : k = 4 := by omega
      have e : qA f = qA (quF x) := by
        unfold qA
        rw [hf 0 (by decide), hf 1 (by decide), hf 2 (by decide), hf 3 (by decide)]
        rfl
      rw [e] at k2
      have hl1 := k1.lt
      have hl2 := k2.lt
      have d0 := (k2.cell 0).trans (qA_get _ 0 (by decide))
      have e0 := (k1.cell 0).trans (qA_get _ 0 (by decide))
      have z0 := k1.frozen 0
      have d1 := (k2.cell 1).trans (qA_get _ 1 (by decide))
      have e1 := (k1.cell 1).trans (qA_get _ 1 (by decide))
      have z1 := k1.frozen 1
      have d2 := (k2.cell 2).trans (qA_get _ 2 (by decide))
      have e2 := (k1.cell 2).trans (qA_get _ 2 (by decide))
      have z2 := k1.frozen 2
      have d3 := (k2.cell 3).trans (qA_get _ 3 (by decide))
      have e3 := (k1.cell 3).trans (qA_get _ 3 (by decide))
      have z3 := k1.frozen 3
      clear hf e k1 k2 kx
      go_wp2_with fail
      exact bodyPost_ret (v := .agg (qA (quF x))) (by simp [results, Tryd.results13, go_sem, qA, *]) rfl ⟨rfl, ((((hB.setCell (p := ⟨w.heap.size + 1, 0, none⟩) (Nat.le_succ _) _).setCell (p := ⟨w.heap.size + 1, 1, none⟩) (Nat.le_succ _) _).setCell (p := ⟨w.heap.size + 1, 2, none⟩) (Nat.le_succ _) _).setCell (p := ⟨w.heap.size + 1, 3, none⟩) (Nat.le_succ _) _)⟩
/-! Is. -/
def IsR (w : World) (f : Nat → Nat) (g : Nat) (t : Value) (wr : World) : Prop := ∃ k : Nat, k ≤ 4 ∧ t = .int .i64 k ∧ (∀ i, i < 4 → wr.cell? ⟨g, i, none⟩ = some (.int .u32 (f i))) ∧ g < wr.heap.size ∧ Below w.heap.size w wr
set_option maxRecDepth 100000 in
theorem is_any (f : Nat → Nat) (g cap : Nat) (w : World) (hc : ∀ i, i < 4 → w.cell? ⟨g, i, none⟩ = some (.int .u32 (f i))) (hg : g < w.heap.size) :
    Calls Tryd.prog 27 #[.agg (qA f), .slice (some ⟨g, 0, none⟩) 4 cap] w fun e w' => e = .returned (.int .i64 0) ∧ Below w.heap.size w w' := by
  have hb0 : Below w.heap.size w (w.alloc (.cells (qA f) 30)) := by go_grown
  have kf := Blk.newAt w 30 (qA f) _ rfl
  have hc0 : ∀ i, i < 4 → (w.alloc (.cells (qA f) 30)).cell? ⟨g, i, none⟩ = some (.int .u32 (f i)) := fun i hi => (hb0.cell (p := ⟨g, i, none⟩) hg).trans (hc i hi)
  have hg0 : g < (w.alloc (.cells (qA f) 30)).heap.size := Nat.lt_of_lt_of_le hg hb0.size
  have f0 := (kf.cell 0).trans (qA_get f 0 (by decide))
  have f1 := (kf.cell 1).trans (qA_get f 1 (by decide))
  have f2 := (kf.cell 2).trans (qA_get f 2 (by decide))
  have f3 := (kf.cell 3).trans (qA_get f 3 (by decide))
  have hl := kf.lt
  clear kf hc hg
  go_enter Tryd.func27, Tryd.ntmps27
  go_upto_region 1 with fail
  generalize w.alloc (.cells (qA f) 30) = W at *
  go_wp2_with fail
  clear f0 f1 f2 f3 hl
  go_loopw [8] (fun t wr => IsR w f g t wr) (fun t _ => 4 - (intOf t).toNat)
  case atStart => exact ⟨0, Nat.zero_le _, rfl, hc0, hg0, hb0⟩
  case round =>
    clear hc0 hg0 hb0
    obtain ⟨k, hk, rfl, hc, hg, hb⟩ := hrel
    by_cases hlt : k < 4
    · have hdb : decide ((k : Int) < 4) = true := by simp; omega
      have hidx := idx_q f k hlt
      have hck := hc k hlt
      have HC := Lib.hid hc
      have hne : ((f k : Int) != (f k : Int)) = false := by simp
      clear hc
      go_wp2_with fail
      exact ⟨⟨k + 1, by omega, by go_num, HC.out, hg, hb⟩, by simp [intOf]; omega⟩
    · obtain rfl : k = 4 := by omega
      go_wp2_with fail
      go_ret
      exact ⟨rfl, hb⟩
end Go.Proofs.YtcmfkdhadmfgkaaDoor.Bk

/- A block, and the set of its cells: the same, a generation on, and as leaves: the mathematics. -/
namespace Go.Proofs.YtcmfkdhadmfgkaaDoor.Bk
open Go.Proofs.YtcmfkdhadmfgkaaDoor.Si
open Go.Proofs.YtcmfkdhadmfgkaaDoor.Ce (sh)
open Go.Proofs.YtcmfkdhadmfgkaaDoor.Fl (C valid besC nbC Stp nxT Wi)
open Go.Proofs.YtcmfkdhadmfgkaaDoor.Se (ofL mem_ofL rising_ofL Rising)
open Go.Proofs.YtcmfkdhadmfgkaaDoor.Tb (sel)

theorem mem_clM {q : Nat → Nat} {i : Nat} {c : C} : c ∈ clM q i ↔ ∃ n, n < 32 ∧ (q i).testBit n = true ∧ c = (((i % 2 * 4 + n / 2 % 4 : Nat) : Int), ((i / 2 * 4 + n / 2 / 4 : Nat) : Int), ((n % 2 : Nat) : Int)) := by
  unfold clM
  rw [List.mem_map]
  constructor
  · rintro ⟨n, hn, rfl⟩
    rw [mem_pos] at hn
    refine ⟨n, hn.1, hn.2, ?_⟩
    unfold cAt
    refine Prod.ext ?_ (Prod.ext ?_ ?_) <;> dsimp only <;> omega
  · rintro ⟨n, h1, h2, rfl⟩
    refine ⟨n, (mem_pos _ _ _).2 ⟨h1, h2⟩, ?_⟩
    unfold cAt
    refine Prod.ext ?_ (Prod.ext ?_ ?_) <;> dsimp only <;> omega
theorem mem_clT {l : Nat} {q : Nat → Nat} {c : C} : ∀ {k : Nat}, c ∈ clT l q k ↔ ∃ i, i < k ∧ c ∈ clM q i ∧ okH l c = true
  | 0 => by simp [clT]
  | k + 1 => by
    unfold clT
    rw [List.mem_append, mem_clT, List.mem_filter]
    constructor
    · rintro (⟨i, h1, h2⟩ | ⟨h1, h2⟩)
      · exact ⟨i, by omega, h2⟩
      · exact ⟨k, by omega, h1, h2⟩
    · rintro ⟨i, h1, h2, h3⟩
      by_cases e : i = k
      · subst e; exact .inr ⟨h2, h3⟩
      · exact .inl ⟨i, by omega, h2, h3⟩
/-- The cells of a block of leaves. -/
def clS (l : Nat) (q : Nat → Nat) : List C := ofL (clT l q 4)
theorem val_half {l : Nat} (hl : l = 1 ∨ l = 2 ∨ l = 3) {a b h : Int} (hh : 0 ≤ h ∧ h < 2) : valid l (a, b, h) ↔ okH l (a, b, h) = true := by
  unfold valid okH
  simp only [Bool.or_eq_true, decide_eq_true_eq, beq_iff_eq]
  split <;> omega
theorem mem_clS {l : Nat} (hl : l = 1 ∨ l = 2 ∨ l = 3) {q : Nat → Nat} {c : C} : c ∈ clS l q ↔ valid l c ∧ liv (ofB q) c = true := by
  unfold clS
  rw [mem_ofL, mem_clT]
  constructor
  · rintro ⟨i, hi, hc, ho⟩
    obtain ⟨n, hn, hb, rfl⟩ := mem_clM.1 hc
    refine ⟨(val_half hl (by omega)).2 ho, ?_⟩
    rw [liv_at _ _ _ _ (by omega) (by omega), ofB_bit _ _ _ _ (by omega) (by omega) (by omega)]
    rw [show (i / 2 * 4 + n / 2 / 4) / 4 * 2 + (i % 2 * 4 + n / 2 % 4) / 4 = i by omega, show 8 * ((i / 2 * 4 + n / 2 / 4) % 4) + (2 * ((i % 2 * 4 + n / 2 % 4) % 4) + n % 2) = n by omega]
    exact hb
  · rintro ⟨hv, hl2⟩
    obtain ⟨a, b, h⟩ := c
    have hd : (0 ≤ a ∧ a < 8) ∧ 0 ≤ b ∧ b < 8 := by
      unfold liv at hl2
      simp only [Bool.and_eq_true, decide_eq_true_eq] at hl2
      exact hl2.1
    have hh : 0 ≤ h ∧ h < 2 := by unfold valid at hv; dsimp only at hv; split at hv <;> omega
    obtain ⟨a, rfl⟩ : ∃ k : Nat, a = k := ⟨a.toNat, by omega⟩
    obtain ⟨b, rfl⟩ : ∃ k : Nat, b = k := ⟨b.toNat, by omega⟩
    obtain ⟨h, rfl⟩ : ∃ k : Nat, h = k := ⟨h.toNat, by omega⟩
    rw [liv_at _ _ _ _ (by omega) (by omega), ofB_bit _ _ _ _ (by omega) (by omega) (by omega)] at hl2
    refine ⟨b / 4 * 2 + a / 4, by omega, mem_clM.2 ⟨_, ?_, hl2, ?_⟩, (val_half hl hh).1 hv⟩
    · omega
    · refine Prod.ext ?_ (Prod.ext ?_ ?_) <;> dsimp only <;> omega
theorem clS_rising (l : Nat) (q : Nat → Nat) : Rising (clS l q) := rising_ofL _
theorem clS_wi {l : Nat} (hl : l = 1 ∨ l = 2 ∨ l = 3) (q : Nat → Nat) : Wi 13 (clS l q) := fun c hc => by
  have h := ((mem_clS hl).1 hc).2
  unfold liv at h
  simp only [Bool.and_eq_true, decide_eq_true_eq] at h
  omega
theorem clS_len (l : Nat) (q : Nat → Nat) : (clS l q).length ≤ 128 := by
  have h1 := Se.ofL_len (clT l q 4)
  have h2 := clT_len l q 4
  unfold clS
  omega
theorem plc_at (a b h : Nat) (ha : a < 8) : plc (8 * b + a) (h : Int) = ((a : Int), (b : Int), (h : Int)) := by
  unfold plc
  rw [show (8 * b + a) % 8 = a by omega, show (8 * b + a) / 8 = b by omega]
/-- A generation on, at a place around which block and set are the same. -/
theorem step_mem {l b0 b1 s0 s1 : Nat} (hl : l = 1 ∨ l = 2 ∨ l = 3) {x Y : Nat → Nat} (hY : BStp l b0 b1 s0 s1 x Y) {S R : List C} (hR : Stp (nxT b0 b1 s0 s1) l S R) {a b h : Nat} (ha : a < 8) (hb : b < 8) (hh : h < 2)
    (hc : valid l ((a : Int), (b : Int), (h : Int)) → decide (((a : Int), (b : Int), (h : Int)) ∈ S) = liv x ((a : Int), (b : Int), (h : Int)))
    (hn : ∀ e ∈ besC l ((a : Int), (b : Int), (h : Int)), decide (e ∈ S) = liv x e) : decide (((a : Int), (b : Int), (h : Int)) ∈ R) = (Y b).testBit (2 * a + h) := by
  have hlI : (l : Int) = 1 ∨ (l : Int) = 2 ∨ (l : Int) = 3 := by omega
  have e := hY.bit (8 * b + a) h (by omega) hh
  rw [show (8 * b + a) / 8 = b by omega, show (8 * b + a) % 8 = a by omega, plN_at _ _ _ _ ha hb] at e
  rw [e, Bool.eq_iff_iff, decide_eq_true_eq, hR.2]
  by_cases hH : h < Ce.H l
  · have hv : valid l ((a : Int), (b : Int), (h : Int)) := by rw [← plc_at a b h ha]; exact H_val hH _
    have hnum := num_nb hlI (h := (h : Int)) (n := 8 * b + a) (x := x) (S := S) (by rw [plc_at a b h ha]; exact hv) (by omega) (by rw [plc_at a b h ha]; exact hn)
    rw [plc_at a b h ha] at hnum
    rw [hnum, hc hv, liv_at _ _ _ _ ha hb]
    unfold nxT
    dsimp only
    rw [Int.toNat_natCast]
    simp [hH, hv]
  · have hv : ¬ valid l ((a : Int), (b : Int), (h : Int)) := by
      unfold valid
      unfold Ce.H at hH
      dsimp only
      split at hH
      · next h1 => rw [if_pos h1]; omega
      · omega
    simp [hH, hv]
theorem dec_iff {p : Prop} [Decidable p] {b : Bool} (h : p ↔ b = true) : decide p = b := by
  rw [Bool.eq_iff_iff, decide_eq_true_eq]; exact h
/-- Of a whole block. -/
theorem step_all {l b0 b1 s0 s1 : Nat} (hl : l = 1 ∨ l = 2 ∨ l = 3) {q Y : Nat → Nat} (hY : BStp l b0 b1 s0 s1 (ofB q) Y) {R : List C} (hR : Stp (nxT b0 b1 s0 s1) l (clS l q) R) {a b h : Nat} (ha : a < 8) (hb : b < 8) (hh : h < 2) :
    decide (((a : Int), (b : Int), (h : Int)) ∈ R) = (Y b).testBit (2 * a + h) := by
  have hlI : (l : Int) = 1 ∨ (l : Int) = 2 ∨ (l : Int) = 3 := by omega
  by_cases hH : h < Ce.H l
  · have hv : valid l ((a : Int), (b : Int), (h : Int)) := by rw [← plc_at a b h ha]; exact H_val hH _
    refine step_mem hl hY hR ha hb hh (fun hv => dec_iff ?_) fun e he => dec_iff ?_
    · rw [mem_clS hl]; simp [hv]
    · have := (Fl.bes_mem hlI hv he).1
      rw [mem_clS hl]; simp [this]
  · have e := hY.bit (8 * b + a) h (by omega) hh
    rw [show (8 * b + a) / 8 = b by omega, show (8 * b + a) % 8 = a by omega] at e
    rw [e]
    refine dec_iff ?_
    rw [hR.2]
    have hv : ¬ valid l ((a : Int), (b : Int), (h : Int)) := by
      unfold valid
      unfold Ce.H at hH
      dsimp only
      split at hH
      · next h1 => rw [if_pos h1]; omega
      · omega
    simp [hH, hv]
/-! As leaves. -/
theorem lfT_dg (x : Nat → Nat) (a b : Nat) : ∀ k, lfT x a b k = dg 8 (fun r => x (b + r) / 2 ^ (2 * a) % 256) k
  | 0 => rfl
  | k + 1 => by unfold lfT; rw [dg_succ, lfT_dg x a b k]
theorem lfT_bit (x : Nat → Nat) (a b m : Nat) (hm : m < 32) : (lfT x a b 4).testBit m = (x (b + m / 8)).testBit (2 * a + m % 8) := by
  rw [lfT_dg, dg_bit (by decide) (fun i => Nat.mod_lt _ (by decide)), mod256_bit _ _ _ (Nat.mod_lt _ (by decide))]
  simp [hm]
theorem lf_of {Y : Nat → Nat} {R : List C} {a b : Nat} (h : ∀ i j k : Nat, i < 4 → j < 4 → k < 2 → decide ((((a + i : Nat) : Int), ((b + j : Nat) : Int), (k : Int)) ∈ R) = (Y (b + j)).testBit (2 * (a + i) + k)) :
    ofF (rlS R a b) 16 = lfT Y a b 4 := by
  refine ofF_eq _ (rlS_lt R a b) _ (Nat.lt_of_lt_of_le (lfT_lt Y a b 4) (by decide)) fun k hk => ?_
  rw [st_test, lfT_bit _ _ _ _ (by omega), lfT_bit _ _ _ _ (by omega)]
  have h0 := h (k % 4) (k / 4) 0 (by omega) (by omega) (by omega)
  have h1 := h (k % 4) (k / 4) 1 (by omega) (by omega) (by omega)
  rw [show b + 2 * k / 8 = b + k / 4 by omega, show 2 * a + 2 * k % 8 = 2 * (a + k % 4) + 0 by omega, show b + (2 * k + 1) / 8 = b + k / 4 by omega, show 2 * a + (2 * k + 1) % 8 = 2 * (a + k % 4) + 1 by omega, ← h0, ← h1]
  unfold rlS
  rw [show ((a + k % 4 : Nat) : Int) = (a : Int) + ((k % 4 : Nat) : Int) by omega, show ((b + k / 4 : Nat) : Int) = (b : Int) + ((k / 4 : Nat) : Int) by omega]
  simp only [show ((0 : Nat) : Int) = 0 from rfl, show ((1 : Nat) : Int) = 1 from rfl]
  generalize (a : Int) + ((k % 4 : Nat) : Int) = u
  generalize (b : Int) + ((k / 4 : Nat) : Int) = v
  by_cases g0 : (u, v, (0 : Int)) ∈ R <;> by_cases g1 : (u, v, (1 : Int)) ∈ R <;> simp [g0, g1]
end Go.Proofs.YtcmfkdhadmfgkaaDoor.Bk

/- The document's own leaves of a set; its Step of leaves. -/
namespace Go.Proofs.YtcmfkdhadmfgkaaDoor.Bk
open Go.RowKit Go.Proofs.YtcmfkdhadmfgkaaDoor.Ba Go.Proofs.YtcmfkdhadmfgkaaDoor.Si Go.Lib
open Go.Proofs.YtcmfkdhadmfgkaaDoor.Se (SetAt)
open Go.Proofs.YtcmfkdhadmfgkaaDoor.Fl (Stp nxT)
open Go.Proofs.YtcmfkdhadmfgkaaDoor.Tb (RT)

def lvS (R : List C3) (i : Nat) : Nat := ofF (rlS R ((i % 2 * 4 : Nat) : Int) ((i / 2 * 4 : Nat) : Int)) 16
/-- Four leaves in memory. -/
def L4At (w : World) (v : Value) (f : Nat → Nat) : Prop := ∃ X cap, v = .slice (some ⟨X, 0, none⟩) 4 cap ∧ X < w.heap.size ∧ ∀ i, i < 4 → w.cell? ⟨X, i, none⟩ = some (.int .u32 (f i))
theorem L4At.below {w w' : World} {v : Value} {f : Nat → Nat} (h : L4At w v f) (hb : Below w.heap.size w w') : L4At w' v f := by
  obtain ⟨X, cap, e, hX, hc⟩ := h
  exact ⟨X, cap, e, Nat.lt_of_lt_of_le hX hb.size, fun i hi => (hb.cell (p := ⟨X, i, none⟩) hX).trans (hc i hi)⟩
theorem leaves10_any (v : Value) (S : List C3) (w : World) (h : SetAt w v S) (hL : S.length ≤ 1000000) :
    Calls Tryd.prog 58 #[v] w fun e w' => ∃ u, e = .returned u ∧ L4At w' u (lvS S) ∧ Below w.heap.size w w' := by
  have h0 : ∀ W, Below w.heap.size w W → Calls Tryd.prog 15 #[v, .int .i64 0, .int .i64 0] W fun e w' => e = .returned (.int .u32 (lvS S 0)) ∧ Below W.heap.size W w' := fun W hb => leaf10_any v S 0 0 W (h.below hb) hL (by decide) (by decide)
  have h1 : ∀ W, Below w.heap.size w W → Calls Tryd.prog 15 #[v, .int .i64 4, .int .i64 0] W fun e w' => e = .returned (.int .u32 (lvS S 1)) ∧ Below W.heap.size W w' := fun W hb => leaf10_any v S 4 0 W (h.below hb) hL (by decide) (by decide)
  have h2 : ∀ W, Below w.heap.size w W → Calls Tryd.prog 15 #[v, .int .i64 0, .int .i64 4] W fun e w' => e = .returned (.int .u32 (lvS S 2)) ∧ Below W.heap.size W w' := fun W hb => leaf10_any v S 0 4 W (h.below hb) hL (by decide) (by decide)
  have h3 : ∀ W, Below w.heap.size w W → Calls Tryd.prog 15 #[v, .int .i64 4, .int .i64 4] W fun e w' => e = .returned (.int .u32 (lvS S 3)) ∧ Below W.heap.size W w' := fun W hb => leaf10_any v S 4 4 W (h.below hb) hL (by decide) (by decide)
  generalize lvS S = f at *
  go_enter Tryd.func58, Tryd.ntmps58
  go_wp2_with fail
  refine (h0 _ (Below.refl _ _)).mono ?_
  rintro e w1 ⟨rfl, hb1⟩
  go_wp2_with fail
  refine (h1 _ hb1).mono ?_
  rintro e w2 ⟨rfl, hb2⟩
  have hb2 := hb1.trans (hb2.mono hb1.size)
  go_wp2_with fail
  refine (h2 _ hb2).mono ?_
  rintro e w3 ⟨rfl, hb3⟩
  have hb3 := hb2.trans (hb3.mono hb2.size)
  go_wp2_with fail
  refine (h3 _ hb3).mono ?_
  rintro e w4 ⟨rfl, hb4⟩
  have hb4 := hb3.trans (hb4.mono hb3.size)
  clear h0 h1 h2 h3 h
  have kf := Blk.newAt w4 22 #[.int .u32 (f 0), .int .u32 (f 1), .int .u32 (f 2), .int .u32 (f 3)] _ rfl
  have hl : L4At (w4.alloc (.cells #[.int .u32 (f 0), .int .u32 (f 1), .int .u32 (f 2), .int .u32 (f 3)] 22)) (.slice (some ⟨w4.heap.size, 0, none⟩) 4 4) f := ⟨_, 4, rfl, kf.lt, fun i hi => by
    rw [kf.cell i]
    have : i = 0 ∨ i = 1 ∨ i = 2 ∨ i = 3 := by omega
    rcases this with rfl | rfl | rfl | rfl <;> rfl⟩
  have hb5 := hb4.alloc hb4.size (.cells #[.int .u32 (f 0), .int .u32 (f 1), .int .u32 (f 2), .int .u32 (f 3)] 22)
  have HL := Lib.hid hl
  clear hl kf
  go_wp2_with fail
  go_ret
  exact ⟨_, rfl, HL.out, hb5⟩
set_option maxRecDepth 100000 in
set_option maxHeartbeats 400000 in
theorem refstep10_any (l b0 b1 s0 s1 : Nat) (hg : Fl.Good l b0 b1 s0 s1) (g : Nat) (q : Nat → Nat) (hq : ∀ i, i < 4 → q i < 4294967296) (v : Value) (w : World) (kg : Blk w g 47 (Fl.TabC l b0 b1 s0 s1)) (hv : L4At w v q) :
    Calls Tryd.prog 28 #[RT l g, v] w fun e w' => ∃ u R, e = .returned u ∧ L4At w' u (lvS R) ∧ Stp (nxT b0 b1 s0 s1) l (clS l q) R ∧ Below w.heap.size w w' := by
  have hlt := hg.lat
  obtain ⟨X, cap, rfl, hX, hc⟩ := hv
  have hval : ∀ d ∈ clS l q, Fl.valid l d := fun d hd => ((mem_clS hlt).1 hd).1
  have hb0 : Below w.heap.size w (w.alloc (.cells #[.int .i64 l, .slice (some ⟨g, 1, none⟩) 2 2, .slice (some ⟨g, 3, none⟩) 2 2] 57)) := by go_grown
  have kt := Blk.newAt w 57 #[.int .i64 l, .slice (some ⟨g, 1, none⟩) 2 2, .slice (some ⟨g, 3, none⟩) 2 2] _ rfl
  have c0 := kt.cell 0
  have c1 := kt.cell 1
  have c2 := kt.cell 2
  simp only [List.getElem?_toArray, List.getElem?_cons_zero, List.getElem?_cons_succ] at c0 c1 c2
  have hl := kt.lt
  have hcl : ∀ W, Below w.heap.size w W → Calls Tryd.prog 16 #[.int .i64 l, .slice (some ⟨X, 0, none⟩) 4 cap] W fun e w' => ∃ v, e = .returned v ∧ SetAt w' v (clS l q) ∧ Below W.heap.size W w' := fun W hb =>
    cells10_any l (by omega) q hq X cap W (fun i hi => (hb.cell (p := ⟨X, i, none⟩) hX).trans (hc i hi)) (Nat.lt_of_lt_of_le hX hb.size)
  have hst : ∀ W v, Below w.heap.size w W → SetAt W v (clS l q) → Calls Tryd.prog 32 #[RT l g, v] W fun e w' => ∃ v' R, e = .returned v' ∧ SetAt w' v' R ∧ Stp (nxT b0 b1 s0 s1) l (clS l q) R ∧ R.length ≤ 2000 ∧ Below W.heap.size W w' := fun W v hb hs =>
    Fl.refstep_any l b0 b1 s0 s1 hg g v (clS l q) W (kg.under hb) hs (clS_rising l q) hval (by have := clS_len l q; omega) (clS_wi hlt q)
  have hcl' := hcl
  clear kt
  go_enter Tryd.func28, Tryd.ntmps28
  go_upto_region 1 with fail
  generalize hW : w.alloc (.cells #[.int .i64 l, .slice (some ⟨g, 1, none⟩) 2 2, .slice (some ⟨g, 3, none⟩) 2 2] 57) = W at *
  clear hW hcl' hc hX kg hval
  have hz := hb0.size
  generalize hB : w.heap.size = B at *
  have HB := Lib.hid hB
  clear hB
  have hbD : Below B w W.drew := hb0.trans ((show Below W.heap.size W W.drew from ⟨rfl, rfl, rfl, Nat.le_refl _, fun _ _ => rfl⟩).mono hz)
  have keep : ∀ w', Below W.heap.size W.drew w' → w'.cell? ⟨B, 0, none⟩ = some (.int .i64 l) ∧ w'.cell? ⟨B, 1, none⟩ = some (.slice (some ⟨g, 1, none⟩) 2 2) ∧ w'.cell? ⟨B, 2, none⟩ = some (.slice (some ⟨g, 3, none⟩) 2 2) := fun w' hb => ⟨(hb.cell (p := ⟨B, 0, none⟩) hl).trans c0, (hb.cell (p := ⟨B, 1, none⟩) hl).trans c1, (hb.cell (p := ⟨B, 2, none⟩) hl).trans c2⟩
  have hbl : ∀ W', Below W.heap.size W.drew W' → Below B w W' := fun W' hb => hbD.trans (hb.mono hz)
  have hcl2 : ∀ W', Below W.heap.size W.drew W' → Calls Tryd.prog 16 #[.int .i64 l, .slice (some ⟨X, 0, none⟩) 4 cap] W' fun e w' => ∃ v, e = .returned v ∧ SetAt w' v (clS l q) ∧ Below W'.heap.size W' w' := fun W' hb => hcl W' (hbl W' hb)
  have hst2 : ∀ W' v, Below W.heap.size W.drew W' → SetAt W' v (clS l q) → Calls Tryd.prog 32 #[RT l g, v] W' fun e w' => ∃ v' R, e = .returned v' ∧ SetAt w' v' R ∧ Stp (nxT b0 b1 s0 s1) l (clS l q) R ∧ R.length ≤ 2000 ∧ Below W'.heap.size W' w' := fun W' v hb hs => hst W' v (hbl W' hb) hs
  have hlv : ∀ W' v R, R.length ≤ 2000 → SetAt W' v R → Calls Tryd.prog 58 #[v] W' fun e w' => ∃ u, e = .returned u ∧ L4At w' u (lvS R) ∧ Below W'.heap.size W' w' := fun W' v R hR hs => leaves10_any v R W' hs (Nat.le_trans hR (by decide))
  have HBL := Lib.hid hbl
  have hkb : Below W.heap.size W.drew W.drew := Below.refl _ _
  clear hcl hst hbl hbD hb0
  unfold RT at hst2
  go_region_held3 (fun w' => w'.cell? ⟨B, 0, none⟩ = some (.int .i64 l) ∧ w'.cell? ⟨B, 1, none⟩ = some (.slice (some ⟨g, 1, none⟩) 2 2) ∧ w'.cell? ⟨B, 2, none⟩ = some (.slice (some ⟨g, 3, none⟩) 2 2)) (first | exact keep _ hkb | exact ⟨c0, c1, c2⟩)
    (first
      | (go_at_call 16; go_loud (refine Calls.mono (hcl2 _ hkb) ?_); rintro e wZ ⟨vS, rfl, hset, hbZ⟩; have hkb : Below W.heap.size W.drew wZ := hkb.trans (hbZ.mono hkb.size); clear hbZ; obtain ⟨c0, c1, c2⟩ := keep _ hkb)
      | (go_at_call 32; go_loud (refine Calls.mono (hst2 _ _ hkb hset) ?_); rintro e wZ ⟨vR, R, rfl, hsr, hR, hlen, hbZ⟩; have hkb : Below W.heap.size W.drew wZ := hkb.trans (hbZ.mono hkb.size); clear hbZ; obtain ⟨c0, c1, c2⟩ := keep _ hkb)
      | (go_at_call 58; go_loud (refine Calls.mono (hlv _ _ _ hlen hsr) ?_); rintro e wZ ⟨vL, rfl, hL4, hbZ⟩; have hkb : Below W.heap.size W.drew wZ := hkb.trans (hbZ.mono hkb.size); clear hbZ; obtain ⟨c0, c1, c2⟩ := keep _ hkb))
  all_goals
    have HL := Lib.hid hL4
    have HS := Lib.hid hR
    have HK := Lib.hid (HBL.out _ hkb)
    go_wp2_with fail
    go_ret
    exact ⟨_, _, rfl, HL.out, HS.out, by rw [HB.out]; exact HK.out⟩
end Go.Proofs.YtcmfkdhadmfgkaaDoor.Bk

/- Maps to numbers, whatever their keys: what one reads as; lookups, updates, how many there are. -/
namespace Go.Proofs.YtcmfkdhadmfgkaaDoor.Mp
open Go.RowKit Go.Proofs.YtcmfkdhadmfgkaaDoor.Ba Go.Lib Go.Maps

/-- A kind of map: its types, and how keys are told. -/
structure MK (κ : Type) where
  mT : TypeId
  kT : TypeId
  eT : TypeId
  q : IntKind
  enc : κ → Value
  kl : κ → Lit
  ok : κ → Prop
  K : Keyed Tryd.prog kT
  hu : Tryd.prog.underlying mT = some (.map kT eT)
  he : Tryd.prog.underlying eT = some (.int q)
  hz : ∀ w : World, (zeroValue eT).run Tryd.prog w = .ok (.int q 0) w
  hkey : ∀ x, ok x → keyOf Tryd.prog kT (enc x) = some (kl x)
  inj : ∀ x y, ok x → ok y → kl x = kl y → x = y
section
variable {κ : Type} (m : MK κ)
/-- What a map reads as. -/
def Reads (D : DataW Unit) (M : κ → Option Nat) : Prop :=
  (∀ x, m.ok x → has D (m.kl x) = (M x).isSome) ∧ (∀ x, m.ok x → D.atKey (m.kl x) (.lit (.int m.q 0)) = .lit (.int m.q (((M x).getD 0 : Nat) : Int))) ∧ ∀ l, has D l = true → ∃ x, m.ok x ∧ l = m.kl x
/-- A block is a map of so many entries (at most c were ever put). -/
def IsB (w : World) (b c s : Nat) (M : κ → Option Nat) : Prop := ∃ D, w.ownsMap Tryd.prog m.kT (plainElem (H := Unit) Tryd.prog m.eT) b c D ∧ Reads m D M ∧ Maps.size D = s
variable {m} {w w' : World} {b c s : Nat} {M : κ → Option Nat}
theorem IsB.lt (h : IsB m w b c s M) : b < w.heap.size := by
  obtain ⟨D, h1, _⟩ := h
  exact World.ownsMap.lt h1
theorem IsB.same (h : IsB m w b c s M) (hs : w'.heap[b]? = w.heap[b]?) : IsB m w' b c s M := by
  obtain ⟨D, ⟨es, clock, h1, r⟩, h2⟩ := h
  exact ⟨D, ⟨es, clock, hs.trans h1, r⟩, h2⟩
theorem IsB.under (h : IsB m w b c s M) (hb : Below w.heap.size w w') : IsB m w' b c s M := h.same (hb.block b h.lt)
theorem IsB.grown {row : Option Nat} (h : IsB m w b c s M) (hg : w.grownBy w' row) (hn : some b ≠ row) : IsB m w' b c s M := h.same (hg.block b h.lt hn)
theorem IsB.mono {c' : Nat} (h : IsB m w b c s M) (hc : c ≤ c') : IsB m w b c' s M := by
  obtain ⟨D, h1, h2⟩ := h
  exact ⟨D, h1.mono hc, h2⟩
theorem IsB.made (w : World) : IsB m (w.alloc (.map #[] 0)) w.heap.size 0 0 (fun _ => none) :=
  ⟨.map [], World.ownsMap_made w Tryd.prog m.kT _, ⟨fun p _ => by simp [has], fun p _ => by simp [DataW.atKey], fun l h => by simp [has] at h⟩, by simp [Maps.size]⟩
theorem IsB.look (h : IsB m w b c s M) {x : κ} (hx : m.ok x) : (Instr.lookup m.mT (.map (some b)) (m.enc x) false).run Tryd.prog w = .ok (.int m.q (((M x).getD 0 : Nat) : Int)) w := by
  obtain ⟨D, h1, ⟨_, h3, _⟩, _⟩ := h
  obtain ⟨c, hrun, hat, _⟩ := World.ownsMap.lookup_int h1 m.K m.hu m.he (m.hz w) (m.hkey x hx)
  rw [h3 x hx] at hat
  simp only [DataW.lit.injEq, Lit.int.injEq, true_and] at hat
  rw [hat]
  exact hrun
theorem zwf (q : IntKind) : (Lit.int q 0).wf = true := by cases q <;> decide
theorem IsB.lookOk (h : IsB m w b c s M) {x : κ} (hx : m.ok x) : (Instr.lookup m.mT (.map (some b)) (m.enc x) true).run Tryd.prog w = .ok (.tuple #[.int m.q (((M x).getD 0 : Nat) : Int), .bool (M x).isSome]) w := by
  obtain ⟨D, h1, ⟨h2, h3, _⟩, _⟩ := h
  obtain ⟨v, ps, hrun, hv⟩ := World.ownsMap.look_ok h1 m.K m.hu (m.hz w) (plainElem_int m.he (zwf _)) (m.hkey x hx)
  rw [h3 x hx] at hv
  obtain ⟨a, rfl, hz, _⟩ := plainElem_int_inv m.he hv
  rw [h2 x hx] at hrun
  simp only [Prod.mk.injEq, DataW.lit.injEq, Lit.int.injEq, true_and] at hz
  rw [hz.1]
  exact hrun
theorem IsB.put (h : IsB m w b c s M) (hn : c < maxLen) {x : κ} (hx : m.ok x) {y : Nat} (hy : (Lit.int m.q (y : Int)).wf = true) [DecidableEq κ] :
    ∃ w', (Instr.mapUpdate m.mT (.map (some b)) (m.enc x) (.int m.q y)).run Tryd.prog w = .ok () w' ∧ IsB m w' b (c + 1) (if (M x).isSome then s else s + 1) (fun q => if q = x then some y else M q) ∧ w.grownBy w' (some b) := by
  obtain ⟨D, h1, ⟨h2, h3, h4⟩, h5⟩ := h
  obtain ⟨w', hup, hown, hg⟩ := World.ownsMap.update h1 m.K m.hu hn (m.hkey x hx) (plainElem_int m.he hy)
  have hm := World.ownsMap.isMap h1
  have hk := m.K.key (m.hkey x hx)
  refine ⟨w', hup, ⟨_, hown, ⟨fun q hq => ?_, fun q hq => ?_, fun l hl => ?_⟩, ?_⟩, hg⟩
  · by_cases e : q = x
    · subst e
      rw [has_put_same hm hk]; simp
    · rw [has_put_other (fun e2 => e (m.inj q x hq hx e2)), h2 q hq]; simp [e]
  · by_cases e : q = x
    · subst e
      rw [atKey_put_same hm hk]; simp
    · rw [atKey_put_other (fun e2 => e (m.inj q x hq hx e2)), h3 q hq]; simp [e]
  · by_cases e : l = m.kl x
    · exact ⟨x, hx, e⟩
    · rw [has_put_other e] at hl
      exact h4 l hl
  · rw [size_put (World.ownsMap.tidy h1 m.K), h2 x hx, h5]
theorem IsB.len (h : IsB m w b c s M) (ty : TypeId) : (Builtin.len_ #[m.mT] ty #[.map (some b)]).run Tryd.prog w = .ok (.int .i64 s) w := by
  obtain ⟨D, h1, _, h5⟩ := h
  rw [← h5]
  exact World.ownsMap.len h1 m.hu ty
theorem IsB.s_le (h : IsB m w b c s M) : s ≤ c := by
  obtain ⟨D, h1, _, h5⟩ := h
  rw [← h5]
  exact World.ownsMap.size_le h1
theorem nil_lookOk (w : World) {x : κ} (hx : m.ok x) : (Instr.lookup m.mT (.map none) (m.enc x) true).run Tryd.prog w = .ok (.tuple #[.int m.q 0, .bool false]) w := Maps.look_nil true m.K m.hu (m.hz w) (m.hkey x hx)
/-- A value is a map: nil, or a block. -/
def MapAt (m : MK κ) (w : World) (v : Value) (c : Nat) (M : κ → Option Nat) : Prop := (v = .map none ∧ M = fun _ => none) ∨ ∃ b s, v = .map (some b) ∧ IsB m w b c s M
def mapBlock : Value → Option Nat
  | .map o => o
  | _ => none
theorem MapAt.lookOk {v : Value} (h : MapAt m w v c M) {x : κ} (hx : m.ok x) : (Instr.lookup m.mT v (m.enc x) true).run Tryd.prog w = .ok (.tuple #[.int m.q (((M x).getD 0 : Nat) : Int), .bool (M x).isSome]) w := by
  rcases h with ⟨rfl, rfl⟩ | ⟨b, s, rfl, h⟩
  · exact nil_lookOk w hx
  · exact h.lookOk hx
theorem MapAt.same {v : Value} (h : MapAt m w v c M) (hs : ∀ b, mapBlock v = some b → w'.heap[b]? = w.heap[b]?) : MapAt m w' v c M := by
  rcases h with h | ⟨b, s, rfl, h⟩
  · exact .inl h
  · exact .inr ⟨b, s, rfl, h.same (hs b rfl)⟩
theorem MapAt.lt {v : Value} (h : MapAt m w v c M) (b : Nat) (hb : mapBlock v = some b) : b < w.heap.size := by
  rcases h with ⟨rfl, _⟩ | ⟨b', s, rfl, h⟩
  · simp [mapBlock] at hb
  · simp [mapBlock] at hb; subst hb; exact h.lt
theorem MapAt.mono {v : Value} {c' : Nat} (h : MapAt m w v c M) (hc : c ≤ c') : MapAt m w v c' M := by
  rcases h with h | ⟨b, s, rfl, h⟩
  · exact .inl h
  · exact .inr ⟨b, s, rfl, h.mono hc⟩
/-- A map's block holds no cells. -/
theorem MapAt.blk {v : Value} (h : MapAt m w v c M) {g : Nat} {t : TypeId} {cs : Array Value} (hg : Blk w g t cs) : mapBlock v ≠ some g := by
  rcases h with ⟨rfl, _⟩ | ⟨b', s, rfl, D, ⟨es, clock, h1, _⟩, _⟩
  · simp [mapBlock]
  · simp only [mapBlock, ne_eq, Option.some.injEq]
    rintro rfl
    unfold Blk at hg
    rw [hg] at h1
    cases h1
theorem MapAt.own {v s : Value} (h : MapAt m w v c M) {base n size : Nat} {e : TypeId} {xs : List Value} (ho : w.ownsRow base e size s n xs) (b : Nat) (hb : mapBlock v = some b) : s.ownBlock ≠ some b := by
  rcases h with ⟨rfl, _⟩ | ⟨b', s', rfl, D, ⟨es, clock, h1, _⟩, _⟩
  · simp [mapBlock] at hb
  · simp [mapBlock] at hb
    subst hb
    rcases ho.2 with ⟨rfl, _⟩ | ⟨g, cap, cur, rfl, _, hh, _⟩
    · simp [Value.ownBlock]
    · simp only [Value.ownBlock, ne_eq, Option.some.injEq]
      rintro rfl
      rw [hh] at h1
      cases h1
end
/-! Keys: numbers, and arrays of four of them. -/
theorem u32_lit {n : Nat} (h : n < 4294967296) : (Lit.int .u32 (n : Int)).wf = true := by
  simp [Lit.wf, IntKind.min, IntKind.max, IntKind.signed, IntKind.bits]
  omega
theorem i64_lit {n : Int} (h : -9223372036854775808 ≤ n ∧ n ≤ 9223372036854775807) : (Lit.int .i64 n).wf = true := by
  simp [Lit.wf, IntKind.min, IntKind.max, IntKind.signed, IntKind.bits]
  omega
end Go.Proofs.YtcmfkdhadmfgkaaDoor.Mp

/- What the parts of a block are, bit by bit: its quarters, its middle, its states, whether it is empty. -/
namespace Go.Proofs.YtcmfkdhadmfgkaaDoor.Bk
open Go.RowKit Go.Proofs.YtcmfkdhadmfgkaaDoor.Ba Go.Proofs.YtcmfkdhadmfgkaaDoor.Si
open Go.Proofs.YtcmfkdhadmfgkaaDoor.Fl (C valid)

theorem qu_of (q : Nat → Nat) (i : Nat) (hi : i < 4) (hq : q i < 4294967296) : quF (ofB q) i = q i := by
  unfold quF
  have hl := lfT_lt (ofB q) (i % 2 * 4) (i / 2 * 4) 4
  refine Nat.eq_of_testBit_eq fun m => ?_
  by_cases hm : m < 32
  · rw [lfT_bit _ _ _ _ hm, show 2 * (i % 2 * 4) + m % 8 = 2 * (i % 2 * 4 + m % 8 / 2) + m % 2 by omega, ofB_bit _ _ _ _ (by omega) (by omega) (by omega)]
    rw [show (i / 2 * 4 + m / 8) / 4 * 2 + (i % 2 * 4 + m % 8 / 2) / 4 = i by omega, show 8 * ((i / 2 * 4 + m / 8) % 4) + (2 * ((i % 2 * 4 + m % 8 / 2) % 4) + m % 2) = m by omega]
  · have h32 : 2 ^ 32 ≤ 2 ^ m := Nat.pow_le_pow_right (by decide) (by omega)
    rw [Nat.testBit_lt_two_pow (Nat.lt_of_lt_of_le hl (Nat.le_trans (by decide) h32)), Nat.testBit_lt_two_pow (Nat.lt_of_lt_of_le hq (Nat.le_trans (by decide) h32))]
theorem mid_of (q : Nat → Nat) : ofF (rlS (clS 2 q) 2 2) 16 = lfT (ofB q) 2 2 4 :=
  lf_of (a := 2) (b := 2) fun i j k hi hj hk => by
    refine dec_iff ?_
    rw [mem_clS (.inr (.inl rfl)), liv_at (ofB q) (2 + i) (2 + j) k (by omega) (by omega)]
    refine ⟨fun h => h.2, fun h => ⟨?_, h⟩⟩
    unfold valid
    simp; omega
theorem state_of (q : Nat → Nat) (a b : Nat) (ha : a < 8) (hb : b < 8) : ofB q b / 2 ^ (2 * a) % 4 = st (q (b / 4 * 2 + a / 4)) (4 * (b % 4) + a % 4) := by
  unfold st
  refine st_eq fun h hh => ?_
  rw [ofB_bit _ _ _ _ ha hb hh, show 2 * (4 * (b % 4) + a % 4) + h = 8 * (b % 4) + (2 * (a % 4) + h) by omega]
theorem nil_of (q : Nat → Nat) (hq : ∀ i, i < 4 → q i < 4294967296) : nilB (ofB q) = decide (q 0 ||| q 1 ||| q 2 ||| q 3 = 0) := by
  rw [Bool.eq_iff_iff, nilB_iff, decide_eq_true_eq, Nat.or_eq_zero_iff, Nat.or_eq_zero_iff, Nat.or_eq_zero_iff]
  constructor
  · intro h
    have e : ∀ i, i < 4 → q i = 0 := fun i hi => by
      rw [← qu_of q i hi (hq i hi)]
      unfold quF
      refine Nat.eq_of_testBit_eq fun m => ?_
      by_cases hm : m < 32
      · rw [lfT_bit _ _ _ _ hm, h _ (by omega)]; simp
      · have hl := lfT_lt (ofB q) (i % 2 * 4) (i / 2 * 4) 4
        have h32 : 2 ^ 32 ≤ 2 ^ m := Nat.pow_le_pow_right (by decide) (by omega)
        rw [Nat.testBit_lt_two_pow (Nat.lt_of_lt_of_le hl (Nat.le_trans (by decide) h32))]; simp
    exact ⟨⟨⟨e 0 (by decide), e 1 (by decide)⟩, e 2 (by decide)⟩, e 3 (by decide)⟩
  · rintro ⟨⟨⟨h0, h1⟩, h2⟩, h3⟩ r _
    unfold ofB con
    rw [h0, h1, h2, h3]
    simp
end Go.Proofs.YtcmfkdhadmfgkaaDoor.Bk

/- Two tables held against each other; what the quarters of the next block are. -/
namespace Go.Proofs.YtcmfkdhadmfgkaaDoor.Bk
open Go.RowKit Go.Proofs.YtcmfkdhadmfgkaaDoor.Ba Go.Proofs.YtcmfkdhadmfgkaaDoor.Si
open Go.Proofs.YtcmfkdhadmfgkaaDoor.Fl (C Stp nxT)
open Go.Proofs.YtcmfkdhadmfgkaaDoor.Tb (Tab)
theorem equal_a2 (d : Nat) (a b : Int) (w : World) : (Op.equalIn (d + 2) 42 (.agg #[.int .u64 a, .int .u64 b]) (.agg #[.int .u64 a, .int .u64 b])).run Tryd.prog w = .ok true w := by
  unfold Op.equalIn
  simp only [Sem.run_bind, run_underlying Tryd.underlying42, Result.andThen]
  have hs : (sizeOf 41).run Tryd.prog w = .ok 1 w := by kernel_rfl
  simp only [hs]
  have p0 : (part 41 #[.int .u64 a, .int .u64 b] 0).run Tryd.prog w = .ok (.int .u64 a) w := by kernel_rfl
  have p1 : (part 41 #[.int .u64 a, .int .u64 b] 1).run Tryd.prog w = .ok (.int .u64 b) w := by kernel_rfl
  have he : ∀ (c : Int), (Op.equalIn (d + 1) 41 (.int .u64 c) (.int .u64 c)).run Tryd.prog w = .ok true w := fun c => by
    rw [run_equalIn_int w d 41 .u64 .u64 c c Tryd.underlying41]
    simp
  rw [Std.Legacy.Range.forIn_eq_forIn_range']
  simp only [Std.Legacy.Range.size, List.range', List.forIn_cons, Nat.mul_one]
  simp [p0, p1, he, Result.andThen]
set_option maxRecDepth 20000 in
theorem neq_tab (l b0 b1 s0 s1 : Nat) (w : World) : (binOp .neq 47 (Tab l b0 b1 s0 s1) (Tab l b0 b1 s0 s1)).run Tryd.prog w = .ok (.bool false) w := by
  have e : ∀ (a b : Int) (W : World), (Op.equalIn 9999 42 (.agg #[.int .u64 a, .int .u64 b]) (.agg #[.int .u64 a, .int .u64 b])).run Tryd.prog W = .ok true W := fun a b W => equal_a2 9997 a b W
  simp [go_sem]
  simp [e, Result.andThen]
/-- What the quarters of the next block are: the leaves of the next set. -/
theorem qu_lv {l b0 b1 s0 s1 : Nat} (hl : l = 1 ∨ l = 2 ∨ l = 3) {q Y : Nat → Nat} (hY : BStp l b0 b1 s0 s1 (ofB q) Y) {R : List C} (hR : Stp (nxT b0 b1 s0 s1) l (clS l q) R) {i : Nat} (hi : i < 4) : lvS R i = quF Y i := by
  unfold lvS quF
  refine lf_of fun i' j k hi' hj hk => step_all hl hY hR (by omega) (by omega) hk
end Go.Proofs.YtcmfkdhadmfgkaaDoor.Bk

/- What a memo answers: the middle of four leaves some generations on; and what is made and kept: the mathematics. -/
namespace Go.Proofs.YtcmfkdhadmfgkaaDoor.Lf
open Go.RowKit Go.Proofs.YtcmfkdhadmfgkaaDoor.Ba Go.Proofs.YtcmfkdhadmfgkaaDoor.Si Go.Proofs.YtcmfkdhadmfgkaaDoor.Bk
open Go.Proofs.YtcmfkdhadmfgkaaDoor.Fl (C Stp nxT)

/-- Nothing beyond the eight rows. -/
def Zr (x : Nat → Nat) : Prop := ∀ r, 8 ≤ r → x r = 0
theorem zr_ofB (q : Nat → Nat) : Zr (ofB q) := fun r hr => by
  unfold ofB con
  rw [if_neg (by omega), if_neg (by omega), if_neg (by omega), if_neg (by omega)]
def cutB (x : Nat → Nat) (r : Nat) : Nat := if r < 8 then x r else 0
theorem zr_cut (x : Nat → Nat) : Zr (cutB x) := fun r hr => by unfold cutB; rw [if_neg (by omega)]
theorem cut_low (x : Nat → Nat) (r : Nat) (h : r < 8) : cutB x r = x r := by unfold cutB; rw [if_pos h]
theorem bstp_cut {l b0 b1 s0 s1 : Nat} {x Y : Nat → Nat} (h : BStp l b0 b1 s0 s1 x Y) : BStp l b0 b1 s0 s1 x (cutB Y) :=
  ⟨fun r hr => by rw [cut_low _ _ hr]; exact h.lt r hr, fun n k hn hk => by rw [cut_low _ _ (by omega)]; exact h.bit n k hn hk⟩
theorem zr_ext {x y : Nat → Nat} (hx : Zr x) (hy : Zr y) (h : ∀ r, r < 8 → x r = y r) : x = y := funext fun r => by
  by_cases e : r < 8
  · exact h r e
  · rw [hx r (by omega), hy r (by omega)]
theorem bstp_uniq {l b0 b1 s0 s1 : Nat} {x Y Z : Nat → Nat} (h : BStp l b0 b1 s0 s1 x Y) (k : BStp l b0 b1 s0 s1 x Z) (hy : Zr Y) (hz : Zr Z) : Y = Z :=
  zr_ext hy hz (bk_ext h.lt k.lt fun n i hn hi => by rw [h.bit n i hn hi, k.bit n i hn hi])
/-- So many generations of a block. -/
def Gen (l b0 b1 s0 s1 : Nat) : Nat → (Nat → Nat) → (Nat → Nat) → Prop
  | 0, x, Y => x = Y
  | n + 1, x, Y => ∃ Z, BStp l b0 b1 s0 s1 x Z ∧ Zr Z ∧ Gen l b0 b1 s0 s1 n Z Y
section
variable {l b0 b1 s0 s1 : Nat}
theorem Gen.uniq : ∀ {n : Nat} {x Y Z : Nat → Nat}, Gen l b0 b1 s0 s1 n x Y → Gen l b0 b1 s0 s1 n x Z → Y = Z
  | 0, _, _, _, h, k => h.symm.trans k
  | n + 1, _, _, _, ⟨A, h1, h2, h3⟩, ⟨B, k1, k2, k3⟩ => by
    have := bstp_uniq h1 k1 h2 k2
    subst this
    exact Gen.uniq h3 k3
theorem Gen.snoc : ∀ {n : Nat} {x Y Z : Nat → Nat}, Gen l b0 b1 s0 s1 n x Y → BStp l b0 b1 s0 s1 Y Z → Zr Z → Gen l b0 b1 s0 s1 (n + 1) x Z
  | 0, _, _, Z, h, k, kz => by cases h; exact ⟨Z, k, kz, rfl⟩
  | n + 1, _, _, _, ⟨A, h1, h2, h3⟩, k, kz => ⟨A, h1, h2, h3.snoc k kz⟩
theorem Gen.lt : ∀ {n : Nat} {x Y : Nat → Nat}, Gen l b0 b1 s0 s1 n x Y → (∀ r, r < 8 → x r < 65536) → ∀ r, r < 8 → Y r < 65536
  | 0, _, _, h, k => by cases h; exact k
  | n + 1, _, _, ⟨A, h1, h2, h3⟩, _ => h3.lt h1.lt
theorem Gen.nil (hg : Fl.Good l b0 b1 s0 s1) {x : Nat → Nat} (h : ∀ r, r < 8 → x r = 0) (hz : Zr x) : ∀ n, Gen l b0 b1 s0 s1 n x x
  | 0 => rfl
  | n + 1 => ⟨x, bstp_nil hg h, hz, Gen.nil hg h hz n⟩
end
/-- The middle of four leaves, so many generations on. -/
def Res (l b0 b1 s0 s1 : Nat) (q : Nat → Nat) (n v : Nat) : Prop := ∃ Y, Gen l b0 b1 s0 s1 n (ofB q) Y ∧ v = lfT Y 2 2 4
theorem Res.uniq {l b0 b1 s0 s1 : Nat} {q : Nat → Nat} {n u v : Nat} (h : Res l b0 b1 s0 s1 q n u) (k : Res l b0 b1 s0 s1 q n v) : u = v := by
  obtain ⟨Y, hY, rfl⟩ := h
  obtain ⟨Z, hZ, rfl⟩ := k
  rw [hY.uniq hZ]
theorem ofB_congr {p q : Nat → Nat} (h : ∀ i, i < 4 → p i = q i) : ofB p = ofB q := funext fun r => by
  unfold ofB con
  rw [h 0 (by decide), h 1 (by decide), h 2 (by decide), h 3 (by decide)]
theorem Res.congr {l b0 b1 s0 s1 : Nat} {p q : Nat → Nat} {n v : Nat} (h : Res l b0 b1 s0 s1 p n v) (e : ∀ i, i < 4 → p i = q i) : Res l b0 b1 s0 s1 q n v := by
  unfold Res at *
  rw [← ofB_congr e]
  exact h
theorem Res.lt {l b0 b1 s0 s1 : Nat} {q : Nat → Nat} {n v : Nat} (h : Res l b0 b1 s0 s1 q n v) : v < 4294967296 := by
  obtain ⟨Y, _, rfl⟩ := h
  exact lfT_lt Y 2 2 4
theorem ofB_nil {q : Nat → Nat} (h : ∀ i, i < 4 → q i = 0) (r : Nat) : ofB q r = 0 := by
  unfold ofB con
  rw [h 0 (by decide), h 1 (by decide), h 2 (by decide), h 3 (by decide)]
  simp
theorem Res.nil {l b0 b1 s0 s1 : Nat} (hg : Fl.Good l b0 b1 s0 s1) {q : Nat → Nat} (h : ∀ i, i < 4 → q i = 0) (n : Nat) : Res l b0 b1 s0 s1 q n (lfT (ofB q) 2 2 4) :=
  ⟨ofB q, Gen.nil hg (fun r _ => ofB_nil h r) (zr_ofB q) n, rfl⟩
theorem of_qu {x : Nat → Nat} (hx : ∀ r, r < 8 → x r < 65536) (hz : Zr x) : ofB (quF x) = x := by
  refine zr_ext (zr_ofB _) hz (bk_ext (fun r hr => ofB_lt _ r hr) hx fun n h hn hh => ?_)
  rw [ofB_bit _ _ _ _ (by omega) (by omega) hh]
  unfold quF
  rw [lfT_bit _ _ _ _ (by omega)]
  rw [show (n / 8 / 4 * 2 + n % 8 / 4) / 2 * 4 + (8 * (n / 8 % 4) + (2 * (n % 8 % 4) + h)) / 8 = n / 8 by omega, show 2 * ((n / 8 / 4 * 2 + n % 8 / 4) % 2 * 4) + (8 * (n / 8 % 4) + (2 * (n % 8 % 4) + h)) % 8 = 2 * (n % 8) + h by omega]
/-- The document's next leaves stand in the next block. -/
theorem next_of {l b0 b1 s0 s1 : Nat} (hl : l = 1 ∨ l = 2 ∨ l = 3) {q Z : Nat → Nat} (h : BStp l b0 b1 s0 s1 (ofB q) Z) (hz : Zr Z) {R : List C} (hR : Stp (nxT b0 b1 s0 s1) l (clS l q) R) : ofB (lvS R) = Z := by
  rw [ofB_congr (p := lvS R) (q := quF Z) fun i hi => qu_lv hl h hR hi]
  exact of_qu h.lt hz
/-! Plays. -/
abbrev K5 := Nat × Nat × Nat × Nat × Nat
def kQ (q : Nat → Nat) (n : Nat) : K5 := (q 0, q 1, q 2, q 3, n)
theorem kQ_inj {p q : Nat → Nat} {m n : Nat} (h : kQ p m = kQ q n) : (∀ i, i < 4 → p i = q i) ∧ m = n := by
  unfold kQ at h
  simp only [Prod.mk.injEq] at h
  obtain ⟨h0, h1, h2, h3, h4⟩ := h
  refine ⟨fun i hi => ?_, h4⟩
  have : i = 0 ∨ i = 1 ∨ i = 2 ∨ i = 3 := by omega
  rcases this with rfl | rfl | rfl | rfl <;> assumption
/-- Worth a place. -/
def wor (k : K5) : Bool := !(k.2.2.2.2 == 0 || (k.1 == 0 && (k.2.1 == 0 && (k.2.2.1 == 0 && k.2.2.2.1 == 0))))
/-- One ask more: how many were made, and what is kept. -/
def plS (most : Nat) (s : Nat × List K5) (k : K5) : Nat × List K5 :=
  if wor k then if k ∈ s.2 then s else (s.1 + 1, if most = 0 then [] else (if most ≤ s.2.length then [] else s.2) ++ [k]) else s
theorem plS_no {most : Nat} {s : Nat × List K5} {k : K5} (h : wor k = false) : plS most s k = s := by unfold plS; rw [h]; rfl
theorem plS_in {most : Nat} {s : Nat × List K5} {k : K5} (h : k ∈ s.2) : plS most s k = s := by unfold plS; rw [if_pos h]; split <;> rfl
theorem plS_new {most : Nat} {s : Nat × List K5} {k : K5} (h : wor k = true) (hk : k ∉ s.2) : plS most s k = (s.1 + 1, if most = 0 then [] else (if most ≤ s.2.length then [] else s.2) ++ [k]) := by unfold plS; rw [h, if_neg hk]; rfl
theorem plS_le (most : Nat) (s : Nat × List K5) (k : K5) : (plS most s k).1 ≤ s.1 + 1 := by
  unfold plS
  split
  · split <;> simp
  · simp
/-- No more than may be. -/
theorem plS_len {most : Nat} {s : Nat × List K5} {k : K5} (h : s.2.length ≤ most) : (plS most s k).2.length ≤ most := by
  unfold plS
  split
  · split
    · exact h
    · dsimp only
      split
      · simp
      · split <;> simp <;> omega
  · exact h
/-- The ask, with its generations from 0 to 2. -/
def clN (n : Int) : Nat := (max 0 (min n 2)).toNat
theorem clN_le (n : Int) : clN n ≤ 2 := by unfold clN; omega
end Go.Proofs.YtcmfkdhadmfgkaaDoor.Lf

/- The last step of a law of which 'Below' alone is known. -/
namespace Go.Proofs.YtcmfkdhadmfgkaaDoor.Ba
open Go.RowKit Go.WideShapes Go.ChangeShapes

section
variable {H : Type} {enc : TypeId × Value → H} {P : Program}
/-- Behind a call that turned nothing of what was there, the arguments read as they did. -/
theorem all_below (hl : laidOutB P = true) {W W' : World} (hb : Below W.heap.size W W') : ∀ {ts : List TypeId} {vs : List Value} {ds : List (DataW H)} {ps : List MemPlace},
    (∀ t ∈ ts, P.readableRec t = true ∧ t < P.types.size) → (∀ x ∈ ps, x.block < W.heap.size) → DataW.TrodAll enc P W 0 (fun _ => true) true ts vs ds ps → DataW.TrodAll enc P W' 0 (fun b => decide (b < W.heap.size)) true ts vs ds ps
  | [], _, _, _, _, _, h => by
    obtain ⟨rfl, rfl, rfl⟩ := trodAll_nil h
    exact trodAll_mk0
  | t :: ts, _, _, _, ht, hlt, h => by
    obtain ⟨v, vs, d, ds, p, q, rfl, rfl, rfl, h0, r⟩ := trodAll_cons h
    exact trodAll_cons_mk (Below.trod hl (ht t (by simp)).1 (ht t (by simp)).2 h0 hb (fun x hx => hlt x (by simp [hx]))) (all_below hl hb (fun u hu => ht u (by simp [hu])) (fun x hx => hlt x (by simp [hx])) r)

/-- THE LAST STEP OF A LAW: it answered true, and turned nothing of what was there. -/
theorem law_post (hl : laidOutB P = true) {f : Func} {s : ChangeSpec} {tb : TypeId} {W W' : World} {args : Array Value} {ds gs : List (DataW H)} {before : List MemPlace}
    (hvars : s.vars = []) (hrt : f.resultTypes = #[tb]) (hu : P.underlying tb = some .bool) (hts0 : (f.params.toList.all fun t => P.readableRec t && decide (t < P.types.size)) = true)
    (hW : DataW.Whole enc P f.params.toList s.vars false W args.toList ds gs before) (hb : Below W.heap.size W W')
    (hs : (s.fn H (ds ++ gs)).results = [.lit (.bool true)] ∧ (s.fn H (ds ++ gs)).args = ds ∧ (s.fn H (ds ++ gs)).vars = []) :
    s.post enc P f false true false false W args (.bool true) W' := by
  have hlt : ∀ x ∈ before, x.block < W.heap.size := fun x hx => hW.lt x hx
  have hts : ∀ t ∈ f.params.toList, P.readableRec t = true ∧ t < P.types.size := fun t ht => by
    have := List.all_eq_true.1 hts0 t ht
    simpa using this
  have hW' := hW
  obtain ⟨p, q, hA, hV, rfl, hz, hn⟩ := hW
  obtain ⟨h1, h2, h3⟩ := hs
  rw [hvars] at hV
  obtain ⟨rfl, rfl⟩ := trodVars_none hV
  refine ⟨ds, [], p ++ [], [], p, [], hW', ?_, ?_, ?_, World.keptBut_mono (fun x hx => ⟨hx, Or.inr (Or.inl (by simpa using hx))⟩) (hb.frame (fun x => x ∈ p ++ [])), fun h => by cases h⟩
  · rw [h1, hrt]
    exact trodAll_cons_mk (shut_bool hu true) trodAll_mk0
  · rw [h2]
    exact all_below hl hb hts (fun x hx => hlt x (by simpa using hx)) hA
  · rw [h3, hvars]
    rfl
end
theorem laidOut : laidOutB Tryd.prog = true := by kernel_rfl
theorem own : ownKnob Tryd.prog.godebug = none := by kernel_rfl
end Go.Proofs.YtcmfkdhadmfgkaaDoor.Ba

/- Maps from questions (four leaves, and how many generations) to leaves. -/
namespace Go.Proofs.YtcmfkdhadmfgkaaDoor.Lf
open Go.RowKit Go.Proofs.YtcmfkdhadmfgkaaDoor.Ba Go.Lib Go.Maps Go.Proofs.YtcmfkdhadmfgkaaDoor.Mp

abbrev QV (k : K5) : Value := .agg #[.int .u32 k.1, .int .u32 k.2.1, .int .u32 k.2.2.1, .int .u32 k.2.2.2.1, .int .i64 k.2.2.2.2]
def okK (k : K5) : Prop := (k.1 < 4294967296 ∧ k.2.1 < 4294967296 ∧ k.2.2.1 < 4294967296 ∧ k.2.2.2.1 < 4294967296) ∧ k.2.2.2.2 ≤ 2
def lQ (k : K5) : Lit := .string (keyBytes [.int .u32 k.1, .int .u32 k.2.1, .int .u32 k.2.2.1, .int .u32 k.2.2.2.1, .int .i64 k.2.2.2.2])
theorem okK_lits {k : K5} (h : okK k) : (Lit.int .u32 (k.1 : Int)).wf = true ∧ (Lit.int .u32 (k.2.1 : Int)).wf = true ∧ (Lit.int .u32 (k.2.2.1 : Int)).wf = true ∧ (Lit.int .u32 (k.2.2.2.1 : Int)).wf = true ∧ (Lit.int .i64 (k.2.2.2.2 : Int)).wf = true :=
  ⟨u32_lit h.1.1, u32_lit h.1.2.1, u32_lit h.1.2.2.1, u32_lit h.1.2.2.2, i64_lit (by have := h.2; omega)⟩
theorem kl_quest (d : Nat) (k : K5) (h : okK k) : Tryd.prog.keyLits (d + 4) 130 [.int .u32 k.1, .int .u32 k.2.1, .int .u32 k.2.2.1, .int .u32 k.2.2.2.1, .int .i64 k.2.2.2.2] = some [.int .u32 k.1, .int .u32 k.2.1, .int .u32 k.2.2.1, .int .u32 k.2.2.2.1, .int .i64 k.2.2.2.2] := by
  have c0 : Tryd.prog.cellsOf 29 = 1 := by kernel_rfl
  have c1 : Tryd.prog.cellsOf 3 = 1 := by kernel_rfl
  have c2 : Tryd.prog.cellsOf 30 = 4 := by kernel_rfl
  have c3 : Tryd.prog.cellsOf 130 = 5 := by kernel_rfl
  obtain ⟨w0, w1, w2, w3, w4⟩ := okK_lits h
  simp [Program.keyLits, Tryd.underlying130, Tryd.underlying30, Tryd.underlying29, Tryd.underlying3, c0, c1, c2, c3, w0, w1, w2, w3, w4, show List.range 4 = [0, 1, 2, 3] from rfl]
  try rw [if_pos (by decide)]
  try rfl
theorem key_quest (k : K5) (h : okK k) : keyOf Tryd.prog 130 (QV k) = some (lQ k) := by
  have e0 : Tryd.prog.types.size + 1 = 215 - 3 + 4 := by kernel_rfl
  have e1 : Tryd.prog.keyType 130 = true := by kernel_rfl
  have e2 : (QV k).formed Tryd.prog 130 = true := by kernel_rfl
  have e3 := kl_quest (215 - 3) k h
  unfold keyOf
  rw [Tryd.underlying130]
  simp only [e1, e2, Bool.and_self, if_true, e0]
  rw [show (QV k).cells.toList = [.int .u32 k.1, .int .u32 k.2.1, .int .u32 k.2.2.1, .int .u32 k.2.2.2.1, .int .i64 k.2.2.2.2] from rfl, e3]
  rfl
theorem lQ_inj (p q : K5) (hp : okK p) (hq : okK q) (e : lQ p = lQ q) : p = q := by
  unfold lQ at e
  injection e with e
  obtain ⟨p0, p1, p2, p3, p4⟩ := okK_lits hp
  obtain ⟨q0, q1, q2, q3, q4⟩ := okK_lits hq
  have := keyBytes_inj (l := [.int .u32 p.1, .int .u32 p.2.1, .int .u32 p.2.2.1, .int .u32 p.2.2.2.1, .int .i64 p.2.2.2.2]) (l' := [.int .u32 q.1, .int .u32 q.2.1, .int .u32 q.2.2.1, .int .u32 q.2.2.2.1, .int .i64 q.2.2.2.2]) ⟨rfl, rfl, rfl, rfl, rfl, trivial⟩
    (by intro x hx; simp at hx; rcases hx with rfl | rfl | rfl | rfl | rfl <;> assumption) (by intro x hx; simp at hx; rcases hx with rfl | rfl | rfl | rfl | rfl <;> assumption) e
  obtain ⟨a, b, c, d, n⟩ := p
  obtain ⟨a', b', c', d', n'⟩ := q
  simp only [List.cons.injEq, Lit.int.injEq, true_and, and_true, Int.ofNat_inj] at this
  obtain ⟨h1, h2, h3, h4, h5⟩ := this
  rw [h1, h2, h3, h4, h5]
theorem rowQ : (130 : TypeId) < Tryd.prog.types.size := of_decide_eq_true (by kernel_rfl)
theorem ktQ : Tryd.prog.keyTypeAt 4 130 = true := by kernel_rfl
theorem lawQ : WideMaps.KeyLaw Tryd.prog 130 := deep_law_laid laidOut (m := 4) (by omega) rowQ ktQ (by rw [Tryd.underlying130])
theorem keyedQ : Keyed Tryd.prog 130 := Keyed.of_law lawQ
theorem zeroLf (w : World) : (zeroValue 29).run Tryd.prog w = .ok (.int .u32 0) w := by kernel_rfl
def mkQ : MK K5 where
  mT := 126
  kT := 130
  eT := 29
  q := .u32
  enc := QV
  kl := lQ
  ok := okK
  K := keyedQ
  hu := Tryd.underlying126
  he := Tryd.underlying29
  hz := zeroLf
  hkey := key_quest
  inj := lQ_inj
/-- What is cleared holds nothing. -/
theorem IsB.clear {w : World} {b c s : Nat} {M : K5 → Option Nat} (h : IsB mkQ w b c s M) (ty : TypeId) :
    ∃ w', (Builtin.clear_ #[126] ty #[.map (some b)]).run Tryd.prog w = .ok (.tuple #[]) w' ∧ IsB mkQ w' b 0 0 (fun _ => none) ∧ w.grownBy w' (some b) := by
  obtain ⟨D, ⟨es, clock, hb, F, _, _⟩, _⟩ := h
  refine ⟨{ w with heap := w.heap.setIfInBounds b (.map #[] clock) }, ?_, ⟨.map [], ⟨#[], clock, ?_, ⟨by simp, MapKept.stamped_empty clock, by simp⟩, Nat.le_refl _, rfl⟩, ⟨fun p _ => by simp [has], fun p _ => by simp [DataW.atKey], fun l h => by simp [has] at h⟩, by simp [Maps.size]⟩, ?_⟩
  · simp [Builtin.clear_, run_underlying Tryd.underlying126, MapKept.run_getObj_map hb, MapKept.run_setObj_map _ hb, Result.andThen]
  · exact ChangeMaps.heap_setBlock_same hb _
  · exact ⟨rfl, rfl, rfl, by simp, fun i _ hi => ChangeMaps.heap_setBlock_other hb _ (fun e => hi (by rw [e]))⟩
end Go.Proofs.YtcmfkdhadmfgkaaDoor.Lf

/- A memo in memory; contracts of package leaf: New, Clear, Made, Kept, stepped. -/
namespace Go.Proofs.YtcmfkdhadmfgkaaDoor.Lf
open Go.RowKit Go.Proofs.YtcmfkdhadmfgkaaDoor.Ba Go.Lib Go.Maps Go.Proofs.YtcmfkdhadmfgkaaDoor.Mp Go.Proofs.YtcmfkdhadmfgkaaDoor.Bk

/-- The ten cells of a memo. -/
def meC (l b0 b1 s0 s1 : Nat) (v0 v1 : Value) (most : Nat) (made : Nat) (m : Nat) : Array Value := #[.int .i64 l, .int .u64 b0, .int .u64 b1, .int .u64 s0, .int .u64 s1, v0, v1, .int .i64 most, .int .i64 made, .map (some m)]
/-- A memo in memory: its block, the map's; what it answers hangs on the kernel alone. -/
structure MemI (w : World) (B g l b0 b1 s0 s1 most : Nat) (v0 v1 : Value) (made m c : Nat) (M : K5 → Option Nat) (K : List K5) : Prop where
  blk : Blk w g 128 (meC l b0 b1 s0 s1 v0 v1 most made m)
  n0 : NbAt w B v0 (NB l 0)
  n1 : l ≠ 1 → NbAt w B v1 (NB l 1)
  isB : IsB mkQ w m c K.length M
  hg : B ≤ g
  hm : B ≤ m
  hc : c ≤ made
  hl : K.length ≤ most
  mem : ∀ k, okK k → ((M k).isSome = true ↔ k ∈ K)
  res : ∀ (q : Nat → Nat) (n v : Nat), (∀ i, i < 4 → q i < 4294967296) → n ≤ 2 → M (kQ q n) = some v → Res l b0 b1 s0 s1 q n v
def MemAt (w : World) (B g m l b0 b1 s0 s1 most : Nat) (s : Nat × List K5) : Prop := ∃ v0 v1 c M, MemI w B g l b0 b1 s0 s1 most v0 v1 s.1 m c M s.2
section
variable {w w' : World} {B g l b0 b1 s0 s1 most : Nat} {v0 v1 : Value} {made made' m c : Nat} {M : K5 → Option Nat} {K : List K5}
theorem MemI.low (h : MemI w B g l b0 b1 s0 s1 most v0 v1 made m c M K) : B ≤ w.heap.size := by
  obtain ⟨_, _, _, _, hB, _⟩ := h.n0
  exact hB
theorem MemI.under (h : MemI w B g l b0 b1 s0 s1 most v0 v1 made m c M K) (hb : Below w.heap.size w w') : MemI w' B g l b0 b1 s0 s1 most v0 v1 made m c M K :=
  ⟨h.blk.under hb, h.n0.same hb.size (fun k hk => hb.block k (Nat.lt_of_lt_of_le hk h.low)), fun e => (h.n1 e).same hb.size (fun k hk => hb.block k (Nat.lt_of_lt_of_le hk h.low)), h.isB.under hb, h.hg, h.hm, h.hc, h.hl, h.mem, h.res⟩
theorem MemAt.under {s : Nat × List K5} (h : MemAt w B g m l b0 b1 s0 s1 most s) (hb : Below w.heap.size w w') : MemAt w' B g m l b0 b1 s0 s1 most s := by
  obtain ⟨v0, v1, c, M, h⟩ := h
  exact ⟨v0, v1, c, M, h.under hb⟩
theorem MemI.ne (h : MemI w B g l b0 b1 s0 s1 most v0 v1 made m c M K) : m ≠ g := fun e => by
  have hL : MapAt mkQ w (.map (some m)) c M := .inr ⟨m, _, rfl, h.isB⟩
  exact hL.blk h.blk (by rw [← e]; rfl)
theorem MemI.ker (h : MemI w B g l b0 b1 s0 s1 most v0 v1 made m c M K) : KerAt w w.heap.size g l b0 b1 s0 s1 := by
  refine ⟨h.blk.lt, v0, v1, fun i hi => ?_, h.n0.up h.low (Nat.le_refl _), fun e => (h.n1 e).up h.low (Nat.le_refl _)⟩
  rw [h.blk.cell i]
  unfold meC
  have : i = 0 ∨ i = 1 ∨ i = 2 ∨ i = 3 ∨ i = 4 ∨ i = 5 ∨ i = 6 := by omega
  rcases this with rfl | rfl | rfl | rfl | rfl | rfl | rfl <;> rfl
theorem MemI.lt (h : MemI w B g l b0 b1 s0 s1 most v0 v1 made m c M K) : g < w.heap.size ∧ m < w.heap.size := ⟨h.blk.lt, h.isB.lt⟩
/-- Another number of results made. -/
theorem MemI.count (h : MemI w B g l b0 b1 s0 s1 most v0 v1 made m c M K) (hc : c ≤ made') : MemI (w.setCell ⟨g, 8, none⟩ (.int .i64 (made' : Nat))) B g l b0 b1 s0 s1 most v0 v1 made' m c M K := by
  have hb : ∀ k, k < B → (w.setCell ⟨g, 8, none⟩ (.int .i64 (made' : Nat))).heap[k]? = w.heap[k]? := fun k hk => Below.heap_setCell w ⟨g, 8, none⟩ _ k (by have := h.hg; show k ≠ g; omega)
  exact ⟨h.blk.set_ 8 (.int .i64 (made' : Nat)), h.n0.same (by simp) hb, fun e => (h.n1 e).same (by simp) hb, h.isB.same (Below.heap_setCell w ⟨g, 8, none⟩ _ m h.ne), h.hg, h.hm, hc, h.hl, h.mem, h.res⟩
end
/-- All but the memo's two blocks stay. -/
structure OffM (g m : Nat) (w w' : World) : Prop where
  os : w'.os = w.os
  tape : w'.tape = w.tape
  output : w'.output = w.output
  size : w.heap.size ≤ w'.heap.size
  block : ∀ k, k < w.heap.size → k ≠ g → k ≠ m → w'.heap[k]? = w.heap[k]?
theorem OffM.of {w w' : World} {g m : Nat} (h : Below w.heap.size w w') : OffM g m w w' := ⟨h.os, h.tape, h.output, h.size, fun k hk _ _ => h.block k hk⟩
theorem OffM.trans {w w1 w2 : World} {g m : Nat} (h : OffM g m w w1) (k : OffM g m w1 w2) : OffM g m w w2 :=
  ⟨k.os.trans h.os, k.tape.trans h.tape, k.output.trans h.output, Nat.le_trans h.size k.size, fun b hb h1 h2 => (k.block b (Nat.lt_of_lt_of_le hb h.size) h1 h2).trans (h.block b hb h1 h2)⟩
theorem OffM.of_g {w w' : World} {g m : Nat} (h : w.grownBy w' (some g)) : OffM g m w w' := ⟨h.os, h.tape, h.output, h.size, fun k hk h1 _ => h.block k hk (fun e => h1 (by injection e))⟩
theorem OffM.of_m {w w' : World} {g m : Nat} (h : w.grownBy w' (some m)) : OffM g m w w' := ⟨h.os, h.tape, h.output, h.size, fun k hk _ h1 => h.block k hk (fun e => h1 (by injection e))⟩
theorem OffM.below {w w' : World} {B g m : Nat} (h : OffM g m w w') (hg : B ≤ g) (hm : B ≤ m) (hB : B ≤ w.heap.size) : Below B w w' :=
  ⟨h.os, h.tape, h.output, h.size, fun k hk => h.block k (Nat.lt_of_lt_of_le hk hB) (by omega) (by omega)⟩
theorem OffM.blk {w w' : World} {g m k : Nat} {t : TypeId} {cs : Array Value} (h : OffM g m w w') (hk : Blk w k t cs) (h1 : k ≠ g) (h2 : k ≠ m) : Blk w' k t cs := (h.block k hk.lt h1 h2).trans hk
set_option maxRecDepth 100000 in
theorem made_any (B g m l b0 b1 s0 s1 most : Nat) (s : Nat × List K5) (w : World) (h : MemAt w B g m l b0 b1 s0 s1 most s) :
    Calls Tryd.prog 39 #[.pointer (some ⟨g, 0, none⟩)] w fun e w' => e = .returned (.int .i64 s.1) ∧ w = w' := by
  obtain ⟨v0, v1, c, M, h⟩ := h
  have c8 := h.blk.cell 8
  have hlt := h.blk.lt
  unfold meC at c8
  simp only [List.getElem?_toArray, List.getElem?_cons_zero, List.getElem?_cons_succ] at c8
  clear h
  go_enter Tryd.func39, Tryd.ntmps39
  go_wp2
  go_ret
  exact ⟨rfl, rfl⟩
set_option maxRecDepth 100000 in
theorem kept_any (B g m l b0 b1 s0 s1 most : Nat) (s : Nat × List K5) (w : World) (h : MemAt w B g m l b0 b1 s0 s1 most s) :
    Calls Tryd.prog 40 #[.pointer (some ⟨g, 0, none⟩)] w fun e w' => e = .returned (.int .i64 s.2.length) ∧ w = w' := by
  obtain ⟨v0, v1, c, M, h⟩ := h
  have c9 := h.blk.cell 9
  have hlt := h.blk.lt
  have hlen := fun ty => h.isB.len ty
  unfold meC at c9
  simp only [List.getElem?_toArray, List.getElem?_cons_zero, List.getElem?_cons_succ] at c9
  change ∀ ty, (Builtin.len_ #[126] ty #[.map (some m)]).run Tryd.prog w = .ok (.int .i64 s.2.length) w at hlen
  clear h
  go_enter Tryd.func40, Tryd.ntmps40
  go_wp2
  go_ret
  exact ⟨rfl, rfl⟩
/-- What is cleared keeps nothing. -/
theorem MemI.cleared {w w' : World} {B g l b0 b1 s0 s1 most : Nat} {v0 v1 : Value} {made m c : Nat} {M : K5 → Option Nat} {K : List K5} (h : MemI w B g l b0 b1 s0 s1 most v0 v1 made m c M K) (hI : IsB mkQ w' m 0 0 fun _ => none) (hg : w.grownBy w' (some m)) : MemI w' B g l b0 b1 s0 s1 most v0 v1 made m 0 (fun _ => none) [] := by
  have hb : ∀ k, k < B → w'.heap[k]? = w.heap[k]? := fun k hk => hg.block k (Nat.lt_of_lt_of_le hk h.low) (fun e => by injection e with e; have := h.hm; omega)
  exact ⟨h.blk.grown hg (fun e => h.ne (by injection e with e; exact e.symm)), h.n0.same hg.size hb, fun e => (h.n1 e).same hg.size hb, hI, h.hg, h.hm, Nat.zero_le _, Nat.zero_le _, fun k _ => by simp, fun q n v _ _ e => by cases e⟩
set_option maxRecDepth 100000 in
theorem clear_any (B g l b0 b1 s0 s1 most made m c : Nat) (v0 v1 : Value) (M : K5 → Option Nat) (K : List K5) (w : World) (h : MemI w B g l b0 b1 s0 s1 most v0 v1 made m c M K) :
    Calls Tryd.prog 41 #[.pointer (some ⟨g, 0, none⟩)] w fun e w' => e = .returned (.tuple #[]) ∧ MemI w' B g l b0 b1 s0 s1 most v0 v1 made m 0 (fun _ => none) [] ∧ w.grownBy w' (some m) := by
  have c9 := h.blk.cell 9
  have hlt := h.blk.lt
  obtain ⟨w1, hcl, hI, hg⟩ := IsB.clear h.isB 0
  have hcl' : ∀ ty, (Builtin.clear_ #[126] ty #[.map (some m)]).run Tryd.prog w = .ok (.tuple #[]) w1 := fun _ => hcl
  have HM := Lib.hid (h.cleared hI hg)
  unfold meC at c9
  simp only [List.getElem?_toArray, List.getElem?_cons_zero, List.getElem?_cons_succ] at c9
  clear h hcl hI
  go_enter Tryd.func41, Tryd.ntmps41
  go_wp2
  go_end0
  exact ⟨rfl, HM.out, hg⟩
theorem me_new (B g l b0 b1 s0 s1 mo : Nat) (w : World) (h : KerAt w B g l b0 b1 s0 s1) : ∃ v0 v1, g < w.heap.size ∧ (w.cell? ⟨g, 0, none⟩ = some (.int .i64 l) ∧ w.cell? ⟨g, 1, none⟩ = some (.int .u64 b0) ∧ w.cell? ⟨g, 2, none⟩ = some (.int .u64 b1) ∧ w.cell? ⟨g, 3, none⟩ = some (.int .u64 s0) ∧ w.cell? ⟨g, 4, none⟩ = some (.int .u64 s1) ∧ w.cell? ⟨g, 5, none⟩ = some v0 ∧ w.cell? ⟨g, 6, none⟩ = some v1) ∧
    Below w.heap.size w ((w.alloc (.map #[] 0)).alloc (.cells (meC l b0 b1 s0 s1 v0 v1 mo 0 w.heap.size) 128)) ∧ MemAt ((w.alloc (.map #[] 0)).alloc (.cells (meC l b0 b1 s0 s1 v0 v1 mo 0 w.heap.size) 128)) w.heap.size (w.heap.size + 1) w.heap.size l b0 b1 s0 s1 mo (0, []) := by
  have hlow := h.low
  obtain ⟨hgB, v0, v1, k, n0, n1⟩ := h
  have hlt : g < w.heap.size := by omega
  have n0' := n0.up hlow (Nat.le_refl _)
  have n1' := fun e => (n1 e).up hlow (Nat.le_refl _)
  have hb : Below w.heap.size w ((w.alloc (.map #[] 0)).alloc (.cells (meC l b0 b1 s0 s1 v0 v1 mo 0 w.heap.size) 128)) := by go_grown
  exact ⟨v0, v1, hlt, ⟨k.cell 0, k.cell 1, k.cell 2, k.cell 3, k.cell 4, k.cell 5, k.cell 6⟩, hb, v0, v1, 0, fun _ => none, Blk.newAt _ _ _ _ (by simp), n0'.same (by simp; omega) (fun k hk => hb.block k hk), fun e => (n1' e).same (by simp; omega) (fun k hk => hb.block k hk), (IsB.made w).under (by go_grown), by omega, by omega, by omega, Nat.zero_le _, fun k _ => by simp, fun q n v _ _ e => by cases e⟩
set_option maxRecDepth 100000 in
theorem lfnew_any (B g l b0 b1 s0 s1 : Nat) (most : Int) (w : World) (h : KerAt w B g l b0 b1 s0 s1) :
    Calls Tryd.prog 34 #[.pointer (some ⟨g, 0, none⟩), .int .i64 most] w fun e w' => ∃ g' m, e = .returned (.pointer (some ⟨g', 0, none⟩)) ∧ MemAt w' w.heap.size g' m l b0 b1 s0 s1 most.toNat (0, []) ∧ g' < w'.heap.size ∧ m < w'.heap.size ∧ Below w.heap.size w w' := by
  obtain ⟨v0, v1, hlt, ⟨c0, c1, c2, c3, c4, c5, c6⟩, hb, hM⟩ := me_new B g l b0 b1 s0 s1 most.toNat w h
  have hmm := @run_makeMap Tryd.prog
  have HM := Lib.hid hM
  have HB := Lib.hid hb
  unfold meC at HM HB
  clear h hM hb
  by_cases h0 : 0 ≤ most
  · obtain ⟨mo, rfl⟩ := Int.eq_ofNat_of_zero_le h0
    rw [Int.toNat_natCast] at *
    clear h0
    go_enter Tryd.func34, Tryd.ntmps34
    go_wp2_with fail
    go_ret
    exact ⟨_, _, rfl, HM.out, by simp, by simp; omega, HB.out⟩
  · rw [show most.toNat = 0 by omega] at *
    go_enter Tryd.func34, Tryd.ntmps34
    go_wp2_with fail
    go_ret
    exact ⟨_, rfl, _, HM.out, by simp, by simp; omega, HB.out⟩
end Go.Proofs.YtcmfkdhadmfgkaaDoor.Lf

/- Contracts of package leaf: stepped. -/
namespace Go.Proofs.YtcmfkdhadmfgkaaDoor.Lf
open Go.RowKit Go.Proofs.YtcmfkdhadmfgkaaDoor.Ba Go.Lib Go.Maps Go.Proofs.YtcmfkdhadmfgkaaDoor.Mp Go.Proofs.YtcmfkdhadmfgkaaDoor.Bk

def SpR (W : World) (l b0 b1 s0 s1 : Nat) (x : Nat → Nat) (n : Nat) (t : Value) (wr : World) : Prop :=
  ∃ (k : Nat) (X : Nat → Nat), k ≤ n ∧ t = .int .i64 k ∧ Gen l b0 b1 s0 s1 k x X ∧ Blk wr W.heap.size 27 (bkA X) ∧ Below W.heap.size W wr
theorem bk_store {w : World} {p : Nat} {X Y : Nat → Nat} (h : Blk w p 27 (bkA X)) :
    Blk ((((((((w.setCell ⟨p, 0, none⟩ (.int .u16 (Y 0))).setCell ⟨p, 1, none⟩ (.int .u16 (Y 1))).setCell ⟨p, 2, none⟩ (.int .u16 (Y 2))).setCell ⟨p, 3, none⟩ (.int .u16 (Y 3))).setCell ⟨p, 4, none⟩ (.int .u16 (Y 4))).setCell ⟨p, 5, none⟩ (.int .u16 (Y 5))).setCell ⟨p, 6, none⟩ (.int .u16 (Y 6))).setCell ⟨p, 7, none⟩ (.int .u16 (Y 7))) p 27 (bkA Y) := by
  have h8 := (((((((h.set_ 0 (.int .u16 (Y 0))).set_ 1 (.int .u16 (Y 1))).set_ 2 (.int .u16 (Y 2))).set_ 3 (.int .u16 (Y 3))).set_ 4 (.int .u16 (Y 4))).set_ 5 (.int .u16 (Y 5))).set_ 6 (.int .u16 (Y 6))).set_ 7 (.int .u16 (Y 7))
  unfold bkA at h8 ⊢
  simpa only [List.setIfInBounds_toArray, List.set_cons_zero, List.set_cons_succ] using h8
theorem bk_stored {W w : World} {p : Nat} {Y : Nat → Nat} (h : Below W.heap.size W w) (hp : W.heap.size ≤ p) :
    Below W.heap.size W ((((((((w.setCell ⟨p, 0, none⟩ (.int .u16 (Y 0))).setCell ⟨p, 1, none⟩ (.int .u16 (Y 1))).setCell ⟨p, 2, none⟩ (.int .u16 (Y 2))).setCell ⟨p, 3, none⟩ (.int .u16 (Y 3))).setCell ⟨p, 4, none⟩ (.int .u16 (Y 4))).setCell ⟨p, 5, none⟩ (.int .u16 (Y 5))).setCell ⟨p, 6, none⟩ (.int .u16 (Y 6))).setCell ⟨p, 7, none⟩ (.int .u16 (Y 7))) :=
  (((((((h.setCell (p := ⟨p, 0, none⟩) hp (.int .u16 (Y 0))).setCell (p := ⟨p, 1, none⟩) hp (.int .u16 (Y 1))).setCell (p := ⟨p, 2, none⟩) hp (.int .u16 (Y 2))).setCell (p := ⟨p, 3, none⟩) hp (.int .u16 (Y 3))).setCell (p := ⟨p, 4, none⟩) hp (.int .u16 (Y 4))).setCell (p := ⟨p, 5, none⟩) hp (.int .u16 (Y 5))).setCell (p := ⟨p, 6, none⟩) hp (.int .u16 (Y 6))).setCell (p := ⟨p, 7, none⟩) hp (.int .u16 (Y 7))
set_option maxRecDepth 100000 in
set_option maxHeartbeats 2000000 in
theorem stepped_any (B g l b0 b1 s0 s1 most made m c : Nat) (v0 v1 : Value) (M : K5 → Option Nat) (K : List K5) (hg : Fl.Good l b0 b1 s0 s1) (q : Nat → Nat) (hq : ∀ i, i < 4 → q i < 4294967296) (n : Nat) (hn : n ≤ 2) (w : World) (h : MemI w B g l b0 b1 s0 s1 most v0 v1 made m c M K) (hM : made ≤ 100000) :
    Calls Tryd.prog 64 #[.pointer (some ⟨g, 0, none⟩), .agg #[.int .u32 (q 0), .int .u32 (q 1), .int .u32 (q 2), .int .u32 (q 3), .int .i64 n]] w fun e w' => ∃ v, e = .returned (.int .u32 (v : Nat)) ∧ Res l b0 b1 s0 s1 q n v ∧ MemI w' B g l b0 b1 s0 s1 most v0 v1 (made + 1) m c M K ∧ OffM g m w w' := by
  have hlow := h.low
  have hlt := h.lt.1
  have hB := h.hg
  have c8 := h.blk.cell 8
  have f8 := h.blk.frozen 8
  unfold meC at c8
  simp only [List.getElem?_toArray, List.getElem?_cons_zero, List.getElem?_cons_succ] at c8
  have hofb : ∀ W, Calls Tryd.prog 10 #[.agg #[.int .u32 (q 0), .int .u32 (q 1), .int .u32 (q 2), .int .u32 (q 3)]] W fun e w' => e = .returned (.agg (bkA (ofB q))) ∧ Below W.heap.size W w' := fun W => bof_any q hq W
  have h0 : MemI (w.setCell ⟨g, 8, none⟩ (.int .i64 ((made : Int) + 1))) B g l b0 b1 s0 s1 most v0 v1 (made + 1) m c M K := h.count (by have := h.hc; omega)
  have hb0 : Below (w.setCell ⟨g, 8, none⟩ (.int .i64 ((made : Int) + 1))).heap.size (w.setCell ⟨g, 8, none⟩ (.int .i64 ((made : Int) + 1))) ((w.setCell ⟨g, 8, none⟩ (.int .i64 ((made : Int) + 1))).alloc (.cells #[.int .u32 (q 0), .int .u32 (q 1), .int .u32 (q 2), .int .u32 (q 3), .int .i64 n] 130)) := by go_grown
  have h1 : MemI ((w.setCell ⟨g, 8, none⟩ (.int .i64 ((made : Int) + 1))).alloc (.cells #[.int .u32 (q 0), .int .u32 (q 1), .int .u32 (q 2), .int .u32 (q 3), .int .i64 n] 130)) B g l b0 b1 s0 s1 most v0 v1 (made + 1) m c M K := h0.under hb0
  have kq : Blk ((w.setCell ⟨g, 8, none⟩ (.int .i64 ((made : Int) + 1))).alloc (.cells #[.int .u32 (q 0), .int .u32 (q 1), .int .u32 (q 2), .int .u32 (q 3), .int .i64 n] 130)) w.heap.size 130 #[.int .u32 (q 0), .int .u32 (q 1), .int .u32 (q 2), .int .u32 (q 3), .int .i64 n] := Blk.newAt _ _ _ _ (by simp)
  have hb1 : OffM g m w ((w.setCell ⟨g, 8, none⟩ (.int .i64 ((made : Int) + 1))).alloc (.cells #[.int .u32 (q 0), .int .u32 (q 1), .int .u32 (q 2), .int .u32 (q 3), .int .i64 n] 130)) := (OffM.of_g (w := w) (g := g) (m := m) (w' := w.setCell ⟨g, 8, none⟩ (.int .i64 ((made : Int) + 1))) ⟨rfl, rfl, rfl, by simp, fun b hb hne => Below.heap_setCell w ⟨g, 8, none⟩ _ b (fun e => hne (by rw [e]))⟩).trans (OffM.of hb0)
  have hofl := fun r hr => ofB_lt q r hr
  clear h h0 hb0
  unfold bkA at hofb
  go_enter Tryd.func64, Tryd.ntmps64
  go_upto_region 2 with fail
  clear c8 f8
  generalize ((w.setCell ⟨g, 8, none⟩ (.int .i64 ((made : Int) + 1))).alloc (.cells #[.int .u32 (q 0), .int .u32 (q 1), .int .u32 (q 2), .int .u32 (q 3), .int .i64 n] 130)) = W1 at *
  generalize w.heap.size = qb at *
  have c0 := kq.cell 0
  have c1 := kq.cell 1
  have c2 := kq.cell 2
  have c3 := kq.cell 3
  simp only [List.getElem?_toArray, List.getElem?_cons_zero, List.getElem?_cons_succ] at c0 c1 c2 c3
  have hql := kq.lt
  go_wp2_with fail
  refine (hofb _).mono ?_
  rintro e W2 ⟨rfl, hb2⟩
  have h2 := h1.under hb2
  have kq2 := kq.under hb2
  have hb12 := hb1.trans (OffM.of hb2)
  clear h1 kq hb1 hb2 c0 c1 c2 c3 hofb hql
  go_upto_region 3 with fail
  have kp : Blk (W2.alloc (.cells (bkA (ofB q)) 27)) W2.heap.size 27 (bkA (ofB q)) := Blk.newAt W2 _ _ _ rfl
  have hb3 : Below W2.heap.size W2 (W2.alloc (.cells (bkA (ofB q)) 27)) := by go_grown
  have kq3 := kq2.under hb3
  have c4 := kq3.cell 4
  simp only [List.getElem?_toArray, List.getElem?_cons_zero, List.getElem?_cons_succ] at c4
  have hql := kq3.lt
  have hlow2 := h2.low
  clear kq2 kq3
  change Code.wp _ _ _ _ (W2.alloc (.cells (bkA (ofB q)) 27))
  generalize W2.alloc (.cells (bkA (ofB q)) 27) = W3 at *
  go_wp2_with fail
  clear c4 hql
  go_loopw [18] (fun t wr => SpR W2 l b0 b1 s0 s1 (ofB q) n t wr) (fun t _ => 2 - (intOf t).toNat)
  case atStart => exact ⟨0, ofB q, Nat.zero_le _, rfl, rfl, kp, hb3⟩
  case round =>
    clear kp hb3
    obtain ⟨k, X, hk, rfl, hG, kp, hb3⟩ := hrel
    have hXl := hG.lt hofl
    by_cases hlt2 : k < n
    · have h3 := h2.under hb3
      have hst : ∀ W, W.heap = wr.heap → Calls Tryd.prog 26 #[.pointer (some ⟨g, 0, none⟩), .agg (bkA X)] W fun e w' => ∃ Y, e = .returned (.agg (bkA Y)) ∧ BStp l b0 b1 s0 s1 X Y ∧ Below W.heap.size W w' := fun W e =>
        bstep_any wr.heap.size g l b0 b1 s0 s1 hg X hXl W (h3.ker.same (by rw [e]; exact Nat.le_refl _) (fun k _ => by rw [e]))
      have c0 := (kp.cell 0).trans (bkA_get X 0 (by decide))
      have c1 := (kp.cell 1).trans (bkA_get X 1 (by decide))
      have c2 := (kp.cell 2).trans (bkA_get X 2 (by decide))
      have c3 := (kp.cell 3).trans (bkA_get X 3 (by decide))
      have c4 := (kp.cell 4).trans (bkA_get X 4 (by decide))
      have c5 := (kp.cell 5).trans (bkA_get X 5 (by decide))
      have c6 := (kp.cell 6).trans (bkA_get X 6 (by decide))
      have c7 := (kp.cell 7).trans (bkA_get X 7 (by decide))
      have hpl := kp.lt
      have hgl := h3.lt.1
      have H2 := Lib.hid h2
      clear h3 h2
      unfold bkA at hst
      go_upto_region 5 with fail
      go_region_with (go_at_call 26; refine (hst wr.drew rfl).mono ?_; rintro e w6 ⟨Y, rfl, hY, hb6⟩; have hb6 : Below wr.heap.size wr w6 := (show Below wr.heap.size wr wr.drew from ⟨rfl, rfl, rfl, Nat.le_refl _, fun _ _ => rfl⟩).trans hb6; have kp6 := kp.under hb6; have hpl6 := kp6.lt; have f0 := kp6.frozen 0; have f1 := kp6.frozen 1; have f2 := kp6.frozen 2; have f3 := kp6.frozen 3; have f4 := kp6.frozen 4; have f5 := kp6.frozen 5; have f6 := kp6.frozen 6; have f7 := kp6.frozen 7; have d0 := (kp6.cell 0).trans (bkA_get X 0 (by decide)); have d1 := (kp6.cell 1).trans (bkA_get X 1 (by decide)); have d2 := (kp6.cell 2).trans (bkA_get X 2 (by decide)); have d3 := (kp6.cell 3).trans (bkA_get X 3 (by decide)); have d4 := (kp6.cell 4).trans (bkA_get X 4 (by decide)); have d5 := (kp6.cell 5).trans (bkA_get X 5 (by decide)); have d6 := (kp6.cell 6).trans (bkA_get X 6 (by decide)); have d7 := (kp6.cell 7).trans (bkA_get X 7 (by decide)))
      all_goals
        have ks := bk_store (Y := Y) kp6
        have hs := bk_stored (Y := Y) (hb3.trans (hb6.mono hb3.size)) (Nat.le_refl _)
        rw [show bkA Y = bkA (cutB Y) from bk_eq fun r hr => (cut_low Y r hr).symm] at ks
        have HG := Lib.hid (hG.snoc (bstp_cut hY) (zr_cut Y))
        have h2 := H2.out
        have KS := Lib.hid ks
        have HSS := Lib.hid hs
        clear ks hs hG hb6 kp6 hpl6 f0 f1 f2 f3 f4 f5 f6 f7 d0 d1 d2 d3 d4 d5 d6 d7 c0 c1 c2 c3 c4 c5 c6 c7 hst hY kp hb3 hpl hgl
        go_wp2_with fail
        exact ⟨⟨k + 1, cutB Y, by omega, by go_num, HG.out, KS.out, HSS.out⟩, by simp [intOf]; omega⟩
    · obtain rfl : k = n := by omega
      have h3 := h2.under hb3
      have hbw := hb12.trans (OffM.of hb3)
      have hmid := fun W => middle_any X hXl W
      have c0 := (kp.cell 0).trans (bkA_get X 0 (by decide))
      have c1 := (kp.cell 1).trans (bkA_get X 1 (by decide))
      have c2 := (kp.cell 2).trans (bkA_get X 2 (by decide))
      have c3 := (kp.cell 3).trans (bkA_get X 3 (by decide))
      have c4 := (kp.cell 4).trans (bkA_get X 4 (by decide))
      have c5 := (kp.cell 5).trans (bkA_get X 5 (by decide))
      have c6 := (kp.cell 6).trans (bkA_get X 6 (by decide))
      have c7 := (kp.cell 7).trans (bkA_get X 7 (by decide))
      have hpl := kp.lt
      clear hb3 hb12 kp h2
      go_wp2_with fail
      refine (hmid _).mono ?_
      rintro e w4 ⟨rfl, hb4⟩
      have h4 := h3.under hb4
      have hbw := hbw.trans (OffM.of hb4)
      clear h3 hb4 hmid c0 c1 c2 c3 c4 c5 c6 c7 hpl
      go_wp2_with fail
      go_ret
      exact ⟨_, rfl, ⟨X, hG, rfl⟩, h4, hbw⟩
end Go.Proofs.YtcmfkdhadmfgkaaDoor.Lf

/- A list of four leaves as the reader reads it, opened to its cells; two of them held against each other; State out of the block. -/
namespace Go.Proofs.YtcmfkdhadmfgkaaDoor.Bk
open Go.RowKit Go.Proofs.YtcmfkdhadmfgkaaDoor.Ba Go.Proofs.YtcmfkdhadmfgkaaDoor.Si

section
open Go.ChangeShapes Go.WideShapes Go.Deep
theorem trod_four {H : Type} {enc : TypeId × Value → H} {P : Program} {w : World} {base : Nat} {spare : Nat → Bool} {held : Bool} {t e : TypeId} {fuel : Nat} {c0 c1 c2 c3 : Value} {x : DataW H × List MemPlace} (ht : P.underlying t = some (.array 4 e)) (hce : P.cellsOf e = 1)
    (h : DataW.trod enc P w base spare held fuel t [c0, c1, c2, c3] = some x) :
    ∃ y0 y1 y2 y3 n, x = (.agg [y0.1, y1.1, y2.1, y3.1], y0.2 ++ (y1.2 ++ (y2.2 ++ y3.2))) ∧ DataW.trod enc P w base spare held n e [c0] = some y0 ∧ DataW.trod enc P w base spare held n e [c1] = some y1 ∧ DataW.trod enc P w base spare held n e [c2] = some y2 ∧ DataW.trod enc P w base spare held n e [c3] = some y3 := by
  cases fuel with
  | zero => simp [DataW.trod] at h
  | succ n =>
    unfold DataW.trod at h
    rw [ht] at h
    have r4 : List.range 4 = [0, 1, 2, 3] := rfl
    simp [r4, hce] at h
    obtain ⟨_, h⟩ := h
    cases h0 : DataW.trod enc P w base spare held n e [c0] with
    | none => simp [h0] at h
    | some y0 =>
      cases h1 : DataW.trod enc P w base spare held n e [c1] with
      | none => simp [h0, h1] at h
      | some y1 =>
        cases h2 : DataW.trod enc P w base spare held n e [c2] with
        | none => simp [h0, h1, h2] at h
        | some y2 =>
          cases h3 : DataW.trod enc P w base spare held n e [c3] with
          | none => simp [h0, h1, h2, h3] at h
          | some y3 =>
            simp [h0, h1, h2, h3] at h
            exact ⟨y0, y1, y2, y3, n, h.symm, h0, h1, h2, h3⟩
theorem cellsL4 : Tryd.prog.cellsOf 23 = 4 := by kernel_rfl
theorem cellsU32 : Tryd.prog.cellsOf 22 = 1 := by kernel_rfl
theorem okWide_array4 {P : Program} {t e : TypeId} {w : World} {r : Reach} {b0 : Nat} {v : Value} {n : Nat} (ht : P.underlying t = some (.array n e)) (h : Value.okWide P w r b0 t v) : ∃ cs, v = .agg cs ∧ cs.size = P.cellsOf t := by
  simp only [Value.okWide, ht] at h
  obtain ⟨cs, h1, h2, _⟩ := h
  exact ⟨cs, h1, h2⟩
set_option maxRecDepth 100000 in
theorem open_l4 {H : Type} {enc : TypeId × Value → H} {w : World} {base : Nat} {spare : Nat → Bool} {held : Bool} {r : Reach} {b0 : Nat} {v : Value} {d : DataW H} {p : List MemPlace}
    (hv : Value.okWide Tryd.prog w r b0 23 v) (h : DataW.Trod enc Tryd.prog w base spare held 23 v d p) :
    ∃ a0 a1 a2 a3 : Int, v = .agg #[.int .u32 a0, .int .u32 a1, .int .u32 a2, .int .u32 a3] ∧ d = .agg [.lit (.int .u32 a0), .lit (.int .u32 a1), .lit (.int .u32 a2), .lit (.int .u32 a3)] ∧ p = [] ∧
      (Lit.int .u32 a0).wf = true ∧ (Lit.int .u32 a1).wf = true ∧ (Lit.int .u32 a2).wf = true ∧ (Lit.int .u32 a3).wf = true := by
  obtain ⟨cs, rfl, hsz⟩ := okWide_array4 Tryd.underlying23 hv
  obtain ⟨l⟩ := cs
  rw [cellsL4] at hsz
  match l, hsz with
  | [c0, c1, c2, c3], _ =>
    obtain ⟨fuel, hf⟩ := h
    obtain ⟨y0, y1, y2, y3, n, hx, g0, g1, g2, g3⟩ := trod_four Tryd.underlying23 cellsU32 hf
    obtain ⟨a0, e0, rfl, w0⟩ := DataW.trod_int Tryd.underlying22 g0
    obtain ⟨a1, e1, rfl, w1⟩ := DataW.trod_int Tryd.underlying22 g1
    obtain ⟨a2, e2, rfl, w2⟩ := DataW.trod_int Tryd.underlying22 g2
    obtain ⟨a3, e3, rfl, w3⟩ := DataW.trod_int Tryd.underlying22 g3
    simp at e0 e1 e2 e3
    subst e0 e1 e2 e3
    simp only [Prod.mk.injEq] at hx
    obtain ⟨rfl, rfl⟩ := hx
    exact ⟨a0, a1, a2, a3, rfl, rfl, rfl, w0, w1, w2, w3⟩
end

set_option maxRecDepth 20000 in
set_option maxHeartbeats 1000000 in
theorem equal_q (a0 a1 a2 a3 b0 b1 b2 b3 : Int) (w : World) : (Op.equalIn 10000 30 (.agg #[.int .u32 a0, .int .u32 a1, .int .u32 a2, .int .u32 a3]) (.agg #[.int .u32 b0, .int .u32 b1, .int .u32 b2, .int .u32 b3])).run Tryd.prog w = .ok (a0 == b0 && (a1 == b1 && (a2 == b2 && a3 == b3))) w := by
  unfold Op.equalIn
  simp only [Sem.run_bind, run_underlying Tryd.underlying30, Result.andThen]
  have hs : (sizeOf 29).run Tryd.prog w = .ok 1 w := by kernel_rfl
  simp only [hs]
  have hp : ∀ (c0 c1 c2 c3 : Int) (W : World), ((part 29 #[.int .u32 c0, .int .u32 c1, .int .u32 c2, .int .u32 c3] 0).run Tryd.prog W = .ok (.int .u32 c0) W ∧ (part 29 #[.int .u32 c0, .int .u32 c1, .int .u32 c2, .int .u32 c3] 1).run Tryd.prog W = .ok (.int .u32 c1) W ∧ (part 29 #[.int .u32 c0, .int .u32 c1, .int .u32 c2, .int .u32 c3] 2).run Tryd.prog W = .ok (.int .u32 c2) W ∧ (part 29 #[.int .u32 c0, .int .u32 c1, .int .u32 c2, .int .u32 c3] 3).run Tryd.prog W = .ok (.int .u32 c3) W) := by
    intro c0 c1 c2 c3 W
    refine ⟨?_, ?_, ?_, ?_⟩
    all_goals kernel_rfl
  have he : ∀ (a b : Int) (W : World), (Op.equalIn 9999 29 (.int .u32 a) (.int .u32 b)).run Tryd.prog W = .ok (a == b) W := fun a b W => run_equalIn_int W 9998 29 .u32 .u32 a b Tryd.underlying29
  obtain ⟨p0, p1, p2, p3⟩ := hp a0 a1 a2 a3 w
  obtain ⟨q0, q1, q2, q3⟩ := hp b0 b1 b2 b3 w
  clear hp hs
  rw [Std.Legacy.Range.forIn_eq_forIn_range']
  simp only [Std.Legacy.Range.size, List.range', List.forIn_cons, Nat.mul_one]
  cases h0 : (a0 == b0)
  · simp [p0, q0, he, h0, Result.andThen]
  · cases h1 : (a1 == b1)
    · simp [p0, q0, p1, q1, he, h0, h1, Result.andThen]
    · cases h2 : (a2 == b2)
      · simp [p0, q0, p1, q1, p2, q2, he, h0, h1, h2, Result.andThen]
      · cases h3 : (a3 == b3)
        · simp [p0, q0, p1, q1, p2, q2, p3, q3, he, h0, h1, h2, h3, Result.andThen]
        · simp [p0, q0, p1, q1, p2, q2, p3, q3, he, h0, h1, h2, h3, Result.andThen]
theorem eql_q (a b c d : Nat) (w : World) : (binOp .eql 30 (.agg #[.int .u32 a, .int .u32 b, .int .u32 c, .int .u32 d]) (.agg #[.int .u32 a, .int .u32 b, .int .u32 c, .int .u32 d])).run Tryd.prog w = .ok (.bool true) w := by
  have h := equal_q a b c d a b c d w
  simp [go_sem]
  rw [h]
  simp
/-- Out of the block every state is 0. -/
theorem bstate_out (x : Nat → Nat) (a b : Int) (h : ¬ (0 ≤ a ∧ a < 8 ∧ 0 ≤ b ∧ b < 8)) (w : World) :
    Calls Tryd.prog 17 #[.agg (bkA x), .int .i64 a, .int .i64 b] w fun e w' => e = .returned (.int .i64 0) ∧ Below w.heap.size w w' := by
  by_cases h1 : a < 0
  · have d1 : decide (a < 0) = true := by simp; omega
    clear h
    go_enter Tryd.func17, Tryd.ntmps17
    go_wp2
    go_ret
    exact ⟨rfl, (Below.refl _ _).alloc (Nat.le_refl _) _⟩
  · have d1 : decide (a < 0) = false := by simp; omega
    by_cases h2 : 8 ≤ a
    · have d2 : decide (8 ≤ a) = true := by simp; omega
      clear h
      go_enter Tryd.func17, Tryd.ntmps17
      go_wp2
      go_ret
      exact ⟨rfl, (Below.refl _ _).alloc (Nat.le_refl _) _⟩
    · have d2 : decide (8 ≤ a) = false := by simp; omega
      by_cases h3 : b < 0
      · have d3 : decide (b < 0) = true := by simp; omega
        clear h
        go_enter Tryd.func17, Tryd.ntmps17
        go_wp2
        go_ret
        exact ⟨rfl, (Below.refl _ _).alloc (Nat.le_refl _) _⟩
      · have d3 : decide (b < 0) = false := by simp; omega
        have h4 : 8 ≤ b := by omega
        have d4 : decide (8 ≤ b) = true := by simp; omega
        clear h
        go_enter Tryd.func17, Tryd.ntmps17
        go_wp2
        go_ret
        exact ⟨rfl, (Below.refl _ _).alloc (Nat.le_refl _) _⟩
end Go.Proofs.YtcmfkdhadmfgkaaDoor.Bk

/- Contracts of package leaf: keep, Result. -/
namespace Go.Proofs.YtcmfkdhadmfgkaaDoor.Lf
open Go.RowKit Go.Proofs.YtcmfkdhadmfgkaaDoor.Ba Go.Lib Go.Maps Go.Proofs.YtcmfkdhadmfgkaaDoor.Mp Go.Proofs.YtcmfkdhadmfgkaaDoor.Bk

theorem MemAt.lo {w : World} {B g m l b0 b1 s0 s1 most : Nat} {s : Nat × List K5} (hm : MemAt w B g m l b0 b1 s0 s1 most s) : B ≤ w.heap.size := by
  obtain ⟨_, _, _, _, k⟩ := hm
  exact k.low
theorem OffM.low {w w' : World} {B g m l b0 b1 s0 s1 most : Nat} {s : Nat × List K5} (h : OffM g m w w') (hm : MemAt w B g m l b0 b1 s0 s1 most s) : Below B w w' := by
  obtain ⟨_, _, _, _, k⟩ := hm
  exact h.below k.hg k.hm k.low
theorem okK_of {q : Nat → Nat} (hq : ∀ i, i < 4 → q i < 4294967296) {n : Nat} (hn : n ≤ 2) : okK (kQ q n) := ⟨⟨hq 0 (by decide), hq 1 (by decide), hq 2 (by decide), hq 3 (by decide)⟩, hn⟩
/-- One result more is kept. -/
theorem MemI.put {w w' : World} {B g l b0 b1 s0 s1 most : Nat} {v0 v1 : Value} {made m c : Nat} {M : K5 → Option Nat} {K : List K5} (h : MemI w B g l b0 b1 s0 s1 most v0 v1 made m c M K) {q : Nat → Nat} {n v : Nat} (hk : kQ q n ∉ K) (hok : okK (kQ q n)) (hR : Res l b0 b1 s0 s1 q n v)
    (hI : IsB mkQ w' m (c + 1) (if (M (kQ q n)).isSome then K.length else K.length + 1) (fun p => if p = kQ q n then some v else M p)) (hg : w.grownBy w' (some m)) (hc : c + 1 ≤ made) (hl : K.length + 1 ≤ most) :
    MemI w' B g l b0 b1 s0 s1 most v0 v1 made m (c + 1) (fun p => if p = kQ q n then some v else M p) (K ++ [kQ q n]) := by
  have hb : ∀ k, k < B → w'.heap[k]? = w.heap[k]? := fun k hk => hg.block k (Nat.lt_of_lt_of_le hk h.low) (fun e => by injection e with e; have := h.hm; omega)
  have hN : ¬ (M (kQ q n)).isSome = true := fun e => hk ((h.mem _ hok).1 e)
  rw [if_neg hN] at hI
  refine ⟨h.blk.grown hg (fun e => h.ne (by injection e with e; exact e.symm)), h.n0.same hg.size hb, fun e => (h.n1 e).same hg.size hb, by rw [List.length_append]; exact hI, h.hg, h.hm, hc, by rw [List.length_append]; exact hl, fun k hk' => ?_, fun p j u hp hj e => ?_⟩
  · by_cases e : k = kQ q n
    · subst e
      simp
    · rw [if_neg e, h.mem k hk']
      simp [e]
  · by_cases e2 : kQ p j = kQ q n
    · rw [if_pos e2] at e
      injection e with e
      subst e
      obtain ⟨h1, rfl⟩ := kQ_inj e2
      exact hR.congr fun i hi => (h1 i hi).symm
    · rw [if_neg e2] at e
      exact h.res p j u hp hj e
theorem MemI.upd {w : World} {B g l b0 b1 s0 s1 most : Nat} {v0 v1 : Value} {made m c : Nat} {M : K5 → Option Nat} {K : List K5} (h : MemI w B g l b0 b1 s0 s1 most v0 v1 made m c M K) {q : Nat → Nat} {n v : Nat} (hk : kQ q n ∉ K) (hok : okK (kQ q n)) (hR : Res l b0 b1 s0 s1 q n v) (hc : c + 1 ≤ made) (hM : made ≤ 100001) (hl : K.length + 1 ≤ most) :
    ∃ w', (Instr.mapUpdate 126 (.map (some m)) (.agg #[.int .u32 (q 0), .int .u32 (q 1), .int .u32 (q 2), .int .u32 (q 3), .int .i64 n]) (.int .u32 v)).run Tryd.prog w = .ok () w' ∧ MemAt w' B g m l b0 b1 s0 s1 most (made, K ++ [kQ q n]) ∧ OffM g m w w' := by
  obtain ⟨w', hup, hI, hg⟩ := h.isB.put (by unfold maxLen; omega) hok (y := v) (u32_lit hR.lt)
  refine ⟨w', hup, ⟨v0, v1, c + 1, _, h.put hk hok hR hI hg hc hl⟩, OffM.of_m hg⟩
def keepL (most : Nat) (K : List K5) (k : K5) : List K5 := if most = 0 then [] else (if most ≤ K.length then [] else K) ++ [k]
set_option maxRecDepth 100000 in
set_option maxHeartbeats 2000000 in
theorem keep_any (B g l b0 b1 s0 s1 most made m c : Nat) (v0 v1 : Value) (M : K5 → Option Nat) (K : List K5) (q : Nat → Nat) (hq : ∀ i, i < 4 → q i < 4294967296) (n : Nat) (hn : n ≤ 2) (v : Nat) (hR : Res l b0 b1 s0 s1 q n v) (hk : kQ q n ∉ K) (w : World) (h : MemI w B g l b0 b1 s0 s1 most v0 v1 made m c M K) (hc : c + 1 ≤ made) (hM : made ≤ 100001) :
    Calls Tryd.prog 65 #[.pointer (some ⟨g, 0, none⟩), .agg #[.int .u32 (q 0), .int .u32 (q 1), .int .u32 (q 2), .int .u32 (q 3), .int .i64 n], .int .u32 v] w fun e w' => e = .returned (.tuple #[]) ∧ MemAt w' B g m l b0 b1 s0 s1 most (made, keepL most K (kQ q n)) ∧ OffM g m w w' := by
  have hlow := h.low
  have hv := u32_lit hR.lt
  have hok := okK_of hq hn
  have hb0 : Below w.heap.size w (w.alloc (.cells #[.int .u32 (q 0), .int .u32 (q 1), .int .u32 (q 2), .int .u32 (q 3), .int .i64 n] 130)) := by go_grown
  have kq := Blk.newAt w 130 #[.int .u32 (q 0), .int .u32 (q 1), .int .u32 (q 2), .int .u32 (q 3), .int .i64 n] _ rfl
  have h0 := h.under hb0
  have hbB : OffM g m w _ := OffM.of hb0
  clear h hb0
  go_enter Tryd.func65, Tryd.ntmps65
  go_upto_region 1 with fail
  generalize w.alloc (.cells #[.int .u32 (q 0), .int .u32 (q 1), .int .u32 (q 2), .int .u32 (q 3), .int .i64 n] 130) = W at *
  generalize w.heap.size = qb at *
  have c7 := h0.blk.cell 7
  have c9 := h0.blk.cell 9
  unfold meC at c7 c9
  simp only [List.getElem?_toArray, List.getElem?_cons_zero, List.getElem?_cons_succ] at c7 c9
  have hlt := h0.lt.1
  by_cases hz : most = 0
  · subst hz
    have hK : K = [] := List.eq_nil_of_length_eq_zero (Nat.le_zero.1 h0.hl)
    subst hK
    have HM : Hid (MemAt W B g m l b0 b1 s0 s1 0 (made, keepL 0 [] (kQ q n))) := Lib.hid ⟨v0, v1, c, M, h0⟩
    clear h0 kq hk hR
    go_wp2_with fail
    exact bodyPost_ret (v := .tuple #[]) (by simp [results, Tryd.results65, go_sem]) rfl ⟨rfl, HM.out, hbB⟩
  · have hmz : ((most : Int) == 0) = false := by simpa using hz
    have hlen := fun ty (W' : World) (e : W'.heap = W.heap) => (h0.isB.same (w' := W') (by rw [e])).len ty
    change ∀ ty (W' : World), W'.heap = W.heap → (Builtin.len_ #[126] ty #[.map (some m)]).run Tryd.prog W' = .ok (.int .i64 K.length) W' at hlen
    have hlen1 := hlen 3 W.drew rfl
    have hqb := kq.lt
    have k0 := kq.cell 0
    have k1 := kq.cell 1
    have k2 := kq.cell 2
    have k3 := kq.cell 3
    have k4 := kq.cell 4
    simp only [List.getElem?_toArray, List.getElem?_cons_zero, List.getElem?_cons_succ] at k0 k1 k2 k3 k4
    clear hlen
    by_cases hle : most ≤ K.length
    · have hd : decide ((most : Int) ≤ (K.length : Int)) = true := decide_eq_true (by omega)
      have hcl := clear_any B g l b0 b1 s0 s1 most made m c v0 v1 M K W.drew (h0.under ⟨rfl, rfl, rfl, Nat.le_refl _, fun _ _ => rfl⟩)
      have hBm := h0.hm
      have hnm : m ≠ qb := fun e => by
        have hL : Mp.MapAt mkQ W (.map (some m)) c M := .inr ⟨m, _, rfl, h0.isB⟩
        exact hL.blk kq (by rw [← e]; rfl)
      clear h0
      go_wp2_with fail
      go_region
      all_goals
        go_wp2_with fail
        refine hcl.mono ?_
        rintro e w1 ⟨rfl, h1, hg1⟩
        have kq1 := Blk.grown (w := W.drew) (w' := w1) kq hg1 (fun e => hnm (by injection e with e; exact e.symm))
        have hqb1 := kq1.lt
        have j0 := kq1.cell 0
        have j1 := kq1.cell 1
        have j2 := kq1.cell 2
        have j3 := kq1.cell 3
        have j4 := kq1.cell 4
        simp only [List.getElem?_toArray, List.getElem?_cons_zero, List.getElem?_cons_succ] at j0 j1 j2 j3 j4
        have i9 := h1.blk.cell 9
        unfold meC at i9
        simp only [List.getElem?_toArray, List.getElem?_cons_zero, List.getElem?_cons_succ] at i9
        have hl1 := h1.lt.1
        obtain ⟨w3, hup, hm3, hb3⟩ := (h1.under (w' := w1.drew) ⟨rfl, rfl, rfl, Nat.le_refl _, fun _ _ => rfl⟩).upd (by simp) hok hR (by omega) hM (by simp; omega)
        have HM := Lib.hid (show MemAt w3 B g m l b0 b1 s0 s1 most (made, keepL most K (kQ q n)) by
          unfold keepL
          rw [if_neg hz, if_pos hle]
          exact hm3)
        have hbb := ((hbB.trans (OffM.of (w := W) (w' := W.drew) ⟨rfl, rfl, rfl, Nat.le_refl _, fun _ _ => rfl⟩)).trans (OffM.of_m hg1)).trans ((OffM.of (w := w1) (w' := w1.drew) ⟨rfl, rfl, rfl, Nat.le_refl _, fun _ _ => rfl⟩).trans hb3)
        clear hm3 hb3 h1 kq1 kq hcl hg1
        go_wp2_with fail
        go_region
      all_goals
        go_end0
        exact ⟨rfl, HM.out, hbb⟩
    · have hd : decide ((most : Int) ≤ (K.length : Int)) = false := decide_eq_false (by omega)
      obtain ⟨w3, hup, hm3, hb3⟩ := (h0.under (w' := W.drew.drew) ⟨rfl, rfl, rfl, Nat.le_refl _, fun _ _ => rfl⟩).upd hk hok hR hc hM (by omega)
      have HM := Lib.hid (show MemAt w3 B g m l b0 b1 s0 s1 most (made, keepL most K (kQ q n)) by
        unfold keepL
        rw [if_neg hz, if_neg hle]
        exact hm3)
      have hbb := hbB.trans ((OffM.of (w := W) (w' := W.drew.drew) ⟨rfl, rfl, rfl, Nat.le_refl _, fun _ _ => rfl⟩).trans hb3)
      clear hm3 hb3 h0 kq hk hR hok
      go_wp2_with fail
      go_region
      all_goals
        go_wp2_with fail
        go_region
      all_goals
        go_end0
        exact ⟨rfl, HM.out, hbb⟩
/-! Result. -/
theorem clN_low {n : Int} (h : n ≤ 0) : clN n = 0 := by unfold clN; omega
theorem clN_one : clN 1 = 1 := by decide
theorem clN_high {n : Int} (h : 2 ≤ n) : clN n = 2 := by unfold clN; omega
theorem wor_nil {q : Nat → Nat} {N : Nat} (h : wor (kQ q N) = false) (h0 : N ≠ 0) : ∀ i, i < 4 → q i = 0 := by
  unfold wor kQ at h
  simp [h0] at h
  obtain ⟨a, b, c, d⟩ := h
  intro i hi
  have : i = 0 ∨ i = 1 ∨ i = 2 ∨ i = 3 := by omega
  rcases this with rfl | rfl | rfl | rfl <;> assumption
theorem eql_nil (q : Nat → Nat) {N : Nat} (h0 : N ≠ 0) (w : World) : (binOp .eql 30 (.agg #[.int .u32 (q 0), .int .u32 (q 1), .int .u32 (q 2), .int .u32 (q 3)]) (.agg #[.int .u32 0, .int .u32 0, .int .u32 0, .int .u32 0])).run Tryd.prog w = .ok (.bool (!wor (kQ q N))) w := by
  have h := equal_q (q 0) (q 1) (q 2) (q 3) 0 0 0 0 w
  have e : ∀ a : Nat, ((a : Int) == 0) = (a == 0) := fun a => by
    rw [Bool.eq_iff_iff]
    simp only [beq_iff_eq]
    omega
  simp only [e] at h
  simp [go_sem]
  rw [h]
  simp [wor, kQ, h0]
theorem clN_cases (n : Int) : (n ≤ 0 ∧ clN n = 0) ∨ (n = 1 ∧ clN n = 1) ∨ (2 ≤ n ∧ clN n = 2) := by unfold clN; omega
set_option maxRecDepth 100000 in
set_option maxHeartbeats 2000000 in
theorem lfres_any (B g m l b0 b1 s0 s1 most : Nat) (s : Nat × List K5) (hg : Fl.Good l b0 b1 s0 s1) (q : Nat → Nat) (hq : ∀ i, i < 4 → q i < 4294967296) (n : Int) (hn : -9223372036854775808 ≤ n ∧ n ≤ 9223372036854775807) (w : World) (h : MemAt w B g m l b0 b1 s0 s1 most s) (hs : s.1 ≤ 100000) :
    Calls Tryd.prog 36 #[.pointer (some ⟨g, 0, none⟩), .agg #[.int .u32 (q 0), .int .u32 (q 1), .int .u32 (q 2), .int .u32 (q 3)], .int .i64 n] w fun e w' => ∃ v, e = .returned (.int .u32 (v : Nat)) ∧ Res l b0 b1 s0 s1 q (clN n) v ∧ MemAt w' B g m l b0 b1 s0 s1 most (plS most s (kQ q (clN n))) ∧ OffM g m w w' := by
  obtain ⟨made, K⟩ := s
  obtain ⟨v0, v1, c, M, h⟩ := h
  dsimp only at h hs
  have hcs := clN_cases n
  have hN2 := clN_le n
  generalize clN n = N at *
  have hlow := h.low
  have hofb : ∀ W, Calls Tryd.prog 10 #[.agg #[.int .u32 (q 0), .int .u32 (q 1), .int .u32 (q 2), .int .u32 (q 3)]] W fun e w' => e = .returned (.agg (bkA (ofB q))) ∧ Below W.heap.size W w' := fun W => bof_any q hq W
  have hmid := fun W => middle_any (ofB q) (fun r hr => ofB_lt q r hr) W
  have hb0 : Below w.heap.size w (w.alloc (.cells #[.int .u32 (q 0), .int .u32 (q 1), .int .u32 (q 2), .int .u32 (q 3)] 30)) := by go_grown
  have kq := Blk.newAt w 30 #[.int .u32 (q 0), .int .u32 (q 1), .int .u32 (q 2), .int .u32 (q 3)] _ rfl
  have h0 := h.under hb0
  have hbB : OffM g m w _ := OffM.of hb0
  clear h hb0
  go_enter Tryd.func36, Tryd.ntmps36
  go_upto_region 1 with fail
  generalize w.alloc (.cells #[.int .u32 (q 0), .int .u32 (q 1), .int .u32 (q 2), .int .u32 (q 3)] 30) = W at *
  generalize w.heap.size = qb at *
  have hqb := kq.lt
  have k0 := kq.cell 0
  have k1 := kq.cell 1
  have k2 := kq.cell 2
  have k3 := kq.cell 3
  simp only [List.getElem?_toArray, List.getElem?_cons_zero, List.getElem?_cons_succ] at k0 k1 k2 k3
  go_cut [2] (fun v wx => v = .int .i64 N ∧ wx = W)
  case first =>
    clear hofb hmid k0 k1 k2 k3 kq h0 hbB
    rcases hcs with ⟨h1, rfl⟩ | ⟨rfl, rfl⟩ | ⟨h1, rfl⟩
    · by_cases h2 : n = 0
      · subst h2
        go_wp2_with fail
        go_meet
        exact ⟨rfl, rfl⟩
      · go_wp2_with fail
        all_goals
          go_meet
          exact ⟨by first | rfl | (congr; omega), rfl⟩
    · go_wp2_with fail
      go_meet
      exact ⟨rfl, rfl⟩
    · go_wp2_with fail
      all_goals
        go_meet
        exact ⟨by first | rfl | (congr; omega), rfl⟩
  case rest =>
    obtain ⟨rfl, rfl⟩ := hcut
    clear hcs
    go_upto_region 2 with fail
    go_cut [19] (fun v wx => v = .bool (!wor (kQ q N)) ∧ wx = wc)
    case first =>
      clear hofb hmid kq h0 hbB
      by_cases hz : N = 0
      · subst hz
        go_wp2_with fail
        go_meet
        exact ⟨rfl, rfl⟩
      · have d1 : ((N : Int) == 0) = false := by simpa using hz
        have he := eql_nil q hz
        go_wp2_with fail
        go_meet
        exact ⟨rfl, rfl⟩
    case rest =>
      obtain ⟨rfl, rfl⟩ := hcut
      generalize wc = W at *
      have hlW := h0.low
      have hok := okK_of hq hN2
      cases hw : wor (kQ q N)
      · have HR := Lib.hid (show Res l b0 b1 s0 s1 q N (lfT (ofB q) 2 2 4) from by
          by_cases hz : N = 0
          · subst hz
            exact ⟨ofB q, rfl, rfl⟩
          · exact Res.nil hg (wor_nil hw hz) N)
        have HM := Lib.hid (show MemAt W B g m l b0 b1 s0 s1 most (plS most (made, K) (kQ q N)) by
          rw [plS_no hw]
          exact ⟨v0, v1, c, M, h0⟩)
        clear h0 kq
        go_wp2_with fail
        refine (hofb _).mono ?_
        rintro e w1 ⟨rfl, hb1⟩
        clear k0 k1 k2 k3 hqb hofb
        go_wp2_with fail
        refine (hmid _).mono ?_
        rintro e w2 ⟨rfl, hb2⟩
        have hb12 := hb1.trans (hb2.mono hb1.size)
        go_wp2_with fail
        go_ret
        exact ⟨_, rfl, HR.out, HM.out.under hb12, hbB.trans (OffM.of hb12)⟩
      · have hb1 : Below W.heap.size W (W.alloc (.cells #[.int .u32 (q 0), .int .u32 (q 1), .int .u32 (q 2), .int .u32 (q 3), .int .i64 N] 130)) := by go_grown
        have kb := Blk.newAt W 130 #[.int .u32 (q 0), .int .u32 (q 1), .int .u32 (q 2), .int .u32 (q 3), .int .i64 N] _ rfl
        have h1 := h0.under hb1
        have hgk := h0.lt
        have hbB1 := hbB.trans (OffM.of hb1)
        clear h0 kq hofb hmid hbB hb1
        go_upto_region 5 with fail
        generalize W.alloc (.cells #[.int .u32 (q 0), .int .u32 (q 1), .int .u32 (q 2), .int .u32 (q 3), .int .i64 N] 130) = W1 at *
        generalize W.heap.size = kB at *
        clear k0 k1 k2 k3
        have hkl := kb.lt
        have k0 := kb.cell 0
        have k1 := kb.cell 1
        have k2 := kb.cell 2
        have k3 := kb.cell 3
        have k4 := kb.cell 4
        have c9 := h1.blk.cell 9
        unfold meC at c9
        simp only [List.getElem?_toArray, List.getElem?_cons_zero, List.getElem?_cons_succ] at k0 k1 k2 k3 k4 c9
        have hgl := h1.lt.1
        have hbd : Below W1.heap.size W1 W1.drew := ⟨rfl, rfl, rfl, Nat.le_refl _, fun _ _ => rfl⟩
        have h2 := h1.under hbd
        have hlk := h2.isB.lookOk hok
        change (Instr.lookup 126 (.map (some m)) (.agg #[.int .u32 (q 0), .int .u32 (q 1), .int .u32 (q 2), .int .u32 (q 3), .int .i64 N]) true).run Tryd.prog W1.drew = .ok (.tuple #[.int .u32 (((M (kQ q N)).getD 0 : Nat) : Int), .bool (M (kQ q N)).isSome]) W1.drew at hlk
        have hbB2 := hbB1.trans (OffM.of hbd)
        have kb2 := kb.under hbd
        have hkg : kB ≠ g := by have := h1.blk; have := hgk; omega
        have hkm : kB ≠ m := by omega
        cases hM : M (kQ q N) with
        | some v =>
          have hin : kQ q N ∈ K := (h1.mem _ hok).1 (by rw [hM]; rfl)
          have HR := Lib.hid (h1.res q N v hq hN2 hM)
          have HM := Lib.hid (show MemAt W1.drew B g m l b0 b1 s0 s1 most (plS most (made, K) (kQ q N)) by
            rw [plS_in hin]
            exact ⟨v0, v1, c, M, h2⟩)
          rw [hM] at hlk
          simp only [Option.getD_some, Option.isSome_some] at hlk
          clear h1 h2 kb kb2 hM
          go_region
          all_goals
            go_wp2_with fail
            go_ret
            exact ⟨_, rfl, HR.out, HM.out, hbB2⟩
        | none =>
          have hin : kQ q N ∉ K := fun e => by have := (h1.mem _ hok).2 e; rw [hM] at this; cases this
          rw [hM] at hlk
          simp only [Option.getD_none, Option.isSome_none] at hlk
          have hst := stepped_any B g l b0 b1 s0 s1 most made m c v0 v1 M K hg q hq N hN2 W1.drew h2 (by omega)
          have hke : ∀ v w', Res l b0 b1 s0 s1 q N v → MemI w' B g l b0 b1 s0 s1 most v0 v1 (made + 1) m c M K → Calls Tryd.prog 65 #[.pointer (some ⟨g, 0, none⟩), .agg #[.int .u32 (q 0), .int .u32 (q 1), .int .u32 (q 2), .int .u32 (q 3), .int .i64 N], .int .u32 v] w' fun e w'' => e = .returned (.tuple #[]) ∧ MemAt w'' B g m l b0 b1 s0 s1 most (made + 1, keepL most K (kQ q N)) ∧ OffM g m w' w'' := fun v w' hR h =>
            keep_any B g l b0 b1 s0 s1 most (made + 1) m c v0 v1 M K q hq N hN2 v hR hin w' h (by have := h1.hc; omega) (by omega)
          have HPL := Lib.hid (show plS most (made, K) (kQ q N) = (made + 1, keepL most K (kQ q N)) from plS_new hw hin)
          clear h1 h2 hM
          go_region
          all_goals
            go_wp2_with fail
            refine hst.mono ?_
            rintro e w2 ⟨v, rfl, hR, h3, hb3⟩
            have kb3 := hb3.blk kb2 hkg hkm
            have hkl3 := kb3.lt
            have j0 := kb3.cell 0
            have j1 := kb3.cell 1
            have j2 := kb3.cell 2
            have j3 := kb3.cell 3
            have j4 := kb3.cell 4
            simp only [List.getElem?_toArray, List.getElem?_cons_zero, List.getElem?_cons_succ] at j0 j1 j2 j3 j4
            have hk4 := hke v w2 hR h3
            have hbB3 := hbB2.trans hb3
            have HR := Lib.hid hR
            clear hR h3 hb3 kb3 hke hst
            go_wp2_with fail
            refine hk4.mono ?_
            rintro e w3 ⟨rfl, hm4, hb4⟩
            rw [← HPL.out] at hm4
            have hbB4 := hbB3.trans hb4
            clear hk4 hb4
            go_wp2_with fail
            go_ret
            exact ⟨_, rfl, HR.out, hm4, hbB4⟩
end Go.Proofs.YtcmfkdhadmfgkaaDoor.Lf

/- Lists of asks in memory; asks, and leaves, held against each other. -/
namespace Go.Proofs.YtcmfkdhadmfgkaaDoor.Lf
open Go.RowKit Go.Proofs.YtcmfkdhadmfgkaaDoor.Ba Go.Lib Go.Proofs.YtcmfkdhadmfgkaaDoor.Bk

abbrev A5 := Nat × Nat × Nat × Nat × Int
def kA (a : A5) : K5 := (a.1, a.2.1, a.2.2.1, a.2.2.2.1, clN a.2.2.2.2)
def upA (k : K5) : A5 := (k.1, k.2.1, k.2.2.1, k.2.2.2.1, (k.2.2.2.2 : Int))
def encA (a : A5) : List Value := [.int .u32 a.1, .int .u32 a.2.1, .int .u32 a.2.2.1, .int .u32 a.2.2.2.1, .int .i64 a.2.2.2.2]
def flatA (l : List A5) : List Value := l.flatMap encA
theorem flatA_cons (d : A5) (L : List A5) : flatA (d :: L) = .int .u32 d.1 :: .int .u32 d.2.1 :: .int .u32 d.2.2.1 :: .int .u32 d.2.2.2.1 :: .int .i64 d.2.2.2.2 :: flatA L := by simp [flatA, encA]
theorem flatA_len (l : List A5) : (flatA l).length = l.length * 5 := by
  induction l with
  | nil => rfl
  | cons d l ih => rw [flatA_cons]; simp [ih]; omega
theorem flatA_app (l m : List A5) : flatA (l ++ m) = flatA l ++ flatA m := by simp [flatA]
theorem flatA_get : ∀ (L : List A5) (i : Nat) (d : A5), L[i]? = some d → ∀ j, j < 5 → (flatA L)[i * 5 + j]? = (encA d)[j]?
  | [], i, d, h, _, _ => by simp at h
  | c :: L, 0, d, h, j, hj => by
    simp at h
    subst h
    rw [flatA_cons]
    match j, hj with
    | 0, _ => rfl
    | 1, _ => rfl
    | 2, _ => rfl
    | 3, _ => rfl
    | 4, _ => rfl
  | c :: L, i + 1, d, h, j, hj => by
    have ih := flatA_get L i d (by simpa using h) j hj
    rw [flatA_cons, show (i + 1) * 5 + j = (i * 5 + j) + 1 + 1 + 1 + 1 + 1 by omega]
    simpa using ih
theorem one_flatA (L : List A5) : ∀ u ∈ flatA L, u.oneCell' = true := by
  intro u hu
  simp only [flatA, List.mem_flatMap, encA] at hu
  obtain ⟨c, _, hu⟩ := hu
  simp at hu
  rcases hu with rfl | rfl | rfl | rfl | rfl <;> rfl
theorem ask_info : (Tryd.prog.info? 82).map (fun i => (i.zero, i.size, i.bytes)) = some (some (.agg #[.int .u32 0, .int .u32 0, .int .u32 0, .int .u32 0, .int .i64 0]), 5, 24) := by kernel_rfl
theorem newA (w1 : World) (d : A5) : ∀ j u, (flatA [d])[j]? = some u → (w1.alloc (.cells #[.int .u32 d.1, .int .u32 d.2.1, .int .u32 d.2.2.1, .int .u32 d.2.2.2.1, .int .i64 d.2.2.2.2] 82)).cell? ((⟨w1.heap.size, 0, none⟩ : Addr).add j) = some u := fun j u hu => by
  rw [Addr.add_lit, Nat.zero_add, (Blk.newAt w1 _ _ _ rfl).cell j]
  simpa [flatA, encA] using hu
/-- Asks, one behind the other. -/
def plL (most : Nat) (l : List A5) : Nat × List K5 := l.foldl (fun s a => plS most s (kA a)) (0, [])
theorem plL_app (most : Nat) (l : List A5) (a : A5) : plL most (l ++ [a]) = plS most (plL most l) (kA a) := by
  unfold plL
  rw [List.foldl_append]
  rfl
theorem plS_few (most : Nat) (s : Nat × List K5) (k : K5) : (plS most s k).1 ≤ s.1 + 1 ∧ (plS most s k).2.length ≤ s.2.length + 1 := by
  refine ⟨plS_le most s k, ?_⟩
  unfold plS
  split
  · split
    · omega
    · dsimp only
      split
      · simp
      · split <;> simp
  · omega
theorem plF_few (most : Nat) : ∀ (l : List A5) (s : Nat × List K5), (l.foldl (fun s a => plS most s (kA a)) s).1 ≤ s.1 + l.length ∧ (l.foldl (fun s a => plS most s (kA a)) s).2.length ≤ s.2.length + l.length
  | [], s => by simp
  | a :: l, s => by
    have h1 := plF_few most l (plS most s (kA a))
    have h2 := plS_few most s (kA a)
    rw [List.foldl_cons, List.length_cons]
    omega
theorem plL_made (most : Nat) (l : List A5) : (plL most l).1 ≤ l.length ∧ (plL most l).2.length ≤ l.length := by
  have := plF_few most l (0, [])
  unfold plL
  simpa using this
/-- A list of asks in memory. -/
def AskAt (w : World) (v : Value) (L : List A5) : Prop :=
  (∃ p cap, v = .slice p 0 cap ∧ L = []) ∨ ∃ g o cap : Nat, v = .slice (some ⟨g, o, none⟩) L.length cap ∧ (∀ (i : Nat) (d : A5), L[i]? = some d → ∀ j, j < 5 → w.cell? ⟨g, o + (i * 5 + j), none⟩ = (encA d)[j]?) ∧ g < w.heap.size
theorem AskAt.below {w w' : World} {v : Value} {L : List A5} (h : AskAt w v L) (hb : Below w.heap.size w w') : AskAt w' v L := by
  rcases h with h | ⟨g, o, cap, hv, hc, hg⟩
  · exact .inl h
  · exact .inr ⟨g, o, cap, hv, fun i d hd j hj => (hb.cell (p := ⟨g, o + (i * 5 + j), none⟩) hg).trans (hc i d hd j hj), Nat.lt_of_lt_of_le hg hb.size⟩
theorem ask_of_own {w : World} {base : Nat} {v : Value} {L : List A5} (h : w.ownsRow base 82 5 v L.length (flatA L)) : AskAt w v L := by
  rcases h.2 with ⟨hv, hn⟩ | ⟨g, cap, cur, hv, hb, hh, hc, _⟩
  · exact .inl ⟨none, 0, by rw [hv], List.eq_nil_of_length_eq_zero hn⟩
  · have hgl : g < w.heap.size := by
      rcases Nat.lt_or_ge g w.heap.size with h' | h'
      · exact h'
      · rw [Array.getElem?_eq_none h'] at hh; cases hh
    subst hv
    refine .inr ⟨g, 0, cap, rfl, fun i d hd j hj => ?_, hgl⟩
    have hi : i < L.length := (List.getElem?_eq_some_iff.1 hd).1
    rw [Nat.zero_add]
    exact (h.cellAt (i * 5 + j) (by omega)).trans (flatA_get L i d hd j hj)
theorem own_slcA {w : World} {base n size : Nat} {e : TypeId} {v : Value} {xs : List Value} (h : w.ownsRow base e size v n xs) : ∃ p cap, v = .slice p n cap := by
  rcases h.2 with ⟨rfl, rfl⟩ | ⟨g, cap, cur, rfl, _⟩
  · exact ⟨none, 0, rfl⟩
  · exact ⟨_, cap, rfl⟩
/-! Held against each other. -/
set_option maxRecDepth 20000 in
set_option maxHeartbeats 1000000 in
theorem equal_u (d : Nat) (a0 a1 a2 a3 b0 b1 b2 b3 : Int) (w : World) : (Op.equalIn (d + 2) 23 (.agg #[.int .u32 a0, .int .u32 a1, .int .u32 a2, .int .u32 a3]) (.agg #[.int .u32 b0, .int .u32 b1, .int .u32 b2, .int .u32 b3])).run Tryd.prog w = .ok (a0 == b0 && (a1 == b1 && (a2 == b2 && a3 == b3))) w := by
  unfold Op.equalIn
  simp only [Sem.run_bind, run_underlying Tryd.underlying23, Result.andThen]
  have hs : (sizeOf 22).run Tryd.prog w = .ok 1 w := by kernel_rfl
  simp only [hs]
  have hp : ∀ (c0 c1 c2 c3 : Int) (W : World), ((part 22 #[.int .u32 c0, .int .u32 c1, .int .u32 c2, .int .u32 c3] 0).run Tryd.prog W = .ok (.int .u32 c0) W ∧ (part 22 #[.int .u32 c0, .int .u32 c1, .int .u32 c2, .int .u32 c3] 1).run Tryd.prog W = .ok (.int .u32 c1) W ∧ (part 22 #[.int .u32 c0, .int .u32 c1, .int .u32 c2, .int .u32 c3] 2).run Tryd.prog W = .ok (.int .u32 c2) W ∧ (part 22 #[.int .u32 c0, .int .u32 c1, .int .u32 c2, .int .u32 c3] 3).run Tryd.prog W = .ok (.int .u32 c3) W) := by
    intro c0 c1 c2 c3 W
    refine ⟨?_, ?_, ?_, ?_⟩
    all_goals kernel_rfl
  have he : ∀ (a b : Int) (W : World), (Op.equalIn (d + 1) 22 (.int .u32 a) (.int .u32 b)).run Tryd.prog W = .ok (a == b) W := fun a b W => run_equalIn_int W d 22 .u32 .u32 a b Tryd.underlying22
  obtain ⟨p0, p1, p2, p3⟩ := hp a0 a1 a2 a3 w
  obtain ⟨q0, q1, q2, q3⟩ := hp b0 b1 b2 b3 w
  clear hp hs
  rw [Std.Legacy.Range.forIn_eq_forIn_range']
  simp only [Std.Legacy.Range.size, List.range', List.forIn_cons, Nat.mul_one]
  cases h0 : (a0 == b0)
  · simp [p0, q0, he, h0, Result.andThen]
  · cases h1 : (a1 == b1)
    · simp [p0, q0, p1, q1, he, h0, h1, Result.andThen]
    · cases h2 : (a2 == b2)
      · simp [p0, q0, p1, q1, p2, q2, he, h0, h1, h2, Result.andThen]
      · cases h3 : (a3 == b3)
        · simp [p0, q0, p1, q1, p2, q2, p3, q3, he, h0, h1, h2, h3, Result.andThen]
        · simp [p0, q0, p1, q1, p2, q2, p3, q3, he, h0, h1, h2, h3, Result.andThen]
theorem int_zero (a : Nat) : ((a : Int) == 0) = (a == 0) := by
  rw [Bool.eq_iff_iff]
  simp only [beq_iff_eq]
  omega
theorem nil_u (a b c d : Nat) : ((a : Int) == 0 && ((b : Int) == 0 && ((c : Int) == 0 && (d : Int) == 0))) = !wor (a, b, c, d, 1) := by simp [wor, int_zero]
theorem neq_u (a b c d : Nat) (w : World) : (binOp .neq 23 (.agg #[.int .u32 a, .int .u32 b, .int .u32 c, .int .u32 d]) (.agg #[.int .u32 0, .int .u32 0, .int .u32 0, .int .u32 0])).run Tryd.prog w = .ok (.bool (wor (a, b, c, d, 1))) w := by
  have h := equal_u 9998 a b c d 0 0 0 0 w
  simp only [nil_u] at h
  simp [go_sem]
  rw [h]
  simp
theorem eql_u (a b c d : Nat) (w : World) : (binOp .eql 23 (.agg #[.int .u32 a, .int .u32 b, .int .u32 c, .int .u32 d]) (.agg #[.int .u32 0, .int .u32 0, .int .u32 0, .int .u32 0])).run Tryd.prog w = .ok (.bool (!wor (a, b, c, d, 1))) w := by
  have h := equal_u 9998 a b c d 0 0 0 0 w
  simp only [nil_u] at h
  simp [go_sem]
  rw [h]
  simp
theorem eql_w (a b c d N : Nat) (h0 : N ≠ 0) (w : World) : (binOp .eql 23 (.agg #[.int .u32 a, .int .u32 b, .int .u32 c, .int .u32 d]) (.agg #[.int .u32 0, .int .u32 0, .int .u32 0, .int .u32 0])).run Tryd.prog w = .ok (.bool (!wor (a, b, c, d, N))) w := by
  rw [eql_u]
  simp [wor, h0]
theorem wor_zero (a b c d : Nat) : wor (a, b, c, d, 0) = false := by simp [wor]
theorem wor_succ (a b c d n : Nat) : wor (a, b, c, d, n + 1) = wor (a, b, c, d, 1) := by simp [wor]
set_option maxRecDepth 20000 in
theorem eql_ask (p k : K5) (w : World) : (binOp .eql 82 (.agg #[.int .u32 p.1, .int .u32 p.2.1, .int .u32 p.2.2.1, .int .u32 p.2.2.2.1, .int .i64 p.2.2.2.2]) (.agg #[.int .u32 k.1, .int .u32 k.2.1, .int .u32 k.2.2.1, .int .u32 k.2.2.2.1, .int .i64 k.2.2.2.2])).run Tryd.prog w = .ok (.bool (decide (p = k))) w := by
  have e : ∀ (a b c d a' b' c' d' : Int) (W : World), (Op.equalIn 9999 23 (.agg #[.int .u32 a, .int .u32 b, .int .u32 c, .int .u32 d]) (.agg #[.int .u32 a', .int .u32 b', .int .u32 c', .int .u32 d'])).run Tryd.prog W = .ok (a == a' && (b == b' && (c == c' && d == d'))) W := fun a b c d a' b' c' d' W => equal_u 9997 a b c d a' b' c' d' W
  simp [go_sem]
  simp [e, Result.andThen]
  obtain ⟨a, b, c, d, n⟩ := p
  obtain ⟨a', b', c', d', n'⟩ := k
  simp only [Int.ofNat_inj, Prod.mk.injEq]
  by_cases h0 : a = a'
  · by_cases h1 : b = b'
    · by_cases h2 : c = c'
      · by_cases h3 : d = d'
        · by_cases h4 : n = n'
          · simp [h0, h1, h2, h3, h4]
          · simp [h0, h1, h2, h3, h4]
        · simp [h0, h1, h2, h3]
      · simp [h0, h1, h2]
    · simp [h0, h1]
  · simp [h0]
end Go.Proofs.YtcmfkdhadmfgkaaDoor.Lf

/- The document's Play: how many results are made and kept. -/
namespace Go.Proofs.YtcmfkdhadmfgkaaDoor.Lf
open Go.RowKit Go.Proofs.YtcmfkdhadmfgkaaDoor.Ba Go.Lib Go.Proofs.YtcmfkdhadmfgkaaDoor.Bk

def PlR (w : World) (most : Nat) (L : List A5) (md s t : Value) (wr : World) : Prop :=
  ∃ k : Nat, k ≤ L.length ∧ t = .int .i64 k ∧ md = .int .i64 (plL most (L.take k)).1 ∧ wr.ownsRow w.heap.size 82 5 s (plL most (L.take k)).2.length (flatA ((plL most (L.take k)).2.map upA)) ∧ Below w.heap.size w wr
def PkR (W : World) (K : List K5) (p : K5) (kn t : Value) (wr : World) : Prop :=
  ∃ j : Nat, j ≤ K.length ∧ t = .int .i64 j ∧ kn = .bool (decide (p ∈ K.take j)) ∧ Below W.heap.size W wr
set_option maxRecDepth 100000 in
set_option maxHeartbeats 4000000 in
theorem play_any (most : Nat) (hm : most < 9223372036854775808) (L : List A5) (hL : L.length ≤ 100) (hok : ∀ a ∈ L, -9223372036854775808 ≤ a.2.2.2.2 ∧ a.2.2.2.2 ≤ 9223372036854775807) (v : Value) (w : World) (h : AskAt w v L) :
    Calls Tryd.prog 37 #[v, .int .i64 most] w fun e w' => e = .returned (.tuple #[.int .i64 (plL most L).1, .int .i64 (plL most L).2.length]) ∧ Below w.heap.size w w' := by
  obtain ⟨i0, hi0, hz0, hz1, hz2⟩ := info_parts ask_info
  have key : ∃ p cap, v = .slice p L.length cap := by
    rcases h with ⟨p, cap, rfl, rfl⟩ | ⟨g, o, cap, rfl, _, _⟩
    · exact ⟨p, cap, rfl⟩
    · exact ⟨_, _, rfl⟩
  obtain ⟨p, cap, rfl⟩ := key
  have HR := Lib.hid h
  have HO := Lib.hid (World.ownsRow_made (base := w.heap.size) (e := 82) (size := 5) w #[] 0 (Nat.le_refl _) (Nat.zero_le _) (by simp))
  have HOK := Lib.hid hok
  clear h hok
  go_enter Tryd.func37, Tryd.ntmps37
  go_wp2_with fail
  go_loopw [6, 7, 16] (fun md s t wr => PlR w most L md s t wr) (fun _ _ t _ => 100 - (intOf t).toNat)
  case atStart => exact ⟨0, Nat.zero_le _, rfl, rfl, by simpa [plL, flatA] using HO.out, by go_grown⟩
  case round =>
    clear HO
    obtain ⟨k, hk, rfl, rfl, hown, hb⟩ := hrel
    have hz := hb.size
    by_cases hlt : k < L.length
    · obtain ⟨⟨q0, q1, q2, q3, n⟩, ha⟩ : ∃ a, L[k]? = some a := ⟨_, List.getElem?_eq_getElem hlt⟩
      have hraw := HR.out.below hb
      rcases hraw with ⟨_, _, _, hnil⟩ | ⟨g, o, cap', hv, hcs, hgl⟩
      · subst hnil; simp at hlt
      · injection hv with hv1 hv2 hv3
        subst hv1 hv3
        clear hv2
        have hc := hcs k _ ha
        have c0 := hc 0 (by omega)
        have c1 := hc 1 (by omega)
        have c2 := hc 2 (by omega)
        have c3 := hc 3 (by omega)
        have c4 := hc 4 (by omega)
        simp only [encA, List.getElem?_cons_zero, List.getElem?_cons_succ] at c0 c1 c2 c3 c4
        rw [show o + (k * 5 + 0) = o + k * 5 by omega] at c0
        rw [show o + (k * 5 + 1) = o + k * 5 + 1 by omega] at c1
        rw [show o + (k * 5 + 2) = o + k * 5 + 1 + 1 by omega] at c2
        rw [show o + (k * 5 + 3) = o + k * 5 + 1 + 1 + 1 by omega] at c3
        rw [show o + (k * 5 + 4) = o + k * 5 + 1 + 1 + 1 + 1 by omega] at c4
        have hn := HOK.out _ (List.mem_of_getElem? ha)
        dsimp only at hn
        have HT := Lib.hid (show plL most (L.take (k + 1)) = plS most (plL most (L.take k)) (q0, q1, q2, q3, clN n) by
          rw [List.take_add_one, ha]
          exact plL_app _ _ _)
        obtain ⟨h1, h2⟩ := plL_made most (L.take k)
        rw [List.length_take] at h1 h2
        generalize plL most (L.take k) = S at *
        obtain ⟨md, K⟩ := S
        dsimp only at hown h1 h2 ⊢
        clear hcs hc ha
        have hcs : (n ≤ 0 ∧ clN n = 0) ∨ (n = 1 ∧ clN n = 1) ∨ (2 ≤ n ∧ clN n = 2) := by unfold clN; omega
        have hN2 := clN_le n
        generalize clN n = N at *
        have hkG : Blk (wr.alloc (.cells #[.int .u32 q0, .int .u32 q1, .int .u32 q2, .int .u32 q3, .int .i64 N] 82)) wr.heap.size 82 #[.int .u32 q0, .int .u32 q1, .int .u32 q2, .int .u32 q3, .int .i64 N] := Blk.newAt wr _ _ _ rfl
        have hbG : Below wr.heap.size wr (wr.alloc (.cells #[.int .u32 q0, .int .u32 q1, .int .u32 q2, .int .u32 q3, .int .i64 N] 82)) := by go_grown
        obtain ⟨pM, cM, rfl⟩ := own_slcA hown
        go_upto_region 6 with fail
        go_cut [9] (fun v wx => v = .pointer (some ⟨wr.heap.size, 0, none⟩) ∧ wx = wr.alloc (.cells #[.int .u32 q0, .int .u32 q1, .int .u32 q2, .int .u32 q3, .int .i64 N] 82))
        case first =>
          clear hkG hbG hown c0 c1 c2 c3 c4
          rcases hcs with ⟨h1, rfl⟩ | ⟨rfl, rfl⟩ | ⟨h1, rfl⟩
          · by_cases h2 : n = 0
            · subst h2
              go_wp2_with fail
              go_meet
              exact ⟨rfl, rfl⟩
            · go_wp2_with fail
              all_goals
                go_meet
                exact ⟨rfl, by first | rfl | (congr; omega)⟩
          · go_wp2_with fail
            go_meet
            exact ⟨rfl, rfl⟩
          · go_wp2_with fail
            all_goals
              go_meet
              exact ⟨rfl, by first | rfl | (congr; omega)⟩
        case rest =>
          obtain ⟨rfl, hwc⟩ := hcut
          rw [← hwc] at hkG hbG
          have hown1 := own_below hown hbG
          have hbw := hb.trans (hbG.mono hz)
          have hgl := hkG.lt
          have d0 := hkG.cell 0
          have d1 := hkG.cell 1
          have d2 := hkG.cell 2
          have d3 := hkG.cell 3
          have d4 := hkG.cell 4
          simp only [List.getElem?_toArray, List.getElem?_cons_zero, List.getElem?_cons_succ] at d0 d1 d2 d3 d4
          clear hwc hbG hown hb c0 c1 c2 c3 c4 hcs hn
          generalize wr.heap.size = G at *
          go_upto_region 7 with fail
          go_cut [33] (fun v wx => v = .bool (!wor (q0, q1, q2, q3, N)) ∧ wx = wc)
          case first =>
            by_cases h0 : N = 0
            · subst h0
              go_wp2_with fail
              go_meet
              exact ⟨by rw [wor_zero]; rfl, rfl⟩
            · have he : ((N : Int) == 0) = false := by simpa using h0
              have hq := eql_w q0 q1 q2 q3 N h0
              go_wp2_with fail
              go_meet
              exact ⟨rfl, rfl⟩
          case rest =>
            obtain ⟨rfl, rfl⟩ := hcut
            generalize wc = W1 at *
            have hzw := hbw.size
            have hAk := ask_of_own (L := K.map upA) (by rw [List.length_map]; exact hown1)
            cases hw : wor (q0, q1, q2, q3, N)
            · have HE := Lib.hid (show plL most (L.take (k + 1)) = (md, K) by rw [HT.out]; exact plS_no hw)
              clear HT hAk
              go_wp2_with fail
              exact ⟨⟨k + 1, by omega, by go_num, by rw [HE.out], by rw [HE.out]; exact hown1, hbw⟩, by simp [intOf]; omega⟩
            · go_wp2_with fail
              go_loopw [10, 36] (fun kn t wr => PkR W1 K (q0, q1, q2, q3, N) kn t wr) (fun _ t _ => 100 - (intOf t).toNat)
              case atStart => exact ⟨0, Nat.zero_le _, rfl, by simp, Below.refl _ _⟩
              case round =>
                obtain ⟨j, hj, rfl, rfl, hbj⟩ := hrel
                by_cases hlj : j < K.length
                · obtain ⟨⟨e0, e1, e2, e3, e4⟩, he⟩ : ∃ e, K[j]? = some e := ⟨_, List.getElem?_eq_getElem hlj⟩
                  have hAj := hAk.below hbj
                  rcases hAj with ⟨_, _, hnil, _⟩ | ⟨gk, ok, capk, hv, hcs, hgk⟩
                  · injection hnil with _ hnil _
                    omega
                  · injection hv with hv1 hv2 hv3
                    subst hv1 hv3
                    clear hv2
                    have hc := hcs j (upA (e0, e1, e2, e3, e4)) (by rw [List.getElem?_map, he]; rfl)
                    have c0 := hc 0 (by omega)
                    have c1 := hc 1 (by omega)
                    have c2 := hc 2 (by omega)
                    have c3 := hc 3 (by omega)
                    have c4 := hc 4 (by omega)
                    simp only [encA, upA, List.getElem?_cons_zero, List.getElem?_cons_succ] at c0 c1 c2 c3 c4
                    rw [show ok + (j * 5 + 0) = ok + j * 5 by omega] at c0
                    rw [show ok + (j * 5 + 1) = ok + j * 5 + 1 by omega] at c1
                    rw [show ok + (j * 5 + 2) = ok + j * 5 + 1 + 1 by omega] at c2
                    rw [show ok + (j * 5 + 3) = ok + j * 5 + 1 + 1 + 1 by omega] at c3
                    rw [show ok + (j * 5 + 4) = ok + j * 5 + 1 + 1 + 1 + 1 by omega] at c4
                    have kj := hkG.under hbj
                    have kjl := kj.lt
                    have i0' := kj.cell 0
                    have i1 := kj.cell 1
                    have i2 := kj.cell 2
                    have i3 := kj.cell 3
                    have i4 := kj.cell 4
                    simp only [List.getElem?_toArray, List.getElem?_cons_zero, List.getElem?_cons_succ] at i0' i1 i2 i3 i4
                    have hbA : Below W1.heap.size W1 (wr.alloc (.cells #[.int .u32 e0, .int .u32 e1, .int .u32 e2, .int .u32 e3, .int .i64 e4] 82)) := hbj.alloc hbj.size _
                    have hTJ := Lib.hid (show K.take (j + 1) = K.take j ++ [(e0, e1, e2, e3, e4)] by rw [List.take_add_one, he]; rfl)
                    have heq := eql_ask (q0, q1, q2, q3, N) (e0, e1, e2, e3, e4)
                    dsimp only at heq
                    clear hcs hc he kj hbj d0 d1 d2 d3 d4
                    cases hkn : decide ((q0, q1, q2, q3, N) ∈ K.take j)
                    · have hno : (q0, q1, q2, q3, N) ∉ K.take j := of_decide_eq_false hkn
                      have hNE := Lib.hid (show decide ((q0, q1, q2, q3, N) ∈ K.take (j + 1)) = decide ((q0, q1, q2, q3, N) = (e0, e1, e2, e3, e4)) by
                        rw [hTJ.out]
                        simp only [List.mem_append, List.mem_singleton, hno, false_or])
                      clear hkn hno
                      generalize decide ((q0, q1, q2, q3, N) = (e0, e1, e2, e3, e4)) = bb at *
                      go_wp2_with fail
                      exact ⟨⟨j + 1, by omega, by go_num, by rw [hNE.out], hbA⟩, by simp [intOf]; omega⟩
                    · have hyes : (q0, q1, q2, q3, N) ∈ K.take j := of_decide_eq_true hkn
                      have hNE := Lib.hid (show decide ((q0, q1, q2, q3, N) ∈ K.take (j + 1)) = true by
                        rw [hTJ.out]
                        exact decide_eq_true (List.mem_append_left _ hyes))
                      clear hkn hyes
                      go_wp2_with fail
                      exact ⟨⟨j + 1, by omega, by go_num, by rw [hNE.out], hbA⟩, by simp [intOf]; omega⟩
                · obtain rfl : j = K.length := by omega
                  rw [List.take_length]
                  have hbwr := hbw.trans (hbj.mono hzw)
                  have hownj := own_below hown1 hbj
                  have kj := hkG.under hbj
                  have kjl := kj.lt
                  have i0' := kj.cell 0
                  have i1 := kj.cell 1
                  have i2 := kj.cell 2
                  have i3 := kj.cell 3
                  have i4 := kj.cell 4
                  simp only [List.getElem?_toArray, List.getElem?_cons_zero, List.getElem?_cons_succ] at i0' i1 i2 i3 i4
                  clear hAk hown1 hbw hkG kj hbj d0 d1 d2 d3 d4
                  by_cases hin : (q0, q1, q2, q3, N) ∈ K
                  · have HE := Lib.hid (show plL most (L.take (k + 1)) = (md, K) by rw [HT.out]; exact plS_in hin)
                    rw [decide_eq_true hin]
                    clear HT hin
                    go_wp2_with fail
                    exact ⟨⟨k + 1, by omega, by go_num, by rw [HE.out], by rw [HE.out]; exact hownj, hbwr⟩, by simp [intOf]; omega⟩
                  · have HE := Lib.hid (show plL most (L.take (k + 1)) = (md + 1, if most = 0 then [] else (if most ≤ K.length then [] else K) ++ [(q0, q1, q2, q3, N)]) by rw [HT.out]; exact plS_new hw hin)
                    rw [decide_eq_false hin]
                    clear HT hin hw
                    have hnew := newA wr (q0, q1, q2, q3, (N : Int))
                    dsimp only at hnew
                    have hone := one_flatA [(q0, q1, q2, q3, (N : Int))]
                    by_cases h0 : most = 0
                    · subst h0
                      rw [if_pos rfl] at HE
                      have hK0 : decide ((0 : Int) ≤ (K.length : Int)) = true := decide_eq_true (by omega)
                      clear hownj
                      go_wp2_with fail
                      exact ⟨⟨k + 1, by omega, by go_num, by rw [HE.out]; rfl, by rw [HE.out]; exact World.ownsRow_nil _ _ _ _, hbwr⟩, by simp [intOf]; omega⟩
                    · rw [if_neg h0] at HE
                      have hm0 : decide ((0 : Int) < (most : Int)) = true := decide_eq_true (by omega)
                      have hbA := hbwr.alloc hbwr.size (.cells #[.int .u32 q0, .int .u32 q1, .int .u32 q2, .int .u32 q3, .int .i64 N] 82)
                      have hbs := hbA.size
                      by_cases hle : most ≤ K.length
                      · rw [if_pos hle] at HE
                        have hd : decide ((most : Int) ≤ (K.length : Int)) = true := decide_eq_true (by omega)
                        have hown2 := World.ownsRow_nil (wr.alloc (.cells #[.int .u32 q0, .int .u32 q1, .int .u32 q2, .int .u32 q3, .int .i64 N] 82)) w.heap.size 82 5
                        have hm1 : 0 + 1 ≤ maxLen := by unfold maxLen; omega
                        have hm2 : (0 + 1) * 24 ≤ 140737488355328 := by omega
                        clear hownj
                        go_wp2_with (at_builtin; refine wpList_append_own_at _ rfl _ _ 78 rfl w.heap.size 82 i0 _ 5 24 Tryd.underlying78 hi0 hz0 hz1 hz2 rfl (by decide) _ _ _ rfl hown2 ⟨wr.heap.size, 0, none⟩ 1 1 (flatA [(q0, q1, q2, q3, (N : Int))]) rfl rfl hnew hone hm1 hm2 hbs ?_)
                        intro v8 w8 ho8 hgr8 _ hat8
                        have hb8 := hbA.grown hgr8 hbs (fun k hk => (hown2.lt k hk).1)
                        clear hgr8 hnew hown2 hat8
                        go_wp2_with fail
                        exact ⟨⟨k + 1, by omega, by go_num, by rw [HE.out]; rfl, by rw [HE.out]; exact ho8, hb8⟩, by simp [intOf]; omega⟩
                      · rw [if_neg hle] at HE
                        have hd : decide ((most : Int) ≤ (K.length : Int)) = false := decide_eq_false (by omega)
                        have hown2 := hownj.alloc (.cells #[.int .u32 q0, .int .u32 q1, .int .u32 q2, .int .u32 q3, .int .i64 N] 82)
                        have hm1 : K.length + 1 ≤ maxLen := by unfold maxLen; omega
                        have hm2 : (K.length + 1) * 24 ≤ 140737488355328 := by omega
                        clear hownj
                        go_wp2_with (at_builtin; refine wpList_append_own_at _ rfl _ _ 78 rfl w.heap.size 82 i0 _ 5 24 Tryd.underlying78 hi0 hz0 hz1 hz2 rfl (by decide) _ _ _ rfl hown2 ⟨wr.heap.size, 0, none⟩ 1 1 (flatA [(q0, q1, q2, q3, (N : Int))]) rfl rfl hnew hone hm1 hm2 hbs ?_)
                        intro v8 w8 ho8 hgr8 _ hat8
                        have hb8 := hbA.grown hgr8 hbs (fun k hk => (hown2.lt k hk).1)
                        clear hgr8 hnew hown2 hat8
                        go_wp2_with fail
                        exact ⟨⟨k + 1, by omega, by go_num, by rw [HE.out]; rfl, by rw [HE.out, List.map_append, List.map_cons, List.map_nil, flatA_app, List.length_append]; exact ho8, hb8⟩, by simp [intOf]; omega⟩
    · obtain rfl : k = L.length := by omega
      rw [List.take_length] at hown ⊢
      obtain ⟨pM, cM, rfl⟩ := own_slcA hown
      go_wp2_with fail
      go_ret2
      exact ⟨rfl, hb⟩
end Go.Proofs.YtcmfkdhadmfgkaaDoor.Lf

/- The law's own: told (of hexagons the bits of Half 1 go), awake. -/
namespace Go.Proofs.YtcmfkdhadmfgkaaDoor.Lf
open Go.RowKit Go.Proofs.YtcmfkdhadmfgkaaDoor.Ba Go.Lib Go.Proofs.YtcmfkdhadmfgkaaDoor.Bk
open Go.Proofs.YtcmfkdhadmfgkaaDoor.Tb (Tab)
open Go.Proofs.YtcmfkdhadmfgkaaDoor.Ax (SixIs)

def tq (l : Nat) (q : Nat → Nat) (i : Nat) : Nat := if l = 1 then q i &&& 1431655765 else q i
theorem tq_lt (l : Nat) {q : Nat → Nat} (h : ∀ i, i < 4 → q i < 4294967296) (i : Nat) (hi : i < 4) : tq l q i < 4294967296 := by
  unfold tq
  split
  · exact Nat.lt_of_le_of_lt Nat.and_le_left (h i hi)
  · exact h i hi
def TdR (w : World) (l b0 b1 s0 s1 : Nat) (q : Nat → Nat) (t : Value) (wr : World) : Prop :=
  ∃ (k : Nat) (f : Nat → Nat), k ≤ 4 ∧ t = .int .i64 k ∧ (∀ i, i < 4 → f i = if i < k then tq l q i else q i) ∧ Blk wr (w.heap.size + 1) 23 (qA f) ∧ Blk wr (w.heap.size + 2) 23 (qA fun _ => 0) ∧ Blk wr w.heap.size 47 #[.int .i64 l, .int .u64 b0, .int .u64 b1, .int .u64 s0, .int .u64 s1] ∧ Below w.heap.size w wr
theorem and_5 (a : Nat) (h : a < 4294967296) : bits .and .u32 (a : Int) 1431655765 = ((a &&& 1431655765 : Nat) : Int) := by
  exact u32_and_nat a 1431655765 h (by decide)
set_option maxRecDepth 100000 in
set_option maxHeartbeats 2000000 in
theorem told11_any (l b0 b1 s0 s1 : Nat) (q : Nat → Nat) (hq : ∀ i, i < 4 → q i < 4294967296) (w : World) :
    Calls Tryd.prog 35 #[.agg #[.int .i64 l, .int .u64 b0, .int .u64 b1, .int .u64 s0, .int .u64 s1], .agg (qA q)] w fun e w' => e = .returned (.agg (qA (tq l q))) ∧ Below w.heap.size w w' := by
  have HQ := Lib.hid hq
  clear hq
  go_enter Tryd.func35, Tryd.ntmps35
  go_upto_region 1 with fail
  obtain ⟨W0, hW0⟩ : ∃ W0, ((w.alloc (.cells #[.int .i64 l, .int .u64 b0, .int .u64 b1, .int .u64 s0, .int .u64 s1] 47)).alloc (.cells (qA q) 23)).alloc (.cells (qA fun _ => 0) 23) = W0 := ⟨_, rfl⟩
  have kx : Blk W0 w.heap.size 47 #[.int .i64 l, .int .u64 b0, .int .u64 b1, .int .u64 s0, .int .u64 s1] := by rw [← hW0]; exact ((Blk.newAt w _ _ _ rfl).alloc _).alloc _
  have k1 : Blk W0 (w.heap.size + 1) 23 (qA q) := by rw [← hW0]; exact (Blk.newAt _ _ _ _ (by simp)).alloc _
  have k2 : Blk W0 (w.heap.size + 2) 23 (qA fun _ => 0) := by rw [← hW0]; exact Blk.newAt _ _ _ _ (by simp)
  have hB0 : Below w.heap.size w W0 := by rw [← hW0]; go_grown
  change Code.wp _ _ _ _ (((w.alloc (.cells #[.int .i64 l, .int .u64 b0, .int .u64 b1, .int .u64 s0, .int .u64 s1] 47)).alloc (.cells (qA q) 23)).alloc (.cells (qA fun _ => 0) 23))
  rw [hW0]
  clear hW0
  go_wp2_with fail
  go_loopw [6] (fun t wr => TdR w l b0 b1 s0 s1 q t wr) (fun t _ => 4 - (intOf t).toNat)
  case atStart => exact ⟨0, q, by omega, rfl, fun i _ => by simp, k1, k2, kx, hB0⟩
  case round =>
    clear k1 k2 kx hB0
    obtain ⟨k, f, hk, rfl, hf, k1, k2, kx, hB⟩ := hrel
    by_cases hlt : k < 4
    · have hdb : decide ((k : Int) < 4) = true := by simp; omega
      have hl := kx.lt
      have c0 := kx.cell 0
      simp only [List.getElem?_toArray, List.getElem?_cons_zero] at c0
      have hk4 : (k : Int) < 4 := by omega
      have hl1 := k1.lt
      have hz := k1.frozen k
      have hcq := (k1.cell k).trans (qA_get f k hlt)
      have hfk : f k = q k := by rw [hf k hlt, if_neg (Nat.lt_irrefl k)]
      have hqk := HQ.out k hlt
      rw [hfk] at hcq
      have ha := and_5 (q k) hqk
      by_cases h1 : l = 1
      · subst h1
        have HF := Lib.hid (show ∀ i, i < 4 → (if i = k then q k &&& 1431655765 else f i) = if i < k + 1 then tq 1 q i else q i from fun i hi => by
          by_cases e : i = k
          · rw [if_pos e, if_pos (by omega), e]; rfl
          · rw [if_neg e, hf i hi]
            by_cases e2 : i < k
            · rw [if_pos e2, if_pos (by omega)]
            · rw [if_neg e2, if_neg (by omega)])
        have k1s : Blk (wr.setCell ⟨w.heap.size + 1, k, none⟩ (.int .u32 (q k &&& 1431655765 : Nat))) (w.heap.size + 1) 23 (qA fun i => if i = k then q k &&& 1431655765 else f i) := by
          rw [← qA_set f k _ hlt]
          exact k1.set_ k _
        have k2s := k2.far (p := ⟨w.heap.size + 1, k, none⟩) (by show w.heap.size + 2 ≠ w.heap.size + 1; omega) (.int .u32 (q k &&& 1431655765 : Nat))
        have kxs := kx.far (p := ⟨w.heap.size + 1, k, none⟩) (by show w.heap.size ≠ w.heap.size + 1; omega) (.int .u32 (q k &&& 1431655765 : Nat))
        have hbs := hB.setCell (p := ⟨w.heap.size + 1, k, none⟩) (by show w.heap.size ≤ w.heap.size + 1; omega) (.int .u32 (q k &&& 1431655765 : Nat))
        have H1 := Lib.hid k1s
        have H2 := Lib.hid k2s
        have H3 := Lib.hid kxs
        have H4 := Lib.hid hbs
        clear k1s k2s kxs hbs k1 k2 kx hB hf hfk
        generalize q k &&& 1431655765 = qk at *
        go_wp2_with fail
        exact ⟨⟨k + 1, _, by omega, by go_num, HF.out, H1.out, H2.out, H3.out, H4.out⟩, by simp [intOf]; omega⟩
      · have d1 : decide ((l : Int) = 1) = false := decide_eq_false (by omega)
        have HF := Lib.hid (show ∀ i, i < 4 → f i = if i < k + 1 then tq l q i else q i from fun i hi => by
          rw [hf i hi]
          by_cases e : i = k
          · subst e
            rw [if_neg (Nat.lt_irrefl _), if_pos (by omega)]
            unfold tq
            rw [if_neg h1]
          · by_cases e2 : i < k
            · rw [if_pos e2, if_pos (by omega)]
            · rw [if_neg e2, if_neg (by omega)])
        clear hf hfk
        go_wp2_with fail
        exact ⟨⟨k + 1, f, by omega, by go_num, HF.out, k1, k2, kx, hB⟩, by simp [intOf]; omega⟩
    · obtain rfl : k = 4 := by omega
      have e : qA f = qA (tq l q) := by
        unfold qA
        rw [hf 0 (by decide), hf 1 (by decide), hf 2 (by decide), hf 3 (by decide)]
        rfl
      rw [e] at k1
      obtain ⟨u, hu⟩ : ∃ u, tq l q = u := ⟨_, rfl⟩
      rw [hu] at k1
      have HU := Lib.hid hu
      clear hu
      have hl1 := k1.lt
      have hl2 := k2.lt
      have d0 := (k1.cell 0).trans (qA_get _ 0 (by decide))
      have e0 := (k2.cell 0).trans (qA_get _ 0 (by decide))
      have z0 := k2.frozen 0
      have d1 := (k1.cell 1).trans (qA_get _ 1 (by decide))
      have e1 := (k2.cell 1).trans (qA_get _ 1 (by decide))
      have z1 := k2.frozen 1
      have d2 := (k1.cell 2).trans (qA_get _ 2 (by decide))
      have e2 := (k2.cell 2).trans (qA_get _ 2 (by decide))
      have z2 := k2.frozen 2
      have d3 := (k1.cell 3).trans (qA_get _ 3 (by decide))
      have e3 := (k2.cell 3).trans (qA_get _ 3 (by decide))
      have z3 := k2.frozen 3
      clear hf e k1 k2 kx
      go_wp2_with fail
      exact bodyPost_ret (v := .agg (qA u)) (by simp [results, Tryd.results35, go_sem, qA, *]) rfl ⟨by rw [HU.out], ((((hB.setCell (p := ⟨w.heap.size + 2, 0, none⟩) (by show _ ≤ _ + 2; omega) _).setCell (p := ⟨w.heap.size + 2, 1, none⟩) (by show _ ≤ _ + 2; omega) _).setCell (p := ⟨w.heap.size + 2, 2, none⟩) (by show _ ≤ _ + 2; omega) _).setCell (p := ⟨w.heap.size + 2, 3, none⟩) (by show _ ≤ _ + 2; omega) _)⟩
/-! awake. -/
theorem aw0_good : Fl.Good 1 0 0 0 0 := ⟨.inl rfl, by decide, by decide, by decide, by decide, by decide +kernel⟩
theorem sel_zero (h : Nat) (b : Bool) : Tb.sel 0 0 0 0 h b = 0 := by unfold Tb.sel; split <;> split <;> rfl
theorem res_all : ∀ v, Res 1 0 0 0 0 allF 0 v → v = 4294967295 := by
  rintro v ⟨Y, hY, rfl⟩
  obtain rfl : ofB allF = Y := hY
  exact aw_mid
theorem res_none : ∀ v, Res 1 0 0 0 0 allF 1 v → v = 0 := by
  rintro v ⟨Y, ⟨Z, hZ, hz, hY⟩, rfl⟩
  obtain rfl : Z = Y := hY
  have e : Z = fun _ => 0 := zr_ext hz (fun _ _ => rfl) (bk_ext hZ.lt (fun _ _ => by decide) fun n h hn hh => by
    rw [hZ.bit n h hn hh, sel_zero]
    simp)
  rw [e]
  decide
set_option maxRecDepth 100000 in
set_option maxHeartbeats 2000000 in
theorem awake11 (w : World) (hs : SixIs w) : Calls Tryd.prog 33 #[] w fun e w' => e = .returned (.bool true) ∧ Below w.heap.size w w' := by
  have hnw := bnew_any 1 0 0 0 0 aw0_good w hs
  have hqa : ∀ i, i < 4 → allF i < 4294967296 := fun i _ => by unfold allF; decide
  have p0 : plS 4 (0, []) (kQ allF (clN 0)) = (0, []) := by decide
  have p1 : plS 4 (0, []) (kQ allF (clN 1)) = (1, [kQ allF (clN 1)]) := by decide
  go_enter Tryd.func33, Tryd.ntmps33
  go_wp2_with fail
  refine hnw.mono ?_
  rintro e w1 ⟨g, rfl, hK, hgg, hb1⟩
  clear hnw
  have hnl := lfnew_any w1.heap.size g 1 0 0 0 0 4 w1 hK
  clear hK
  go_wp2_with fail
  refine hnl.mono ?_
  rintro e w2 ⟨g', m, rfl, hm2, hg2, hmm2, hb2⟩
  have hb12 := hb1.trans (hb2.mono hb1.size)
  clear hnl hb2 hg2 hmm2
  have hr1 := lfres_any w1.heap.size g' m 1 0 0 0 0 4 (0, []) aw0_good allF hqa 0 (by decide) w2 hm2 (by decide)
  rw [p0] at hr1
  change Calls _ _ #[.pointer (some ⟨g', 0, none⟩), .agg #[.int .u32 4294967295, .int .u32 4294967295, .int .u32 4294967295, .int .u32 4294967295], .int .i64 0] _ _ at hr1
  go_wp2_with fail
  refine hr1.mono ?_
  rintro e w3 ⟨v, rfl, hR, hm3, hb3⟩
  obtain rfl := res_all v hR
  have hb13 := hb12.trans ((hb3.low hm2).mono hb1.size)
  clear hr1 hR hb3 hb12 hm2
  go_wp2_with fail
  refine (made_any _ _ _ _ _ _ _ _ _ _ _ hm3).mono ?_
  rintro e w' ⟨rfl, rfl⟩
  have hr2 := lfres_any w1.heap.size g' m 1 0 0 0 0 4 (0, []) aw0_good allF hqa 1 (by decide) w3 hm3 (by decide)
  rw [p1] at hr2
  change Calls _ _ #[.pointer (some ⟨g', 0, none⟩), .agg #[.int .u32 4294967295, .int .u32 4294967295, .int .u32 4294967295, .int .u32 4294967295], .int .i64 1] _ _ at hr2
  go_wp2_with fail
  refine hr2.mono ?_
  rintro e w4 ⟨v, rfl, hR, hm4, hb4⟩
  obtain rfl := res_none v hR
  have hb14 := hb13.trans ((hb4.low hm3).mono hb1.size)
  clear hr2 hR hb4 hb13 hm3
  go_wp2_with fail
  refine (made_any _ _ _ _ _ _ _ _ _ _ _ hm4).mono ?_
  rintro e w' ⟨rfl, rfl⟩
  go_wp2_with fail
  refine (kept_any _ _ _ _ _ _ _ _ _ _ _ hm4).mono ?_
  rintro e w' ⟨rfl, rfl⟩
  go_wp2_with fail
  go_ret
  exact ⟨rfl, hb14⟩
end Go.Proofs.YtcmfkdhadmfgkaaDoor.Lf

/- What the row's list gives: the table of the six points; and the last step of a row of which 'Below' alone is known. -/
namespace Go.Proofs.YtcmfkdhadmfgkaaDoor.Ax
open Go.RowKit Go.WideShapes Go.ChangeShapes

section
variable {H : Type} {enc : TypeId × Value → H} {P : Program}
/-- Behind a call that turned nothing of what was there, the arguments read as they did. -/
theorem all_below (hl : laidOutB P = true) {W W' : World} (hb : Below W.heap.size W W') : ∀ {ts : List TypeId} {vs : List Value} {ds : List (DataW H)} {ps : List MemPlace},
    (∀ t ∈ ts, P.readableRec t = true ∧ t < P.types.size) → (∀ x ∈ ps, x.block < W.heap.size) → DataW.TrodAll enc P W 0 (fun _ => true) true ts vs ds ps → DataW.TrodAll enc P W' 0 (fun b => decide (b < W.heap.size)) true ts vs ds ps
  | [], _, _, _, _, _, h => by
    obtain ⟨rfl, rfl, rfl⟩ := trodAll_nil h
    exact trodAll_mk0
  | t :: ts, _, _, _, ht, hlt, h => by
    obtain ⟨v, vs, d, ds, p, q, rfl, rfl, rfl, h0, r⟩ := trodAll_cons h
    exact trodAll_cons_mk (Below.trod hl (ht t (by simp)).1 (ht t (by simp)).2 h0 hb (fun x hx => hlt x (by simp [hx]))) (all_below hl hb (fun u hu => ht u (by simp [hu])) (fun x hx => hlt x (by simp [hx])) r)

/-- THE LAST STEP OF A LAW: it answered true, and turned nothing of what was there. -/
theorem law_post (hl : laidOutB P = true) {f : Func} {s : ChangeSpec} {tb : TypeId} {W W' : World} {args : Array Value} {ds gs : List (DataW H)} {before : List MemPlace}
    (hvars : s.vars = []) (hrt : f.resultTypes = #[tb]) (hu : P.underlying tb = some .bool) (hts0 : (f.params.toList.all fun t => P.readableRec t && decide (t < P.types.size)) = true)
    (hW : DataW.Whole enc P f.params.toList s.vars false W args.toList ds gs before) (hb : Below W.heap.size W W')
    (hs : (s.fn H (ds ++ gs)).results = [.lit (.bool true)] ∧ (s.fn H (ds ++ gs)).args = ds ∧ (s.fn H (ds ++ gs)).vars = []) :
    s.post enc P f false true false false W args (.bool true) W' := by
  have hlt : ∀ x ∈ before, x.block < W.heap.size := fun x hx => hW.lt x hx
  have hts : ∀ t ∈ f.params.toList, P.readableRec t = true ∧ t < P.types.size := fun t ht => by
    have := List.all_eq_true.1 hts0 t ht
    simpa using this
  have hW' := hW
  obtain ⟨p, q, hA, hV, rfl, hz, hn⟩ := hW
  obtain ⟨h1, h2, h3⟩ := hs
  rw [hvars] at hV
  obtain ⟨rfl, rfl⟩ := trodVars_none hV
  refine ⟨ds, [], p ++ [], [], p, [], hW', ?_, ?_, ?_, World.keptBut_mono (fun x hx => ⟨hx, Or.inr (Or.inl (by simpa using hx))⟩) (hb.frame (fun x => x ∈ p ++ [])), fun h => by cases h⟩
  · rw [h1, hrt]
    exact trodAll_cons_mk (shut_bool hu true) trodAll_mk0
  · rw [h2]
    exact all_below hl hb hts (fun x hx => hlt x (by simpa using hx)) hA
  · rw [h3, hvars]
    rfl
end
/-- A WORLD FOR THE WITNESS: the settled one, the table's block holding the six points. -/
noncomputable def laidWorld (os : Os) : World :=
  { World.holding Tryd.prog os ⟨#[], #[], []⟩ with heap := (World.holding Tryd.prog os ⟨#[], #[], []⟩).heap.modify 1 fun
      | .cells _ t frozen => .cells sixCells t frozen
      | o => o }
theorem laidOut : laidOutB Tryd.prog = true := by kernel_rfl

theorem own : ownKnob Tryd.prog.godebug = none := by kernel_rfl
theorem gSix : Tryd.prog.globalNamed "honeycomb/axis.six" = some 1 := by kernel_rfl
theorem gSixType : (Tryd.prog.globals[1]?).map (·.type) = some 137 := by kernel_rfl
theorem cellsSix : Tryd.prog.cellsOf 137 = 12 := by kernel_rfl
theorem cellsPt : Tryd.prog.cellsOf 70 = 2 := by kernel_rfl
theorem cellsI : Tryd.prog.cellsOf 2 = 1 := by kernel_rfl

theorem pt_cells {H : Type} {enc : TypeId × Value → H} {w : World} {base : Nat} {sp : Nat → Bool} {held : Bool} {fuel : Nat} {cs : List Value} {x y : Int} {p : List MemPlace}
    (h : DataW.trod enc Tryd.prog w base sp held fuel 70 cs = some (.agg [.lit (.int .i64 x), .lit (.int .i64 y)], p)) : cs = [.int .i64 x, .int .i64 y] := by
  obtain ⟨y0, y1, n, he, hl, h0, h1⟩ := trod_struct2 Tryd.underlying70 h
  simp only [cellsPt, cellsI] at hl h0 h1
  obtain ⟨a, e0, rfl, _⟩ := DataW.trod_int Tryd.underlying2 h0
  obtain ⟨b, e1, rfl, _⟩ := DataW.trod_int Tryd.underlying2 h1
  match cs, hl with
  | [c0, c1], _ =>
    simp at e0 e1 he
    obtain ⟨⟨rfl, rfl⟩, _⟩ := he
    simp [e0, e1]

theorem six_of_laid {W : World} (h : laidMet Tryd.prog [("honeycomb/axis.six", Rows.laid_honeycomb_axis_six)] W) : SixIs W := by
  obtain ⟨ps, ⟨g', t', cs, fuel, p, q, hg', ht', hvar, hd, _, _⟩, _⟩ := h
  obtain rfl := Option.some.inj (gSix.symm.trans hg')
  obtain rfl := Option.some.inj (gSixType.symm.trans ht')
  obtain ⟨xs, m, _, he, hl, hn, hx⟩ := DataW.trod_array Tryd.underlying137 hd
  simp only [cellsSix, cellsPt] at hl hx
  match xs, hn with
  | [x0, x1, x2, x3, x4, x5], _ =>
    simp only [Rows.laid_honeycomb_axis_six, List.map_cons, List.map_nil, Prod.mk.injEq, DataW.agg.injEq, List.cons.injEq, and_true] at he
    obtain ⟨⟨e0, e1, e2, e3, e4, e5⟩, _⟩ := he
    have k0 := hx 0 (by decide)
    have k1 := hx 1 (by decide)
    have k2 := hx 2 (by decide)
    have k3 := hx 3 (by decide)
    have k4 := hx 4 (by decide)
    have k5 := hx 5 (by decide)
    obtain ⟨a0, b0⟩ := x0
    obtain ⟨a1, b1⟩ := x1
    obtain ⟨a2, b2⟩ := x2
    obtain ⟨a3, b3⟩ := x3
    obtain ⟨a4, b4⟩ := x4
    obtain ⟨a5, b5⟩ := x5
    simp only at e0 e1 e2 e3 e4 e5
    subst e0 e1 e2 e3 e4 e5
    replace k0 := pt_cells k0
    replace k1 := pt_cells k1
    replace k2 := pt_cells k2
    replace k3 := pt_cells k3
    replace k4 := pt_cells k4
    replace k5 := pt_cells k5
    obtain ⟨l⟩ := cs
    match l, hl with
    | [c0, c1, c2, c3, c4, c5, c6, c7, c8, c9, c10, c11], _ =>
      simp at k0 k1 k2 k3 k4 k5
      obtain ⟨rfl, rfl⟩ := k0
      obtain ⟨rfl, rfl⟩ := k1
      obtain ⟨rfl, rfl⟩ := k2
      obtain ⟨rfl, rfl⟩ := k3
      obtain ⟨rfl, rfl⟩ := k4
      obtain ⟨rfl, rfl⟩ := k5
      simp only [World.var?, gSix, Option.bind_some] at hvar
      split at hvar
      · rename_i cs t fr hh
        cases hvar
        exact ⟨t, fr, hh⟩
      · cases hvar

end Go.Proofs.YtcmfkdhadmfgkaaDoor.Ax

/- A list of asks that came in, opened to its cells. -/
namespace Go.Proofs.YtcmfkdhadmfgkaaDoor.Lf
open Go.RowKit Go.Proofs.YtcmfkdhadmfgkaaDoor.Ba Go.Lib Go.Proofs.YtcmfkdhadmfgkaaDoor.Bk

def okA5 (a : A5) : Prop := (a.1 < 4294967296 ∧ a.2.1 < 4294967296 ∧ a.2.2.1 < 4294967296 ∧ a.2.2.2.1 < 4294967296) ∧ -9223372036854775808 ≤ a.2.2.2.2 ∧ a.2.2.2.2 ≤ 9223372036854775807
theorem nat_of_u32 {a : Int} (h : (Lit.int .u32 a).wf = true) : ∃ n : Nat, a = n ∧ n < 4294967296 := by
  simp [Lit.wf, IntKind.min, IntKind.max, IntKind.signed, IntKind.bits] at h
  exact ⟨a.toNat, by omega, by omega⟩
section
open Go.ChangeShapes Go.WideShapes Go.Deep
theorem askCells : Tryd.prog.cellsOf 82 = 5 := by kernel_rfl
theorem ask_of_trod {H : Type} {enc : TypeId × Value → H} {w : World} {base : Nat} {spare : Nat → Bool} {held : Bool} {fuel : Nat} {c0 c1 c2 c3 c4 : Value} {x : DataW H × List MemPlace} (h : DataW.trod enc Tryd.prog w base spare held fuel 82 [c0, c1, c2, c3, c4] = some x) :
    ∃ a : A5, okA5 a ∧ [c0, c1, c2, c3, c4] = encA a := by
  have cI : Tryd.prog.cellsOf 3 = 1 := by kernel_rfl
  obtain ⟨xs, n, _, _, _, hlen, hf⟩ := DataW.trod_struct Tryd.underlying82 h
  match xs, hlen with
  | [y0, y1], _ =>
    have g0 := hf 0 _ rfl
    have g1 := hf 1 _ rfl
    simp [cI, cellsL4] at g0 g1
    obtain ⟨z0, z1, z2, z3, m, _, k0, k1, k2, k3⟩ := trod_four Tryd.underlying23 cellsU32 g0
    obtain ⟨a, e0, _, w0⟩ := DataW.trod_int Tryd.underlying22 k0
    obtain ⟨b, e1, _, w1⟩ := DataW.trod_int Tryd.underlying22 k1
    obtain ⟨c, e2, _, w2⟩ := DataW.trod_int Tryd.underlying22 k2
    obtain ⟨d, e3, _, w3⟩ := DataW.trod_int Tryd.underlying22 k3
    obtain ⟨n', e4, _, wn⟩ := DataW.trod_int Tryd.underlying3 g1
    simp at e0 e1 e2 e3 e4
    subst e0 e1 e2 e3 e4
    obtain ⟨a, rfl, ha⟩ := nat_of_u32 w0
    obtain ⟨b, rfl, hb⟩ := nat_of_u32 w1
    obtain ⟨c, rfl, hc⟩ := nat_of_u32 w2
    obtain ⟨d, rfl, hd⟩ := nat_of_u32 w3
    refine ⟨(a, b, c, d, n'), ⟨⟨ha, hb, hc, hd⟩, ?_⟩, rfl⟩
    simp [Lit.wf, IntKind.min, IntKind.max, IntKind.signed, IntKind.bits] at wn
    show -9223372036854775808 ≤ n' ∧ n' ≤ 9223372036854775807
    omega
set_option maxRecDepth 100000 in
theorem open_asks {H : Type} {enc : TypeId × Value → H} {w : World} {base : Nat} {spare : Nat → Bool} {held : Bool} {r : Reach} {b0 : Nat} {v : Value} {d : DataW H} {p : List MemPlace}
    (hv : Value.okWide Tryd.prog w r b0 78 v) (h : DataW.Trod enc Tryd.prog w base spare held 78 v d p) :
    ∃ A : List A5, (AskAt w v A ∧ ∀ c ∈ A, okA5 c) ∧ A.length ≤ maxLen := by
  obtain ⟨a0, n0, c0, rfl⟩ := okWide_slice Tryd.underlying78 hv
  obtain ⟨fuel, hf⟩ := h
  rcases Go.Deep.open_slice Tryd.underlying78 hf with ⟨hcs, _⟩ | ⟨a, len, cap, m, n, D, Pl, hcs, _, hl, hm, hmm, _, hi⟩
  · simp [Value.cells] at hcs
    obtain ⟨rfl, rfl, rfl⟩ := hcs
    exact ⟨[], ⟨.inl ⟨none, 0, rfl, rfl⟩, by simp⟩, by simp⟩
  · simp [Value.cells] at hcs
    obtain ⟨rfl, rfl, rfl⟩ := hcs
    have hle : n0 ≤ m := by rw [hmm]; split <;> omega
    have hget : ∀ i, i < n0 → ∃ c : A5, okA5 c ∧ ∀ j, j < 5 → w.cell? ((a.add (i * 5)).add j) = (encA c)[j]? := by
      intro i hil
      obtain ⟨cs, hc, ht⟩ := hi i (by omega)
      rw [askCells] at hc
      obtain ⟨_, hcl, hat⟩ := World.cells?_some hc
      match cs, hcl with
      | [x0, x1, x2, x3, x4], _ =>
        obtain ⟨c, hok, he⟩ := ask_of_trod ht
        refine ⟨c, hok, fun j hj => ?_⟩
        have h1 := hat j (by simpa using hj)
        rw [h1, ← he]
    have hn : n0 ≤ maxLen := by omega
    rcases Nat.eq_zero_or_pos n0 with h0 | h0
    · subst h0
      exact ⟨[], ⟨.inl ⟨_, _, rfl, rfl⟩, by simp⟩, by simp⟩
    · obtain ⟨g, o, sp⟩ := a
      obtain rfl : sp = none := by
        obtain ⟨c, _, hc⟩ := hget 0 h0
        have hc := hc 0 (by decide)
        cases sp with
        | none => rfl
        | some s =>
          simp only [Nat.zero_mul, Addr.add, if_true, World.cell?, encA, List.getElem?_cons_zero] at hc
          split at hc <;> simp at hc
      have hg : g < w.heap.size := by
        obtain ⟨c, _, hc⟩ := hget 0 h0
        have hc := hc 0 (by decide)
        rcases Nat.lt_or_ge g w.heap.size with h' | h'
        · exact h'
        · simp [World.cell?, Addr.add_lit, Array.getElem?_eq_none h', encA] at hc
      let f : Nat → A5 := fun i => if h : i < n0 then Classical.choose (hget i h) else (0, 0, 0, 0, 0)
      have hfs : ∀ i, i < n0 → okA5 (f i) ∧ ∀ j, j < 5 → w.cell? ⟨g, o + (i * 5 + j), none⟩ = (encA (f i))[j]? := by
        intro i hil
        have hs := Classical.choose_spec (hget i hil)
        have e : f i = Classical.choose (hget i hil) := dif_pos hil
        rw [e]
        generalize Classical.choose (hget i hil) = c at hs ⊢
        simp only [Addr.add_lit] at hs
        refine ⟨hs.1, fun j hj => ?_⟩
        rw [← Nat.add_assoc]
        exact hs.2 j hj
      have hlen : ((List.range n0).map f).length = n0 := by simp
      refine ⟨(List.range n0).map f, ⟨.inr ⟨g, o, c0, by rw [hlen], fun i x hx => ?_, hg⟩, fun c hc => ?_⟩, by rw [hlen]; exact hn⟩
      · have hil : i < n0 := by have := (List.getElem?_eq_some_iff.1 hx).1; simpa using this
        have e : f i = x := by rw [List.getElem?_map, List.getElem?_range hil] at hx; simpa using hx
        rw [← e]
        exact (hfs i hil).2
      · simp only [List.mem_map, List.mem_range] at hc
        obtain ⟨i, hil, rfl⟩ := hc
        exact (hfs i hil).1
end
end Go.Proofs.YtcmfkdhadmfgkaaDoor.Lf

/- The document's Result: the middle of four leaves, so many generations on. -/
namespace Go.Proofs.YtcmfkdhadmfgkaaDoor.Lf
open Go.RowKit Go.Proofs.YtcmfkdhadmfgkaaDoor.Ba Go.Proofs.YtcmfkdhadmfgkaaDoor.Si Go.Proofs.YtcmfkdhadmfgkaaDoor.Bk Go.Lib
open Go.Proofs.YtcmfkdhadmfgkaaDoor.Fl (C Stp nxT)
open Go.Proofs.YtcmfkdhadmfgkaaDoor.Se (SetAt)
open Go.Proofs.YtcmfkdhadmfgkaaDoor.Tb (RT)

def RfR (w : World) (l b0 b1 s0 s1 : Nat) (Y : Nat → Nat) (N g : Nat) (_n : Int) (v t : Value) (wr : World) : Prop :=
  ∃ (k : Nat) (q : Nat → Nat), k ≤ N ∧ t = .int .i64 k ∧ L4At wr v q ∧ (∀ i, i < 4 → q i < 4294967296) ∧ Gen l b0 b1 s0 s1 (N - k) (ofB q) Y ∧ Blk wr w.heap.size 57 #[.int .i64 l, .slice (some ⟨g, 1, none⟩) 2 2, .slice (some ⟨g, 3, none⟩) 2 2] ∧ Below w.heap.size w wr
theorem lvS_lt (R : List C) (i : Nat) : lvS R i < 4294967296 := Nat.lt_of_lt_of_le (ofF_lt _ (rlS_lt R _ _) 16) (by decide)
set_option maxRecDepth 100000 in
set_option maxHeartbeats 1000000 in
theorem refres11_any (l b0 b1 s0 s1 : Nat) (hg : Fl.Good l b0 b1 s0 s1) (g : Nat) (q : Nat → Nat) (hq : ∀ i, i < 4 → q i < 4294967296) (n : Int) (v : Value) (u : Nat) (w : World) (kg : Blk w g 47 (Fl.TabC l b0 b1 s0 s1)) (hv : L4At w v q) (hR : Res l b0 b1 s0 s1 q (clN n) u) :
    Calls Tryd.prog 38 #[RT l g, v, .int .i64 n] w fun e w' => e = .returned (.int .u32 u) ∧ Below w.heap.size w w' := by
  have hlt := hg.lat
  obtain ⟨Y, hG, rfl⟩ := hR
  have hcn := clN_le n
  have hN : ∀ k : Nat, k < clN n ↔ (k : Int) < n ∧ (k : Int) < 2 := fun k => by unfold clN; omega
  generalize clN n = N at *
  have hb0 : Below w.heap.size w (w.alloc (.cells #[.int .i64 l, .slice (some ⟨g, 1, none⟩) 2 2, .slice (some ⟨g, 3, none⟩) 2 2] 57)) := by go_grown
  have kt := Blk.newAt w 57 #[.int .i64 l, .slice (some ⟨g, 1, none⟩) 2 2, .slice (some ⟨g, 3, none⟩) 2 2] _ rfl
  have hv0 := hv.below hb0
  have hst : ∀ W v q, Below w.heap.size w W → L4At W v q → (∀ i, i < 4 → q i < 4294967296) → Calls Tryd.prog 28 #[RT l g, v] W fun e w' => ∃ u R, e = .returned u ∧ L4At w' u (lvS R) ∧ Stp (nxT b0 b1 s0 s1) l (clS l q) R ∧ Below W.heap.size W w' := fun W v q hb hv hq =>
    refstep10_any l b0 b1 s0 s1 hg g q hq v W (kg.under hb) hv
  clear kg
  unfold RT at hst
  go_enter Tryd.func38, Tryd.ntmps38
  go_wp2_with fail
  go_loopw [1, 7] (fun v t wr => RfR w l b0 b1 s0 s1 Y N g n v t wr) (fun _ t _ => 2 - (intOf t).toNat)
  case atStart => exact ⟨0, q, Nat.zero_le _, rfl, hv0, hq, hG, kt, hb0⟩
  case round =>
    clear kt hb0 hv0 hG hq hv
    obtain ⟨k, q, hk, rfl, hv, hq, hG, kt, hb⟩ := hrel
    by_cases hlt2 : k < N
    · obtain ⟨h1, h2⟩ := (hN k).1 hlt2
      have d1 : decide ((k : Int) < n) = true := decide_eq_true h1
      have d2 : decide ((k : Int) < 2) = true := decide_eq_true h2
      have c0 := kt.cell 0
      have c1 := kt.cell 1
      have c2 := kt.cell 2
      simp only [List.getElem?_toArray, List.getElem?_cons_zero, List.getElem?_cons_succ] at c0 c1 c2
      have hl := kt.lt
      have hs := hst _ _ q hb hv hq
      go_wp2_with fail
      refine hs.mono ?_
      rintro e w1 ⟨u', R, rfl, hv1, hS, hb1⟩
      have kt1 := kt.under hb1
      have hb01 := hb.trans (hb1.mono hb.size)
      obtain ⟨Z, hZ, hz, hG'⟩ : ∃ Z, BStp l b0 b1 s0 s1 (ofB q) Z ∧ Zr Z ∧ Gen l b0 b1 s0 s1 (N - (k + 1)) Z Y := by
        rw [show N - k = (N - (k + 1)) + 1 by omega] at hG
        exact hG
      have he := next_of hlt hZ hz hS
      rw [← he] at hG'
      have hq' : ∀ i, i < 4 → lvS R i < 4294967296 := fun i _ => lvS_lt R i
      clear c0 c1 c2 hl hs hst kt hb hv hZ hz hG he hS d1 d2 hb1
      go_wp2_with fail
      exact ⟨⟨k + 1, lvS R, by omega, by go_num, hv1, hq', hG', kt1, hb01⟩, by simp [intOf]; omega⟩
    · obtain rfl : k = N := by omega
      have hno := fun h => hlt2 ((hN k).2 h)
      rw [Nat.sub_self] at hG
      obtain rfl : ofB q = Y := hG
      obtain ⟨X, cap, rfl, hX, hc⟩ := hv
      have hcl := cells10_any 2 (by omega) q hq X cap wr hc hX
      have hend : ∀ W v, SetAt W v (clS 2 q) → Calls Tryd.prog 15 #[v, .int .i64 2, .int .i64 2] W fun e w' => e = .returned (.int .u32 (lfT (ofB q) 2 2 4)) ∧ Below W.heap.size W w' := fun W v hs => by
        have := leaf10_any v (clS 2 q) 2 2 W hs (by have := clS_len 2 q; omega) (by decide) (by decide)
        rw [mid_of] at this
        exact this
      clear hst hc kt
      by_cases h1 : (k : Int) < n
      · have h2 : ¬ (k : Int) < 2 := fun h2 => hno ⟨h1, h2⟩
        have d1 : decide ((k : Int) < n) = true := decide_eq_true h1
        have d2 : decide ((k : Int) < 2) = false := decide_eq_false h2
        go_wp2_with fail
        refine hcl.mono ?_
        rintro e w1 ⟨v', rfl, hs1, hb1⟩
        go_wp2_with fail
        refine (hend _ _ hs1).mono ?_
        rintro e w2 ⟨rfl, hb2⟩
        have hb02 := (hb.trans (hb1.mono hb.size)).trans (hb2.mono (Nat.le_trans hb.size hb1.size))
        clear hcl hend
        go_wp2_with fail
        go_ret
        exact ⟨rfl, hb02⟩
      · have d1 : decide ((k : Int) < n) = false := decide_eq_false h1
        go_wp2_with fail
        refine hcl.mono ?_
        rintro e w1 ⟨v', rfl, hs1, hb1⟩
        go_wp2_with fail
        refine (hend _ _ hs1).mono ?_
        rintro e w2 ⟨rfl, hb2⟩
        have hb02 := (hb.trans (hb1.mono hb.size)).trans (hb2.mono (Nat.le_trans hb.size hb1.size))
        clear hcl hend
        go_wp2_with fail
        go_ret
        exact ⟨rfl, hb02⟩
end Go.Proofs.YtcmfkdhadmfgkaaDoor.Lf

/- A table in the making as the reader reads it, opened to its cells. -/
namespace Go.Proofs.YtcmfkdhadmfgkaaDoor.Tb
open Go.RowKit Go.Proofs.YtcmfkdhadmfgkaaDoor.Ba

section
open Go.ChangeShapes Go.WideShapes
theorem trod_array2 {H : Type} {enc : TypeId × Value → H} {P : Program} {w : World} {base : Nat} {spare : Nat → Bool} {held : Bool} {t e : TypeId} {fuel : Nat} {c0 c1 : Value} {x : DataW H × List MemPlace} (ht : P.underlying t = some (.array 2 e)) (hce : P.cellsOf e = 1)
    (h : DataW.trod enc P w base spare held fuel t [c0, c1] = some x) :
    ∃ y0 y1 n, x = (.agg [y0.1, y1.1], y0.2 ++ y1.2) ∧ DataW.trod enc P w base spare held n e [c0] = some y0 ∧ DataW.trod enc P w base spare held n e [c1] = some y1 := by
  cases fuel with
  | zero => simp [DataW.trod] at h
  | succ n =>
    unfold DataW.trod at h
    rw [ht] at h
    have r2 : List.range 2 = [0, 1] := rfl
    simp [r2, hce] at h
    obtain ⟨_, h⟩ := h
    cases h0 : DataW.trod enc P w base spare held n e [c0] with
    | none => simp [h0] at h
    | some y0 =>
      cases h1 : DataW.trod enc P w base spare held n e [c1] with
      | none => simp [h0, h1] at h
      | some y1 =>
        simp [h0, h1] at h
        exact ⟨y0, y1, n, h.symm, h0, h1⟩
theorem cellsRaw : Tryd.prog.cellsOf 44 = 5 := by kernel_rfl
theorem cellsA2 : Tryd.prog.cellsOf 42 = 2 := by kernel_rfl
theorem cellsU : Tryd.prog.cellsOf 41 = 1 := by kernel_rfl
theorem cellsN : Tryd.prog.cellsOf 3 = 1 := by kernel_rfl
set_option maxRecDepth 100000 in
theorem open_raw {H : Type} {enc : TypeId × Value → H} {w : World} {base : Nat} {spare : Nat → Bool} {held : Bool} {r : Reach} {b0 : Nat} {v : Value} {d : DataW H} {p : List MemPlace}
    (hv : Value.okWide Tryd.prog w r b0 44 v) (h : DataW.Trod enc Tryd.prog w base spare held 44 v d p) :
    ∃ a x0 x1 y0 y1 : Int, v = .agg #[.int .i64 a, .int .u64 x0, .int .u64 x1, .int .u64 y0, .int .u64 y1] ∧ d = .agg [.lit (.int .i64 a), .agg [.lit (.int .u64 x0), .lit (.int .u64 x1)], .agg [.lit (.int .u64 y0), .lit (.int .u64 y1)]] ∧ p = [] ∧
      (Lit.int .i64 a).wf = true ∧ (Lit.int .u64 x0).wf = true ∧ (Lit.int .u64 x1).wf = true ∧ (Lit.int .u64 y0).wf = true ∧ (Lit.int .u64 y1).wf = true := by
  obtain ⟨cs, rfl, hsz⟩ := okWide_struct Tryd.underlying44 hv
  obtain ⟨l⟩ := cs
  rw [cellsRaw] at hsz
  match l, hsz with
  | [c0, c1, c2, c3, c4], _ =>
    obtain ⟨fuel, hf⟩ := h
    obtain ⟨y0, y1, y2, n, hx, _, g0, g1, g2⟩ := Go.Deep.trod_struct3 Tryd.underlying44 hf
    simp only [cellsA2, cellsN] at g0 g1 g2
    obtain ⟨z0, z1, m, hz, k0, k1⟩ := trod_array2 Tryd.underlying42 cellsU g1
    obtain ⟨t0, t1, m', ht, k2, k3⟩ := trod_array2 Tryd.underlying42 cellsU g2
    obtain ⟨a, e0, rfl, w0⟩ := DataW.trod_int Tryd.underlying3 g0
    obtain ⟨x0, e1, rfl, w1⟩ := DataW.trod_int Tryd.underlying41 k0
    obtain ⟨x1, e2, rfl, w2⟩ := DataW.trod_int Tryd.underlying41 k1
    obtain ⟨x2, e3, rfl, w3⟩ := DataW.trod_int Tryd.underlying41 k2
    obtain ⟨x3, e4, rfl, w4⟩ := DataW.trod_int Tryd.underlying41 k3
    simp [Value.cells] at e0 e1 e2 e3 e4
    subst e0 e1 e2 e3 e4 hz ht
    simp only [Prod.mk.injEq] at hx
    obtain ⟨rfl, rfl⟩ := hx
    exact ⟨a, x0, x1, x2, x3, rfl, rfl, rfl, w0, w1, w2, w3, w4⟩
end
end Go.Proofs.YtcmfkdhadmfgkaaDoor.Tb

/-
  LeafResults: for any table in the making, any asks, any number that may be kept, cleared behind any of them or not, it answers true: each result, how many were made and how many are kept are the document's own.
  Conditions: the listed table (honeycomb/axis.six) reads as the card says.
-/
namespace Go.Proofs.YtcmfkdhadmfgkaaDoor.Lf
open Go.RowKit Go.Proofs.YtcmfkdhadmfgkaaDoor.Ba Go.Lib Go.Proofs.YtcmfkdhadmfgkaaDoor.Si Go.Proofs.YtcmfkdhadmfgkaaDoor.Bk
open Go.Proofs.YtcmfkdhadmfgkaaDoor.Ax (SixIs)
open Go.Proofs.YtcmfkdhadmfgkaaDoor.Tb (Tab RT some_fine told_any)

theorem plS_add (mo md : Nat) (s : Nat × List K5) (k : K5) : plS mo (md + s.1, s.2) k = (md + (plS mo s k).1, (plS mo s k).2) := by
  unfold plS
  split
  · split
    · rfl
    · dsimp only
      rw [Nat.add_assoc]
  · rfl
theorem few_sum {mn n1 x8 x i : Nat} (h1 : n1 ≤ x8) (h2 : x8 = x + 1) (h3 : mn + x ≤ i) (h4 : i < 8) : (mn : Int) + (n1 : Int) ≤ 100 ∧ mn + n1 ≤ i + 1 ∧ mn + x8 ≤ i + 1 ∧ wrap64 ((mn : Int) + (n1 : Int)) = (mn : Int) + (n1 : Int) ∧ IntKind.i64.wrap ((mn : Int) + (n1 : Int)) = (mn : Int) + (n1 : Int) :=
  ⟨by omega, by omega, by omega, IntWalk.wrap64_in _ (by omega), IntWalk.i64_in _ (by omega)⟩
theorem MemAt.gm {w : World} {B g m l b0 b1 s0 s1 most : Nat} {s : Nat × List K5} (h : MemAt w B g m l b0 b1 s0 s1 most s) : B ≤ g ∧ B ≤ m := by
  obtain ⟨_, _, _, _, k⟩ := h
  exact ⟨k.hg, k.hm⟩
theorem MemAt.row {w w' : World} {B g m l b0 b1 s0 s1 most W0 : Nat} {s : Nat × List K5} {row : Option Nat} (h : MemAt w B g m l b0 b1 s0 s1 most s) (hg : w.grownBy w' row) (hr : ∀ b, row = some b → W0 ≤ b) (h1 : g < W0) (h2 : m < W0) (h3 : B ≤ W0) : MemAt w' B g m l b0 b1 s0 s1 most s := by
  obtain ⟨v0, v1, c, M, k⟩ := h
  have hne : ∀ b, b < W0 → some b ≠ row := fun b hb e => by have := hr b e.symm; omega
  have hb : ∀ b, b < B → w'.heap[b]? = w.heap[b]? := fun b hb => hg.block b (Nat.lt_of_lt_of_le hb k.low) (hne b (by omega))
  exact ⟨v0, v1, c, M, k.blk.grown hg (hne g h1), k.n0.same hg.size hb, fun e => (k.n1 e).same hg.size hb, k.isB.grown hg (hne m h2), k.hg, k.hm, k.hc, k.hl, k.mem, k.res⟩
theorem ask_store {w : World} {p : Nat} {q0 q1 q2 q3 : Nat} {n : Int} {u : Nat → Nat} (h : Blk w p 82 #[.int .u32 q0, .int .u32 q1, .int .u32 q2, .int .u32 q3, .int .i64 n]) :
    Blk ((((w.setCell ⟨p, 0, none⟩ (.int .u32 (u 0))).setCell ⟨p, 1, none⟩ (.int .u32 (u 1))).setCell ⟨p, 2, none⟩ (.int .u32 (u 2))).setCell ⟨p, 3, none⟩ (.int .u32 (u 3))) p 82 #[.int .u32 (u 0), .int .u32 (u 1), .int .u32 (u 2), .int .u32 (u 3), .int .i64 n] := by
  have h8 := (((h.set_ 0 (.int .u32 (u 0))).set_ 1 (.int .u32 (u 1))).set_ 2 (.int .u32 (u 2))).set_ 3 (.int .u32 (u 3))
  simpa only [List.setIfInBounds_toArray, List.set_cons_zero, List.set_cons_succ] using h8
theorem q_stored {W w : World} {B p : Nat} {u : Nat → Nat} (h : Below B W w) (hp : B ≤ p) :
    Below B W ((((w.setCell ⟨p, 0, none⟩ (.int .u32 (u 0))).setCell ⟨p, 1, none⟩ (.int .u32 (u 1))).setCell ⟨p, 2, none⟩ (.int .u32 (u 2))).setCell ⟨p, 3, none⟩ (.int .u32 (u 3))) :=
  (((h.setCell (p := ⟨p, 0, none⟩) hp (.int .u32 (u 0))).setCell (p := ⟨p, 1, none⟩) hp (.int .u32 (u 1))).setCell (p := ⟨p, 2, none⟩) hp (.int .u32 (u 2))).setCell (p := ⟨p, 3, none⟩) hp (.int .u32 (u 3))
def LrR (w : World) (W0 B g m l a0 a1 y0 y1 mo TB : Nat) (A : List A5) (sv md t : Value) (wr : World) : Prop :=
  ∃ (i : Nat) (X : List A5) (mn : Nat), i ≤ A.length ∧ i ≤ 8 ∧ t = .int .i64 i ∧ md = .int .i64 mn ∧ mn + X.length ≤ i ∧ wr.ownsRow W0 82 5 sv X.length (flatA X) ∧ (∀ c ∈ X, okA5 c) ∧ MemAt wr B g m l a0 a1 y0 y1 mo (mn + (plL mo X).1, (plL mo X).2) ∧
    Blk wr TB 47 #[.int .i64 l, .int .u64 a0, .int .u64 a1, .int .u64 y0, .int .u64 y1] ∧ Below w.heap.size w wr ∧ W0 ≤ wr.heap.size
set_option maxRecDepth 100000 in
set_option maxHeartbeats 4000000 in
theorem leafResults_walk (xL : Int) (_w0 : (Lit.int .i64 xL).wf = true) (xB0 : Int) (w1 : (Lit.int .u64 xB0).wf = true) (xB1 : Int) (w2 : (Lit.int .u64 xB1).wf = true) (xS0 : Int) (w3 : (Lit.int .u64 xS0).wf = true) (xS1 : Int) (w4 : (Lit.int .u64 xS1).wf = true)
    (v : Value) (A : List A5) (most : Int) (wm : (Lit.int .i64 most).wf = true) (cl : Int) (_wc : (Lit.int .i64 cl).wf = true) (w : World) (hs : SixIs w) (hraw : AskAt w v A ∧ ∀ c ∈ A, okA5 c) (hlen : A.length ≤ maxLen) :
    Calls Tryd.prog 7 #[.agg #[.int .i64 xL, .int .u64 xB0, .int .u64 xB1, .int .u64 xS0, .int .u64 xS1], v, .int .i64 most, .int .i64 cl] w fun e w' => e = .returned (.bool true) ∧ Below w.heap.size w w' := by
  have g1 := bounds_u64 w1
  have g2 := bounds_u64 w2
  have g3 := bounds_u64 w3
  have g4 := bounds_u64 w4
  have gm := bounds_i64 wm
  obtain ⟨i0, hi0, hz0, hz1, hz2⟩ := info_parts ask_info
  obtain ⟨b0, rfl⟩ : ∃ k : Nat, xB0 = k := ⟨xB0.toNat, by omega⟩
  obtain ⟨b1, rfl⟩ : ∃ k : Nat, xB1 = k := ⟨xB1.toNat, by omega⟩
  obtain ⟨s0, rfl⟩ : ∃ k : Nat, xS0 = k := ⟨xS0.toNat, by omega⟩
  obtain ⟨s1, rfl⟩ : ∃ k : Nat, xS1 = k := ⟨xS1.toNat, by omega⟩
  have p0 : b0 < 2 ^ 64 := by omega
  have p1 : b1 < 2 ^ 64 := by omega
  have p2 : s0 < 2 ^ 64 := by omega
  have p3 : s1 < 2 ^ 64 := by omega
  clear g1 g2 g3 g4 w1 w2 w3 w4 _w0 wm _wc
  unfold maxLen at hlen
  have HS := Lib.hid hs
  have HOK := Lib.hid hraw.2
  have key : ∃ p cap, v = .slice p A.length cap := by
    rcases hraw.1 with ⟨p, cap, rfl, rfl⟩ | ⟨g, o, cap, rfl, _, _⟩
    · exact ⟨p, cap, rfl⟩
    · exact ⟨_, _, rfl⟩
  obtain ⟨p, cap, rfl⟩ := key
  have HR := Lib.hid hraw.1
  have hso := fun W => some_fine xL b0 b1 s0 s1 p0 p1 p2 p3 W
  have hb0 : Below w.heap.size w (w.alloc (.cells #[.int .i64 xL, .int .u64 b0, .int .u64 b1, .int .u64 s0, .int .u64 s1] 44)) := by go_grown
  have kr := Blk.newAt w 44 #[.int .i64 xL, .int .u64 b0, .int .u64 b1, .int .u64 s0, .int .u64 s1] _ rfl
  clear hs hraw
  go_enter Tryd.func7, Tryd.ntmps7
  go_wp2_with fail
  refine (awake11 _ (HS.out.below hb0)).mono ?_
  rintro e w1 ⟨rfl, hb1⟩
  have hb := hb0.trans (hb1.mono hb0.size)
  have kr := kr.under hb1
  have hrl := kr.lt
  have r0 := kr.cell 0; have r1 := kr.cell 1; have r2 := kr.cell 2; have r3 := kr.cell 3; have r4 := kr.cell 4; simp only [List.getElem?_toArray, List.getElem?_cons_zero, List.getElem?_cons_succ] at r0 r1 r2 r3 r4
  clear hb0 hb1
  go_wp2_with fail
  refine (hso _).mono ?_
  rintro e w2 ⟨l, a0, a1, y0, y1, hl, h0, h1, h2, h3, hok, rfl, hb2⟩
  have hg : Fl.Good l a0 a1 y0 y1 := ⟨hl, h0, h1, h2, h3, hok⟩
  have hb := hb.trans (Below.mono hb2 hb.size)
  clear r0 r1 r2 r3 r4 hrl h0 h1 h2 h3 hok kr hso hb2
  go_upto_region 4 with fail
  have hb3 : Below w2.heap.size w2 (w2.alloc (.cells #[.int .i64 l, .int .u64 a0, .int .u64 a1, .int .u64 y0, .int .u64 y1] 47)) := by go_grown
  have kt : Blk (w2.alloc (.cells #[.int .i64 l, .int .u64 a0, .int .u64 a1, .int .u64 y0, .int .u64 y1] 47)) w2.heap.size 47 #[.int .i64 l, .int .u64 a0, .int .u64 a1, .int .u64 y0, .int .u64 y1] := Blk.newAt w2 _ _ _ rfl
  have hb := hb.trans (Below.mono hb3 hb.size)
  clear hb3
  generalize (w2.alloc (.cells #[.int .i64 l, .int .u64 a0, .int .u64 a1, .int .u64 y0, .int .u64 y1] 47)) = W at *
  generalize w2.heap.size = TB at *
  have htl := kt.lt; have t0 := kt.cell 0; have t1 := kt.cell 1; have t2 := kt.cell 2; have t3 := kt.cell 3; have t4 := kt.cell 4; simp only [List.getElem?_toArray, List.getElem?_cons_zero, List.getElem?_cons_succ] at t0 t1 t2 t3 t4
  go_wp2_with fail
  refine (bnew_any l a0 a1 y0 y1 hg _ (HS.out.below hb)).mono ?_
  rintro e w4 ⟨g, rfl, hK, hgg, hb4⟩
  have kt := kt.under hb4
  have hb := hb.trans (Below.mono hb4 hb.size)
  have hTB := kt.lt
  have hwB := hb.size
  clear hb4 t0 t1 t2 t3 t4 htl hgg
  have hnl := lfnew_any w4.heap.size g l a0 a1 y0 y1 most w4 hK
  go_wp2_with fail
  refine hnl.mono ?_
  rintro e w7 ⟨g', m, rfl, hm7, hgl7, hml7, hb7⟩
  have kt := kt.under hb7
  have hb := hb.trans (Below.mono hb7 hb.size)
  have htl := kt.lt
  have hB7 := hb7.size
  clear hnl hK hb7
  obtain ⟨mo, hmo⟩ : ∃ mo, most.toNat = mo := ⟨_, rfl⟩
  rw [hmo] at hm7
  have HO := Lib.hid (World.ownsRow_made (base := w7.heap.size) (e := 82) (size := 5) w7 #[] 0 (Nat.le_refl _) (Nat.zero_le _) (by simp))
  go_wp2_with fail
  have hb8 : Below w7.heap.size w7 (w7.alloc (.cells #[] 82)) := by go_grown
  generalize hBB : w4.heap.size = B at *
  go_loopw [13, 14, 15] (fun sv md t wr => LrR w w7.heap.size B g' m l a0 a1 y0 y1 mo TB A sv md t wr) (fun _ _ t _ => 8 - (intOf t).toNat)
  case atStart => exact ⟨0, [], 0, Nat.zero_le _, Nat.zero_le _, rfl, rfl, Nat.le_refl _, by simpa [flatA] using HO.out, fun _ h => by simp at h, hm7.under hb8, kt.under hb8, hb.trans (hb8.mono hb.size), hb8.size⟩
  case round =>
    clear HO hb8 hm7 kt hb
    obtain ⟨i, X, mn, hi, hi8, rfl, rfl, hmX, hown, hokX, hm, kt, hb, hW0⟩ := hrel
    by_cases hlt : i < A.length
    · have d1 : decide ((i : Int) < (A.length : Int)) = true := decide_eq_true (by omega)
      by_cases hl8 : i < 8
      · have d2 : decide ((i : Int) < 8) = true := decide_eq_true (by omega)
        obtain ⟨⟨q0, q1, q2, q3, n⟩, ha⟩ : ∃ a, A[i]? = some a := ⟨_, List.getElem?_eq_getElem hlt⟩
        have hwg : w.heap.size ≤ wr.heap.size := hb.size
        have hraw := HR.out.below hb
        rcases hraw with ⟨_, _, _, hnil⟩ | ⟨ga, o, cap', hv, hcs, hgal⟩
        · subst hnil; simp at hlt
        · injection hv with hv1 hv2 hv3
          subst hv1 hv3
          clear hv2
          have hc := hcs i _ ha
          have c0 := hc 0 (by omega)
          have c1 := hc 1 (by omega)
          have c2 := hc 2 (by omega)
          have c3 := hc 3 (by omega)
          have c4 := hc 4 (by omega)
          simp only [encA, List.getElem?_cons_zero, List.getElem?_cons_succ] at c0 c1 c2 c3 c4
          rw [show o + (i * 5 + 0) = o + i * 5 by omega] at c0
          rw [show o + (i * 5 + 1) = o + i * 5 + 1 by omega] at c1
          rw [show o + (i * 5 + 2) = o + i * 5 + 1 + 1 by omega] at c2
          rw [show o + (i * 5 + 3) = o + i * 5 + 1 + 1 + 1 by omega] at c3
          rw [show o + (i * 5 + 4) = o + i * 5 + 1 + 1 + 1 + 1 by omega] at c4
          obtain ⟨⟨hq0, hq1, hq2, hq3⟩, gn⟩ := HOK.out _ (List.mem_of_getElem? ha)
          dsimp only at hq0 hq1 hq2 hq3 gn
          obtain ⟨q, rfl, rfl, rfl, rfl, hq⟩ : ∃ q : Nat → Nat, q0 = q 0 ∧ q1 = q 1 ∧ q2 = q 2 ∧ q3 = q 3 ∧ ∀ i, i < 4 → q i < 4294967296 := ⟨fun i => if i = 0 then q0 else if i = 1 then q1 else if i = 2 then q2 else q3, by simp, by simp, by simp, by simp, fun i _ => by dsimp only; split; omega; split; omega; split <;> omega⟩
          clear hcs hc ha hq0 hq1 hq2 hq3
          have huq := tq_lt l hq
          have htd : ∀ W, Calls Tryd.prog 35 #[.agg #[.int .i64 l, .int .u64 a0, .int .u64 a1, .int .u64 y0, .int .u64 y1], .agg #[.int .u32 (q 0), .int .u32 (q 1), .int .u32 (q 2), .int .u32 (q 3)]] W fun e w' => e = .returned (.agg #[.int .u32 (tq l q 0), .int .u32 (tq l q 1), .int .u32 (tq l q 2), .int .u32 (tq l q 3)]) ∧ Below W.heap.size W w' := fun W => told11_any l a0 a1 y0 y1 q hq W
          generalize tq l q = u at *
          have kG : Blk (wr.alloc (.cells #[.int .u32 (q 0), .int .u32 (q 1), .int .u32 (q 2), .int .u32 (q 3), .int .i64 n] 82)) wr.heap.size 82 #[.int .u32 (q 0), .int .u32 (q 1), .int .u32 (q 2), .int .u32 (q 3), .int .i64 n] := Blk.newAt wr _ _ _ rfl
          have hbG : Below wr.heap.size wr (wr.alloc (.cells #[.int .u32 (q 0), .int .u32 (q 1), .int .u32 (q 2), .int .u32 (q 3), .int .i64 n] 82)) := by go_grown
          obtain ⟨pX, cX, rfl⟩ := own_slcA hown
          have hXlt := hown.lt
          go_upto_region 14 with fail
          have kt8 := kt.under hbG
          clear c0 c1 c2 c3 c4 hgal d1 d2
          generalize wr.alloc (.cells #[.int .u32 (q 0), .int .u32 (q 1), .int .u32 (q 2), .int .u32 (q 3), .int .i64 n] 82) = W8 at *
          have HT8 := Lib.hid kt8
          have t0 := kt8.cell 0
          have t1 := kt8.cell 1
          have t2 := kt8.cell 2
          have t3 := kt8.cell 3
          have t4 := kt8.cell 4
          have ht8l := kt8.lt
          simp only [List.getElem?_toArray, List.getElem?_cons_zero, List.getElem?_cons_succ] at t0 t1 t2 t3 t4
          have hgl := kG.lt; have i0' := kG.cell 0; have i1 := kG.cell 1; have i2 := kG.cell 2; have i3 := kG.cell 3; have i4 := kG.cell 4; simp only [List.getElem?_toArray, List.getElem?_cons_zero, List.getElem?_cons_succ] at i0' i1 i2 i3 i4
          go_wp2_with fail
          refine (htd _).mono ?_
          rintro e w9 ⟨rfl, hb9⟩
          have kG9 := kG.under hb9
          have hgl9 := kG9.lt
          have j0 := kG9.cell 0
          have j1 := kG9.cell 1
          have j2 := kG9.cell 2
          have j3 := kG9.cell 3
          simp only [List.getElem?_toArray, List.getElem?_cons_zero, List.getElem?_cons_succ] at j0 j1 j2 j3
          have z0 := kG9.frozen 0
          have z1 := kG9.frozen 1
          have z2 := kG9.frozen 2
          have z3 := kG9.frozen 3
          have kGs := ask_store (u := u) kG9
          have hbs : Below wr.heap.size wr _ := q_stored (u := u) (p := wr.heap.size) (hbG.trans (hb9.mono hbG.size)) (Nat.le_refl _)
          clear t0 t1 t2 t3 t4 ht8l i0' i1 i2 i3 i4 hgl kG kG9 kt8 hb9 hbG htd HT8
          go_upto_region 15 with fail
          clear j0 j1 j2 j3 z0 z1 z2 z3 hgl9
          generalize (((w9.setCell ⟨wr.heap.size, 0, none⟩ (.int .u32 (u 0))).setCell ⟨wr.heap.size, 1, none⟩ (.int .u32 (u 1))).setCell ⟨wr.heap.size, 2, none⟩ (.int .u32 (u 2))).setCell ⟨wr.heap.size, 3, none⟩ (.int .u32 (u 3)) = W10 at *
          have kG := kGs
          have kt := kt.under hbs
          have hown := own_below hown hbs
          have hm := hm.under hbs
          have hb := hb.trans (hbs.mono hwg)
          have hs10 : w7.heap.size < W10.heap.size := Nat.lt_of_le_of_lt hW0 kG.lt
          have hGw : w7.heap.size ≤ wr.heap.size := hW0
          have hs10' : wr.heap.size < W10.heap.size := kG.lt
          clear kGs hbs
          obtain ⟨hBg, hBm⟩ := hm.gm
          have hGg : wr.heap.size ≠ g' := by omega
          have hGm : wr.heap.size ≠ m := by omega
          have hown10 := fun W => own10_any (u 0) (u 1) (u 2) (u 3) W
          have hsm : mn + (plL mo X).1 ≤ 100000 := by have := (plL_made mo X).1; omega
          have hres := fun W (h : MemAt W B g' m l a0 a1 y0 y1 mo (mn + (plL mo X).1, (plL mo X).2)) => lfres_any B g' m l a0 a1 y0 y1 mo (mn + (plL mo X).1, (plL mo X).2) hg u huq n gn W h hsm
          have hkG : ∀ w', OffM g' m W10.drew w' → Blk w' wr.heap.size 82 #[.int .u32 (u 0), .int .u32 (u 1), .int .u32 (u 2), .int .u32 (u 3), .int .i64 n] := fun w' h => h.blk (w := W10.drew) kG hGg hGm
          have keep : ∀ w', OffM g' m W10.drew w' → w'.cell? ⟨wr.heap.size, 0, none⟩ = some (.int .u32 (u 0)) ∧ w'.cell? ⟨wr.heap.size, 1, none⟩ = some (.int .u32 (u 1)) ∧ w'.cell? ⟨wr.heap.size, 2, none⟩ = some (.int .u32 (u 2)) ∧ w'.cell? ⟨wr.heap.size, 3, none⟩ = some (.int .u32 (u 3)) ∧ w'.cell? ⟨wr.heap.size, 4, none⟩ = some (.int .i64 n) := fun w' h =>
            ⟨(hkG w' h).cell 0, (hkG w' h).cell 1, (hkG w' h).cell 2, (hkG w' h).cell 3, (hkG w' h).cell 4⟩
          have hko : OffM g' m W10.drew W10.drew := OffM.of (Below.refl _ _)
          obtain ⟨c0, c1, c2, c3, c4⟩ := keep _ hko
          have hmd : MemAt W10.drew B g' m l a0 a1 y0 y1 mo (mn + (plL mo X).1, (plL mo X).2) := hm.under ⟨rfl, rfl, rfl, Nat.le_refl _, fun _ _ => rfl⟩
          have hbd : Below w.heap.size w W10.drew := hb.trans ⟨rfl, rfl, rfl, Nat.le_refl _, fun _ _ => rfl⟩
          clear kG hm
          go_region_held3 (fun w' => w'.cell? ⟨wr.heap.size, 0, none⟩ = some (.int .u32 (u 0)) ∧ w'.cell? ⟨wr.heap.size, 1, none⟩ = some (.int .u32 (u 1)) ∧ w'.cell? ⟨wr.heap.size, 2, none⟩ = some (.int .u32 (u 2)) ∧ w'.cell? ⟨wr.heap.size, 3, none⟩ = some (.int .u32 (u 3)) ∧ w'.cell? ⟨wr.heap.size, 4, none⟩ = some (.int .i64 n)) (first | exact keep _ hko | exact ⟨c0, c1, c2, c3, c4⟩)
            (first
              | (go_at_call 11; go_loud (refine Calls.mono (hown10 _) ?_); rintro e wZ ⟨rfl, hbZ⟩; have hko : OffM g' m W10.drew wZ := hko.trans (OffM.of hbZ); have hmd := hmd.under hbZ; clear hbZ; obtain ⟨c0, c1, c2, c3, c4⟩ := keep _ hko)
              | (go_at_call 36; go_loud (refine Calls.mono (hres _ hmd) ?_); rintro e wZ ⟨v1, rfl, hR1, hmZ, hbZ⟩; have hko : OffM g' m W10.drew wZ := hko.trans hbZ; clear hmd hbZ; have hmd := hmZ; clear hmZ; obtain ⟨c0, c1, c2, c3, c4⟩ := keep _ hko))
          all_goals
            have kG := hkG _ hko
            have hX1 := fun b hb => hXlt b hb
            have hownZ := own_same (w := W10.drew) hown fun b hb => hko.block b (Nat.lt_of_lt_of_le (hX1 b hb).2 (Nat.le_of_lt hs10')) (by have := (hX1 b hb).1; omega) (by have := (hX1 b hb).1; omega)
            have ktZ := hko.blk (w := W10.drew) kt (by omega) (by omega)
            have hbZ := hbd.trans ((hko.below hBg hBm (by show B ≤ W10.heap.size; omega)).mono hwB)
            rw [plS_add, show plS mo (plL mo X) (kQ u (clN n)) = plL mo (X ++ [(u 0, u 1, u 2, u 3, n)]) from (plL_app mo X (u 0, u 1, u 2, u 3, n)).symm] at hmd
            have hszZ : w7.heap.size ≤ _ := Nat.le_trans (Nat.le_of_lt hs10) hko.size
            clear hko keep hkG hres hown10 hbd kt hown hb hsm
            generalize wZ = W11 at *
            have d0 := kG.cell 0
            have d1 := kG.cell 1
            have d2 := kG.cell 2
            have d3 := kG.cell 3
            have d4 := kG.cell 4
            have hgl := kG.lt
            simp only [List.getElem?_toArray, List.getElem?_cons_zero, List.getElem?_cons_succ] at d0 d1 d2 d3 d4
            have hwZ := hbZ.size
            have hnew := newA W11 (u 0, u 1, u 2, u 3, n)
            dsimp only at hnew
            have hone := one_flatA [(u 0, u 1, u 2, u 3, n)]
            have hown2 := hownZ.alloc (.cells #[.int .u32 (u 0), .int .u32 (u 1), .int .u32 (u 2), .int .u32 (u 3), .int .i64 n] 82)
            have hbA : Below W11.heap.size W11 (W11.alloc (.cells #[.int .u32 (u 0), .int .u32 (u 1), .int .u32 (u 2), .int .u32 (u 3), .int .i64 n] 82)) := by go_grown
            have hbs : w7.heap.size ≤ (W11.alloc (.cells #[.int .u32 (u 0), .int .u32 (u 1), .int .u32 (u 2), .int .u32 (u 3), .int .i64 n] 82)).heap.size := Nat.le_trans hszZ hbA.size
            have hm1 : X.length + 1 ≤ maxLen := by unfold maxLen; omega
            have hm2 : (X.length + 1) * 24 ≤ 140737488355328 := by omega
            clear c0 c1 c2 c3 c4
            go_wp2_with (at_builtin; refine wpList_append_own_at _ rfl _ _ 78 rfl w7.heap.size 82 i0 _ 5 24 Tryd.underlying78 hi0 hz0 hz1 hz2 rfl (by decide) _ _ _ rfl hown2 ⟨W11.heap.size, 0, none⟩ 1 1 (flatA [(u 0, u 1, u 2, u 3, n)]) rfl rfl hnew hone hm1 hm2 hbs ?_)
            intro v8 w8 ho8 hgr8 _ _
            have hr8 : ∀ b, (Value.slice pX X.length cX).ownBlock = some b → w7.heap.size ≤ b := fun b hb => (hX1 b hb).1
            have hm8 := (hmd.under hbA).row hgr8 hr8 hgl7 hml7 hB7
            have kt8 := (ktZ.under hbA).grown hgr8 (fun e => by have := hr8 _ e.symm; omega)
            have kG8 := (kG.under hbA).grown hgr8 (fun e => by have := (hX1 _ e.symm).2; omega)
            have hb8 := (hbZ.trans (hbA.mono hwZ)).grown hgr8 (by have := hbA.size; omega) (fun b hb => by have := hr8 b hb; omega)
            have hs8 : w7.heap.size ≤ w8.heap.size := Nat.le_trans hbs hgr8.size
            rw [← flatA_app] at ho8
            have hA8 := ask_of_own (L := X ++ [(u 0, u 1, u 2, u 3, n)]) (by rw [List.length_append, List.length_singleton]; exact ho8)
            have hokX8 : ∀ c ∈ X ++ [(u 0, u 1, u 2, u 3, n)], okA5 c := fun c hc => by
              rcases List.mem_append.1 hc with h | h
              · exact hokX c h
              · obtain rfl := List.mem_singleton.1 h
                exact ⟨⟨huq 0 (by decide), huq 1 (by decide), huq 2 (by decide), huq 3 (by decide)⟩, gn⟩
            have hL8 : (X ++ [(u 0, u 1, u 2, u 3, n)]).length = X.length + 1 := by simp
            generalize X ++ [(u 0, u 1, u 2, u 3, n)] = X8 at *
            have hpl := play_any mo (by omega) X8 (by omega) (fun c hc => (hokX8 c hc).2) v8 w8 hA8
            have hp1 := (plL_made mo X8).1
            obtain ⟨P, hP⟩ : ∃ P, plL mo X8 = P := ⟨_, rfl⟩
            have HP := Lib.hid hP
            rw [hP] at hpl hp1 hm8
            clear hP hgr8 hnew hone hown2 hbA hbs hmd hownZ ktZ kG hbZ hA8 d0 d1 d2 d3 d4 hgl hwZ hm1 hm2 hszZ hokX
            go_upto_region 17 with fail
            go_cut [18, 19] (fun a b wx => a = .int .i64 P.1 ∧ b = .int .i64 P.2.length ∧ Below w8.heap.size w8 wx)
            case first =>
              by_cases h0 : 0 ≤ most
              · obtain ⟨mo', rfl⟩ := Int.eq_ofNat_of_zero_le h0
                obtain rfl : mo' = mo := by simpa using hmo
                go_wp2_with fail
                refine hpl.mono ?_
                rintro e wx ⟨rfl, hbx⟩
                go_wp2_with fail
                go_meet
                exact ⟨rfl, rfl, hbx⟩
              · obtain rfl : mo = 0 := by omega
                go_wp2_with fail
                refine hpl.mono ?_
                rintro e wx ⟨rfl, hbx⟩
                go_wp2_with fail
                go_meet
                exact ⟨rfl, rfl, hbx⟩
            case rest =>
              obtain ⟨rfl, rfl, hbx⟩ := hcut
              have hm := hm8.under hbx
              have kt := kt8.under hbx
              have kG := kG8.under hbx
              have hb := hb8.trans (hbx.mono hb8.size)
              have hown := own_below ho8 hbx
              have hsz := Nat.le_trans hs8 hbx.size
              obtain ⟨n1, K1⟩ := P
              dsimp only at hm hp1 ⊢
              obtain ⟨hn1i, hi1, hi2, hwr, hwr2⟩ := few_sum hp1 hL8 hmX hl8
              have HI := Lib.hid (And.intro hi1 hi2)
              have HL8 := Lib.hid hL8
              clear hi1 hi2
              clear hm8 kt8 kG8 hb8 ho8 hs8 hbx hpl hp1 hL8 hmX
              obtain ⟨hBg, hBm⟩ := hm.gm
              have hbd : Below wc.heap.size wc wc.drew := ⟨rfl, rfl, rfl, Nat.le_refl _, fun _ _ => rfl⟩
              have hL4 : ∀ W, Below wc.heap.size wc.drew W → L4At W (.slice (some ⟨wr.heap.size, 0, none⟩) 4 4) u := fun W h => by
                have kW := kG.under (hbd.trans h)
                refine ⟨wr.heap.size, 4, rfl, kW.lt, fun i hi => ?_⟩
                rw [kW.cell i]
                have : i = 0 ∨ i = 1 ∨ i = 2 ∨ i = 3 := by omega
                rcases this with h | h | h | h <;> subst h <;> rfl
              have href := fun gN W (kN : Blk W gN 47 (Fl.TabC l a0 a1 y0 y1)) (h : Below wc.heap.size wc.drew W) => refres11_any l a0 a1 y0 y1 hg gN u huq n (.slice (some ⟨wr.heap.size, 0, none⟩) 4 4) v1 W kN (hL4 W h) hR1
              have hmade := fun W (h : Below wc.heap.size wc.drew W) => made_any B g' m l a0 a1 y0 y1 mo (mn + n1, K1) W (hm.under (hbd.trans h))
              have hkept := fun W (h : Below wc.heap.size wc.drew W) => kept_any B g' m l a0 a1 y0 y1 mo (mn + n1, K1) W (hm.under (hbd.trans h))
              change ∀ W, Below wc.heap.size wc.drew W → Calls Tryd.prog _ _ W fun e w' => e = .returned (.int .i64 ((mn : Int) + (n1 : Int))) ∧ W = w' at hmade
              have keep : ∀ w', Below wc.heap.size wc.drew w' → w'.cell? ⟨TB, 0, none⟩ = some (.int .i64 l) ∧ w'.cell? ⟨TB, 1, none⟩ = some (.int .u64 a0) ∧ w'.cell? ⟨TB, 2, none⟩ = some (.int .u64 a1) ∧ w'.cell? ⟨TB, 3, none⟩ = some (.int .u64 y0) ∧ w'.cell? ⟨TB, 4, none⟩ = some (.int .u64 y1) ∧ w'.cell? ⟨wr.heap.size, 4, none⟩ = some (.int .i64 n) := fun w' h => by
                have k1 := kt.under (hbd.trans h)
                have k2 := kG.under (hbd.trans h)
                exact ⟨k1.cell 0, k1.cell 1, k1.cell 2, k1.cell 3, k1.cell 4, k2.cell 4⟩
              have hkb : Below wc.heap.size wc.drew wc.drew := Below.refl _ _
              obtain ⟨t0, t1, t2, t3, t4, i4⟩ := keep _ hkb
              have htl := kt.lt
              have hgl := kG.lt
              have HM := Lib.hid hm
              have HKT := Lib.hid kt
              clear hm kt kG hL4
              go_upto_region 18 with fail
              go_region_held3 (fun w' => w'.cell? ⟨TB, 0, none⟩ = some (.int .i64 l) ∧ w'.cell? ⟨TB, 1, none⟩ = some (.int .u64 a0) ∧ w'.cell? ⟨TB, 2, none⟩ = some (.int .u64 a1) ∧ w'.cell? ⟨TB, 3, none⟩ = some (.int .u64 y0) ∧ w'.cell? ⟨TB, 4, none⟩ = some (.int .u64 y1) ∧ w'.cell? ⟨wr.heap.size, 4, none⟩ = some (.int .i64 n)) (first | exact keep _ hkb | exact ⟨t0, t1, t2, t3, t4, i4⟩)
                (first
                  | (go_at_call 22; go_loud (refine Calls.mono (told_any _ _ _ _ _ _) ?_); rintro e wZ ⟨rfl, kN, hbZ⟩; have hkb : Below wc.heap.size wc.drew wZ := hkb.trans (hbZ.mono hkb.size); clear hbZ; obtain ⟨t0, t1, t2, t3, t4, i4⟩ := keep _ hkb)
                  | (go_at_call 38; go_loud (refine Calls.mono (href _ _ kN hkb) ?_); rintro e wZ ⟨rfl, hbZ⟩; have hkb : Below wc.heap.size wc.drew wZ := hkb.trans (hbZ.mono hkb.size); clear hbZ; obtain ⟨t0, t1, t2, t3, t4, i4⟩ := keep _ hkb)
                  | (go_at_call 39; go_loud (refine Calls.mono (hmade _ hkb) ?_); rintro e wZ ⟨rfl, rfl⟩)
                  | (go_at_call 40; go_loud (refine Calls.mono (hkept _ hkb) ?_); rintro e wZ ⟨rfl, rfl⟩))
              all_goals
                have hbe := hbd.trans hkb
                have hm := HM.out.under hbe
                have kt := HKT.out.under hbe
                have hown := own_below hown hbe
                have hb := hb.trans (hbe.mono hb.size)
                have hsz := Nat.le_trans hsz hbe.size
                clear hkb hbd keep href hmade hkept HM HKT hbe
                by_cases hcl : cl = (i : Int)
                · subst hcl
                  obtain ⟨x0, x1, c, M, hI⟩ := hm
                  have hclr := clear_any B g' l a0 a1 y0 y1 mo (mn + n1) m c x0 x1 M K1 _ hI
                  have hx := hown.lt
                  go_wp2_with fail
                  refine hclr.mono ?_
                  rintro e w12 ⟨rfl, h12, hg12⟩
                  have kt12 := kt.grown hg12 (fun e => by injection e with e; omega)
                  have hown12 := own_same hown fun b hb => hg12.block b (hx b hb).2 (fun e => by injection e with e; have := (hx b hb).1; omega)
                  have hb12 := hb.grown hg12 (Nat.le_trans hb.size (Nat.le_refl _)) (fun b hb => by injection hb with hb; omega)
                  have hsz12 := Nat.le_trans hsz hg12.size
                  have hm12 : MemAt w12 B g' m l a0 a1 y0 y1 mo (mn + n1, []) := ⟨x0, x1, 0, _, h12⟩
                  have hk12 := kept_any B g' m l a0 a1 y0 y1 mo (mn + n1, []) w12 hm12
                  change Calls Tryd.prog _ _ w12 fun e w' => e = .returned (.int .i64 0) ∧ w12 = w' at hk12
                  clear hclr hI h12 hg12 kt hown hb hx
                  go_wp2_with fail
                  refine hk12.mono ?_
                  rintro e w' ⟨rfl, rfl⟩
                  clear hk12
                  go_wp2_with fail
                  clear hwr hwr2 hn1i
                  exact ⟨⟨i + 1, [], mn + n1, by omega, by omega, by go_num, rfl, by have := HI.out; simp; omega, World.ownsRow_nil _ _ _ _, fun _ h => by simp at h, hm12, kt12, hb12, hsz12⟩, by simp [intOf]; omega⟩
                · have hne : ((i : Int) == cl) = false := by simpa using fun e => hcl e.symm
                  go_wp2_with fail
                  clear hwr hwr2 hn1i
                  exact ⟨⟨i + 1, X8, mn, by omega, by omega, by go_num, rfl, by have := HI.out; omega, by rw [HL8.out]; exact hown, hokX8, by rw [HP.out]; exact hm, kt, hb, hsz⟩, by simp [intOf]; omega⟩
      · obtain rfl : i = 8 := by omega
        have d2 : decide (((8 : Nat) : Int) < 8) = false := by decide
        go_wp2_with fail
        go_ret
        exact ⟨rfl, hb⟩
    · have d1 : decide ((i : Int) < (A.length : Int)) = false := decide_eq_false (by omega)
      go_wp2_with fail
      go_ret
      exact ⟨rfl, hb⟩
end Go.Proofs.YtcmfkdhadmfgkaaDoor.Lf
namespace Go.Proofs.YtcmfkdhadmfgkaaDoor.LfG
open Go.RowKit Go.Proofs.YtcmfkdhadmfgkaaDoor.Ax
open Go.Proofs.YtcmfkdhadmfgkaaDoor.Lf (leafResults_walk open_asks)
open Go.Proofs.YtcmfkdhadmfgkaaDoor.Tb (open_raw)
section leafResultsFrame
open Go.ChangeShapes Go.WideShapes Go.ChangeAt Go.RowKit Go.Joins
set_option maxRecDepth 100000 in
theorem leafResults_contract (H : Type) (enc : TypeId × Value → H) (W : World) (base : Nat) (args : Array Value) (ds gs : List (DataW H)) (before : List MemPlace)
    (hval : ∀ (j : Nat) t v, Tryd.f7.params[j]? = some t → args[j]? = some v → Value.okWide Tryd.prog W .any base t v)
    (hW : DataW.Whole enc Tryd.prog Tryd.f7.params.toList Rows.leafResultsSpec.vars false W args.toList ds gs before) (hL : laidMetH Tryd.prog Rows.leafResultsRow.laid W) :
    Calls Tryd.prog 7 args W fun e W' => ∃ v, e = .returned v ∧ Rows.leafResultsSpec.post enc Tryd.prog Tryd.f7 false true false false W args v W' := by
  have hW' := hW
  obtain ⟨p, q, hA0, hV, rfl, hfz, hnd⟩ := hW
  have hA : DataW.TrodAll enc Tryd.prog W 0 (fun _ => true) true Tryd.f7.params.toList args.toList ds p := hA0
  rw [Tryd.params7] at hA hval
  obtain ⟨v0, vs0, d0, ds0, p0, q0, hargs, rfl, rfl, h0, r0⟩ := trodAll_cons hA
  obtain ⟨v1, vs1, d1, ds1, p1, q1, rfl, rfl, rfl, h1, r1⟩ := trodAll_cons r0
  obtain ⟨v2, vs2, d2, ds2, p2, q2, rfl, rfl, rfl, h2, r2⟩ := trodAll_cons r1
  obtain ⟨v3, vs3, d3, ds3, p3, q3, rfl, rfl, rfl, h3, r3⟩ := trodAll_cons r2
  obtain ⟨rfl, rfl, rfl⟩ := trodAll_nil r3
  obtain rfl : args = #[v0, v1, v2, v3] := by cases args; simp_all
  obtain ⟨rfl, rfl⟩ := trodVars_none hV
  obtain ⟨xL, xB0, xB1, xS0, xS1, rfl, rfl, rfl, w_xL, w_xB0, w_xB1, w_xS0, w_xS1⟩ := open_raw (hval 0 44 v0 rfl rfl) h0
  obtain ⟨L1, hraw1, hlen1⟩ := open_asks (hval 1 78 v1 rfl rfl) h1
  obtain ⟨most, rfl, rfl, rfl, w_most⟩ := open_int Tryd.underlying3 (hval 2 3 v2 rfl rfl) h2
  obtain ⟨cl, rfl, rfl, rfl, w_cl⟩ := open_int Tryd.underlying3 (hval 3 3 v3 rfl rfl) h3
  refine (leafResults_walk xL w_xL xB0 w_xB0 xB1 w_xB1 xS0 w_xS0 xS1 w_xS1 v1 L1 most w_most cl w_cl W (six_of_laid hL) hraw1 hlen1).mono fun e W' ⟨he, hb⟩ => ?_
  exact ⟨_, he, law_post laidOut rfl rfl Tryd.underlying4 (by kernel_rfl) hW' hb ⟨rfl, rfl, rfl⟩⟩
theorem leafResults_met (os : Os) : laidMet Tryd.prog Rows.leafResultsRow.laid ((laidWorld os).forCall (fun _ _ => 0) ⟨#[], #[.agg #[.int .i64 0, .int .u64 0, .int .u64 0, .int .u64 0, .int .u64 0], .slice none 0 0, .int .i64 0, .int .i64 0], []⟩).memory :=
  laidMet_of_run' 8 (by kernel_rfl) (by kernel_rfl)
theorem leafResults_reads (os : Os) {H : Type} (enc : TypeId × Value → H) : ∃ places, DataW.whole enc Tryd.prog ((laidWorld os).forCall (fun _ _ => 0) ⟨#[], #[.agg #[.int .i64 0, .int .u64 0, .int .u64 0, .int .u64 0, .int .u64 0], .slice none 0 0, .int .i64 0, .int .i64 0], []⟩).memory Tryd.f7.params.toList Rows.leafResultsSpec.vars false #[(.agg #[.int .i64 0, .int .u64 0, .int .u64 0, .int .u64 0, .int .u64 0] : Value), (.slice none 0 0 : Value), (.int .i64 0 : Value), (.int .i64 0 : Value)].toList 8 = some ([.agg [.lit (.int .i64 0), .agg [.lit (.int .u64 0), .lit (.int .u64 0)], .agg [.lit (.int .u64 0), .lit (.int .u64 0)]], .nil, .lit (.int .i64 0), .lit (.int .i64 0)], [], places) :=
  ⟨[], by kernel_rfl⟩
set_option maxRecDepth 100000 in
theorem leafResults_lifted (os : Os) (started : os.Started) (H : Type) (enc : TypeId × Value → H) (F : Stop.Interp) :
    ReturnsInHanded {} Tryd.checked os 7 .any ((OpenSpec.ofChange Rows.leafResultsSpec).preRow enc Tryd.prog Tryd.f7 Rows.leafResultsRow.domain false Rows.leafResultsRow.laid) (((OpenSpec.ofChange Rows.leafResultsSpec).at F).post enc Tryd.prog Tryd.f7 false true false false) := by
  obtain ⟨places, hx⟩ := leafResults_reads os enc
  refine returnsInHanded_of_row (C := Tryd.checked) (s := OpenSpec.ofChange Rows.leafResultsSpec) own started (by kernel_rfl) Tryd.func7
    (witness_row_at (enc := enc) (C := Tryd.checked) false (laidWorld os) #[.agg #[.int .i64 0, .int .u64 0, .int .u64 0, .int .u64 0, .int .u64 0], .slice none 0 0, .int .i64 0, .int .i64 0] rfl (by kernel_rfl) (by kernel_rfl) (by kernel_rfl)
      (OpenSpec.preRow_of_cond 8 hx (by kernel_rfl) (fun k hk => by cases hk) (by kernel_rfl) (leafResults_met os))) ?_
  intro W base args ds gs before hval hW _ _ _ hL _ _
  exact leafResults_contract H enc W base args ds gs before hval hW hL
theorem leafResults_said : Rows.LeafResultsSaid :=
  OpenClaim.holds_of_cond 7 Tryd.f7 rfl rfl rfl rfl rfl rfl rfl ⟨rfl, rfl, rfl, rfl, rfl⟩ rfl rfl rfl rfl rfl (by kernel_rfl) Tryd.func7 (by kernel_rfl)
    (of_decide_eq_true (by kernel_rfl)) (by unfold Func.isWrapper; first | (rw [if_pos (by decide +kernel)]; kernel_rfl) | (rw [if_neg (by decide +kernel)]; exact ⟨rfl, rfl⟩))
    (fun os started H enc _ F => by rw [OpenClaim.pre_eq_preRow]; exact leafResults_lifted os started H enc F)
theorem leafResults_plain (f : FuncId) (fn : Func) (hf : Tryd.pinned.checked.prog.funcNamed "honeycomb/honeycomblaw11.LeafResults" = some f) (hfn : Tryd.pinned.checked.prog.funcs[f]? = some fn) :
    true = Tryd.pinned.checked.prog.looks [] ∧ ∀ (j : Nat) t, fn.params[j]? = some t → Tryd.pinned.checked.prog.wantsStandIn t = false := by
  obtain rfl : f = 7 := Option.some.inj ((show Tryd.prog.funcNamed "honeycomb/honeycomblaw11.LeafResults" = some 7 by kernel_rfl).symm.trans hf) |>.symm
  obtain rfl : fn = Tryd.f7 := (Option.some.inj (Tryd.func7.symm.trans hfn)).symm
  refine ⟨by kernel_rfl, fun j t ht => ?_⟩
  have hall : (Tryd.f7.params.toList.all fun t => !Tryd.prog.wantsStandIn t) = true := by kernel_rfl
  have hm : t ∈ Tryd.f7.params.toList := by simpa using Array.mem_of_getElem? ht
  have := List.all_eq_true.1 hall t hm
  exact (show Tryd.prog.wantsStandIn t = false by simpa using this)
end leafResultsFrame
/-- LeafResults: the card: for every input the law answers true. -/
theorem leafResults_card : Rows.LeafResultsCardSaid :=
  Claim7.holds_tied_plain_at .later [] _ _ _ _ leafResults_said (fun _ h => by cases h) (by kernel_rfl) (fun _ h => by cases h) leafResults_row_tie rfl ⟨rfl, rfl⟩ (by kernel_rfl) rfl leafResults_plain (by kernel_rfl)
end Go.Proofs.YtcmfkdhadmfgkaaDoor.LfG
namespace Go.Proofs.YtcmfkdhadmfgkaaDoor
theorem leafResults_proved : Rows.LeafResultsCardSaid := LfG.leafResults_card
#print axioms leafResults_proved
end Go.Proofs.YtcmfkdhadmfgkaaDoor
