/- Several texts, joined. -/
import Derived.Test.YtcmfkdhadmfgkaaDoorSiW5
import Derived.Test.YtcmfkdhadmfgkaaDoorSeR2
import Derived.Maps.AppendAt
import Derived.Test.YtcmfkdhadmfgkaaDoorBkW10
import Derived.Test.YtcmfkdhadmfgkaaDoorBkN2
import Derived.Test.YtcmfkdhadmfgkaaDoorBkW1
import Derived.Deep.RegionLaw
import Derived.Test.YtcmfkdhadmfgkaaDoorBkW8
import Derived.Test.YtcmfkdhadmfgkaaDoorRows
import Derived.Test.YtcmfkdhadmfgkaaDoorBs
import Derived.ProofKit
import Derived.OpenShut
import Derived.Deep.DeepHandedRow
import Derived.Lib.SmallJoins
import Derived.ChangeSame
import Derived.Test.YtcmfkdhadmfgkaaDoorBkEq
import Derived.Deep.Strs
import Derived.Test.YtcmfkdhadmfgkaaDoorCards
import Derived.Test.YtcmfkdhadmfgkaaDoorTie
import Derived.Test.YtcmfkdhadmfgkaaDoorAxW3
import Derived.Test.YtcmfkdhadmfgkaaDoorAxEq
import Derived.Lib.LaidTab
import Derived.Test.YtcmfkdhadmfgkaaDoorTbW6
/- The document's Low; cells held against each other; boxes that are kept. -/
namespace Go.Proofs.YtcmfkdhadmfgkaaDoor.Si
open Go.RowKit Go.Proofs.YtcmfkdhadmfgkaaDoor.Ba Go.Proofs.YtcmfkdhadmfgkaaDoor.Se Go.Proofs.YtcmfkdhadmfgkaaDoor.Ax Go.Lib

theorem eql_c (x y : C) (w : World) : (binOp .eql 72 (.agg #[.int .i64 x.1, .int .i64 x.2.1, .int .i64 x.2.2]) (.agg #[.int .i64 y.1, .int .i64 y.2.1, .int .i64 y.2.2])).run Tryd.prog w = .ok (.bool (decide (x = y))) w := by
  obtain ⟨a, b, c⟩ := x
  obtain ⟨d, e, f⟩ := y
  rw [eql_ce]
  congr 2
  simp only [Prod.mk.injEq]
  by_cases h1 : a = d <;> by_cases h2 : b = e <;> by_cases h3 : c = f <;> simp [h1, h2, h3]
theorem neq_c (x y : C) (w : World) : (binOp .neq 72 (.agg #[.int .i64 x.1, .int .i64 x.2.1, .int .i64 x.2.2]) (.agg #[.int .i64 y.1, .int .i64 y.2.1, .int .i64 y.2.2])).run Tryd.prog w = .ok (.bool (!decide (x = y))) w := by
  obtain ⟨a, b, c⟩ := x
  obtain ⟨d, e, f⟩ := y
  rw [neq_ce]
  congr 2
  simp only [Prod.mk.injEq]
  by_cases h1 : a = d <;> by_cases h2 : b = e <;> by_cases h3 : c = f <;> simp [h1, h2, h3]
theorem keep3 {W w' : World} {g : Nat} {t : TypeId} {a b c : Value} (k : Blk W g t #[a, b, c]) (hb : Below W.heap.size W w') :
    w'.cell? ⟨g, 0, none⟩ = some a ∧ w'.cell? ⟨g, 1, none⟩ = some b ∧ w'.cell? ⟨g, 2, none⟩ = some c :=
  have k' := k.under hb
  ⟨k'.cell 0, k'.cell 1, k'.cell 2⟩
theorem keep2 {W w' : World} {g : Nat} {t : TypeId} {a b : Value} (k : Blk W g t #[a, b]) (hb : Below W.heap.size W w') :
    w'.cell? ⟨g, 0, none⟩ = some a ∧ w'.cell? ⟨g, 1, none⟩ = some b :=
  have k' := k.under hb
  ⟨k'.cell 0, k'.cell 1⟩
theorem tmod_bd (a m : Int) (h : 0 < m) : -m < a.tmod m ∧ a.tmod m < m := by
  have h1 := Int.tmod_lt_of_pos a h
  have h2 := Int.tmod_lt_of_pos (-a) h
  rw [Int.neg_tmod] at h2
  omega
theorem tmod4 (a : Int) : (0 ≤ a.tmod 4 ∧ a.tmod 4 = a % 4) ∨ (a.tmod 4 < 0 ∧ a.tmod 4 + 4 = a % 4) := by
  have h1 := tmod_bd a 4 (by decide)
  have h2 := Int.tmod_add_mul_tdiv a 4
  omega
theorem bitAt_lt (c : C) (h : c.2.2 = 0 ∨ c.2.2 = 1) : bitAt c < 32 := by unfold bitAt; omega
theorem cAt_bit (a b h : Int) (hh : h = 0 ∨ h = 1) : cAt (a - a % 4) (b - b % 4) (bitAt (a, b, h)) = (a, b, h) := by
  unfold cAt bitAt
  dsimp only
  refine Prod.ext ?_ (Prod.ext ?_ ?_) <;> dsimp only <;> omega
theorem bit_cAt (a b h : Int) (k : Nat) (e : cAt (a - a % 4) (b - b % 4) k = (a, b, h)) : k = bitAt (a, b, h) := by
  unfold cAt at e
  injection e with e1 e
  injection e with e2 e3
  unfold bitAt
  dsimp only
  omega
theorem there_in (f : Nat) (a b h : Int) (hh : h = 0 ∨ h = 1) : ((a, b, h) : C) ∈ (pos (f ||| 2 ^ bitAt (a, b, h)) 32).map (cAt (a - a % 4) (b - b % 4)) := by
  refine List.mem_map.2 ⟨bitAt (a, b, h), (mem_pos _ _ _).2 ⟨bitAt_lt _ hh, ?_⟩, cAt_bit a b h hh⟩
  rw [on_test]; simp
theorem there_out (f : Nat) (a b h : Int) (hh : h = 0 ∨ h = 1) : ((a, b, h) : C) ∉ (pos (f &&& (4294967295 - 2 ^ bitAt (a, b, h))) 32).map (cAt (a - a % 4) (b - b % 4)) := by
  intro hm
  obtain ⟨k, hk, e⟩ := List.mem_map.1 hm
  obtain ⟨h1, h2⟩ := (mem_pos _ _ _).1 hk
  have := bit_cAt a b h k e
  rw [off_test _ _ _ (bitAt_lt _ hh) h1, this] at h2
  simp at h2
theorem mem_take_next {L : List C} {k : Nat} {x c : C} (hx : L[k]? = some x) : decide (c ∈ L.take (k + 1)) = (decide (c ∈ L.take k) || decide (x = c)) := by
  rw [List.take_add_one, hx, Option.toList_some, Bool.eq_iff_iff]
  simp only [List.mem_append, List.mem_singleton, decide_eq_true_eq, Bool.or_eq_true]
  constructor
  · rintro (h | h)
    · exact .inl h
    · exact .inr h.symm
  · rintro (h | h)
    · exact .inl h
    · exact .inr h.symm
theorem set_slice {w : World} {v : Value} {L : List C} (h : SetAt w v L) : ∃ p cap, v = .slice p L.length cap := by
  rcases h with ⟨h1, h2⟩ | ⟨g, cap, h1, _, _⟩
  · exact ⟨none, 0, by rw [h1, h2]; rfl⟩
  · exact ⟨_, _, h1⟩
end Go.Proofs.YtcmfkdhadmfgkaaDoor.Si

/- The document's own leaves: bit, State, States, Of. -/
namespace Go.Proofs.YtcmfkdhadmfgkaaDoor.Si
open Go.RowKit Go.Proofs.YtcmfkdhadmfgkaaDoor.Ba Go.Proofs.YtcmfkdhadmfgkaaDoor.Se Go.Proofs.YtcmfkdhadmfgkaaDoor.Ax Go.Lib

def BiR (f n : Nat) (l i : Value) : Prop := ∃ k : Nat, k ≤ n ∧ i = .int .i64 k ∧ l = .int .u32 (f / 2 ^ k : Nat)
theorem bit_any (f n : Nat) (hf : f < 4294967296) (hn : n ≤ 1000) (w : World) :
    Calls Tryd.prog 43 #[.int .u32 f, .int .i64 n] w fun e w' => e = .returned (.int .i64 (f / 2 ^ n % 2 : Nat)) ∧ w = w' := by
  go_enter Tryd.func43, Tryd.ntmps43
  go_wp2_with fail
  go_loop [0, 5] (fun l i => BiR f n l i) (fun _ i => n - (intOf i).toNat)
  case atStart => exact ⟨0, Nat.zero_le _, rfl, by simp⟩
  case round =>
    obtain ⟨k, hk, rfl, rfl⟩ := hrel
    have hle : f / 2 ^ k ≤ f := Nat.div_le_self _ _
    have HS := Lib.hid (show f / 2 ^ (k + 1) = f / 2 ^ k / 2 by rw [Nat.pow_succ, Nat.div_div_eq_div_mul])
    by_cases hlt : k < n
    · have hd : decide ((k : Int) < n) = true := by simpa using hlt
      generalize f / 2 ^ k = x at *
      go_wp2
      go_round
      case rel => exact ⟨k + 1, by omega, by go_num, by rw [HS.out]; first | rfl | simp⟩
      case measure => simp [intOf]; omega
    · obtain rfl : k = n := by omega
      clear HS
      generalize hx : f / 2 ^ k = x at *
      have HX := Lib.hid hx
      clear hx
      go_wp2
      go_ret
      exact ⟨ret_int (by rw [← HX.out]; simp), rfl⟩
theorem refstate_in (f k : Nat) (a b : Int) (hf : f < 4294967296) (ha : 0 ≤ a ∧ a < 4) (hb : 0 ≤ b ∧ b < 4) (hk : (k : Int) = 4 * b + a) (w : World) :
    Calls Tryd.prog 12 #[.int .u32 f, .int .i64 a, .int .i64 b] w fun e w' => e = .returned (.int .i64 (st f k)) ∧ w = w' := by
  have h1 := fun W => bit_any f (2 * k) hf (by omega) W
  have h2 := fun W => bit_any f (2 * k + 1) hf (by omega) W
  have e1 : 8 * b + 2 * a = ((2 * k : Nat) : Int) := by omega
  have HS := Lib.hid (st_bit f k)
  have l1 := Nat.mod_lt (f / 2 ^ (2 * k)) (show 2 > 0 by decide)
  have l2 := Nat.mod_lt (f / 2 ^ (2 * k + 1)) (show 2 > 0 by decide)
  have e3 : ((2 * k : Nat) : Int) + 1 = ((2 * k + 1 : Nat) : Int) := by omega
  obtain ⟨n1, hn1⟩ : ∃ n1 : Nat, n1 = 2 * k := ⟨_, rfl⟩
  obtain ⟨n2, hn2⟩ : ∃ n2 : Nat, n2 = 2 * k + 1 := ⟨_, rfl⟩
  rw [← hn1] at h1 e1
  rw [← hn2] at h2
  have e2 : (n1 : Int) + 1 = (n2 : Int) := by omega
  rw [← hn2, ← hn1] at HS
  rw [← hn1] at l1
  rw [← hn2] at l2
  generalize f / 2 ^ n1 % 2 = x1 at *
  generalize f / 2 ^ n2 % 2 = x2 at *
  have hn : n1 ≤ 31 := by omega
  clear hn1 hn2 e3 hk
  go_enter Tryd.func12, Tryd.ntmps12
  go_wp2_with fail
  with_reducible refine (h1 _).mono ?_
  rintro e w' ⟨rfl, rfl⟩
  go_wp2_with fail
  with_reducible refine (h2 _).mono ?_
  rintro e w' ⟨rfl, rfl⟩
  go_wp2
  go_ret
  exact ⟨ret_int (by rw [HS.out]; omega), rfl⟩
theorem refstate_out (f a b : Int) (h : ¬ (0 ≤ a ∧ a < 4 ∧ 0 ≤ b ∧ b < 4)) (w : World) :
    Calls Tryd.prog 12 #[.int .u32 f, .int .i64 a, .int .i64 b] w fun e w' => e = .returned (.int .i64 0) ∧ w = w' := by
  by_cases h1 : a < 0
  · go_enter Tryd.func12, Tryd.ntmps12
    go_wp2
    go_ret
    exact ⟨rfl, rfl⟩
  · by_cases h2 : b < 0
    · go_enter Tryd.func12, Tryd.ntmps12
      go_wp2
      go_ret
      exact ⟨rfl, rfl⟩
    · by_cases h3 : 3 < a
      · go_enter Tryd.func12, Tryd.ntmps12
        go_wp2
        go_ret
        exact ⟨rfl, rfl⟩
      · have h4 : 3 < b := by omega
        go_enter Tryd.func12, Tryd.ntmps12
        go_wp2
        go_ret
        exact ⟨rfl, rfl⟩
/-! States: a list of ints. -/
def ints (s : Nat → Nat) (k : Nat) : List Value := (List.range k).map fun i => .int .i64 (s i)
theorem ints_len (s : Nat → Nat) (k : Nat) : (ints s k).length = k := by simp [ints]
theorem ints_next (s : Nat → Nat) (k : Nat) : ints s (k + 1) = ints s k ++ [.int .i64 (s k)] := by simp [ints, List.range_succ]
theorem int_info : (Tryd.prog.info? 3).map (fun i => (i.zero, i.size, i.bytes)) = some (some (.int .i64 0), 1, 8) := by kernel_rfl
def StR (w : World) (f : Nat) (s i : Value) (wr : World) : Prop := ∃ b : Nat, b ≤ 4 ∧ i = .int .i64 b ∧ wr.ownsRow w.heap.size 3 1 s (4 * b) (ints (st f) (4 * b)) ∧ Below w.heap.size w wr
def StR2 (w : World) (f b : Nat) (s i : Value) (wr : World) : Prop := ∃ a : Nat, a ≤ 4 ∧ i = .int .i64 a ∧ wr.ownsRow w.heap.size 3 1 s (4 * b + a) (ints (st f) (4 * b + a)) ∧ Below w.heap.size w wr
set_option maxRecDepth 100000 in
set_option maxHeartbeats 1000000 in
theorem refstates_any (f : Nat) (hf : f < 4294967296) (w : World) :
    Calls Tryd.prog 66 #[.int .u32 f] w fun e w' => ∃ v, e = .returned v ∧ w'.ownsRow w.heap.size 3 1 v 16 (ints (st f) 16) ∧ Below w.heap.size w w' := by
  obtain ⟨i0, hi0, hz0, hz1, hz2⟩ := info_parts int_info
  have HO := Lib.hid (World.ownsRow_made (base := w.heap.size) (e := 3) (size := 1) w #[] 0 (Nat.le_refl _) (Nat.zero_le _) (by simp))
  go_enter Tryd.func66, Tryd.ntmps66
  go_wp2_with fail
  go_loopw [3, 4] (fun s i wr => StR w f s i wr) (fun _ i _ => 4 - (intOf i).toNat)
  case atStart => exact ⟨0, Nat.zero_le _, rfl, HO.out, by go_grown⟩
  case round =>
    obtain ⟨b, hb4, rfl, hown, hb⟩ := hrel
    by_cases hlt : b < 4
    · have hdb : decide ((b : Int) < 4) = true := by simp; omega
      go_wp2_with fail
      clear hdb
      go_loopw [3, 5] (fun s i wr => StR2 w f b s i wr) (fun _ i _ => 4 - (intOf i).toNat)
      case atStart => exact ⟨0, Nat.zero_le _, rfl, hown, hb⟩
      case round =>
        clear hown hb
        obtain ⟨a, ha4, rfl, hown, hb⟩ := hrel
        have hz := hb.size
        by_cases hla : a < 4
        · have hst := fun W => refstate_in f (4 * b + a) (a : Int) (b : Int) hf (by omega) (by omega) (by omega) W
          have HN := Lib.hid (ints_next (st f) (4 * b + a))
          generalize hx : st f (4 * b + a) = x at *
          clear hx
          go_wp2_with fail
          with_reducible refine (hst _).mono ?_
          rintro e w' ⟨rfl, rfl⟩
          have hown2 := hown.alloc (.cells #[.int .i64 x] 3)
          have hnew : ∀ j u, ([.int .i64 x] : List Value)[j]? = some u → (wr.alloc (.cells #[.int .i64 x] 3)).cell? ((⟨wr.heap.size, 0, none⟩ : Addr).add j) = some u := fun j u hu => by
            rw [Addr.add_lit, Nat.zero_add, (Blk.newAt wr _ _ _ rfl).cell j]
            simpa using hu
          clear hst hown
          go_wp2_with (at_builtin; refine wpList_append_own _ rfl _ _ 94 rfl w.heap.size 3 i0 _ 1 8 Tryd.underlying94 hi0 hz0 hz1 hz2 rfl (by decide) _ _ _ rfl hown2 ⟨wr.heap.size, 0, none⟩ 1 1 [.int .i64 x] rfl rfl hnew (by intro u hu; simp at hu; subst hu; rfl) (by unfold maxLen; omega) (by omega) (by simp; omega) ?_)
          intro v' w' hown' hgr _
          have hb' : Below w.heap.size w w' := (hb.alloc hz _).grown hgr (by simp; omega) (fun q hq => (hown2.lt q hq).1)
          clear hgr hnew hown2
          go_wp2_with fail
          go_roundw
          case rel => exact ⟨a + 1, by omega, by go_num, by rw [← Nat.add_assoc, HN.out]; exact hown', hb'⟩
          case measure => simp [intOf]; omega
        · obtain rfl : a = 4 := by omega
          go_wp2_with fail
          go_roundw
          case rel => exact ⟨b + 1, by omega, by go_num, hown, hb⟩
          case measure => simp [intOf]; omega
    · obtain rfl : b = 4 := by omega
      go_wp2_with fail
      go_ret
      exact ⟨_, rfl, hown, hb⟩
end Go.Proofs.YtcmfkdhadmfgkaaDoor.Si

/- The document's own leaves: Of, Cells. -/
namespace Go.Proofs.YtcmfkdhadmfgkaaDoor.Si
open Go.RowKit Go.Proofs.YtcmfkdhadmfgkaaDoor.Ba Go.Proofs.YtcmfkdhadmfgkaaDoor.Se Go.Proofs.YtcmfkdhadmfgkaaDoor.Ax Go.Lib

/-- The word of sixteen states, from the last one on. -/
def ofF (s : Nat → Nat) : Nat → Nat
  | 0 => 0
  | j + 1 => 4 * ofF s j + s (15 - j)
theorem ofF_lt (s : Nat → Nat) (hs : ∀ i, s i < 4) : ∀ j, ofF s j < 4 ^ j
  | 0 => by simp [ofF]
  | j + 1 => by
    have := ofF_lt s hs j
    have h2 := hs (15 - j)
    unfold ofF
    rw [Nat.pow_succ]
    omega
theorem st_zero (n d : Nat) (hd : d < 4) : st (4 * n + d) 0 = d := by unfold st; simp; omega
theorem st_succ (n d i : Nat) (hd : d < 4) : st (4 * n + d) (i + 1) = st n i := by
  unfold st
  rw [show 2 ^ (2 * (i + 1)) = 4 * 2 ^ (2 * i) by rw [show 2 * (i + 1) = 2 * i + 2 by omega, Nat.pow_add]; omega, ← Nat.div_div_eq_div_mul, show (4 * n + d) / 4 = n by omega]
theorem st_ofF (s : Nat → Nat) (hs : ∀ i, s i < 4) : ∀ j, j ≤ 16 → ∀ i, i < j → st (ofF s j) i = s (16 - j + i)
  | 0, _, i, hi => by omega
  | j + 1, hj, 0, _ => by
    unfold ofF
    rw [st_zero _ _ (hs _), show 16 - (j + 1) + 0 = 15 - j by omega]
  | j + 1, hj, i + 1, hi => by
    unfold ofF
    rw [st_succ _ _ _ (hs _), st_ofF s hs j (by omega) i (by omega), show 16 - j + i = 16 - (j + 1) + (i + 1) by omega]
theorem ofF_eq (s : Nat → Nat) (hs : ∀ i, s i < 4) (g : Nat) (hg : g < 4294967296) (h : ∀ i, i < 16 → st g i = s i) : ofF s 16 = g :=
  st_ext _ _ (ofF_lt s hs 16) hg fun j hj => by rw [st_ofF s hs 16 (Nat.le_refl _) j hj, h j hj]; simp
def OfR (s : Nat → Nat) (n i : Value) : Prop := ∃ j : Nat, j ≤ 16 ∧ i = .int .i64 (15 - (j : Int)) ∧ n = .int .u32 (ofF s j)
set_option maxHeartbeats 1000000 in
theorem refof9_any (s : Nat → Nat) (hs : ∀ i, s i < 4) (g cap : Nat) (w : World) (hr : ∀ i, i < 16 → w.cell? ⟨g, i, none⟩ = some (.int .i64 (s i))) (_hg : g < w.heap.size) :
    Calls Tryd.prog 46 #[.slice (some ⟨g, 0, none⟩) 16 cap] w fun e w' => e = .returned (.int .u32 (ofF s 16)) ∧ w = w' := by
  have HR := Lib.hid hr
  clear hr
  go_enter Tryd.func46, Tryd.ntmps46
  go_wp2_with fail
  go_loop [3, 4] (fun n i => OfR s n i) (fun _ i => (intOf i + 1).toNat)
  case atStart => exact ⟨0, Nat.zero_le _, rfl, rfl⟩
  case round =>
    obtain ⟨j, hj, rfl, rfl⟩ := hrel
    by_cases hlt : j < 16
    · obtain ⟨q, hq⟩ : ∃ q : Nat, 15 - (j : Int) = q := ⟨15 - j, by omega⟩
      have hc := HR.out q (by omega)
      have hl := ofF_lt s hs j
      have h4 : 4 ^ j ≤ 4 ^ 15 := Nat.pow_le_pow_right (by decide) (by omega)
      have HN := Lib.hid (show ofF s (j + 1) = 4 * ofF s j + s q by rw [show q = 15 - j by omega]; rfl)
      have hsq := hs q
      have hx : ofF s j < 4 ^ 15 := Nat.lt_of_lt_of_le hl h4
      clear hl h4
      generalize ofF s j = x at *
      generalize s q = y at *
      rw [hq]
      have hq15 : q ≤ 15 := by omega
      have HQ := Lib.hid hq
      clear hq
      go_wp2
      go_round
      case rel => exact ⟨j + 1, by omega, by first | rfl | (have := HQ.out; simp <;> omega), by (rw [HN.out]) <;> go_num⟩
      case measure => simp [intOf]
    · obtain rfl : j = 16 := by omega
      go_wp2
      go_ret
      exact ⟨rfl, rfl⟩
/-! Cells. -/
theorem pos_two (f i : Nat) : pos f (2 * i + 1) = pos f (2 * i) ++ (if st f i % 2 = 1 then [2 * i] else []) ∧ pos f (2 * (i + 1)) = pos f (2 * i + 1) ++ (if st f i / 2 % 2 = 1 then [2 * i + 1] else []) := by
  have h := st_test f i
  refine ⟨?_, ?_⟩
  · show pos f (2 * i) ++ _ = _
    rw [h]
    cases f.testBit (2 * i) <;> cases f.testBit (2 * i + 1) <;> rfl
  · show pos f (2 * i + 1) ++ _ = _
    rw [h]
    cases f.testBit (2 * i) <;> cases f.testBit (2 * i + 1) <;> rfl
/-- What is left of a state, and how many bits are done. -/
def RcR (w : World) (f : Nat) (A B : Int) (s i : Value) (wr : World) : Prop :=
  ∃ k : Nat, k ≤ 16 ∧ i = .int .i64 k ∧ wr.ownsRow w.heap.size 67 3 s (pos f (2 * k)).length (flat ((pos f (2 * k)).map (cAt A B))) ∧ Below w.heap.size w wr
def RcR2 (w : World) (f k : Nat) (A B : Int) (s x h : Value) (wr : World) : Prop :=
  ∃ j : Nat, j ≤ 2 ∧ h = .int .i64 j ∧ x = .int .i64 (st f k / 2 ^ j : Nat) ∧ wr.ownsRow w.heap.size 67 3 s (pos f (2 * k + j)).length (flat ((pos f (2 * k + j)).map (cAt A B))) ∧ Below w.heap.size w wr
theorem pos_next (f k j : Nat) (hj : j < 2) : pos f (2 * k + j + 1) = pos f (2 * k + j) ++ (if st f k / 2 ^ j % 2 = 1 then [2 * k + j] else []) := by
  obtain ⟨h1, h2⟩ := pos_two f k
  rcases (show j = 0 ∨ j = 1 by omega) with rfl | rfl
  · simpa using h1
  · simpa [Nat.mul_add] using h2
theorem pos_len_le (f n : Nat) : (pos f n).length ≤ n := by
  induction n with
  | zero => simp [pos]
  | succ n ih => unfold pos; rw [List.length_append]; split <;> simp <;> omega
set_option maxRecDepth 100000 in
set_option maxHeartbeats 1000000 in
theorem refcells_new (f : Nat) (A B : Int) (hf : f < 4294967296) (hA : -4611686018427387904 ≤ A ∧ A ≤ 4611686018427387904) (hB : -4611686018427387904 ≤ B ∧ B ≤ 4611686018427387904) (w : World) :
    Calls Tryd.prog 47 #[.int .u32 f, .int .i64 A, .int .i64 B] w fun e w' => ∃ v, e = .returned v ∧ SetAt w' v ((pos f 32).map (cAt A B)) ∧ (∀ b, v.ownBlock = some b → w.heap.size ≤ b) ∧ Below w.heap.size w w' := by
  obtain ⟨i0, hi0, hz0, hz1, hz2⟩ := info_parts raw_info
  have HO := Lib.hid (World.ownsRow_made (base := w.heap.size) (e := 67) (size := 3) w #[] 0 (Nat.le_refl _) (Nat.zero_le _) (by simp))
  go_enter Tryd.func47, Tryd.ntmps47
  go_wp2_with fail
  refine (refstates_any f hf _).mono ?_
  rintro e w1 ⟨v, rfl, hst, hb1⟩
  have hown0 := own_below HO.out hb1
  have hbw : Below w.heap.size w w1 := Ba.below_call (B := w.heap.size) hb1 ((Below.refl _ _).alloc (Nat.le_refl _) _) (by simp)
  obtain ⟨g, cap, cur, rfl, kg, hcur⟩ : ∃ g cap cur, v = .slice (some ⟨g, 0, none⟩) 16 cap ∧ Blk w1 g 3 cur ∧ (∀ i, i < 16 → cur[i]? = some (.int .i64 (st f i))) := by
    rcases hst.2 with ⟨_, hn⟩ | ⟨g, cap, cur, rfl, hbs, hh, _⟩
    · cases hn
    · refine ⟨g, cap, cur, rfl, hh, fun i hi => ?_⟩
      have := hst.cellAt i (by omega)
      have e : Blk w1 g 3 cur := hh
      rw [e.cell i] at this
      rw [this]
      simp [ints, hi]
  clear hst hb1 HO
  have HG := Lib.hid hcur
  clear hcur
  go_wp2_with fail
  go_loopw [7, 15] (fun s i wr => RcR w f A B s i wr ∧ Blk wr g 3 cur) (fun _ i _ => 16 - (intOf i).toNat)
  case atStart => exact ⟨⟨0, Nat.zero_le _, rfl, hown0, hbw⟩, kg⟩
  case round =>
    clear hown0 hbw kg
    obtain ⟨⟨k, hk, rfl, hown, hb⟩, kg⟩ := hrel
    by_cases hlt : k < 16
    · have hc := (kg.cell k).trans (HG.out k hlt)
      have hgl := kg.lt
      have hdb : decide ((k : Int) < 16) = true := by simp; omega
      go_wp2_with fail
      clear hdb
      go_loopw [7, 9, 10] (fun s x h wr => RcR2 w f k A B s x h wr ∧ Blk wr g 3 cur) (fun _ _ h _ => 2 - (intOf h).toNat)
      case atStart => exact ⟨⟨0, Nat.zero_le _, rfl, by simp, hown, hb⟩, kg⟩
      case round =>
        clear hown hb kg hc hgl
        obtain ⟨⟨j, hj, rfl, rfl, hown, hb⟩, kg⟩ := hrel
        have hz := hb.size
        by_cases hjl : j < 2
        · have HP := Lib.hid (pos_next f k j hjl)
          have hle := pos_len_le f (2 * k + j)
          have HX := Lib.hid (show st f k / 2 ^ (j + 1) = st f k / 2 ^ j / 2 by rw [Nat.pow_succ, Nat.div_div_eq_div_mul])
          have HC := Lib.hid (show cAt A B (2 * k + j) = (A + (k : Int) % 4, B + (k : Int) / 4, (j : Int)) by
            unfold cAt
            refine Prod.ext ?_ (Prod.ext ?_ ?_) <;> dsimp only <;> omega)
          have hx4 : st f k / 2 ^ j < 4 := Nat.lt_of_le_of_lt (Nat.div_le_self _ _) (st_lt f k)
          generalize st f k / 2 ^ j = x at *
          by_cases hb2 : x % 2 = 1
          · rw [if_pos hb2] at HP
            have ht : ((x : Int) % 2 == 1) = true := by simp; omega
            obtain ⟨xa, hxa⟩ : ∃ xa : Int, xa = A + (k : Int) % 4 := ⟨_, rfl⟩
            obtain ⟨xb, hxb⟩ : ∃ xb : Int, xb = B + (k : Int) / 4 := ⟨_, rfl⟩
            have ew1 : wrap64 xa = xa := by unfold wrap64; omega
            have ew2 : wrap64 xb = xb := by unfold wrap64; omega
            rw [← hxa, ← hxb] at HC
            have ew4 := hxa.symm
            have ew5 := hxb.symm
            have hown2 := hown.alloc (.cells #[.int .i64 xa, .int .i64 xb, .int .i64 j] 67)
            have hnew := news1 wr 67 (xa, xb, (j : Int))
            have kg2 := kg.alloc (.cells #[.int .i64 xa, .int .i64 xb, .int .i64 j] 67)
            clear hxa hxb hb2 kg hown
            go_wp2_with (at_builtin; refine wpList_append_own _ rfl _ _ 36 rfl w.heap.size 67 i0 _ 3 24 Tryd.underlying36 hi0 hz0 hz1 hz2 rfl (by decide) _ _ _ rfl hown2 ⟨wr.heap.size, 0, none⟩ 1 1 (flat [(xa, xb, (j : Int))]) rfl (by simp [flat_len]) hnew (one_flat _) (by unfold maxLen; omega) (by omega) (by simp; omega) ?_)
            intro v' w' hown' hgr _
            have hb' : Below w.heap.size w w' := (hb.alloc hz _).grown hgr (by simp; omega) (fun q hq => (hown2.lt q hq).1)
            have kg' := kg2.grown hgr (own_blk_ne hown2 kg2 (by decide))
            rw [← HC.out] at hown'
            clear ew1 ew2 ew4 ew5 hgr hnew hown2 kg2 ht
            have HF := Lib.hid (show flat ((pos f (2 * k + (j + 1))).map (cAt A B)) = flat ((pos f (2 * k + j)).map (cAt A B)) ++ flat [cAt A B (2 * k + j)] by rw [← Nat.add_assoc, HP.out, List.map_append, flat_app]; rfl)
            have HL := Lib.hid (show (pos f (2 * k + (j + 1))).length = (pos f (2 * k + j)).length + 1 by rw [← Nat.add_assoc, HP.out, List.length_append]; rfl)
            clear hle
            go_wp2_with fail
            refine ⟨⟨⟨j + 1, by omega, by go_num, by rw [HX.out]; simp, ?_, hb'⟩, kg'⟩, by simp [intOf]; omega⟩
            rw [HF.out, HL.out]
            exact hown'
          · rw [if_neg hb2, List.append_nil] at HP
            have ht : ((x : Int) % 2 == 1) = false := by simp; omega
            clear hb2
            go_wp2_with fail
            refine ⟨⟨⟨j + 1, by omega, by go_num, by rw [HX.out]; simp, ?_, hb⟩, kg⟩, by simp [intOf]; omega⟩
            rw [← Nat.add_assoc, HP.out]
            exact hown
        · obtain rfl : j = 2 := by omega
          go_wp2_with fail
          exact ⟨⟨⟨k + 1, by omega, by go_num, hown, hb⟩, kg⟩, by simp [intOf]; omega⟩
    · obtain rfl : k = 16 := by omega
      have hs := set_own (L := (pos f 32).map (cAt A B)) (by rw [List.length_map]; exact hown)
      have hnw : ∀ b, u7.ownBlock = some b → w.heap.size ≤ b := fun b hb' => (hown.lt b hb').1
      clear hown
      go_wp2_with fail
      go_ret
      exact ⟨_, rfl, hs, hnw, hb⟩
theorem refcells_any (f : Nat) (A B : Int) (hf : f < 4294967296) (hA : -4611686018427387904 ≤ A ∧ A ≤ 4611686018427387904) (hB : -4611686018427387904 ≤ B ∧ B ≤ 4611686018427387904) (w : World) :
    Calls Tryd.prog 47 #[.int .u32 f, .int .i64 A, .int .i64 B] w fun e w' => ∃ v, e = .returned v ∧ SetAt w' v ((pos f 32).map (cAt A B)) ∧ Below w.heap.size w w' := by
  refine (refcells_new f A B hf hA hB w).mono ?_
  rintro e w' ⟨v, rfl, hs, _, hb⟩
  exact ⟨v, rfl, hs, hb⟩
end Go.Proofs.YtcmfkdhadmfgkaaDoor.Si

/- The document's own leaves of a set: Leaf, Leaves. -/
namespace Go.Proofs.YtcmfkdhadmfgkaaDoor.Bk
open Go.RowKit Go.Proofs.YtcmfkdhadmfgkaaDoor.Ba Go.Proofs.YtcmfkdhadmfgkaaDoor.Si Go.Lib
open Go.Proofs.YtcmfkdhadmfgkaaDoor.Se (SetAt refhas_any)
abbrev C3 := Int × Int × Int

/-- The state of the k-th point of four times four from one on. -/
def rlS (S : List C3) (a b : Int) (k : Nat) : Nat := (if (a + ((k % 4 : Nat) : Int), b + ((k / 4 : Nat) : Int), (0 : Int)) ∈ S then 1 else 0) + (if (a + ((k % 4 : Nat) : Int), b + ((k / 4 : Nat) : Int), (1 : Int)) ∈ S then 2 else 0)
theorem rlS_lt (S : List C3) (a b : Int) (k : Nat) : rlS S a b k < 4 := by unfold rlS; split <;> split <;> omega
def L1R (w : World) (S : List C3) (a b : Int) (s t : Value) (wr : World) : Prop := ∃ j : Nat, j ≤ 4 ∧ t = .int .i64 (b + j) ∧ wr.ownsRow w.heap.size 3 1 s (4 * j) (ints (rlS S a b) (4 * j)) ∧ Below w.heap.size w wr
def L2R (w : World) (S : List C3) (a b : Int) (j : Nat) (s t : Value) (wr : World) : Prop := ∃ i : Nat, i ≤ 4 ∧ t = .int .i64 (a + i) ∧ wr.ownsRow w.heap.size 3 1 s (4 * j + i) (ints (rlS S a b) (4 * j + i)) ∧ Below w.heap.size w wr
theorem new_int (w : World) (x : Int) : ∀ j u, ([.int .i64 x] : List Value)[j]? = some u → (w.alloc (.cells #[.int .i64 x] 3)).cell? ((⟨w.heap.size, 0, none⟩ : Addr).add j) = some u := fun j u hu => by
  rw [Addr.add_lit, Nat.zero_add, (Blk.newAt w _ _ _ rfl).cell j]
  simpa using hu
theorem one_int (x : Int) : ∀ u ∈ [Value.int .i64 x], u.oneCell' = true := by intro u hu; simp at hu; subst hu; rfl
set_option maxRecDepth 100000 in
set_option maxHeartbeats 2000000 in
theorem leaf10_any (v : Value) (S : List C3) (a b : Int) (w : World) (h : SetAt w v S) (hL : S.length ≤ 1000000) (ha : -1000 ≤ a ∧ a ≤ 1000) (hb : -1000 ≤ b ∧ b ≤ 1000) :
    Calls Tryd.prog 15 #[v, .int .i64 a, .int .i64 b] w fun e w' => e = .returned (.int .u32 (ofF (rlS S a b) 16)) ∧ Below w.heap.size w w' := by
  obtain ⟨i0, hi0, hz0, hz1, hz2⟩ := info_parts int_info
  have HO := Lib.hid (World.ownsRow_made (base := w.heap.size) (e := 3) (size := 1) w #[] 0 (Nat.le_refl _) (Nat.zero_le _) (by simp))
  have HV := Lib.hid h
  clear h
  go_enter Tryd.func15, Tryd.ntmps15
  go_wp2_with fail
  go_loopw [7, 8] (fun s t wr => L1R w S a b s t wr) (fun _ t _ => (b + 4 - intOf t).toNat)
  case atStart => exact ⟨0, Nat.zero_le _, by simp, HO.out, by go_grown⟩
  case round =>
    obtain ⟨j, hj4, rfl, hown, hbw⟩ := hrel
    obtain ⟨y, hy⟩ : ∃ y : Int, b + (j : Int) = y := ⟨_, rfl⟩
    rw [hy]
    have wb4 : wrap64 (b + 4) = b + 4 := IntWalk.wrap64_in _ (by omega)
    by_cases hlt : j < 4
    · have hdb : decide (y < b + 4) = true := by simp; omega
      have hyb : -2000 ≤ y ∧ y ≤ 2000 := by omega
      have HY := Lib.hid hy
      clear hy
      go_wp2_with fail
      clear hdb
      go_loopw [7, 9] (fun s t wr => L2R w S a b j s t wr) (fun _ t _ => (a + 4 - intOf t).toNat)
      case atStart => exact ⟨0, Nat.zero_le _, by simp, hown, hbw⟩
      case round =>
        clear hown hbw
        obtain ⟨i, hi4, rfl, hown, hbw⟩ := hrel
        have hz := hbw.size
        obtain ⟨x, hx⟩ : ∃ x : Int, a + (i : Int) = x := ⟨_, rfl⟩
        rw [hx]
        have wa4 : wrap64 (a + 4) = a + 4 := IntWalk.wrap64_in _ (by omega)
        by_cases hla : i < 4
        · have hdx : decide (x < a + 4) = true := by simp; omega
          have hxb : -2000 ≤ x ∧ x ≤ 2000 := by omega
          have hn : rlS S a b (4 * j + i) = (if (x, y, (0 : Int)) ∈ S then 1 else 0) + (if (x, y, (1 : Int)) ∈ S then 2 else 0) := by
            unfold rlS
            rw [show (4 * j + i) % 4 = i by omega, show (4 * j + i) / 4 = j by omega, hx, HY.out]
          have HN := Lib.hid (ints_next (rlS S a b) (4 * j + i))
          have HX := Lib.hid hx
          have h0 := fun W (hb : Below w.heap.size w W) => refhas_any v S (x, y, 0) W (HV.out.below hb) hL
          have h1 := fun W (hb : Below w.heap.size w W) => refhas_any v S (x, y, 1) W (HV.out.below hb) hL
          obtain ⟨d0, hd0⟩ : ∃ d, decide ((x, y, (0 : Int)) ∈ S) = d := ⟨_, rfl⟩
          obtain ⟨d1, hd1⟩ : ∃ d, decide ((x, y, (1 : Int)) ∈ S) = d := ⟨_, rfl⟩
          rw [hd0] at h0
          rw [hd1] at h1
          have hn2 : rlS S a b (4 * j + i) = (if d0 = true then 1 else 0) + (if d1 = true then 2 else 0) := by rw [hn, ← hd0, ← hd1]; simp
          have HN2 := Lib.hid hn2
          clear hd0 hd1 hn hn2 hx
          have ex : x + 1 = a + ((i + 1 : Nat) : Int) := by have := HX.out; omega
          have hx1 : wrap64 (x + 1) = x + 1 := IntWalk.wrap64_in _ (by omega)
          have EX := Lib.hid ex
          clear ex
          have hm1 : 4 * j + i + 1 ≤ maxLen := by unfold maxLen; omega
          have hm2 : (4 * j + i + 1) * 8 ≤ 140737488355328 := by omega
          cases d0 <;> cases d1
          · (go_wp2_with fail; refine (h0 _ hbw).mono ?_; rintro e w1 ⟨rfl, hb1⟩; have hbw1 := hbw.trans (hb1.mono hz); have hown1 := own_below hown hb1; go_wp2_with fail; refine (h1 _ hbw1).mono ?_; rintro e w2 ⟨rfl, hb2⟩; have hbw2 := hbw1.trans (hb2.mono hbw1.size); have hown2 := (own_below hown1 hb2).alloc (.cells #[.int .i64 0] 3); have hz2' := hbw2.size; have hnew := new_int w2 0; have hone := one_int 0; have hbs : w.heap.size ≤ (w2.alloc (.cells #[.int .i64 0] 3)).heap.size := Nat.le_trans hz2' (by simp); clear h0 h1 hb1 hb2 hown hown1 hbw hbw1; go_wp2_with (at_builtin; refine wpList_append_own_at _ rfl _ _ 94 rfl w.heap.size 3 i0 _ 1 8 Tryd.underlying94 hi0 hz0 hz1 hz2 rfl (by decide) _ _ _ rfl hown2 ⟨w2.heap.size, 0, none⟩ 1 1 [.int .i64 0] rfl rfl hnew hone hm1 hm2 hbs ?_); intro v8 w8 ho8 hgr8 _ _; have hb8 := (hbw2.alloc hz2' _).grown hgr8 hbs (fun q hq => (hown2.lt q hq).1); clear hgr8 hnew hown2 hbw2; go_wp2_with fail; exact ⟨⟨i + 1, by omega, by rw [EX.out], by rw [← Nat.add_assoc, HN.out, HN2.out]; exact ho8, hb8⟩, by have := HX.out; simp [intOf]; omega⟩)
          · (go_wp2_with fail; refine (h0 _ hbw).mono ?_; rintro e w1 ⟨rfl, hb1⟩; have hbw1 := hbw.trans (hb1.mono hz); have hown1 := own_below hown hb1; go_wp2_with fail; refine (h1 _ hbw1).mono ?_; rintro e w2 ⟨rfl, hb2⟩; have hbw2 := hbw1.trans (hb2.mono hbw1.size); have hown2 := (own_below hown1 hb2).alloc (.cells #[.int .i64 2] 3); have hz2' := hbw2.size; have hnew := new_int w2 2; have hone := one_int 2; have hbs : w.heap.size ≤ (w2.alloc (.cells #[.int .i64 2] 3)).heap.size := Nat.le_trans hz2' (by simp); clear h0 h1 hb1 hb2 hown hown1 hbw hbw1; go_wp2_with (at_builtin; refine wpList_append_own_at _ rfl _ _ 94 rfl w.heap.size 3 i0 _ 1 8 Tryd.underlying94 hi0 hz0 hz1 hz2 rfl (by decide) _ _ _ rfl hown2 ⟨w2.heap.size, 0, none⟩ 1 1 [.int .i64 2] rfl rfl hnew hone hm1 hm2 hbs ?_); intro v8 w8 ho8 hgr8 _ _; have hb8 := (hbw2.alloc hz2' _).grown hgr8 hbs (fun q hq => (hown2.lt q hq).1); clear hgr8 hnew hown2 hbw2; go_wp2_with fail; exact ⟨⟨i + 1, by omega, by rw [EX.out], by rw [← Nat.add_assoc, HN.out, HN2.out]; exact ho8, hb8⟩, by have := HX.out; simp [intOf]; omega⟩)
          · (go_wp2_with fail; refine (h0 _ hbw).mono ?_; rintro e w1 ⟨rfl, hb1⟩; have hbw1 := hbw.trans (hb1.mono hz); have hown1 := own_below hown hb1; go_wp2_with fail; refine (h1 _ hbw1).mono ?_; rintro e w2 ⟨rfl, hb2⟩; have hbw2 := hbw1.trans (hb2.mono hbw1.size); have hown2 := (own_below hown1 hb2).alloc (.cells #[.int .i64 1] 3); have hz2' := hbw2.size; have hnew := new_int w2 1; have hone := one_int 1; have hbs : w.heap.size ≤ (w2.alloc (.cells #[.int .i64 1] 3)).heap.size := Nat.le_trans hz2' (by simp); clear h0 h1 hb1 hb2 hown hown1 hbw hbw1; go_wp2_with (at_builtin; refine wpList_append_own_at _ rfl _ _ 94 rfl w.heap.size 3 i0 _ 1 8 Tryd.underlying94 hi0 hz0 hz1 hz2 rfl (by decide) _ _ _ rfl hown2 ⟨w2.heap.size, 0, none⟩ 1 1 [.int .i64 1] rfl rfl hnew hone hm1 hm2 hbs ?_); intro v8 w8 ho8 hgr8 _ _; have hb8 := (hbw2.alloc hz2' _).grown hgr8 hbs (fun q hq => (hown2.lt q hq).1); clear hgr8 hnew hown2 hbw2; go_wp2_with fail; exact ⟨⟨i + 1, by omega, by rw [EX.out], by rw [← Nat.add_assoc, HN.out, HN2.out]; exact ho8, hb8⟩, by have := HX.out; simp [intOf]; omega⟩)
          · (go_wp2_with fail; refine (h0 _ hbw).mono ?_; rintro e w1 ⟨rfl, hb1⟩; have hbw1 := hbw.trans (hb1.mono hz); have hown1 := own_below hown hb1; go_wp2_with fail; refine (h1 _ hbw1).mono ?_; rintro e w2 ⟨rfl, hb2⟩; have hbw2 := hbw1.trans (hb2.mono hbw1.size); have hown2 := (own_below hown1 hb2).alloc (.cells #[.int .i64 3] 3); have hz2' := hbw2.size; have hnew := new_int w2 3; have hone := one_int 3; have hbs : w.heap.size ≤ (w2.alloc (.cells #[.int .i64 3] 3)).heap.size := Nat.le_trans hz2' (by simp); clear h0 h1 hb1 hb2 hown hown1 hbw hbw1; go_wp2_with (at_builtin; refine wpList_append_own_at _ rfl _ _ 94 rfl w.heap.size 3 i0 _ 1 8 Tryd.underlying94 hi0 hz0 hz1 hz2 rfl (by decide) _ _ _ rfl hown2 ⟨w2.heap.size, 0, none⟩ 1 1 [.int .i64 3] rfl rfl hnew hone hm1 hm2 hbs ?_); intro v8 w8 ho8 hgr8 _ _; have hb8 := (hbw2.alloc hz2' _).grown hgr8 hbs (fun q hq => (hown2.lt q hq).1); clear hgr8 hnew hown2 hbw2; go_wp2_with fail; exact ⟨⟨i + 1, by omega, by rw [EX.out], by rw [← Nat.add_assoc, HN.out, HN2.out]; exact ho8, hb8⟩, by have := HX.out; simp [intOf]; omega⟩)
        · obtain rfl : i = 4 := by omega
          have hdx : decide (x < a + 4) = false := by simp; omega
          clear hx
          have ey : y + 1 = b + ((j + 1 : Nat) : Int) := by have := HY.out; omega
          have hy1 : wrap64 (y + 1) = y + 1 := IntWalk.wrap64_in _ (by omega)
          have EY := Lib.hid ey
          clear ey
          go_wp2_with fail
          exact ⟨⟨j + 1, by omega, by rw [EY.out], by rw [Nat.mul_succ]; exact hown, hbw⟩, by have := HY.out; simp [intOf]; omega⟩
    · obtain rfl : j = 4 := by omega
      have hdb : decide (y < b + 4) = false := by simp; omega
      clear hy
      obtain ⟨g, cap, cur, rfl, kg, hcur⟩ : ∃ g cap cur, u7 = .slice (some ⟨g, 0, none⟩) 16 cap ∧ Blk wr g 3 cur ∧ (∀ i, i < 16 → cur[i]? = some (.int .i64 (rlS S a b i))) := by
        rcases hown.2 with ⟨_, hn⟩ | ⟨g, cap, cur, rfl, hbs, hh, _⟩
        · cases hn
        · refine ⟨g, cap, cur, rfl, hh, fun i hi => ?_⟩
          have := hown.cellAt i (by omega)
          have e : Blk wr g 3 cur := hh
          rw [e.cell i] at this
          rw [this]
          simp [ints, hi]
      have hof := fun W (e : W = wr) => refof9_any (rlS S a b) (rlS_lt S a b) g cap W (fun i hi => by rw [e]; exact (kg.cell i).trans (hcur i hi)) (by rw [e]; exact kg.lt)
      clear hown hcur kg
      go_wp2_with fail
      refine (hof _ rfl).mono ?_
      rintro e w' ⟨rfl, rfl⟩
      go_wp2_with fail
      go_ret
      exact ⟨rfl, hbw⟩
end Go.Proofs.YtcmfkdhadmfgkaaDoor.Bk

/- The document's own cells of four leaves. -/
namespace Go.Proofs.YtcmfkdhadmfgkaaDoor.Bk
open Go.RowKit Go.Proofs.YtcmfkdhadmfgkaaDoor.Ba Go.Proofs.YtcmfkdhadmfgkaaDoor.Si Go.Lib
open Go.Proofs.YtcmfkdhadmfgkaaDoor.Se (SetAt flat flat_app flat_one one_flat flat_len news1 set_own raw_info refof_any ofL)

def okH (l : Nat) (c : C3) : Bool := decide (1 < l) || c.2.2 == 0
def clM (q : Nat → Nat) (i : Nat) : List C3 := (pos (q i) 32).map (cAt ((i % 2 * 4 : Nat) : Int) ((i / 2 * 4 : Nat) : Int))
def clT (l : Nat) (q : Nat → Nat) : Nat → List C3
  | 0 => []
  | i + 1 => clT l q i ++ (clM q i).filter (okH l)
theorem set_lt {w : World} {v : Value} {L : List C3} (h : SetAt w v L) (b : Nat) (hb : v.ownBlock = some b) : b < w.heap.size := by
  rcases h with ⟨rfl, _⟩ | ⟨g, cap, rfl, _, hr⟩
  · simp [Value.ownBlock] at hb
  · have : g = b := by simpa [Value.ownBlock] using hb
    rw [← this]
    exact hr.2
theorem set_grown {w w' : World} {v : Value} {L : List C3} {row : Option Nat} (h : SetAt w v L) (hg : w.grownBy w' row) (hd : ∀ b, v.ownBlock = some b → row ≠ some b) : SetAt w' v L := by
  rcases h with h | ⟨g, cap, rfl, hc, hr⟩
  · exact .inl h
  · have hb := hg.block g hr.2 (fun e => hd g rfl e.symm)
    refine .inr ⟨g, cap, rfl, hc, fun i d hi => ?_, Nat.lt_of_lt_of_le hr.2 hg.size⟩
    obtain ⟨c0, c1, c2⟩ := hr.1 i d hi
    exact ⟨(World.cell?_of_block (a := ⟨g, i * 3, none⟩) hb).trans c0, (World.cell?_of_block (a := ⟨g, i * 3 + 1, none⟩) hb).trans c1, (World.cell?_of_block (a := ⟨g, i * 3 + 1 + 1, none⟩) hb).trans c2⟩
theorem clM_len (q : Nat → Nat) (i : Nat) : (clM q i).length ≤ 32 := by unfold clM; rw [List.length_map]; exact pos_len_le _ _
theorem clT_len (l : Nat) (q : Nat → Nat) : ∀ i, (clT l q i).length ≤ 32 * i
  | 0 => by simp [clT]
  | i + 1 => by
    have h1 := clT_len l q i
    have h2 := clM_len q i
    have h3 := List.length_filter_le (okH l) (clM q i)
    unfold clT
    rw [List.length_append]
    omega
def C1R (w : World) (l : Nat) (q : Nat → Nat) (s t : Value) (wr : World) : Prop := ∃ i : Nat, i ≤ 4 ∧ t = .int .i64 i ∧ wr.ownsRow w.heap.size 67 3 s (clT l q i).length (flat (clT l q i)) ∧ Below w.heap.size w wr
def C2R (w : World) (l i : Nat) (q : Nat → Nat) (M : List C3) (vM s t : Value) (wr : World) : Prop := ∃ j : Nat, j ≤ M.length ∧ t = .int .i64 j ∧ wr.ownsRow w.heap.size 67 3 s (clT l q i ++ (M.take j).filter (okH l)).length (flat (clT l q i ++ (M.take j).filter (okH l))) ∧ Below w.heap.size w wr ∧ SetAt wr vM M ∧ (∀ b, vM.ownBlock = some b → s.ownBlock ≠ some b ∧ b < wr.heap.size)
set_option maxRecDepth 100000 in
set_option maxHeartbeats 2000000 in
theorem cells10_any (l : Nat) (hl : 1 ≤ l ∧ l ≤ 3) (q : Nat → Nat) (hq : ∀ i, i < 4 → q i < 4294967296) (g cap : Nat) (w : World) (hc : ∀ i, i < 4 → w.cell? ⟨g, i, none⟩ = some (.int .u32 (q i))) (hg : g < w.heap.size) :
    Calls Tryd.prog 16 #[.int .i64 l, .slice (some ⟨g, 0, none⟩) 4 cap] w fun e w' => ∃ v, e = .returned v ∧ SetAt w' v (ofL (clT l q 4)) ∧ Below w.heap.size w w' := by
  obtain ⟨i0, hi0, hz0, hz1, hz2⟩ := info_parts raw_info
  have HO := Lib.hid (World.ownsRow_made (base := w.heap.size) (e := 67) (size := 3) w #[] 0 (Nat.le_refl _) (Nat.zero_le _) (by simp))
  have HC := Lib.hid hc
  clear hc
  go_enter Tryd.func16, Tryd.ntmps16
  go_wp2_with fail
  go_loopw [5, 13] (fun s t wr => C1R w l q s t wr) (fun _ t _ => 4 - (intOf t).toNat)
  case atStart => exact ⟨0, Nat.zero_le _, rfl, HO.out, by go_grown⟩
  case round =>
    obtain ⟨i, hi4, rfl, hown, hbw⟩ := hrel
    have hz := hbw.size
    by_cases hlt : i < 4
    · have hdb : decide ((i : Int) < 4) = true := by simp; omega
      have hcg : wr.cell? ⟨g, i, none⟩ = some (.int .u32 (q i)) := (hbw.cell (p := ⟨g, i, none⟩) hg).trans (HC.out i hlt)
      have hgl : g < wr.heap.size := by omega
      have e1 : ((i % 2 * 4 : Nat) : Int) = (i : Int) % 2 * 4 := by omega
      have e2 : ((i / 2 * 4 : Nat) : Int) = (i : Int) / 2 * 4 := by omega
      have hM : clM q i = (pos (q i) 32).map (cAt ((i : Int) % 2 * 4) ((i : Int) / 2 * 4)) := by unfold clM; rw [e1, e2]
      have hMl := clM_len q i
      have hTl := clT_len l q i
      have HT := Lib.hid (show clT l q (i + 1) = clT l q i ++ (clM q i).filter (okH l) from rfl)
      obtain ⟨pa, hpa⟩ : ∃ p : Int, (i : Int) % 2 * 4 = p := ⟨_, rfl⟩
      obtain ⟨pb, hpb⟩ : ∃ p : Int, (i : Int) / 2 * 4 = p := ⟨_, rfl⟩
      have wa : wrap64 pa = pa := IntWalk.wrap64_in _ (by omega)
      have wb : wrap64 pb = pb := IntWalk.wrap64_in _ (by omega)
      have hrc := fun W => refcells_new (q i) pa pb (hq i hlt) (by omega) (by omega) W
      rw [hpa, hpb] at hM
      rw [← hM] at hrc
      clear hM e1 e2
      generalize clM q i = M at *
      go_wp2_with fail
      refine (hrc _).mono ?_
      rintro e w1 ⟨vM, rfl, hvM, hnM, hb1⟩
      have hown1 := own_below hown hb1
      have hbw1 := hbw.trans (hb1.mono hz)
      obtain ⟨pM, cM, rfl⟩ : ∃ p c, vM = .slice p M.length c := by
        rcases hvM with ⟨rfl, rfl⟩ | ⟨g', cap', rfl, _, _⟩
        · exact ⟨none, 0, rfl⟩
        · exact ⟨_, _, rfl⟩
      have HV := Lib.hid hvM
      have HNo : Hid (∀ b, (Value.slice pM M.length cM).ownBlock = some b → u5.ownBlock ≠ some b ∧ b < w1.heap.size) := Lib.hid fun b hb => ⟨fun e => by have h1 := hnM b hb; have h2 := (hown.lt b e).2; omega, set_lt hvM b hb⟩
      clear hvM hrc hcg hgl hpa hpb wa wb hown hbw hb1 hdb
      go_wp2_with fail
      go_loopw [5, 27] (fun s t wr => C2R w l i q M (.slice pM M.length cM) s t wr) (fun _ t _ => 32 - (intOf t).toNat)
      case atStart => exact ⟨0, Nat.zero_le _, rfl, by simpa using hown1, hbw1, HV.out, HNo.out⟩
      case round =>
        clear hown1 hbw1
        obtain ⟨j, hj, rfl, hown, hbw, hsM, hdis⟩ := hrel
        have hz := hbw.size
        by_cases hlj : j < M.length
        · obtain ⟨x, hx⟩ : ∃ x, M[j]? = some x := ⟨_, List.getElem?_eq_getElem hlj⟩
          rcases id hsM with ⟨_, hnil⟩ | ⟨g', cap', hv, _, hr⟩
          · subst hnil; simp at hlj
          · injection hv with hv1 hv2 hv3
            subst hv1 hv3
            clear hv2
            obtain ⟨c0, c1, c2⟩ := hr.1 j x hx
            have hgl := hr.2
            have htk : (M.take (j + 1)).filter (okH l) = (M.take j).filter (okH l) ++ (if okH l x = true then [x] else []) := by
              rw [List.take_add_one, hx]
              simp only [Option.toList_some, List.filter_append]
              by_cases h : okH l x = true
              · simp [h]
              · simp [h]
            have hFl := List.length_filter_le (okH l) (M.take j)
            rw [List.length_take] at hFl
            obtain ⟨n, hnn⟩ : ∃ n, M.length = n := ⟨_, rfl⟩
            have HTK := Lib.hid htk
            have hdj : decide ((j : Int) < (M.length : Int)) = true := by simpa using hlj
            have hP : (clT l q i ++ (M.take j).filter (okH l)).length ≤ 200 := by rw [List.length_append]; omega
            clear hx hr htk hFl hnn
            obtain ⟨P, hPP⟩ : ∃ P, clT l q i ++ (M.take j).filter (okH l) = P := ⟨_, rfl⟩
            rw [hPP] at hown hP
            have HPP := Lib.hid hPP
            clear hPP
            have hnx : ∀ b, okH l x = b → clT l q i ++ (M.take (j + 1)).filter (okH l) = if b = true then P ++ [x] else P := fun b hb => by
              rw [HTK.out, hb, ← HPP.out, ← List.append_assoc]
              cases b <;> simp
            have HNX := Lib.hid hnx
            clear hnx
            have hown2 := (hown.alloc (.cells #[.int .i64 x.1, .int .i64 x.2.1, .int .i64 x.2.2] 67)).alloc (.cells #[.int .i64 x.1, .int .i64 x.2.1, .int .i64 x.2.2] 67)
            have hbA := hbw.alloc hz (.cells #[.int .i64 x.1, .int .i64 x.2.1, .int .i64 x.2.2] 67)
            have hb2 := hbA.alloc hbA.size (.cells #[.int .i64 x.1, .int .i64 x.2.1, .int .i64 x.2.2] 67)
            have hnew := news1 (wr.alloc (.cells #[.int .i64 x.1, .int .i64 x.2.1, .int .i64 x.2.2] 67)) 67 x
            rw [show (wr.alloc (.cells #[.int .i64 x.1, .int .i64 x.2.1, .int .i64 x.2.2] 67)).heap.size = wr.heap.size + 1 by simp] at hnew
            have hone := one_flat [x]
            have hm1 : P.length + 1 ≤ maxLen := by unfold maxLen; omega
            have hm2 : (P.length + 1) * 24 ≤ 140737488355328 := by omega
            have hbs := hb2.size
            have hs2 := (hsM.below (w' := wr.alloc (.cells #[.int .i64 x.1, .int .i64 x.2.1, .int .i64 x.2.2] 67)) (by go_grown)).below (w' := (wr.alloc (.cells #[.int .i64 x.1, .int .i64 x.2.1, .int .i64 x.2.2] 67)).alloc (.cells #[.int .i64 x.1, .int .i64 x.2.1, .int .i64 x.2.2] 67)) (by go_grown)
            by_cases h1 : 1 < l
            · have hd1 : decide (1 < (l : Int)) = true := by simp; omega
              have hok : okH l x = true := by unfold okH; simp [h1]
              have HNN := Lib.hid ((HNX.out true hok).trans (if_pos rfl))
              clear h1 hok
              go_wp2_with (at_builtin; refine wpList_append_own_at _ rfl _ _ 36 rfl w.heap.size 67 i0 _ 3 24 Tryd.underlying36 hi0 hz0 hz1 hz2 rfl (by decide) _ _ _ rfl hown2 ⟨wr.heap.size + 1, 0, none⟩ 1 1 (flat [x]) rfl rfl hnew hone hm1 hm2 hbs ?_)
              intro v8 w8 ho8 hgr8 _ hat8
              have hb8 := hb2.grown hgr8 hbs (fun k hk => (hown2.lt k hk).1)
              have hs8 := set_grown hs2 hgr8 (fun b hb => (hdis b hb).1)
              have hd8 : ∀ b, (Value.slice (some ⟨g', 0, none⟩) M.length cM).ownBlock = some b → v8.ownBlock ≠ some b ∧ b < w8.heap.size := fun b hb => by
                refine ⟨fun e => ?_, set_lt hs8 b hb⟩
                rcases hat8 with h | h
                · exact (hdis b hb).1 (h ▸ e)
                · rw [h] at e
                  injection e with e
                  have := (hdis b hb).2
                  omega
              clear hgr8 hnew hown2 hb2 hs2 hbA hown hsM hdis hat8
              go_wp2_with fail
              exact ⟨⟨j + 1, by omega, by go_num, by rw [HNN.out, flat_app, List.length_append]; exact ho8, hb8, hs8, hd8⟩, by simp [intOf]; omega⟩
            · have hd1 : decide (1 < (l : Int)) = false := by simp; omega
              by_cases h2 : x.2.2 = 0
              · have hok : okH l x = true := by unfold okH; simp [h2]
                have hx2 : (x.2.2 == 0) = true := by simpa using h2
                have HNN := Lib.hid ((HNX.out true hok).trans (if_pos rfl))
                clear h1 hok h2
                go_wp2_with (at_builtin; refine wpList_append_own_at _ rfl _ _ 36 rfl w.heap.size 67 i0 _ 3 24 Tryd.underlying36 hi0 hz0 hz1 hz2 rfl (by decide) _ _ _ rfl hown2 ⟨wr.heap.size + 1, 0, none⟩ 1 1 (flat [x]) rfl rfl hnew hone hm1 hm2 hbs ?_)
                intro v8 w8 ho8 hgr8 _ hat8
                have hb8 := hb2.grown hgr8 hbs (fun k hk => (hown2.lt k hk).1)
                have hs8 := set_grown hs2 hgr8 (fun b hb => (hdis b hb).1)
                have hd8 : ∀ b, (Value.slice (some ⟨g', 0, none⟩) M.length cM).ownBlock = some b → v8.ownBlock ≠ some b ∧ b < w8.heap.size := fun b hb => by
                  refine ⟨fun e => ?_, set_lt hs8 b hb⟩
                  rcases hat8 with h | h
                  · exact (hdis b hb).1 (h ▸ e)
                  · rw [h] at e
                    injection e with e
                    have := (hdis b hb).2
                    omega
                clear hgr8 hnew hown2 hb2 hs2 hbA hown hsM hdis hat8
                go_wp2_with fail
                exact ⟨⟨j + 1, by omega, by go_num, by rw [HNN.out, flat_app, List.length_append]; exact ho8, hb8, hs8, hd8⟩, by simp [intOf]; omega⟩
              · have hok : okH l x = false := by unfold okH; simp [h1, h2]
                have hx2 : (x.2.2 == 0) = false := by simpa using h2
                have HNN := Lib.hid ((HNX.out false hok).trans (if_neg (by decide)))
                have hbw' := hbA
                have hown' := hown.alloc (.cells #[.int .i64 x.1, .int .i64 x.2.1, .int .i64 x.2.2] 67)
                have hs' := hsM.below (w' := wr.alloc (.cells #[.int .i64 x.1, .int .i64 x.2.1, .int .i64 x.2.2] 67)) (by go_grown)
                clear h1 hok h2 hnew hown2 hb2 hs2 hbA hown hsM
                go_wp2_with fail
                exact ⟨⟨j + 1, by omega, by go_num, by rw [HNN.out]; exact hown', hbw', hs', fun b hb => ⟨(hdis b hb).1, set_lt hs' b hb⟩⟩, by simp [intOf]; omega⟩
        · obtain rfl : j = M.length := by omega
          rw [List.take_of_length_le (Nat.le_refl _)] at hown
          rw [← HT.out] at hown
          clear hsM hdis
          go_wp2_with fail
          exact ⟨⟨i + 1, by omega, by go_num, hown, hbw⟩, by simp [intOf]; omega⟩
    · obtain rfl : i = 4 := by omega
      have hs := set_own hown
      have hl := clT_len l q 4
      have hof := fun W (e : W = wr) => refof_any u5 (clT l q 4) W (e ▸ hs) (by omega)
      clear hown hs
      go_wp2_with fail
      refine (hof _ rfl).mono ?_
      rintro e w2 ⟨v, rfl, hv, hb2⟩
      have hb3 := hbw.trans (hb2.mono hz)
      clear hof hb2
      go_wp2_with fail
      go_ret
      exact ⟨v, rfl, hv, hb3⟩
end Go.Proofs.YtcmfkdhadmfgkaaDoor.Bk

/- The laws' own awake; Own. -/
namespace Go.Proofs.YtcmfkdhadmfgkaaDoor.Bk
open Go.RowKit Go.Proofs.YtcmfkdhadmfgkaaDoor.Ba Go.Proofs.YtcmfkdhadmfgkaaDoor.Si Go.Lib
open Go.Proofs.YtcmfkdhadmfgkaaDoor.Fl (C)
open Go.Proofs.YtcmfkdhadmfgkaaDoor.Ax (SixIs)
open Go.Proofs.YtcmfkdhadmfgkaaDoor.Tb (Tab sel wrongT)

theorem own10_any (a b c d : Nat) (w : World) :
    Calls Tryd.prog 11 #[.agg #[.int .u32 a, .int .u32 b, .int .u32 c, .int .u32 d]] w fun e w' => e = .returned (.agg #[.int .u32 a, .int .u32 b, .int .u32 c, .int .u32 d]) ∧ Below w.heap.size w w' := by
  go_enter Tryd.func11, Tryd.ntmps11
  go_wp2
  exact bodyPost_ret (v := .agg #[.int .u32 a, .int .u32 b, .int .u32 c, .int .u32 d]) (by simp [results, Tryd.results11, go_sem, *]) rfl ⟨rfl, by go_grown⟩
/-- Two blocks of the same bits. -/
theorem bk_ext {x y : Nat → Nat} (hx : ∀ r, r < 8 → x r < 65536) (hy : ∀ r, r < 8 → y r < 65536) (h : ∀ n h, n < 64 → h < 2 → (x (n / 8)).testBit (2 * (n % 8) + h) = (y (n / 8)).testBit (2 * (n % 8) + h)) : ∀ r, r < 8 → x r = y r := fun r hr => by
  refine Nat.eq_of_testBit_eq fun i => ?_
  by_cases hi : i < 16
  · have := h (8 * r + i / 2) (i % 2) (by omega) (by omega)
    rw [show (8 * r + i / 2) / 8 = r by omega, show 2 * ((8 * r + i / 2) % 8) + i % 2 = i by omega] at this
    exact this
  · have e : (65536 : Nat) ≤ 2 ^ i := Nat.le_trans (by decide : 65536 ≤ 2 ^ 16) (Nat.pow_le_pow_right (by decide) (by omega))
    rw [Nat.testBit_lt_two_pow (Nat.lt_of_lt_of_le (hx r hr) e), Nat.testBit_lt_two_pow (Nat.lt_of_lt_of_le (hy r hr) e)]
theorem bk_eq {x y : Nat → Nat} (h : ∀ r, r < 8 → x r = y r) : bkA x = bkA y := by
  unfold bkA
  rw [h 0 (by decide), h 1 (by decide), h 2 (by decide), h 3 (by decide), h 4 (by decide), h 5 (by decide), h 6 (by decide), h 7 (by decide)]
def oneF (i : Nat) : Nat := if i = 0 then 1 else 0
def allF (_ : Nat) : Nat := 4294967295
theorem aw_fin : ∀ n : Fin 64, ∀ h : Fin 2, (decide (h.val < Ce.H 1) && (sel 0 0 1 0 h.val ((plN (ofB oneF) h.val).testBit n.val)).testBit (numS 1 (ofB oneF) (NB 1 h.val) n.val)) = (ofB oneF (n.val / 8)).testBit (2 * (n.val % 8) + h.val) := by decide +kernel
theorem aw_rows : ∀ r : Fin 8, ofB oneF r.val < 65536 := by decide
theorem aw_step {Y : Nat → Nat} (h : BStp 1 0 0 1 0 (ofB oneF) Y) : bkA Y = bkA (ofB oneF) :=
  bk_eq (bk_ext h.lt (fun r hr => aw_rows ⟨r, hr⟩) fun n k hn hk => by
    rw [h.bit n k hn hk]
    exact aw_fin ⟨n, hn⟩ ⟨k, hk⟩)
theorem aw_mid : lfT (ofB allF) 2 2 4 = 4294967295 := by decide +kernel
theorem all_rows : ∀ r : Fin 8, ofB allF r.val < 65536 := by decide
theorem aw_good : Fl.Good 1 0 0 1 0 := ⟨.inl rfl, by decide, by decide, by decide, by decide, by decide +kernel⟩
theorem eql_self (x : Nat → Nat) (w : World) : (binOp .eql 27 (.agg (bkA x)) (.agg (bkA x))).run Tryd.prog w = .ok (.bool true) w := by
  rw [eql_bk]
  simp
set_option maxRecDepth 100000 in
set_option maxHeartbeats 4000000 in
theorem awake10 (w : World) (hs : SixIs w) : Calls Tryd.prog 9 #[] w fun e w' => e = .returned (.bool true) ∧ Below w.heap.size w w' := by
  have hnw := bnew_any 1 0 0 1 0 aw_good w hs
  have hof : ∀ W, Calls Tryd.prog 10 #[.agg #[.int .u32 1, .int .u32 0, .int .u32 0, .int .u32 0]] W fun e w' => e = .returned (.agg (bkA (ofB oneF))) ∧ Below W.heap.size W w' := fun W => bof_any oneF (by intro i _; unfold oneF; split <;> decide) W
  go_enter Tryd.func9, Tryd.ntmps9
  go_wp2_with fail
  refine hnw.mono ?_
  rintro e w1 ⟨g, rfl, hK, hgg, hb1⟩
  clear hnw
  unfold bkA at hof
  go_wp2_with fail
  refine (hof _).mono ?_
  rintro e w2 ⟨rfl, hb2⟩
  have hK2 := hK.under hb2
  have hb12 := hb1.trans (hb2.mono hb1.size)
  clear hof hK
  go_upto_region 4 with fail
  obtain ⟨W, hW⟩ : ∃ W, w2.alloc (.cells #[.int .u16 (ofB oneF 0), .int .u16 (ofB oneF 1), .int .u16 (ofB oneF 2), .int .u16 (ofB oneF 3), .int .u16 (ofB oneF 4), .int .u16 (ofB oneF 5), .int .u16 (ofB oneF 6), .int .u16 (ofB oneF 7)] 27) = W := ⟨_, rfl⟩
  have kx : Blk W w2.heap.size 27 (bkA (ofB oneF)) := by rw [← hW]; exact Blk.newAt w2 _ _ _ rfl
  have hb2W : Below w2.heap.size w2 W := by rw [← hW]; go_grown
  change Code.wp _ _ _ _ (w2.alloc (.cells #[.int .u16 (ofB oneF 0), .int .u16 (ofB oneF 1), .int .u16 (ofB oneF 2), .int .u16 (ofB oneF 3), .int .u16 (ofB oneF 4), .int .u16 (ofB oneF 5), .int .u16 (ofB oneF 6), .int .u16 (ofB oneF 7)] 27))
  rw [hW]
  clear hW
  have hK3 := hK2.under hb2W
  have hbW := hb12.trans (hb2W.mono hb12.size)
  have hxl := kx.lt
  have hrow : ∀ r, r < 8 → ofB oneF r < 65536 := fun r hr => aw_rows ⟨r, hr⟩
  have hstp : ∀ W', Below W.heap.size W.drew W' → Calls Tryd.prog 26 #[.pointer (some ⟨g, 0, none⟩), .agg (bkA (ofB oneF))] W' fun e w' => e = .returned (.agg (bkA (ofB oneF))) ∧ Below W.heap.size W.drew w' := fun W' hb => by
    refine (bstep_any w1.heap.size g 1 0 0 1 0 aw_good (ofB oneF) hrow W' (hK3.under ((show Below W.heap.size W W.drew from ⟨rfl, rfl, rfl, Nat.le_refl _, fun _ _ => rfl⟩).trans hb))).mono ?_
    rintro e w' ⟨Y, rfl, hY, hb'⟩
    exact ⟨by rw [aw_step hY], hb.trans (hb'.mono hb.size)⟩
  have hemp : ∀ W', Below W.heap.size W.drew W' → Calls Tryd.prog 18 #[.agg (bkA (ofB oneF))] W' fun e w' => e = .returned (.bool false) ∧ Below W.heap.size W.drew w' := fun W' hb => by
    refine (empty_any (ofB oneF) W').mono ?_
    rintro e w' ⟨rfl, hb'⟩
    exact ⟨by rw [show nilB (ofB oneF) = false by decide], hb.trans (hb'.mono hb.size)⟩
  have hsta : ∀ W', Below W.heap.size W.drew W' → Calls Tryd.prog 17 #[.agg (bkA (ofB oneF)), .int .i64 0, .int .i64 0] W' fun e w' => e = .returned (.int .i64 1) ∧ Below W.heap.size W.drew w' := fun W' hb => by
    refine (bstate_in (ofB oneF) hrow 0 0 (by decide) (by decide) W').mono ?_
    rintro e w' ⟨rfl, hb'⟩
    exact ⟨by rw [show ofB oneF 0 / 2 ^ (2 * 0) % 4 = 1 by decide]; rfl, hb.trans (hb'.mono hb.size)⟩
  have hofa : ∀ W', Below W.heap.size W.drew W' → Calls Tryd.prog 10 #[.agg #[.int .u32 4294967295, .int .u32 4294967295, .int .u32 4294967295, .int .u32 4294967295]] W' fun e w' => e = .returned (.agg (bkA (ofB allF))) ∧ Below W.heap.size W.drew w' := fun W' hb => by
    refine (bof_any allF (fun i _ => by unfold allF; decide) W').mono ?_
    rintro e w' ⟨rfl, hb'⟩
    exact ⟨rfl, hb.trans (hb'.mono hb.size)⟩
  have hmid : ∀ W', Below W.heap.size W.drew W' → Calls Tryd.prog 14 #[.agg (bkA (ofB allF))] W' fun e w' => e = .returned (.int .u32 4294967295) ∧ Below W.heap.size W.drew w' := fun W' hb => by
    refine (middle_any (ofB allF) (fun r hr => all_rows ⟨r, hr⟩) W').mono ?_
    rintro e w' ⟨rfl, hb'⟩
    exact ⟨by rw [aw_mid]; rfl, hb.trans (hb'.mono hb.size)⟩
  have heq := eql_self (ofB oneF)
  clear hK2 hb12 hb2 hb1 hK3 hb2W hrow
  unfold bkA at hstp hemp hsta hofa hmid heq kx
  generalize ofB oneF = x at *
  generalize ofB allF = y at *
  have c0 : W.cell? ⟨w2.heap.size, 0, none⟩ = some (.int .u16 (x 0)) := kx.cell 0
  have c1 : W.cell? ⟨w2.heap.size, 1, none⟩ = some (.int .u16 (x 1)) := kx.cell 1
  have c2 : W.cell? ⟨w2.heap.size, 2, none⟩ = some (.int .u16 (x 2)) := kx.cell 2
  have c3 : W.cell? ⟨w2.heap.size, 3, none⟩ = some (.int .u16 (x 3)) := kx.cell 3
  have c4 : W.cell? ⟨w2.heap.size, 4, none⟩ = some (.int .u16 (x 4)) := kx.cell 4
  have c5 : W.cell? ⟨w2.heap.size, 5, none⟩ = some (.int .u16 (x 5)) := kx.cell 5
  have c6 : W.cell? ⟨w2.heap.size, 6, none⟩ = some (.int .u16 (x 6)) := kx.cell 6
  have c7 : W.cell? ⟨w2.heap.size, 7, none⟩ = some (.int .u16 (x 7)) := kx.cell 7
  have keep : ∀ w', Below W.heap.size W.drew w' → w'.cell? ⟨w2.heap.size, 0, none⟩ = some (.int .u16 (x 0)) ∧ w'.cell? ⟨w2.heap.size, 1, none⟩ = some (.int .u16 (x 1)) ∧ w'.cell? ⟨w2.heap.size, 2, none⟩ = some (.int .u16 (x 2)) ∧ w'.cell? ⟨w2.heap.size, 3, none⟩ = some (.int .u16 (x 3)) ∧ w'.cell? ⟨w2.heap.size, 4, none⟩ = some (.int .u16 (x 4)) ∧ w'.cell? ⟨w2.heap.size, 5, none⟩ = some (.int .u16 (x 5)) ∧ w'.cell? ⟨w2.heap.size, 6, none⟩ = some (.int .u16 (x 6)) ∧ w'.cell? ⟨w2.heap.size, 7, none⟩ = some (.int .u16 (x 7)) := fun w' hb => ⟨(hb.cell (p := ⟨w2.heap.size, 0, none⟩) hxl).trans c0, (hb.cell (p := ⟨w2.heap.size, 1, none⟩) hxl).trans c1, (hb.cell (p := ⟨w2.heap.size, 2, none⟩) hxl).trans c2, (hb.cell (p := ⟨w2.heap.size, 3, none⟩) hxl).trans c3, (hb.cell (p := ⟨w2.heap.size, 4, none⟩) hxl).trans c4, (hb.cell (p := ⟨w2.heap.size, 5, none⟩) hxl).trans c5, (hb.cell (p := ⟨w2.heap.size, 6, none⟩) hxl).trans c6, (hb.cell (p := ⟨w2.heap.size, 7, none⟩) hxl).trans c7⟩
  clear kx
  go_region_held3 (fun w' => w'.cell? ⟨w2.heap.size, 0, none⟩ = some (.int .u16 (x 0)) ∧ w'.cell? ⟨w2.heap.size, 1, none⟩ = some (.int .u16 (x 1)) ∧ w'.cell? ⟨w2.heap.size, 2, none⟩ = some (.int .u16 (x 2)) ∧ w'.cell? ⟨w2.heap.size, 3, none⟩ = some (.int .u16 (x 3)) ∧ w'.cell? ⟨w2.heap.size, 4, none⟩ = some (.int .u16 (x 4)) ∧ w'.cell? ⟨w2.heap.size, 5, none⟩ = some (.int .u16 (x 5)) ∧ w'.cell? ⟨w2.heap.size, 6, none⟩ = some (.int .u16 (x 6)) ∧ w'.cell? ⟨w2.heap.size, 7, none⟩ = some (.int .u16 (x 7))) (first | exact keep _ (Below.refl _ _) | exact ⟨c0, c1, c2, c3, c4, c5, c6, c7⟩)
      (first
        | (go_at_call 10; refine Calls.mono (hofa _ (by first | exact hkb | exact Below.refl _ _)) ?_; rintro e wZ ⟨rfl, hbZ⟩; have hkb : Below W.heap.size W.drew wZ := hbZ; clear hbZ; obtain ⟨c0, c1, c2, c3, c4, c5, c6, c7⟩ := keep _ hkb)
        | (go_at_call 14; refine Calls.mono (hmid _ (by first | exact hkb | exact Below.refl _ _)) ?_; rintro e wZ ⟨rfl, hbZ⟩; have hkb : Below W.heap.size W.drew wZ := hbZ; clear hbZ; obtain ⟨c0, c1, c2, c3, c4, c5, c6, c7⟩ := keep _ hkb)
        | (go_at_call 26; refine Calls.mono (hstp _ (by first | exact hkb | exact Below.refl _ _)) ?_; rintro e wZ ⟨rfl, hbZ⟩; have hkb : Below W.heap.size W.drew wZ := hbZ; clear hbZ; obtain ⟨c0, c1, c2, c3, c4, c5, c6, c7⟩ := keep _ hkb)
        | (go_at_call 18; refine Calls.mono (hemp _ (by first | exact hkb | exact Below.refl _ _)) ?_; rintro e wZ ⟨rfl, hbZ⟩; have hkb : Below W.heap.size W.drew wZ := hbZ; clear hbZ; obtain ⟨c0, c1, c2, c3, c4, c5, c6, c7⟩ := keep _ hkb)
        | (go_at_call 17; refine Calls.mono (hsta _ (by first | exact hkb | exact Below.refl _ _)) ?_; rintro e wZ ⟨rfl, hbZ⟩; have hkb : Below W.heap.size W.drew wZ := hbZ; clear hbZ; obtain ⟨c0, c1, c2, c3, c4, c5, c6, c7⟩ := keep _ hkb))
  all_goals
    have HF := Lib.hid (hbW.trans (((show Below W.heap.size W W.drew from ⟨rfl, rfl, rfl, Nat.le_refl _, fun _ _ => rfl⟩).trans hkb).mono hbW.size))
    go_wp2_with fail
    go_ret
    exact ⟨rfl, HF.out⟩
end Go.Proofs.YtcmfkdhadmfgkaaDoor.Bk

/- Blocks of leaves, bit by bit; two blocks that are the same around a place: the mathematics. -/
namespace Go.Proofs.YtcmfkdhadmfgkaaDoor.Bk
open Go.Proofs.YtcmfkdhadmfgkaaDoor.Si
open Go.Proofs.YtcmfkdhadmfgkaaDoor.Ce (sh)
open Go.Proofs.YtcmfkdhadmfgkaaDoor.Fl (C)

theorem mod256_bit (f p m : Nat) (hm : m < 8) : (f / 2 ^ p % 256).testBit m = f.testBit (p + m) := by
  rw [show (256 : Nat) = 2 ^ 8 from rfl, Nat.testBit_mod_two_pow, Nat.testBit_div_two_pow]
  simp [hm, Nat.add_comm]
theorem ofB_low (f : Nat → Nat) (r : Nat) (h : r < 4) : ofB f r = 2 ^ 8 * (f 1 / 2 ^ (8 * r) % 256) + f 0 / 2 ^ (8 * r) % 256 := by
  have e1 : r / 4 = 0 := by omega
  have e2 : r % 4 = r := by omega
  unfold ofB con
  rw [e1, e2]
  simp
  omega
theorem ofB_high (f : Nat → Nat) (r : Nat) (h : 4 ≤ r) (h8 : r < 8) : ofB f r = 2 ^ 8 * (f 3 / 2 ^ (8 * (r - 4)) % 256) + f 2 / 2 ^ (8 * (r - 4)) % 256 := by
  have e1 : r / 4 = 1 := by omega
  have e2 : r % 4 = r - 4 := by omega
  unfold ofB con
  rw [e1, e2]
  simp
  omega
theorem two_bit (hi lo i : Nat) (h : lo < 256) : (2 ^ 8 * hi + lo).testBit i = if i < 8 then lo.testBit i else hi.testBit (i - 8) := Nat.testBit_two_pow_mul_add hi h i
theorem ofB_bit (f : Nat → Nat) (a b h : Nat) (ha : a < 8) (hb : b < 8) (hh : h < 2) : (ofB f b).testBit (2 * a + h) = (f (b / 4 * 2 + a / 4)).testBit (8 * (b % 4) + (2 * (a % 4) + h)) := by
  have m0 : ∀ z : Nat, z % 256 < 256 := fun z => Nat.mod_lt _ (by decide)
  by_cases h4 : b < 4
  · rw [ofB_low f b h4, two_bit _ _ _ (m0 _)]
    by_cases ha4 : a < 4
    · rw [if_pos (by omega), mod256_bit _ _ _ (by omega), show b / 4 * 2 + a / 4 = 0 by omega, show b % 4 = b by omega, show a % 4 = a by omega]
    · rw [if_neg (by omega), mod256_bit _ _ _ (by omega), show b / 4 * 2 + a / 4 = 1 by omega, show b % 4 = b by omega, show 2 * (a % 4) + h = 2 * a + h - 8 by omega]
  · rw [ofB_high f b (by omega) hb, two_bit _ _ _ (m0 _)]
    by_cases ha4 : a < 4
    · rw [if_pos (by omega), mod256_bit _ _ _ (by omega), show b / 4 * 2 + a / 4 = 2 by omega, show b % 4 = b - 4 by omega, show a % 4 = a by omega]
    · rw [if_neg (by omega), mod256_bit _ _ _ (by omega), show b / 4 * 2 + a / 4 = 3 by omega, show b % 4 = b - 4 by omega, show 2 * (a % 4) + h = 2 * a + h - 8 by omega]
theorem ofB_lt (f : Nat → Nat) (r : Nat) (h : r < 8) : ofB f r < 65536 := by
  have m0 : ∀ z : Nat, z % 256 < 256 := fun z => Nat.mod_lt _ (by decide)
  by_cases h4 : r < 4
  · rw [ofB_low f r h4]
    have := m0 (f 1 / 2 ^ (8 * r))
    have := m0 (f 0 / 2 ^ (8 * r))
    omega
  · rw [ofB_high f r (by omega) h]
    have := m0 (f 3 / 2 ^ (8 * (r - 4)))
    have := m0 (f 2 / 2 ^ (8 * (r - 4)))
    omega
theorem plN_at (x : Nat → Nat) (h a b : Nat) (ha : a < 8) (hb : b < 8) : (plN x h).testBit (8 * b + a) = (x b).testBit (2 * a + h) := by
  rw [plN_bit, show (8 * b + a) / 8 = b by omega, show (8 * b + a) % 8 = a by omega]
  simp; omega
theorem liv_at (x : Nat → Nat) (a b h : Nat) (ha : a < 8) (hb : b < 8) : liv x ((a : Int), (b : Int), (h : Int)) = (x b).testBit (2 * a + h) := by
  unfold liv
  dsimp only
  rw [decide_eq_true (by omega)]
  simp
/-- Two blocks whose neighbours are the same around two places. -/
theorem num_congr (l : Int) (x y : Nat → Nat) (n m : Nat) (hn : n < 64) (hm : m < 64) : ∀ L : List C, (∀ e ∈ L, 0 ≤ e.2.2 ∧ liv x (sh ((n % 8 : Nat) : Int) ((n / 8 : Nat) : Int) e) = liv y (sh ((m % 8 : Nat) : Int) ((m / 8 : Nat) : Int) e)) → numAt (dgs l x L) n = numAt (dgs l y L) m
  | [], _ => by simp [dgs, numAt]
  | e :: L, h => by
    have ih := num_congr l x y n m hn hm L fun e he => h e (by simp [he])
    obtain ⟨h0, he⟩ := h e (by simp)
    have hb : (nbP x e).testBit n = (nbP y e).testBit m := by rw [nbP_liv x e n hn h0, nbP_liv y e m hm h0, he]
    by_cases h1 : l = 1
    · subst h1
      unfold dgs
      rw [if_pos rfl, if_pos rfl, numAt_app, numAt_app, ih, hb, dgs_len_hex, dgs_len_hex]
    · unfold dgs
      rw [if_neg h1, if_neg h1, addL_num, addL_num, ih, hb]
theorem st_eq {u v p q : Nat} (h : ∀ h, h < 2 → u.testBit (p + h) = v.testBit (q + h)) : u / 2 ^ p % 4 = v / 2 ^ q % 4 := by
  refine Nat.eq_of_testBit_eq fun i => ?_
  rw [show (4 : Nat) = 2 ^ 2 from rfl, Nat.testBit_mod_two_pow, Nat.testBit_mod_two_pow, Nat.testBit_div_two_pow, Nat.testBit_div_two_pow]
  by_cases hi : i < 2
  · rw [Nat.add_comm i p, Nat.add_comm i q, h i hi]
  · simp [hi]
end Go.Proofs.YtcmfkdhadmfgkaaDoor.Bk

/- Contracts: a block's Quarters; the law's Is. -/
namespace Go.Proofs.YtcmfkdhadmfgkaaDoor.Bk
open Go.RowKit Go.Proofs.YtcmfkdhadmfgkaaDoor.Ba Go.Proofs.YtcmfkdhadmfgkaaDoor.Si

theorem qA_get (f : Nat → Nat) (r : Nat) (h : r < 4) : (qA f)[r]? = some (.int .u32 (f r)) := by
  have : r = 0 ∨ r = 1 ∨ r = 2 ∨ r = 3 := by omega
  rcases this with rfl | rfl | rfl | rfl <;> rfl
theorem qA_set (f : Nat → Nat) (r v : Nat) (h : r < 4) : (qA f).setIfInBounds r (.int .u32 v) = qA (fun i => if i = r then v else f i) := by
  have : r = 0 ∨ r = 1 ∨ r = 2 ∨ r = 3 := by omega
  rcases this with rfl | rfl | rfl | rfl <;> rfl
def quF (x : Nat → Nat) (i : Nat) : Nat := lfT x (i % 2 * 4) (i / 2 * 4) 4
def QtR (w : World) (x : Nat → Nat) (t : Value) (wr : World) : Prop := ∃ (k : Nat) (f : Nat → Nat), k ≤ 4 ∧ t = .int .i64 k ∧ (∀ i, i < 4 → f i = if i < k then quF x i else 0) ∧ Blk wr (w.heap.size + 2) 30 (qA f) ∧ Blk wr (w.heap.size + 1) 30 (qA fun _ => 0) ∧ Blk wr w.heap.size 27 (bkA x) ∧ Below w.heap.size w wr
set_option maxRecDepth 100000 in
set_option maxHeartbeats 2000000 in
theorem quarters_any (x : Nat → Nat) (hx : ∀ r, r < 8 → x r < 65536) (w : World) :
    Calls Tryd.prog 13 #[.agg (bkA x)] w fun e w' => e = .returned (.agg (qA (quF x))) ∧ Below w.heap.size w w' := by
  have HX := Lib.hid hx
  clear hx
  go_enter Tryd.func13, Tryd.ntmps13
  go_upto_region 2 with fail
  obtain ⟨W0, hW0⟩ : ∃ W0, ((w.alloc (.cells (bkA x) 27)).alloc (.cells (qA fun _ => 0) 30)).alloc (.cells (qA fun _ => 0) 30) = W0 := ⟨_, rfl⟩
  have kx : Blk W0 w.heap.size 27 (bkA x) := by rw [← hW0]; exact ((Blk.newAt w _ _ _ rfl).alloc _).alloc _
  have k1 : Blk W0 (w.heap.size + 1) 30 (qA fun _ => 0) := by rw [← hW0]; exact (Blk.newAt _ _ _ _ (by simp)).alloc _
  have k2 : Blk W0 (w.heap.size + 2) 30 (qA fun _ => 0) := by rw [← hW0]; exact Blk.newAt _ _ _ _ (by simp)
  have hB0 : Below w.heap.size w W0 := by rw [← hW0]; go_grown
  change Code.wp _ _ _ _ (((w.alloc (.cells (bkA x) 27)).alloc (.cells (qA fun _ => 0) 30)).alloc (.cells (qA fun _ => 0) 30))
  rw [hW0]
  clear hW0
  go_wp2_with fail
  go_loopw [5] (fun t wr => QtR w x t wr) (fun t _ => 4 - (intOf t).toNat)
  case atStart => exact ⟨0, fun _ => 0, by omega, rfl, fun i _ => by simp, k2, k1, kx, hB0⟩
  case round =>
    clear k1 k2 kx hB0
    obtain ⟨k, f, hk, rfl, hf, k2, k1, kx, hB⟩ := hrel
    by_cases hlt : k < 4
    · have hdb : decide ((k : Int) < 4) = true := by simp; omega
      have c0 := (kx.cell 0).trans (bkA_get x 0 (by decide))
      have c1 := (kx.cell 1).trans (bkA_get x 1 (by decide))
      have c2 := (kx.cell 2).trans (bkA_get x 2 (by decide))
      have c3 := (kx.cell 3).trans (bkA_get x 3 (by decide))
      have c4 := (kx.cell 4).trans (bkA_get x 4 (by decide))
      have c5 := (kx.cell 5).trans (bkA_get x 5 (by decide))
      have c6 := (kx.cell 6).trans (bkA_get x 6 (by decide))
      have c7 := (kx.cell 7).trans (bkA_get x 7 (by decide))
      have hxl := kx.lt
      have hqf : quF x k = lfT x (k % 2 * 4) (k / 2 * 4) 4 := rfl
      have hk1 : k % 2 * 4 ≤ 4 := by omega
      have hk2 : k / 2 * 4 ≤ 4 := by omega
      have hco := corner_any k hlt
      have hlf := fun W => leaf_any x HX.out (k % 2 * 4) (k / 2 * 4) hk1 hk2 W
      rw [← hqf] at hlf
      have hk4 : (k : Int) < 4 := by omega
      have HF := Lib.hid (show ∀ i, i < 4 → (if i = k then quF x k else f i) = if i < k + 1 then quF x i else 0 from fun i hi => by
        by_cases e : i = k
        · rw [if_pos e, if_pos (by omega), e]
        · rw [if_neg e, hf i hi]
          by_cases e2 : i < k
          · rw [if_pos e2, if_pos (by omega)]
          · rw [if_neg e2, if_neg (by omega)])
      clear hqf hk1 hk2 hf
      generalize k % 2 * 4 = ca at *
      generalize k / 2 * 4 = cb at *
      generalize quF x k = qk at *
      have hl2 := k2.lt
      have hz := k2.frozen k
      have hcq := (k2.cell k).trans (qA_get f k hlt)
      unfold bkA at hlf
      go_upto_region 5 with fail
      go_region_law
        (first
          | (go_simp; go_at_call 42; (with_reducible refine Calls.mono (hco _) ?_); rintro e w' ⟨rfl, rfl⟩)
          | (go_simp; go_at_call 44; (with_reducible refine Calls.mono (hlf _) ?_); rintro e w9 ⟨rfl, hb9⟩; have hb9 : Below wr.heap.size wr w9 := (show Below wr.heap.size wr wr.drew from ⟨rfl, rfl, rfl, Nat.le_refl _, fun _ _ => rfl⟩).trans hb9; have k29 := k2.under hb9; have hl9 := k29.lt; have hz9 := k29.frozen k; have hcq9 := (k29.cell k).trans (qA_get f k hlt)))
      all_goals
        have k29s : Blk (w9.setCell ⟨w.heap.size + 2, k, none⟩ (.int .u32 qk)) (w.heap.size + 2) 30 (qA fun i => if i = k then qk else f i) := by
          rw [← qA_set f k _ hlt]
          exact k29.set_ k _
        have k19 := (k1.under hb9).far (p := ⟨w.heap.size + 2, k, none⟩) (by show w.heap.size + 1 ≠ w.heap.size + 2; omega) (.int .u32 qk)
        have kx9 := (kx.under hb9).far (p := ⟨w.heap.size + 2, k, none⟩) (by show w.heap.size ≠ w.heap.size + 2; omega) (.int .u32 qk)
        have hb99 := (hB.trans (hb9.mono hB.size)).setCell (p := ⟨w.heap.size + 2, k, none⟩) (by show w.heap.size ≤ w.heap.size + 2; omega) (.int .u32 qk)
        have H1 := Lib.hid k29s
        have H2 := Lib.hid k19
        have H3 := Lib.hid kx9
        have H4 := Lib.hid hb99
        clear k29s k19 kx9 hb99 hco hlf k29 k2 k1 kx hB
      all_goals go_wp2_with fail
      all_goals exact ⟨⟨k + 1, _, by omega, by go_num, HF.out, H1.out, H2.out, H3.out, H4.out⟩, by simp [intOf]; omega⟩
    · obtain rfl : k = 4 := by omega
      have e : qA f = qA (quF x) := by
        unfold qA
        rw [hf 0 (by decide), hf 1 (by decide), hf 2 (by decide), hf 3 (by decide)]
        rfl
      rw [e] at k2
      have hl1 := k1.lt
      have hl2 := k2.lt
      have d0 := (k2.cell 0).trans (qA_get _ 0 (by decide))
      have e0 := (k1.cell 0).trans (qA_get _ 0 (by decide))
      have z0 := k1.frozen 0
      have d1 := (k2.cell 1).trans (qA_get _ 1 (by decide))
      have e1 := (k1.cell 1).trans (qA_get _ 1 (by decide))
      have z1 := k1.frozen 1
      have d2 := (k2.cell 2).trans (qA_get _ 2 (by decide))
      have e2 := (k1.cell 2).trans (qA_get _ 2 (by decide))
      have z2 := k1.frozen 2
      have d3 := (k2.cell 3).trans (qA_get _ 3 (by decide))
      have e3 := (k1.cell 3).trans (qA_get _ 3 (by decide))
      have z3 := k1.frozen 3
      clear hf e k1 k2 kx
      go_wp2_with fail
      exact bodyPost_ret (v := .agg (qA (quF x))) (by simp [results, Tryd.results13, go_sem, qA, *]) rfl ⟨rfl, ((((hB.setCell (p := ⟨w.heap.size + 1, 0, none⟩) (Nat.le_succ _) _).setCell (p := ⟨w.heap.size + 1, 1, none⟩) (Nat.le_succ _) _).setCell (p := ⟨w.heap.size + 1, 2, none⟩) (Nat.le_succ _) _).setCell (p := ⟨w.heap.size + 1, 3, none⟩) (Nat.le_succ _) _)⟩
/-! Is. -/
def IsR (w : World) (f : Nat → Nat) (g : Nat) (t : Value) (wr : World) : Prop := ∃ k : Nat, k ≤ 4 ∧ t = .int .i64 k ∧ (∀ i, i < 4 → wr.cell? ⟨g, i, none⟩ = some (.int .u32 (f i))) ∧ g < wr.heap.size ∧ Below w.heap.size w wr
set_option maxRecDepth 100000 in
theorem is_any (f : Nat → Nat) (g cap : Nat) (w : World) (hc : ∀ i, i < 4 → w.cell? ⟨g, i, none⟩ = some (.int .u32 (f i))) (hg : g < w.heap.size) :
    Calls Tryd.prog 27 #[.agg (qA f), .slice (some ⟨g, 0, none⟩) 4 cap] w fun e w' => e = .returned (.int .i64 0) ∧ Below w.heap.size w w' := by
  have hb0 : Below w.heap.size w (w.alloc (.cells (qA f) 30)) := by go_grown
  have kf := Blk.newAt w 30 (qA f) _ rfl
  have hc0 : ∀ i, i < 4 → (w.alloc (.cells (qA f) 30)).cell? ⟨g, i, none⟩ = some (.int .u32 (f i)) := fun i hi => (hb0.cell (p := ⟨g, i, none⟩) hg).trans (hc i hi)
  have hg0 : g < (w.alloc (.cells (qA f) 30)).heap.size := Nat.lt_of_lt_of_le hg hb0.size
  have f0 := (kf.cell 0).trans (qA_get f 0 (by decide))
  have f1 := (kf.cell 1).trans (qA_get f 1 (by decide))
  have f2 := (kf.cell 2).trans (qA_get f 2 (by decide))
  have f3 := (kf.cell 3).trans (qA_get f 3 (by decide))
  have hl := kf.lt
  clear kf hc hg
  go_enter Tryd.func27, Tryd.ntmps27
  go_upto_region 1 with fail
  generalize w.alloc (.cells (qA f) 30) = W at *
  go_wp2_with fail
  clear f0 f1 f2 f3 hl
  go_loopw [8] (fun t wr => IsR w f g t wr) (fun t _ => 4 - (intOf t).toNat)
  case atStart => exact ⟨0, Nat.zero_le _, rfl, hc0, hg0, hb0⟩
  case round =>
    clear hc0 hg0 hb0
    obtain ⟨k, hk, rfl, hc, hg, hb⟩ := hrel
    by_cases hlt : k < 4
    · have hdb : decide ((k : Int) < 4) = true := by simp; omega
      have hidx := idx_q f k hlt
      have hck := hc k hlt
      have HC := Lib.hid hc
      have hne : ((f k : Int) != (f k : Int)) = false := by simp
      clear hc
      go_wp2_with fail
      exact ⟨⟨k + 1, by omega, by go_num, HC.out, hg, hb⟩, by simp [intOf]; omega⟩
    · obtain rfl : k = 4 := by omega
      go_wp2_with fail
      go_ret
      exact ⟨rfl, hb⟩
end Go.Proofs.YtcmfkdhadmfgkaaDoor.Bk

/- A block, and the set of its cells: the same, a generation on, and as leaves: the mathematics. -/
namespace Go.Proofs.YtcmfkdhadmfgkaaDoor.Bk
open Go.Proofs.YtcmfkdhadmfgkaaDoor.Si
open Go.Proofs.YtcmfkdhadmfgkaaDoor.Ce (sh)
open Go.Proofs.YtcmfkdhadmfgkaaDoor.Fl (C valid besC nbC Stp nxT Wi)
open Go.Proofs.YtcmfkdhadmfgkaaDoor.Se (ofL mem_ofL rising_ofL Rising)
open Go.Proofs.YtcmfkdhadmfgkaaDoor.Tb (sel)

theorem mem_clM {q : Nat → Nat} {i : Nat} {c : C} : c ∈ clM q i ↔ ∃ n, n < 32 ∧ (q i).testBit n = true ∧ c = (((i % 2 * 4 + n / 2 % 4 : Nat) : Int), ((i / 2 * 4 + n / 2 / 4 : Nat) : Int), ((n % 2 : Nat) : Int)) := by
  unfold clM
  rw [List.mem_map]
  constructor
  · rintro ⟨n, hn, rfl⟩
    rw [mem_pos] at hn
    refine ⟨n, hn.1, hn.2, ?_⟩
    unfold cAt
    refine Prod.ext ?_ (Prod.ext ?_ ?_) <;> dsimp only <;> omega
  · rintro ⟨n, h1, h2, rfl⟩
    refine ⟨n, (mem_pos _ _ _).2 ⟨h1, h2⟩, ?_⟩
    unfold cAt
    refine Prod.ext ?_ (Prod.ext ?_ ?_) <;> dsimp only <;> omega
theorem mem_clT {l : Nat} {q : Nat → Nat} {c : C} : ∀ {k : Nat}, c ∈ clT l q k ↔ ∃ i, i < k ∧ c ∈ clM q i ∧ okH l c = true
  | 0 => by simp [clT]
  | k + 1 => by
    unfold clT
    rw [List.mem_append, mem_clT, List.mem_filter]
    constructor
    · rintro (⟨i, h1, h2⟩ | ⟨h1, h2⟩)
      · exact ⟨i, by omega, h2⟩
      · exact ⟨k, by omega, h1, h2⟩
    · rintro ⟨i, h1, h2, h3⟩
      by_cases e : i = k
      · subst e; exact .inr ⟨h2, h3⟩
      · exact .inl ⟨i, by omega, h2, h3⟩
/-- The cells of a block of leaves. -/
def clS (l : Nat) (q : Nat → Nat) : List C := ofL (clT l q 4)
theorem val_half {l : Nat} (hl : l = 1 ∨ l = 2 ∨ l = 3) {a b h : Int} (hh : 0 ≤ h ∧ h < 2) : valid l (a, b, h) ↔ okH l (a, b, h) = true := by
  unfold valid okH
  simp only [Bool.or_eq_true, decide_eq_true_eq, beq_iff_eq]
  split <;> omega
theorem mem_clS {l : Nat} (hl : l = 1 ∨ l = 2 ∨ l = 3) {q : Nat → Nat} {c : C} : c ∈ clS l q ↔ valid l c ∧ liv (ofB q) c = true := by
  unfold clS
  rw [mem_ofL, mem_clT]
  constructor
  · rintro ⟨i, hi, hc, ho⟩
    obtain ⟨n, hn, hb, rfl⟩ := mem_clM.1 hc
    refine ⟨(val_half hl (by omega)).2 ho, ?_⟩
    rw [liv_at _ _ _ _ (by omega) (by omega), ofB_bit _ _ _ _ (by omega) (by omega) (by omega)]
    rw [show (i / 2 * 4 + n / 2 / 4) / 4 * 2 + (i % 2 * 4 + n / 2 % 4) / 4 = i by omega, show 8 * ((i / 2 * 4 + n / 2 / 4) % 4) + (2 * ((i % 2 * 4 + n / 2 % 4) % 4) + n % 2) = n by omega]
    exact hb
  · rintro ⟨hv, hl2⟩
    obtain ⟨a, b, h⟩ := c
    have hd : (0 ≤ a ∧ a < 8) ∧ 0 ≤ b ∧ b < 8 := by
      unfold liv at hl2
      simp only [Bool.and_eq_true, decide_eq_true_eq] at hl2
      exact hl2.1
    have hh : 0 ≤ h ∧ h < 2 := by unfold valid at hv; dsimp only at hv; split at hv <;> omega
    obtain ⟨a, rfl⟩ : ∃ k : Nat, a = k := ⟨a.toNat, by omega⟩
    obtain ⟨b, rfl⟩ : ∃ k : Nat, b = k := ⟨b.toNat, by omega⟩
    obtain ⟨h, rfl⟩ : ∃ k : Nat, h = k := ⟨h.toNat, by omega⟩
    rw [liv_at _ _ _ _ (by omega) (by omega), ofB_bit _ _ _ _ (by omega) (by omega) (by omega)] at hl2
    refine ⟨b / 4 * 2 + a / 4, by omega, mem_clM.2 ⟨_, ?_, hl2, ?_⟩, (val_half hl hh).1 hv⟩
    · omega
    · refine Prod.ext ?_ (Prod.ext ?_ ?_) <;> dsimp only <;> omega
theorem clS_rising (l : Nat) (q : Nat → Nat) : Rising (clS l q) := rising_ofL _
theorem clS_wi {l : Nat} (hl : l = 1 ∨ l = 2 ∨ l = 3) (q : Nat → Nat) : Wi 9 (clS l q) := fun c hc => by
  have h := ((mem_clS hl).1 hc).2
  unfold liv at h
  simp only [Bool.and_eq_true, decide_eq_true_eq] at h
  omega
theorem clS_len (l : Nat) (q : Nat → Nat) : (clS l q).length ≤ 128 := by
  have h1 := Se.ofL_len (clT l q 4)
  have h2 := clT_len l q 4
  unfold clS
  omega
theorem plc_at (a b h : Nat) (ha : a < 8) : plc (8 * b + a) (h : Int) = ((a : Int), (b : Int), (h : Int)) := by
  unfold plc
  rw [show (8 * b + a) % 8 = a by omega, show (8 * b + a) / 8 = b by omega]
/-- A generation on, at a place around which block and set are the same. -/
theorem step_mem {l b0 b1 s0 s1 : Nat} (hl : l = 1 ∨ l = 2 ∨ l = 3) {x Y : Nat → Nat} (hY : BStp l b0 b1 s0 s1 x Y) {S R : List C} (hR : Stp (nxT b0 b1 s0 s1) l S R) {a b h : Nat} (ha : a < 8) (hb : b < 8) (hh : h < 2)
    (hc : valid l ((a : Int), (b : Int), (h : Int)) → decide (((a : Int), (b : Int), (h : Int)) ∈ S) = liv x ((a : Int), (b : Int), (h : Int)))
    (hn : ∀ e ∈ besC l ((a : Int), (b : Int), (h : Int)), decide (e ∈ S) = liv x e) : decide (((a : Int), (b : Int), (h : Int)) ∈ R) = (Y b).testBit (2 * a + h) := by
  have hlI : (l : Int) = 1 ∨ (l : Int) = 2 ∨ (l : Int) = 3 := by omega
  have e := hY.bit (8 * b + a) h (by omega) hh
  rw [show (8 * b + a) / 8 = b by omega, show (8 * b + a) % 8 = a by omega, plN_at _ _ _ _ ha hb] at e
  rw [e, Bool.eq_iff_iff, decide_eq_true_eq, hR.2]
  by_cases hH : h < Ce.H l
  · have hv : valid l ((a : Int), (b : Int), (h : Int)) := by rw [← plc_at a b h ha]; exact H_val hH _
    have hnum := num_nb hlI (h := (h : Int)) (n := 8 * b + a) (x := x) (S := S) (by rw [plc_at a b h ha]; exact hv) (by omega) (by rw [plc_at a b h ha]; exact hn)
    rw [plc_at a b h ha] at hnum
    rw [hnum, hc hv, liv_at _ _ _ _ ha hb]
    unfold nxT
    dsimp only
    rw [Int.toNat_natCast]
    simp [hH, hv]
  · have hv : ¬ valid l ((a : Int), (b : Int), (h : Int)) := by
      unfold valid
      unfold Ce.H at hH
      dsimp only
      split at hH
      · next h1 => rw [if_pos h1]; omega
      · omega
    simp [hH, hv]
theorem dec_iff {p : Prop} [Decidable p] {b : Bool} (h : p ↔ b = true) : decide p = b := by
  rw [Bool.eq_iff_iff, decide_eq_true_eq]; exact h
/-- Of a whole block. -/
theorem step_all {l b0 b1 s0 s1 : Nat} (hl : l = 1 ∨ l = 2 ∨ l = 3) {q Y : Nat → Nat} (hY : BStp l b0 b1 s0 s1 (ofB q) Y) {R : List C} (hR : Stp (nxT b0 b1 s0 s1) l (clS l q) R) {a b h : Nat} (ha : a < 8) (hb : b < 8) (hh : h < 2) :
    decide (((a : Int), (b : Int), (h : Int)) ∈ R) = (Y b).testBit (2 * a + h) := by
  have hlI : (l : Int) = 1 ∨ (l : Int) = 2 ∨ (l : Int) = 3 := by omega
  by_cases hH : h < Ce.H l
  · have hv : valid l ((a : Int), (b : Int), (h : Int)) := by rw [← plc_at a b h ha]; exact H_val hH _
    refine step_mem hl hY hR ha hb hh (fun hv => dec_iff ?_) fun e he => dec_iff ?_
    · rw [mem_clS hl]; simp [hv]
    · have := (Fl.bes_mem hlI hv he).1
      rw [mem_clS hl]; simp [this]
  · have e := hY.bit (8 * b + a) h (by omega) hh
    rw [show (8 * b + a) / 8 = b by omega, show (8 * b + a) % 8 = a by omega] at e
    rw [e]
    refine dec_iff ?_
    rw [hR.2]
    have hv : ¬ valid l ((a : Int), (b : Int), (h : Int)) := by
      unfold valid
      unfold Ce.H at hH
      dsimp only
      split at hH
      · next h1 => rw [if_pos h1]; omega
      · omega
    simp [hH, hv]
/-! As leaves. -/
theorem lfT_dg (x : Nat → Nat) (a b : Nat) : ∀ k, lfT x a b k = dg 8 (fun r => x (b + r) / 2 ^ (2 * a) % 256) k
  | 0 => rfl
  | k + 1 => by unfold lfT; rw [dg_succ, lfT_dg x a b k]
theorem lfT_bit (x : Nat → Nat) (a b m : Nat) (hm : m < 32) : (lfT x a b 4).testBit m = (x (b + m / 8)).testBit (2 * a + m % 8) := by
  rw [lfT_dg, dg_bit (by decide) (fun i => Nat.mod_lt _ (by decide)), mod256_bit _ _ _ (Nat.mod_lt _ (by decide))]
  simp [hm]
theorem lf_of {Y : Nat → Nat} {R : List C} {a b : Nat} (h : ∀ i j k : Nat, i < 4 → j < 4 → k < 2 → decide ((((a + i : Nat) : Int), ((b + j : Nat) : Int), (k : Int)) ∈ R) = (Y (b + j)).testBit (2 * (a + i) + k)) :
    ofF (rlS R a b) 16 = lfT Y a b 4 := by
  refine ofF_eq _ (rlS_lt R a b) _ (Nat.lt_of_lt_of_le (lfT_lt Y a b 4) (by decide)) fun k hk => ?_
  rw [st_test, lfT_bit _ _ _ _ (by omega), lfT_bit _ _ _ _ (by omega)]
  have h0 := h (k % 4) (k / 4) 0 (by omega) (by omega) (by omega)
  have h1 := h (k % 4) (k / 4) 1 (by omega) (by omega) (by omega)
  rw [show b + 2 * k / 8 = b + k / 4 by omega, show 2 * a + 2 * k % 8 = 2 * (a + k % 4) + 0 by omega, show b + (2 * k + 1) / 8 = b + k / 4 by omega, show 2 * a + (2 * k + 1) % 8 = 2 * (a + k % 4) + 1 by omega, ← h0, ← h1]
  unfold rlS
  rw [show ((a + k % 4 : Nat) : Int) = (a : Int) + ((k % 4 : Nat) : Int) by omega, show ((b + k / 4 : Nat) : Int) = (b : Int) + ((k / 4 : Nat) : Int) by omega]
  simp only [show ((0 : Nat) : Int) = 0 from rfl, show ((1 : Nat) : Int) = 1 from rfl]
  generalize (a : Int) + ((k % 4 : Nat) : Int) = u
  generalize (b : Int) + ((k / 4 : Nat) : Int) = v
  by_cases g0 : (u, v, (0 : Int)) ∈ R <;> by_cases g1 : (u, v, (1 : Int)) ∈ R <;> simp [g0, g1]
end Go.Proofs.YtcmfkdhadmfgkaaDoor.Bk

/- The last step of a law of which 'Below' alone is known. -/
namespace Go.Proofs.YtcmfkdhadmfgkaaDoor.Ba
open Go.RowKit Go.WideShapes Go.ChangeShapes

section
variable {H : Type} {enc : TypeId × Value → H} {P : Program}
/-- Behind a call that turned nothing of what was there, the arguments read as they did. -/
theorem all_below (hl : laidOutB P = true) {W W' : World} (hb : Below W.heap.size W W') : ∀ {ts : List TypeId} {vs : List Value} {ds : List (DataW H)} {ps : List MemPlace},
    (∀ t ∈ ts, P.readableRec t = true ∧ t < P.types.size) → (∀ x ∈ ps, x.block < W.heap.size) → DataW.TrodAll enc P W 0 (fun _ => true) true ts vs ds ps → DataW.TrodAll enc P W' 0 (fun b => decide (b < W.heap.size)) true ts vs ds ps
  | [], _, _, _, _, _, h => by
    obtain ⟨rfl, rfl, rfl⟩ := trodAll_nil h
    exact trodAll_mk0
  | t :: ts, _, _, _, ht, hlt, h => by
    obtain ⟨v, vs, d, ds, p, q, rfl, rfl, rfl, h0, r⟩ := trodAll_cons h
    exact trodAll_cons_mk (Below.trod hl (ht t (by simp)).1 (ht t (by simp)).2 h0 hb (fun x hx => hlt x (by simp [hx]))) (all_below hl hb (fun u hu => ht u (by simp [hu])) (fun x hx => hlt x (by simp [hx])) r)

/-- THE LAST STEP OF A LAW: it answered true, and turned nothing of what was there. -/
theorem law_post (hl : laidOutB P = true) {f : Func} {s : ChangeSpec} {tb : TypeId} {W W' : World} {args : Array Value} {ds gs : List (DataW H)} {before : List MemPlace}
    (hvars : s.vars = []) (hrt : f.resultTypes = #[tb]) (hu : P.underlying tb = some .bool) (hts0 : (f.params.toList.all fun t => P.readableRec t && decide (t < P.types.size)) = true)
    (hW : DataW.Whole enc P f.params.toList s.vars false W args.toList ds gs before) (hb : Below W.heap.size W W')
    (hs : (s.fn H (ds ++ gs)).results = [.lit (.bool true)] ∧ (s.fn H (ds ++ gs)).args = ds ∧ (s.fn H (ds ++ gs)).vars = []) :
    s.post enc P f false true false false W args (.bool true) W' := by
  have hlt : ∀ x ∈ before, x.block < W.heap.size := fun x hx => hW.lt x hx
  have hts : ∀ t ∈ f.params.toList, P.readableRec t = true ∧ t < P.types.size := fun t ht => by
    have := List.all_eq_true.1 hts0 t ht
    simpa using this
  have hW' := hW
  obtain ⟨p, q, hA, hV, rfl, hz, hn⟩ := hW
  obtain ⟨h1, h2, h3⟩ := hs
  rw [hvars] at hV
  obtain ⟨rfl, rfl⟩ := trodVars_none hV
  refine ⟨ds, [], p ++ [], [], p, [], hW', ?_, ?_, ?_, World.keptBut_mono (fun x hx => ⟨hx, Or.inr (Or.inl (by simpa using hx))⟩) (hb.frame (fun x => x ∈ p ++ [])), fun h => by cases h⟩
  · rw [h1, hrt]
    exact trodAll_cons_mk (shut_bool hu true) trodAll_mk0
  · rw [h2]
    exact all_below hl hb hts (fun x hx => hlt x (by simpa using hx)) hA
  · rw [h3, hvars]
    rfl
end
theorem laidOut : laidOutB Tryd.prog = true := by kernel_rfl
theorem own : ownKnob Tryd.prog.godebug = none := by kernel_rfl
end Go.Proofs.YtcmfkdhadmfgkaaDoor.Ba

/- A list of four leaves as the reader reads it, opened to its cells; two of them held against each other; State out of the block. -/
namespace Go.Proofs.YtcmfkdhadmfgkaaDoor.Bk
open Go.RowKit Go.Proofs.YtcmfkdhadmfgkaaDoor.Ba Go.Proofs.YtcmfkdhadmfgkaaDoor.Si

section
open Go.ChangeShapes Go.WideShapes Go.Deep
theorem trod_four {H : Type} {enc : TypeId × Value → H} {P : Program} {w : World} {base : Nat} {spare : Nat → Bool} {held : Bool} {t e : TypeId} {fuel : Nat} {c0 c1 c2 c3 : Value} {x : DataW H × List MemPlace} (ht : P.underlying t = some (.array 4 e)) (hce : P.cellsOf e = 1)
    (h : DataW.trod enc P w base spare held fuel t [c0, c1, c2, c3] = some x) :
    ∃ y0 y1 y2 y3 n, x = (.agg [y0.1, y1.1, y2.1, y3.1], y0.2 ++ (y1.2 ++ (y2.2 ++ y3.2))) ∧ DataW.trod enc P w base spare held n e [c0] = some y0 ∧ DataW.trod enc P w base spare held n e [c1] = some y1 ∧ DataW.trod enc P w base spare held n e [c2] = some y2 ∧ DataW.trod enc P w base spare held n e [c3] = some y3 := by
  cases fuel with
  | zero => simp [DataW.trod] at h
  | succ n =>
    unfold DataW.trod at h
    rw [ht] at h
    have r4 : List.range 4 = [0, 1, 2, 3] := rfl
    simp [r4, hce] at h
    obtain ⟨_, h⟩ := h
    cases h0 : DataW.trod enc P w base spare held n e [c0] with
    | none => simp [h0] at h
    | some y0 =>
      cases h1 : DataW.trod enc P w base spare held n e [c1] with
      | none => simp [h0, h1] at h
      | some y1 =>
        cases h2 : DataW.trod enc P w base spare held n e [c2] with
        | none => simp [h0, h1, h2] at h
        | some y2 =>
          cases h3 : DataW.trod enc P w base spare held n e [c3] with
          | none => simp [h0, h1, h2, h3] at h
          | some y3 =>
            simp [h0, h1, h2, h3] at h
            exact ⟨y0, y1, y2, y3, n, h.symm, h0, h1, h2, h3⟩
theorem cellsL4 : Tryd.prog.cellsOf 23 = 4 := by kernel_rfl
theorem cellsU32 : Tryd.prog.cellsOf 22 = 1 := by kernel_rfl
theorem okWide_array4 {P : Program} {t e : TypeId} {w : World} {r : Reach} {b0 : Nat} {v : Value} {n : Nat} (ht : P.underlying t = some (.array n e)) (h : Value.okWide P w r b0 t v) : ∃ cs, v = .agg cs ∧ cs.size = P.cellsOf t := by
  simp only [Value.okWide, ht] at h
  obtain ⟨cs, h1, h2, _⟩ := h
  exact ⟨cs, h1, h2⟩
set_option maxRecDepth 100000 in
theorem open_l4 {H : Type} {enc : TypeId × Value → H} {w : World} {base : Nat} {spare : Nat → Bool} {held : Bool} {r : Reach} {b0 : Nat} {v : Value} {d : DataW H} {p : List MemPlace}
    (hv : Value.okWide Tryd.prog w r b0 23 v) (h : DataW.Trod enc Tryd.prog w base spare held 23 v d p) :
    ∃ a0 a1 a2 a3 : Int, v = .agg #[.int .u32 a0, .int .u32 a1, .int .u32 a2, .int .u32 a3] ∧ d = .agg [.lit (.int .u32 a0), .lit (.int .u32 a1), .lit (.int .u32 a2), .lit (.int .u32 a3)] ∧ p = [] ∧
      (Lit.int .u32 a0).wf = true ∧ (Lit.int .u32 a1).wf = true ∧ (Lit.int .u32 a2).wf = true ∧ (Lit.int .u32 a3).wf = true := by
  obtain ⟨cs, rfl, hsz⟩ := okWide_array4 Tryd.underlying23 hv
  obtain ⟨l⟩ := cs
  rw [cellsL4] at hsz
  match l, hsz with
  | [c0, c1, c2, c3], _ =>
    obtain ⟨fuel, hf⟩ := h
    obtain ⟨y0, y1, y2, y3, n, hx, g0, g1, g2, g3⟩ := trod_four Tryd.underlying23 cellsU32 hf
    obtain ⟨a0, e0, rfl, w0⟩ := DataW.trod_int Tryd.underlying22 g0
    obtain ⟨a1, e1, rfl, w1⟩ := DataW.trod_int Tryd.underlying22 g1
    obtain ⟨a2, e2, rfl, w2⟩ := DataW.trod_int Tryd.underlying22 g2
    obtain ⟨a3, e3, rfl, w3⟩ := DataW.trod_int Tryd.underlying22 g3
    simp at e0 e1 e2 e3
    subst e0 e1 e2 e3
    simp only [Prod.mk.injEq] at hx
    obtain ⟨rfl, rfl⟩ := hx
    exact ⟨a0, a1, a2, a3, rfl, rfl, rfl, w0, w1, w2, w3⟩
end

set_option maxRecDepth 20000 in
set_option maxHeartbeats 1000000 in
theorem equal_q (a0 a1 a2 a3 b0 b1 b2 b3 : Int) (w : World) : (Op.equalIn 10000 30 (.agg #[.int .u32 a0, .int .u32 a1, .int .u32 a2, .int .u32 a3]) (.agg #[.int .u32 b0, .int .u32 b1, .int .u32 b2, .int .u32 b3])).run Tryd.prog w = .ok (a0 == b0 && (a1 == b1 && (a2 == b2 && a3 == b3))) w := by
  unfold Op.equalIn
  simp only [Sem.run_bind, run_underlying Tryd.underlying30, Result.andThen]
  have hs : (sizeOf 29).run Tryd.prog w = .ok 1 w := by kernel_rfl
  simp only [hs]
  have hp : ∀ (c0 c1 c2 c3 : Int) (W : World), ((part 29 #[.int .u32 c0, .int .u32 c1, .int .u32 c2, .int .u32 c3] 0).run Tryd.prog W = .ok (.int .u32 c0) W ∧ (part 29 #[.int .u32 c0, .int .u32 c1, .int .u32 c2, .int .u32 c3] 1).run Tryd.prog W = .ok (.int .u32 c1) W ∧ (part 29 #[.int .u32 c0, .int .u32 c1, .int .u32 c2, .int .u32 c3] 2).run Tryd.prog W = .ok (.int .u32 c2) W ∧ (part 29 #[.int .u32 c0, .int .u32 c1, .int .u32 c2, .int .u32 c3] 3).run Tryd.prog W = .ok (.int .u32 c3) W) := by
    intro c0 c1 c2 c3 W
    refine ⟨?_, ?_, ?_, ?_⟩
    all_goals kernel_rfl
  have he : ∀ (a b : Int) (W : World), (Op.equalIn 9999 29 (.int .u32 a) (.int .u32 b)).run Tryd.prog W = .ok (a == b) W := fun a b W => run_equalIn_int W 9998 29 .u32 .u32 a b Tryd.underlying29
  obtain ⟨p0, p1, p2, p3⟩ := hp a0 a1 a2 a3 w
  obtain ⟨q0, q1, q2, q3⟩ := hp b0 b1 b2 b3 w
  clear hp hs
  rw [Std.Legacy.Range.forIn_eq_forIn_range']
  simp only [Std.Legacy.Range.size, List.range', List.forIn_cons, Nat.mul_one]
  cases h0 : (a0 == b0)
  · simp [p0, q0, he, h0, Result.andThen]
  · cases h1 : (a1 == b1)
    · simp [p0, q0, p1, q1, he, h0, h1, Result.andThen]
    · cases h2 : (a2 == b2)
      · simp [p0, q0, p1, q1, p2, q2, he, h0, h1, h2, Result.andThen]
      · cases h3 : (a3 == b3)
        · simp [p0, q0, p1, q1, p2, q2, p3, q3, he, h0, h1, h2, h3, Result.andThen]
        · simp [p0, q0, p1, q1, p2, q2, p3, q3, he, h0, h1, h2, h3, Result.andThen]
theorem eql_q (a b c d : Nat) (w : World) : (binOp .eql 30 (.agg #[.int .u32 a, .int .u32 b, .int .u32 c, .int .u32 d]) (.agg #[.int .u32 a, .int .u32 b, .int .u32 c, .int .u32 d])).run Tryd.prog w = .ok (.bool true) w := by
  have h := equal_q a b c d a b c d w
  simp [go_sem]
  rw [h]
  simp
/-- Out of the block every state is 0. -/
theorem bstate_out (x : Nat → Nat) (a b : Int) (h : ¬ (0 ≤ a ∧ a < 8 ∧ 0 ≤ b ∧ b < 8)) (w : World) :
    Calls Tryd.prog 17 #[.agg (bkA x), .int .i64 a, .int .i64 b] w fun e w' => e = .returned (.int .i64 0) ∧ Below w.heap.size w w' := by
  by_cases h1 : a < 0
  · have d1 : decide (a < 0) = true := by simp; omega
    clear h
    go_enter Tryd.func17, Tryd.ntmps17
    go_wp2
    go_ret
    exact ⟨rfl, (Below.refl _ _).alloc (Nat.le_refl _) _⟩
  · have d1 : decide (a < 0) = false := by simp; omega
    by_cases h2 : 8 ≤ a
    · have d2 : decide (8 ≤ a) = true := by simp; omega
      clear h
      go_enter Tryd.func17, Tryd.ntmps17
      go_wp2
      go_ret
      exact ⟨rfl, (Below.refl _ _).alloc (Nat.le_refl _) _⟩
    · have d2 : decide (8 ≤ a) = false := by simp; omega
      by_cases h3 : b < 0
      · have d3 : decide (b < 0) = true := by simp; omega
        clear h
        go_enter Tryd.func17, Tryd.ntmps17
        go_wp2
        go_ret
        exact ⟨rfl, (Below.refl _ _).alloc (Nat.le_refl _) _⟩
      · have d3 : decide (b < 0) = false := by simp; omega
        have h4 : 8 ≤ b := by omega
        have d4 : decide (8 ≤ b) = true := by simp; omega
        clear h
        go_enter Tryd.func17, Tryd.ntmps17
        go_wp2
        go_ret
        exact ⟨rfl, (Below.refl _ _).alloc (Nat.le_refl _) _⟩
end Go.Proofs.YtcmfkdhadmfgkaaDoor.Bk

/- What the row's list gives: the table of the six points; and the last step of a row of which 'Below' alone is known. -/
namespace Go.Proofs.YtcmfkdhadmfgkaaDoor.Ax
open Go.RowKit Go.WideShapes Go.ChangeShapes

section
variable {H : Type} {enc : TypeId × Value → H} {P : Program}
/-- Behind a call that turned nothing of what was there, the arguments read as they did. -/
theorem all_below (hl : laidOutB P = true) {W W' : World} (hb : Below W.heap.size W W') : ∀ {ts : List TypeId} {vs : List Value} {ds : List (DataW H)} {ps : List MemPlace},
    (∀ t ∈ ts, P.readableRec t = true ∧ t < P.types.size) → (∀ x ∈ ps, x.block < W.heap.size) → DataW.TrodAll enc P W 0 (fun _ => true) true ts vs ds ps → DataW.TrodAll enc P W' 0 (fun b => decide (b < W.heap.size)) true ts vs ds ps
  | [], _, _, _, _, _, h => by
    obtain ⟨rfl, rfl, rfl⟩ := trodAll_nil h
    exact trodAll_mk0
  | t :: ts, _, _, _, ht, hlt, h => by
    obtain ⟨v, vs, d, ds, p, q, rfl, rfl, rfl, h0, r⟩ := trodAll_cons h
    exact trodAll_cons_mk (Below.trod hl (ht t (by simp)).1 (ht t (by simp)).2 h0 hb (fun x hx => hlt x (by simp [hx]))) (all_below hl hb (fun u hu => ht u (by simp [hu])) (fun x hx => hlt x (by simp [hx])) r)

/-- THE LAST STEP OF A LAW: it answered true, and turned nothing of what was there. -/
theorem law_post (hl : laidOutB P = true) {f : Func} {s : ChangeSpec} {tb : TypeId} {W W' : World} {args : Array Value} {ds gs : List (DataW H)} {before : List MemPlace}
    (hvars : s.vars = []) (hrt : f.resultTypes = #[tb]) (hu : P.underlying tb = some .bool) (hts0 : (f.params.toList.all fun t => P.readableRec t && decide (t < P.types.size)) = true)
    (hW : DataW.Whole enc P f.params.toList s.vars false W args.toList ds gs before) (hb : Below W.heap.size W W')
    (hs : (s.fn H (ds ++ gs)).results = [.lit (.bool true)] ∧ (s.fn H (ds ++ gs)).args = ds ∧ (s.fn H (ds ++ gs)).vars = []) :
    s.post enc P f false true false false W args (.bool true) W' := by
  have hlt : ∀ x ∈ before, x.block < W.heap.size := fun x hx => hW.lt x hx
  have hts : ∀ t ∈ f.params.toList, P.readableRec t = true ∧ t < P.types.size := fun t ht => by
    have := List.all_eq_true.1 hts0 t ht
    simpa using this
  have hW' := hW
  obtain ⟨p, q, hA, hV, rfl, hz, hn⟩ := hW
  obtain ⟨h1, h2, h3⟩ := hs
  rw [hvars] at hV
  obtain ⟨rfl, rfl⟩ := trodVars_none hV
  refine ⟨ds, [], p ++ [], [], p, [], hW', ?_, ?_, ?_, World.keptBut_mono (fun x hx => ⟨hx, Or.inr (Or.inl (by simpa using hx))⟩) (hb.frame (fun x => x ∈ p ++ [])), fun h => by cases h⟩
  · rw [h1, hrt]
    exact trodAll_cons_mk (shut_bool hu true) trodAll_mk0
  · rw [h2]
    exact all_below hl hb hts (fun x hx => hlt x (by simpa using hx)) hA
  · rw [h3, hvars]
    rfl
end
/-- A WORLD FOR THE WITNESS: the settled one, the table's block holding the six points. -/
noncomputable def laidWorld (os : Os) : World :=
  { World.holding Tryd.prog os ⟨#[], #[], []⟩ with heap := (World.holding Tryd.prog os ⟨#[], #[], []⟩).heap.modify 1 fun
      | .cells _ t frozen => .cells sixCells t frozen
      | o => o }
theorem laidOut : laidOutB Tryd.prog = true := by kernel_rfl

theorem own : ownKnob Tryd.prog.godebug = none := by kernel_rfl
theorem gSix : Tryd.prog.globalNamed "honeycomb/axis.six" = some 1 := by kernel_rfl
theorem gSixType : (Tryd.prog.globals[1]?).map (·.type) = some 137 := by kernel_rfl
theorem cellsSix : Tryd.prog.cellsOf 137 = 12 := by kernel_rfl
theorem cellsPt : Tryd.prog.cellsOf 70 = 2 := by kernel_rfl
theorem cellsI : Tryd.prog.cellsOf 2 = 1 := by kernel_rfl

theorem pt_cells {H : Type} {enc : TypeId × Value → H} {w : World} {base : Nat} {sp : Nat → Bool} {held : Bool} {fuel : Nat} {cs : List Value} {x y : Int} {p : List MemPlace}
    (h : DataW.trod enc Tryd.prog w base sp held fuel 70 cs = some (.agg [.lit (.int .i64 x), .lit (.int .i64 y)], p)) : cs = [.int .i64 x, .int .i64 y] := by
  obtain ⟨y0, y1, n, he, hl, h0, h1⟩ := trod_struct2 Tryd.underlying70 h
  simp only [cellsPt, cellsI] at hl h0 h1
  obtain ⟨a, e0, rfl, _⟩ := DataW.trod_int Tryd.underlying2 h0
  obtain ⟨b, e1, rfl, _⟩ := DataW.trod_int Tryd.underlying2 h1
  match cs, hl with
  | [c0, c1], _ =>
    simp at e0 e1 he
    obtain ⟨⟨rfl, rfl⟩, _⟩ := he
    simp [e0, e1]

theorem six_of_laid {W : World} (h : laidMet Tryd.prog [("honeycomb/axis.six", Rows.laid_honeycomb_axis_six)] W) : SixIs W := by
  obtain ⟨ps, ⟨g', t', cs, fuel, p, q, hg', ht', hvar, hd, _, _⟩, _⟩ := h
  obtain rfl := Option.some.inj (gSix.symm.trans hg')
  obtain rfl := Option.some.inj (gSixType.symm.trans ht')
  obtain ⟨xs, m, _, he, hl, hn, hx⟩ := DataW.trod_array Tryd.underlying137 hd
  simp only [cellsSix, cellsPt] at hl hx
  match xs, hn with
  | [x0, x1, x2, x3, x4, x5], _ =>
    simp only [Rows.laid_honeycomb_axis_six, List.map_cons, List.map_nil, Prod.mk.injEq, DataW.agg.injEq, List.cons.injEq, and_true] at he
    obtain ⟨⟨e0, e1, e2, e3, e4, e5⟩, _⟩ := he
    have k0 := hx 0 (by decide)
    have k1 := hx 1 (by decide)
    have k2 := hx 2 (by decide)
    have k3 := hx 3 (by decide)
    have k4 := hx 4 (by decide)
    have k5 := hx 5 (by decide)
    obtain ⟨a0, b0⟩ := x0
    obtain ⟨a1, b1⟩ := x1
    obtain ⟨a2, b2⟩ := x2
    obtain ⟨a3, b3⟩ := x3
    obtain ⟨a4, b4⟩ := x4
    obtain ⟨a5, b5⟩ := x5
    simp only at e0 e1 e2 e3 e4 e5
    subst e0 e1 e2 e3 e4 e5
    replace k0 := pt_cells k0
    replace k1 := pt_cells k1
    replace k2 := pt_cells k2
    replace k3 := pt_cells k3
    replace k4 := pt_cells k4
    replace k5 := pt_cells k5
    obtain ⟨l⟩ := cs
    match l, hl with
    | [c0, c1, c2, c3, c4, c5, c6, c7, c8, c9, c10, c11], _ =>
      simp at k0 k1 k2 k3 k4 k5
      obtain ⟨rfl, rfl⟩ := k0
      obtain ⟨rfl, rfl⟩ := k1
      obtain ⟨rfl, rfl⟩ := k2
      obtain ⟨rfl, rfl⟩ := k3
      obtain ⟨rfl, rfl⟩ := k4
      obtain ⟨rfl, rfl⟩ := k5
      simp only [World.var?, gSix, Option.bind_some] at hvar
      split at hvar
      · rename_i cs t fr hh
        cases hvar
        exact ⟨t, fr, hh⟩
      · cases hvar

end Go.Proofs.YtcmfkdhadmfgkaaDoor.Ax

/- A table in the making as the reader reads it, opened to its cells. -/
namespace Go.Proofs.YtcmfkdhadmfgkaaDoor.Tb
open Go.RowKit Go.Proofs.YtcmfkdhadmfgkaaDoor.Ba

section
open Go.ChangeShapes Go.WideShapes
theorem trod_array2 {H : Type} {enc : TypeId × Value → H} {P : Program} {w : World} {base : Nat} {spare : Nat → Bool} {held : Bool} {t e : TypeId} {fuel : Nat} {c0 c1 : Value} {x : DataW H × List MemPlace} (ht : P.underlying t = some (.array 2 e)) (hce : P.cellsOf e = 1)
    (h : DataW.trod enc P w base spare held fuel t [c0, c1] = some x) :
    ∃ y0 y1 n, x = (.agg [y0.1, y1.1], y0.2 ++ y1.2) ∧ DataW.trod enc P w base spare held n e [c0] = some y0 ∧ DataW.trod enc P w base spare held n e [c1] = some y1 := by
  cases fuel with
  | zero => simp [DataW.trod] at h
  | succ n =>
    unfold DataW.trod at h
    rw [ht] at h
    have r2 : List.range 2 = [0, 1] := rfl
    simp [r2, hce] at h
    obtain ⟨_, h⟩ := h
    cases h0 : DataW.trod enc P w base spare held n e [c0] with
    | none => simp [h0] at h
    | some y0 =>
      cases h1 : DataW.trod enc P w base spare held n e [c1] with
      | none => simp [h0, h1] at h
      | some y1 =>
        simp [h0, h1] at h
        exact ⟨y0, y1, n, h.symm, h0, h1⟩
theorem cellsRaw : Tryd.prog.cellsOf 44 = 5 := by kernel_rfl
theorem cellsA2 : Tryd.prog.cellsOf 42 = 2 := by kernel_rfl
theorem cellsU : Tryd.prog.cellsOf 41 = 1 := by kernel_rfl
theorem cellsN : Tryd.prog.cellsOf 3 = 1 := by kernel_rfl
set_option maxRecDepth 100000 in
theorem open_raw {H : Type} {enc : TypeId × Value → H} {w : World} {base : Nat} {spare : Nat → Bool} {held : Bool} {r : Reach} {b0 : Nat} {v : Value} {d : DataW H} {p : List MemPlace}
    (hv : Value.okWide Tryd.prog w r b0 44 v) (h : DataW.Trod enc Tryd.prog w base spare held 44 v d p) :
    ∃ a x0 x1 y0 y1 : Int, v = .agg #[.int .i64 a, .int .u64 x0, .int .u64 x1, .int .u64 y0, .int .u64 y1] ∧ d = .agg [.lit (.int .i64 a), .agg [.lit (.int .u64 x0), .lit (.int .u64 x1)], .agg [.lit (.int .u64 y0), .lit (.int .u64 y1)]] ∧ p = [] ∧
      (Lit.int .i64 a).wf = true ∧ (Lit.int .u64 x0).wf = true ∧ (Lit.int .u64 x1).wf = true ∧ (Lit.int .u64 y0).wf = true ∧ (Lit.int .u64 y1).wf = true := by
  obtain ⟨cs, rfl, hsz⟩ := okWide_struct Tryd.underlying44 hv
  obtain ⟨l⟩ := cs
  rw [cellsRaw] at hsz
  match l, hsz with
  | [c0, c1, c2, c3, c4], _ =>
    obtain ⟨fuel, hf⟩ := h
    obtain ⟨y0, y1, y2, n, hx, _, g0, g1, g2⟩ := Go.Deep.trod_struct3 Tryd.underlying44 hf
    simp only [cellsA2, cellsN] at g0 g1 g2
    obtain ⟨z0, z1, m, hz, k0, k1⟩ := trod_array2 Tryd.underlying42 cellsU g1
    obtain ⟨t0, t1, m', ht, k2, k3⟩ := trod_array2 Tryd.underlying42 cellsU g2
    obtain ⟨a, e0, rfl, w0⟩ := DataW.trod_int Tryd.underlying3 g0
    obtain ⟨x0, e1, rfl, w1⟩ := DataW.trod_int Tryd.underlying41 k0
    obtain ⟨x1, e2, rfl, w2⟩ := DataW.trod_int Tryd.underlying41 k1
    obtain ⟨x2, e3, rfl, w3⟩ := DataW.trod_int Tryd.underlying41 k2
    obtain ⟨x3, e4, rfl, w4⟩ := DataW.trod_int Tryd.underlying41 k3
    simp [Value.cells] at e0 e1 e2 e3 e4
    subst e0 e1 e2 e3 e4 hz ht
    simp only [Prod.mk.injEq] at hx
    obtain ⟨rfl, rfl⟩ := hx
    exact ⟨a, x0, x1, x2, x3, rfl, rfl, rfl, w0, w1, w2, w3, w4⟩
end
end Go.Proofs.YtcmfkdhadmfgkaaDoor.Tb

/- What the parts of a block are, bit by bit: its quarters, its middle, its states, whether it is empty. -/
namespace Go.Proofs.YtcmfkdhadmfgkaaDoor.Bk
open Go.RowKit Go.Proofs.YtcmfkdhadmfgkaaDoor.Ba Go.Proofs.YtcmfkdhadmfgkaaDoor.Si
open Go.Proofs.YtcmfkdhadmfgkaaDoor.Fl (C valid)

theorem qu_of (q : Nat → Nat) (i : Nat) (hi : i < 4) (hq : q i < 4294967296) : quF (ofB q) i = q i := by
  unfold quF
  have hl := lfT_lt (ofB q) (i % 2 * 4) (i / 2 * 4) 4
  refine Nat.eq_of_testBit_eq fun m => ?_
  by_cases hm : m < 32
  · rw [lfT_bit _ _ _ _ hm, show 2 * (i % 2 * 4) + m % 8 = 2 * (i % 2 * 4 + m % 8 / 2) + m % 2 by omega, ofB_bit _ _ _ _ (by omega) (by omega) (by omega)]
    rw [show (i / 2 * 4 + m / 8) / 4 * 2 + (i % 2 * 4 + m % 8 / 2) / 4 = i by omega, show 8 * ((i / 2 * 4 + m / 8) % 4) + (2 * ((i % 2 * 4 + m % 8 / 2) % 4) + m % 2) = m by omega]
  · have h32 : 2 ^ 32 ≤ 2 ^ m := Nat.pow_le_pow_right (by decide) (by omega)
    rw [Nat.testBit_lt_two_pow (Nat.lt_of_lt_of_le hl (Nat.le_trans (by decide) h32)), Nat.testBit_lt_two_pow (Nat.lt_of_lt_of_le hq (Nat.le_trans (by decide) h32))]
theorem mid_of (q : Nat → Nat) : ofF (rlS (clS 2 q) 2 2) 16 = lfT (ofB q) 2 2 4 :=
  lf_of (a := 2) (b := 2) fun i j k hi hj hk => by
    refine dec_iff ?_
    rw [mem_clS (.inr (.inl rfl)), liv_at (ofB q) (2 + i) (2 + j) k (by omega) (by omega)]
    refine ⟨fun h => h.2, fun h => ⟨?_, h⟩⟩
    unfold valid
    simp; omega
theorem state_of (q : Nat → Nat) (a b : Nat) (ha : a < 8) (hb : b < 8) : ofB q b / 2 ^ (2 * a) % 4 = st (q (b / 4 * 2 + a / 4)) (4 * (b % 4) + a % 4) := by
  unfold st
  refine st_eq fun h hh => ?_
  rw [ofB_bit _ _ _ _ ha hb hh, show 2 * (4 * (b % 4) + a % 4) + h = 8 * (b % 4) + (2 * (a % 4) + h) by omega]
theorem nil_of (q : Nat → Nat) (hq : ∀ i, i < 4 → q i < 4294967296) : nilB (ofB q) = decide (q 0 ||| q 1 ||| q 2 ||| q 3 = 0) := by
  rw [Bool.eq_iff_iff, nilB_iff, decide_eq_true_eq, Nat.or_eq_zero_iff, Nat.or_eq_zero_iff, Nat.or_eq_zero_iff]
  constructor
  · intro h
    have e : ∀ i, i < 4 → q i = 0 := fun i hi => by
      rw [← qu_of q i hi (hq i hi)]
      unfold quF
      refine Nat.eq_of_testBit_eq fun m => ?_
      by_cases hm : m < 32
      · rw [lfT_bit _ _ _ _ hm, h _ (by omega)]; simp
      · have hl := lfT_lt (ofB q) (i % 2 * 4) (i / 2 * 4) 4
        have h32 : 2 ^ 32 ≤ 2 ^ m := Nat.pow_le_pow_right (by decide) (by omega)
        rw [Nat.testBit_lt_two_pow (Nat.lt_of_lt_of_le hl (Nat.le_trans (by decide) h32))]; simp
    exact ⟨⟨⟨e 0 (by decide), e 1 (by decide)⟩, e 2 (by decide)⟩, e 3 (by decide)⟩
  · rintro ⟨⟨⟨h0, h1⟩, h2⟩, h3⟩ r _
    unfold ofB con
    rw [h0, h1, h2, h3]
    simp
end Go.Proofs.YtcmfkdhadmfgkaaDoor.Bk

/-
  BlockParts: for any four leaves and any place it answers true: of the block of four leaves the quarters are the leaves, the middle, the states and whether it is empty are the document's own.
  Conditions: the listed table (honeycomb/axis.six) reads as the card says.
-/
namespace Go.Proofs.YtcmfkdhadmfgkaaDoor.Bk
open Go.RowKit Go.Proofs.YtcmfkdhadmfgkaaDoor.Ba Go.Proofs.YtcmfkdhadmfgkaaDoor.Si Go.Lib
open Go.Proofs.YtcmfkdhadmfgkaaDoor.Se (SetAt)
open Go.Proofs.YtcmfkdhadmfgkaaDoor.Ax (SixIs)

def inO (a b : Int) : Bool := decide (0 ≤ a ∧ a < 8 ∧ 0 ≤ b ∧ b < 8)
theorem inO_yes {a b : Int} (h1 : 0 ≤ a) (h2 : a < 8) (h3 : 0 ≤ b) : inO a b = decide (b < 8) := by unfold inO; simp [h1, h2, h3]
theorem inO_no {a b : Int} (h : ¬ (0 ≤ a ∧ a < 8 ∧ 0 ≤ b)) : inO a b = false := by
  unfold inO
  exact decide_eq_false fun g => h ⟨g.1, g.2.1, g.2.2.1⟩
def stO (q : Nat → Nat) (a b : Int) : Nat := if inO a b then st (q (b.toNat / 4 * 2 + a.toNat / 4)) (4 * (b.toNat % 4) + a.toNat % 4) else 0
theorem bstate_all (q : Nat → Nat) (a b : Int) (w : World) :
    Calls Tryd.prog 17 #[.agg (bkA (ofB q)), .int .i64 a, .int .i64 b] w fun e w' => e = .returned (.int .i64 (stO q a b : Nat)) ∧ Below w.heap.size w w' := by
  by_cases h : 0 ≤ a ∧ a < 8 ∧ 0 ≤ b ∧ b < 8
  · obtain ⟨m, rfl⟩ := Int.eq_ofNat_of_zero_le h.1
    obtain ⟨n, rfl⟩ := Int.eq_ofNat_of_zero_le h.2.2.1
    refine (bstate_in (ofB q) (fun r hr => ofB_lt _ r hr) m n (by omega) (by omega) w).mono ?_
    rintro e w' ⟨rfl, hb⟩
    refine ⟨?_, hb⟩
    rw [state_of q m n (by omega) (by omega)]
    unfold stO inO
    rw [decide_eq_true h]
    rfl
  · refine (bstate_out (ofB q) a b h w).mono ?_
    rintro e w' ⟨rfl, hb⟩
    refine ⟨?_, hb⟩
    unfold stO inO
    rw [decide_eq_false h]
    rfl
set_option maxRecDepth 100000 in
set_option maxHeartbeats 4000000 in
theorem blockParts_walk (x0 : Int) (w0 : (Lit.int .u32 x0).wf = true) (x1 : Int) (w1 : (Lit.int .u32 x1).wf = true) (x2 : Int) (w2 : (Lit.int .u32 x2).wf = true) (x3 : Int) (w3 : (Lit.int .u32 x3).wf = true)
    (a : Int) (_wa : (Lit.int .i64 a).wf = true) (b : Int) (_wb : (Lit.int .i64 b).wf = true) (w : World) (hs : SixIs w) :
    Calls Tryd.prog 3 #[.agg #[.int .u32 x0, .int .u32 x1, .int .u32 x2, .int .u32 x3], .int .i64 a, .int .i64 b] w fun e w' => e = .returned (.bool true) ∧ Below w.heap.size w w' := by
  have g0 := u32_wf w0
  have g1 := u32_wf w1
  have g2 := u32_wf w2
  have g3 := u32_wf w3
  obtain ⟨q, rfl, rfl, rfl, rfl, hq⟩ : ∃ q : Nat → Nat, x0 = q 0 ∧ x1 = q 1 ∧ x2 = q 2 ∧ x3 = q 3 ∧ ∀ i, i < 4 → q i < 4294967296 := ⟨fun i => if i = 0 then x0.toNat else if i = 1 then x1.toNat else if i = 2 then x2.toNat else x3.toNat, by simp; omega, by simp; omega, by simp; omega, by simp; omega, fun i _ => by dsimp only; split; omega; split; omega; split <;> omega⟩
  clear g0 g1 g2 g3 w0 w1 w2 w3
  have HS := Lib.hid hs
  have hb0 : Below w.heap.size w (w.alloc (.cells #[.int .u32 (q 0), .int .u32 (q 1), .int .u32 (q 2), .int .u32 (q 3)] 23)) := by go_grown
  have kr := Blk.newAt w 23 #[.int .u32 (q 0), .int .u32 (q 1), .int .u32 (q 2), .int .u32 (q 3)] _ rfl
  clear hs
  have hofb : ∀ W, Calls Tryd.prog 10 #[.agg #[.int .u32 (q 0), .int .u32 (q 1), .int .u32 (q 2), .int .u32 (q 3)]] W fun e w' => e = .returned (.agg (bkA (ofB q))) ∧ Below W.heap.size W w' := fun W => bof_any q hq W
  have hown := fun W => own10_any (q 0) (q 1) (q 2) (q 3) W
  go_enter Tryd.func3, Tryd.ntmps3
  go_wp2_with fail
  refine (awake10 _ (HS.out.below hb0)).mono ?_
  rintro e w1 ⟨rfl, hb1⟩
  have hb01 := hb0.trans (hb1.mono hb0.size)
  have kr1 := kr.under hb1
  have hrl := kr1.lt
  have c0 := kr1.cell 0
  have c1 := kr1.cell 1
  have c2 := kr1.cell 2
  have c3 := kr1.cell 3
  simp only [List.getElem?_toArray, List.getElem?_cons_zero, List.getElem?_cons_succ] at c0 c1 c2 c3
  clear hb0 hb1 kr
  go_wp2_with fail
  refine (hown _).mono ?_
  rintro e w2 ⟨rfl, hb2⟩
  have hb02 := hb01.trans (hb2.mono hb01.size)
  have kr2 := kr1.under hb2
  clear c0 c1 c2 c3 hb01 hb2 hrl kr1
  go_wp2_with fail
  refine (hofb _).mono ?_
  rintro e w3 ⟨rfl, hb3⟩
  have hb03 := hb02.trans (hb3.mono hb02.size)
  have kr3 := kr2.under hb3
  clear hb02 hb3 kr2 hofb
  unfold bkA
  go_upto_region 5 with fail
  have hb3W : Below w3.heap.size w3 (w3.alloc (.cells #[.int .u16 (ofB q 0), .int .u16 (ofB q 1), .int .u16 (ofB q 2), .int .u16 (ofB q 3), .int .u16 (ofB q 4), .int .u16 (ofB q 5), .int .u16 (ofB q 6), .int .u16 (ofB q 7)] 27)) := by go_grown
  have kx : Blk (w3.alloc (.cells #[.int .u16 (ofB q 0), .int .u16 (ofB q 1), .int .u16 (ofB q 2), .int .u16 (ofB q 3), .int .u16 (ofB q 4), .int .u16 (ofB q 5), .int .u16 (ofB q 6), .int .u16 (ofB q 7)] 27)) w3.heap.size 27 (bkA (ofB q)) := Blk.newAt w3 _ _ _ rfl
  have kr4 := kr3.under hb3W
  have hbW := hb03.trans (hb3W.mono hb03.size)
  clear kr3 hb03 hb3W
  generalize (w3.alloc (.cells #[.int .u16 (ofB q 0), .int .u16 (ofB q 1), .int .u16 (ofB q 2), .int .u16 (ofB q 3), .int .u16 (ofB q 4), .int .u16 (ofB q 5), .int .u16 (ofB q 6), .int .u16 (ofB q 7)] 27)) = W at *
  generalize w3.heap.size = B at *
  generalize hA : w.heap.size = A at *
  have HA := Lib.hid hA
  clear hA
  have hxl := kx.lt
  have hrl := kr4.lt
  have r0 := kr4.cell 0
  have r1 := kr4.cell 1
  have r2 := kr4.cell 2
  have r3 := kr4.cell 3
  simp only [List.getElem?_toArray, List.getElem?_cons_zero, List.getElem?_cons_succ] at r0 r1 r2 r3
  go_cut [28] (fun v wx => v = .bool (inO a b) ∧ wx = W)
  case first =>
    clear r0 r1 r2 r3 kx kr4
    by_cases h1 : 0 ≤ a
    · have d1 : decide (0 ≤ a) = true := decide_eq_true h1
      by_cases h2 : a < 8
      · have d2 : decide (a < 8) = true := decide_eq_true h2
        by_cases h3 : 0 ≤ b
        · have d3 : decide (0 ≤ b) = true := decide_eq_true h3
          go_wp2_with fail
          go_meet
          exact ⟨by rw [inO_yes h1 h2 h3], rfl⟩
        · have d3 : decide (0 ≤ b) = false := decide_eq_false h3
          go_wp2_with fail
          go_meet
          exact ⟨by rw [inO_no (by omega)], rfl⟩
      · have d2 : decide (a < 8) = false := decide_eq_false h2
        go_wp2_with fail
        go_meet
        exact ⟨by rw [inO_no (by omega)], rfl⟩
    · have d1 : decide (0 ≤ a) = false := decide_eq_false h1
      go_wp2_with fail
      go_meet
      exact ⟨by rw [inO_no (by omega)], rfl⟩
  case rest =>
    obtain ⟨rfl, rfl⟩ := hcut
    go_upto_if 28 with (fail)
    go_cut [8] (fun v wx => v = .int .i64 (stO q a b : Nat) ∧ wx = wc)
    case first =>
      cases hin : inO a b
      · have e0 : stO q a b = 0 := by unfold stO; rw [hin]; rfl
        go_wp2_with fail
        go_meet
        exact ⟨by rw [e0]; rfl, rfl⟩
      · have hab : 0 ≤ a ∧ a < 8 ∧ 0 ≤ b ∧ b < 8 := by unfold inO at hin; simpa using hin
        obtain ⟨m, rfl⟩ := Int.eq_ofNat_of_zero_le hab.1
        obtain ⟨n, rfl⟩ := Int.eq_ofNat_of_zero_le hab.2.2.1
        have e0 : stO q (m : Int) (n : Int) = st (q (n / 4 * 2 + m / 4)) (4 * (n % 4) + m % 4) := by unfold stO; rw [hin]; rfl
        have hm8 : m < 8 := by omega
        have hn8 : n < 8 := by omega
        obtain ⟨i, hi⟩ : ∃ i, n / 4 * 2 + m / 4 = i := ⟨_, rfl⟩
        have hi4 : i < 4 := by omega
        have hri : wc.cell? ⟨A, i, none⟩ = some (.int .u32 (q i)) := by
          have : i = 0 ∨ i = 1 ∨ i = 2 ∨ i = 3 := by omega
          rcases this with h | h | h | h <;> rw [h] <;> assumption
        have hstt := fun W => refstate_in (q i) (4 * (n % 4) + m % 4) ((m % 4 : Nat) : Int) ((n % 4 : Nat) : Int) (hq i hi4) (by omega) (by omega) (by omega) W
        rw [hi] at e0
        clear r0 r1 r2 r3 kx kr4
        go_wp2_with (first | (go_at_call 12; go_loud (refine (hstt _).mono ?_); rintro e w' ⟨rfl, rfl⟩))
        go_meet
        exact ⟨by rw [e0], rfl⟩
    case rest =>
      obtain ⟨rfl, rfl⟩ := hcut
      go_upto_region 7 with fail
      go_cut [9] (fun v wx => v = .bool (nilB (ofB q)) ∧ wx = wc)
      case first =>
        have hnil := nil_of q hq
        have o1 := u32_or_nat (q 0) (q 1) (hq 0 (by decide)) (hq 1 (by decide))
        have l1 : q 0 ||| q 1 < 4294967296 := Nat.or_lt_two_pow (n := 32) (hq 0 (by decide)) (hq 1 (by decide))
        have o2 := u32_or_nat (q 0 ||| q 1) (q 2) l1 (hq 2 (by decide))
        have l2 : q 0 ||| q 1 ||| q 2 < 4294967296 := Nat.or_lt_two_pow (n := 32) l1 (hq 2 (by decide))
        have o3 := u32_or_nat (q 0 ||| q 1 ||| q 2) (q 3) l2 (hq 3 (by decide))
        clear kx kr4 hbW l1 l2
        have HN := Lib.hid hnil
        clear hnil
        generalize q 0 ||| q 1 ||| q 2 ||| q 3 = z at *
        generalize q 0 ||| q 1 ||| q 2 = y at *
        generalize q 0 ||| q 1 = x at *
        go_wp2_with fail
        go_meet
        exact ⟨congrArg Value.bool (by rw [HN.out, Bool.eq_iff_iff]; simp), rfl⟩
      case rest =>
        obtain ⟨rfl, rfl⟩ := hcut
        have hrow : ∀ r, r < 8 → ofB q r < 65536 := fun r hr => ofB_lt q r hr
        have hqu : ∀ W', Calls Tryd.prog 13 #[.agg (bkA (ofB q))] W' fun e w' => e = .returned (.agg #[.int .u32 (q 0), .int .u32 (q 1), .int .u32 (q 2), .int .u32 (q 3)]) ∧ Below W'.heap.size W' w' := fun W' => by
          refine (quarters_any (ofB q) hrow W').mono ?_
          rintro e w' ⟨rfl, hb⟩
          refine ⟨?_, hb⟩
          unfold qA
          rw [qu_of q 0 (by decide) (hq 0 (by decide)), qu_of q 1 (by decide) (hq 1 (by decide)), qu_of q 2 (by decide) (hq 2 (by decide)), qu_of q 3 (by decide) (hq 3 (by decide))]
        have hmi := fun W' => middle_any (ofB q) hrow W'
        have hlf : ∀ W' v, SetAt W' v (clS 2 q) → Calls Tryd.prog 15 #[v, .int .i64 2, .int .i64 2] W' fun e w' => e = .returned (.int .u32 (lfT (ofB q) 2 2 4)) ∧ Below W'.heap.size W' w' := fun W' v hv => by
          refine (leaf10_any v (clS 2 q) 2 2 W' hv (by have := clS_len 2 q; omega) (by decide) (by decide)).mono ?_
          rintro e w' ⟨rfl, hb⟩
          exact ⟨by rw [mid_of], hb⟩
        have hce : ∀ W', Below wc.heap.size wc.drew W' → Calls Tryd.prog 16 #[.int .i64 2, .slice (some ⟨A, 0, none⟩) 4 4] W' fun e w' => ∃ v, e = .returned v ∧ SetAt w' v (clS 2 q) ∧ Below W'.heap.size W' w' := fun W' hb => by
          have hb' : Below wc.heap.size wc W' := (show Below wc.heap.size wc wc.drew from ⟨rfl, rfl, rfl, Nat.le_refl _, fun _ _ => rfl⟩).trans hb
          refine cells10_any 2 (by decide) q hq A 4 W' (fun i hi => ?_) (Nat.lt_of_lt_of_le hrl hb'.size)
          rw [hb'.cell (p := ⟨A, i, none⟩) hrl]
          have : i = 0 ∨ i = 1 ∨ i = 2 ∨ i = 3 := by omega
          rcases this with h | h | h | h <;> rw [h] <;> assumption
        have hsta := fun W' => bstate_all q a b W'
        have hemp := fun W' => empty_any (ofB q) W'
        have heq := eql_q (q 0) (q 1) (q 2) (q 3)
        have keep : ∀ w', Below wc.heap.size wc.drew w' → w'.cell? ⟨B, 0, none⟩ = some (.int .u16 (ofB q 0)) ∧ w'.cell? ⟨B, 1, none⟩ = some (.int .u16 (ofB q 1)) ∧ w'.cell? ⟨B, 2, none⟩ = some (.int .u16 (ofB q 2)) ∧ w'.cell? ⟨B, 3, none⟩ = some (.int .u16 (ofB q 3)) ∧ w'.cell? ⟨B, 4, none⟩ = some (.int .u16 (ofB q 4)) ∧ w'.cell? ⟨B, 5, none⟩ = some (.int .u16 (ofB q 5)) ∧ w'.cell? ⟨B, 6, none⟩ = some (.int .u16 (ofB q 6)) ∧ w'.cell? ⟨B, 7, none⟩ = some (.int .u16 (ofB q 7)) ∧ w'.cell? ⟨A, 0, none⟩ = some (.int .u32 (q 0)) ∧ w'.cell? ⟨A, 1, none⟩ = some (.int .u32 (q 1)) ∧ w'.cell? ⟨A, 2, none⟩ = some (.int .u32 (q 2)) ∧ w'.cell? ⟨A, 3, none⟩ = some (.int .u32 (q 3)) := fun w' hb => by
          have hb : Below wc.heap.size wc w' := (show Below wc.heap.size wc wc.drew from ⟨rfl, rfl, rfl, Nat.le_refl _, fun _ _ => rfl⟩).trans hb
          exact ⟨((kx.under hb).cell 0).trans (bkA_get (ofB q) 0 (by decide)), ((kx.under hb).cell 1).trans (bkA_get (ofB q) 1 (by decide)), ((kx.under hb).cell 2).trans (bkA_get (ofB q) 2 (by decide)), ((kx.under hb).cell 3).trans (bkA_get (ofB q) 3 (by decide)), ((kx.under hb).cell 4).trans (bkA_get (ofB q) 4 (by decide)), ((kx.under hb).cell 5).trans (bkA_get (ofB q) 5 (by decide)), ((kx.under hb).cell 6).trans (bkA_get (ofB q) 6 (by decide)), ((kx.under hb).cell 7).trans (bkA_get (ofB q) 7 (by decide)), (kr4.under hb).cell 0, (kr4.under hb).cell 1, (kr4.under hb).cell 2, (kr4.under hb).cell 3⟩
        obtain ⟨c0, c1, c2, c3, c4, c5, c6, c7, r0, r1, r2, r3⟩ := (show wc.cell? ⟨B, 0, none⟩ = some (.int .u16 (ofB q 0)) ∧ wc.cell? ⟨B, 1, none⟩ = some (.int .u16 (ofB q 1)) ∧ wc.cell? ⟨B, 2, none⟩ = some (.int .u16 (ofB q 2)) ∧ wc.cell? ⟨B, 3, none⟩ = some (.int .u16 (ofB q 3)) ∧ wc.cell? ⟨B, 4, none⟩ = some (.int .u16 (ofB q 4)) ∧ wc.cell? ⟨B, 5, none⟩ = some (.int .u16 (ofB q 5)) ∧ wc.cell? ⟨B, 6, none⟩ = some (.int .u16 (ofB q 6)) ∧ wc.cell? ⟨B, 7, none⟩ = some (.int .u16 (ofB q 7)) ∧ wc.cell? ⟨A, 0, none⟩ = some (.int .u32 (q 0)) ∧ wc.cell? ⟨A, 1, none⟩ = some (.int .u32 (q 1)) ∧ wc.cell? ⟨A, 2, none⟩ = some (.int .u32 (q 2)) ∧ wc.cell? ⟨A, 3, none⟩ = some (.int .u32 (q 3)) from ⟨((kx).cell 0).trans (bkA_get (ofB q) 0 (by decide)), ((kx).cell 1).trans (bkA_get (ofB q) 1 (by decide)), ((kx).cell 2).trans (bkA_get (ofB q) 2 (by decide)), ((kx).cell 3).trans (bkA_get (ofB q) 3 (by decide)), ((kx).cell 4).trans (bkA_get (ofB q) 4 (by decide)), ((kx).cell 5).trans (bkA_get (ofB q) 5 (by decide)), ((kx).cell 6).trans (bkA_get (ofB q) 6 (by decide)), ((kx).cell 7).trans (bkA_get (ofB q) 7 (by decide)), (kr4).cell 0, (kr4).cell 1, (kr4).cell 2, (kr4).cell 3⟩)
        unfold bkA at hqu hmi hsta hemp
        clear kx kr4 hq hrow
        generalize nilB (ofB q) = z at *
        generalize stO q a b = s at *
        generalize lfT (ofB q) 2 2 4 = M at *
        generalize clS 2 q = S at *
        generalize ofB q = x at *
        have hkb : Below wc.heap.size wc.drew wc.drew := Below.refl _ _
        go_upto_region 8 with fail
        go_region_held3 (fun w' => w'.cell? ⟨B, 0, none⟩ = some (.int .u16 (x 0)) ∧ w'.cell? ⟨B, 1, none⟩ = some (.int .u16 (x 1)) ∧ w'.cell? ⟨B, 2, none⟩ = some (.int .u16 (x 2)) ∧ w'.cell? ⟨B, 3, none⟩ = some (.int .u16 (x 3)) ∧ w'.cell? ⟨B, 4, none⟩ = some (.int .u16 (x 4)) ∧ w'.cell? ⟨B, 5, none⟩ = some (.int .u16 (x 5)) ∧ w'.cell? ⟨B, 6, none⟩ = some (.int .u16 (x 6)) ∧ w'.cell? ⟨B, 7, none⟩ = some (.int .u16 (x 7)) ∧ w'.cell? ⟨A, 0, none⟩ = some (.int .u32 (q 0)) ∧ w'.cell? ⟨A, 1, none⟩ = some (.int .u32 (q 1)) ∧ w'.cell? ⟨A, 2, none⟩ = some (.int .u32 (q 2)) ∧ w'.cell? ⟨A, 3, none⟩ = some (.int .u32 (q 3))) (first | exact keep _ hkb | exact ⟨c0, c1, c2, c3, c4, c5, c6, c7, r0, r1, r2, r3⟩)
          (first
          | (go_at_call 13; go_loud (refine Calls.mono (hqu _) ?_); rintro e wZ ⟨rfl, hbZ⟩; have hkb : Below wc.heap.size wc.drew wZ := hkb.trans (hbZ.mono hkb.size); clear hbZ; obtain ⟨c0, c1, c2, c3, c4, c5, c6, c7, r0, r1, r2, r3⟩ := keep _ hkb)
          | (go_at_call 11; go_loud (refine Calls.mono (hown _) ?_); rintro e wZ ⟨rfl, hbZ⟩; have hkb : Below wc.heap.size wc.drew wZ := hkb.trans (hbZ.mono hkb.size); clear hbZ; obtain ⟨c0, c1, c2, c3, c4, c5, c6, c7, r0, r1, r2, r3⟩ := keep _ hkb)
          | (go_at_call 14; go_loud (refine Calls.mono (hmi _) ?_); rintro e wZ ⟨rfl, hbZ⟩; (try have hset := hset.below hbZ); have hkb : Below wc.heap.size wc.drew wZ := hkb.trans (hbZ.mono hkb.size); clear hbZ; obtain ⟨c0, c1, c2, c3, c4, c5, c6, c7, r0, r1, r2, r3⟩ := keep _ hkb)
          | (go_at_call 16; go_loud (refine Calls.mono (hce _ hkb) ?_); rintro e wZ ⟨vS, rfl, hset, hbZ⟩; have hkb : Below wc.heap.size wc.drew wZ := hkb.trans (hbZ.mono hkb.size); clear hbZ; obtain ⟨c0, c1, c2, c3, c4, c5, c6, c7, r0, r1, r2, r3⟩ := keep _ hkb)
          | (go_at_call 15; go_loud (refine Calls.mono (hlf _ _ hset) ?_); rintro e wZ ⟨rfl, hbZ⟩; have hkb : Below wc.heap.size wc.drew wZ := hkb.trans (hbZ.mono hkb.size); clear hbZ; obtain ⟨c0, c1, c2, c3, c4, c5, c6, c7, r0, r1, r2, r3⟩ := keep _ hkb)
          | (go_at_call 17; go_loud (refine Calls.mono (hsta _) ?_); rintro e wZ ⟨rfl, hbZ⟩; have hkb : Below wc.heap.size wc.drew wZ := hkb.trans (hbZ.mono hkb.size); clear hbZ; obtain ⟨c0, c1, c2, c3, c4, c5, c6, c7, r0, r1, r2, r3⟩ := keep _ hkb)
          | (go_at_call 18; go_loud (refine Calls.mono (hemp _) ?_); rintro e wZ ⟨rfl, hbZ⟩; have hkb : Below wc.heap.size wc.drew wZ := hkb.trans (hbZ.mono hkb.size); clear hbZ; obtain ⟨c0, c1, c2, c3, c4, c5, c6, c7, r0, r1, r2, r3⟩ := keep _ hkb))
        all_goals
          have HF := Lib.hid (hbW.trans (((show Below wc.heap.size wc wc.drew from ⟨rfl, rfl, rfl, Nat.le_refl _, fun _ _ => rfl⟩).trans hkb).mono (by have := hbW.size; rw [HA.out] at this; exact this)))
          go_wp2_with fail
          go_ret
          exact ⟨rfl, by rw [HA.out]; exact HF.out⟩
end Go.Proofs.YtcmfkdhadmfgkaaDoor.Bk
namespace Go.Proofs.YtcmfkdhadmfgkaaDoor.BkF
open Go.RowKit Go.Proofs.YtcmfkdhadmfgkaaDoor.Ax
open Go.Proofs.YtcmfkdhadmfgkaaDoor.Bk (blockParts_walk open_l4)
section blockPartsFrame
open Go.ChangeShapes Go.WideShapes Go.ChangeAt Go.RowKit Go.Joins
set_option maxRecDepth 100000 in
theorem blockParts_contract (H : Type) (enc : TypeId × Value → H) (W : World) (base : Nat) (args : Array Value) (ds gs : List (DataW H)) (before : List MemPlace)
    (hval : ∀ (j : Nat) t v, Tryd.f3.params[j]? = some t → args[j]? = some v → Value.okWide Tryd.prog W .any base t v)
    (hW : DataW.Whole enc Tryd.prog Tryd.f3.params.toList Rows.blockPartsSpec.vars false W args.toList ds gs before) (hL : laidMetH Tryd.prog Rows.blockPartsRow.laid W) :
    Calls Tryd.prog 3 args W fun e W' => ∃ v, e = .returned v ∧ Rows.blockPartsSpec.post enc Tryd.prog Tryd.f3 false true false false W args v W' := by
  have hW' := hW
  obtain ⟨p, q, hA0, hV, rfl, hfz, hnd⟩ := hW
  have hA : DataW.TrodAll enc Tryd.prog W 0 (fun _ => true) true Tryd.f3.params.toList args.toList ds p := hA0
  rw [Tryd.params3] at hA hval
  obtain ⟨v0, vs0, d0, ds0, p0, q0, hargs, rfl, rfl, h0, r0⟩ := trodAll_cons hA
  obtain ⟨v1, vs1, d1, ds1, p1, q1, rfl, rfl, rfl, h1, r1⟩ := trodAll_cons r0
  obtain ⟨v2, vs2, d2, ds2, p2, q2, rfl, rfl, rfl, h2, r2⟩ := trodAll_cons r1
  obtain ⟨rfl, rfl, rfl⟩ := trodAll_nil r2
  obtain rfl : args = #[v0, v1, v2] := by cases args; simp_all
  obtain ⟨rfl, rfl⟩ := trodVars_none hV
  obtain ⟨f0, f1, f2, f3, rfl, rfl, rfl, w_f0, w_f1, w_f2, w_f3⟩ := open_l4 (hval 0 23 v0 rfl rfl) h0
  obtain ⟨a, rfl, rfl, rfl, w_a⟩ := open_int Tryd.underlying3 (hval 1 3 v1 rfl rfl) h1
  obtain ⟨b, rfl, rfl, rfl, w_b⟩ := open_int Tryd.underlying3 (hval 2 3 v2 rfl rfl) h2
  refine (blockParts_walk f0 w_f0 f1 w_f1 f2 w_f2 f3 w_f3 a w_a b w_b W (six_of_laid hL)).mono fun e W' ⟨he, hb⟩ => ?_
  exact ⟨_, he, law_post laidOut rfl rfl Tryd.underlying4 (by kernel_rfl) hW' hb ⟨rfl, rfl, rfl⟩⟩
theorem blockParts_met (os : Os) : laidMet Tryd.prog Rows.blockPartsRow.laid ((laidWorld os).forCall (fun _ _ => 0) ⟨#[], #[.agg #[.int .u32 0, .int .u32 0, .int .u32 0, .int .u32 0], .int .i64 0, .int .i64 0], []⟩).memory :=
  laidMet_of_run' 8 (by kernel_rfl) (by kernel_rfl)
theorem blockParts_reads (os : Os) {H : Type} (enc : TypeId × Value → H) : ∃ places, DataW.whole enc Tryd.prog ((laidWorld os).forCall (fun _ _ => 0) ⟨#[], #[.agg #[.int .u32 0, .int .u32 0, .int .u32 0, .int .u32 0], .int .i64 0, .int .i64 0], []⟩).memory Tryd.f3.params.toList Rows.blockPartsSpec.vars false #[(.agg #[.int .u32 0, .int .u32 0, .int .u32 0, .int .u32 0] : Value), (.int .i64 0 : Value), (.int .i64 0 : Value)].toList 8 = some ([.agg [.lit (.int .u32 0), .lit (.int .u32 0), .lit (.int .u32 0), .lit (.int .u32 0)], .lit (.int .i64 0), .lit (.int .i64 0)], [], places) :=
  ⟨[], by kernel_rfl⟩
set_option maxRecDepth 100000 in
theorem blockParts_lifted (os : Os) (started : os.Started) (H : Type) (enc : TypeId × Value → H) (F : Stop.Interp) :
    ReturnsInHanded {} Tryd.checked os 3 .any ((OpenSpec.ofChange Rows.blockPartsSpec).preRow enc Tryd.prog Tryd.f3 Rows.blockPartsRow.domain false Rows.blockPartsRow.laid) (((OpenSpec.ofChange Rows.blockPartsSpec).at F).post enc Tryd.prog Tryd.f3 false true false false) := by
  obtain ⟨places, hx⟩ := blockParts_reads os enc
  refine returnsInHanded_of_row (C := Tryd.checked) (s := OpenSpec.ofChange Rows.blockPartsSpec) own started (by kernel_rfl) Tryd.func3
    (witness_row_at (enc := enc) (C := Tryd.checked) false (laidWorld os) #[.agg #[.int .u32 0, .int .u32 0, .int .u32 0, .int .u32 0], .int .i64 0, .int .i64 0] rfl (by kernel_rfl) (by kernel_rfl) (by kernel_rfl)
      (OpenSpec.preRow_of_cond 8 hx (by kernel_rfl) (fun k hk => by cases hk) (by kernel_rfl) (blockParts_met os))) ?_
  intro W base args ds gs before hval hW _ _ _ hL _ _
  exact blockParts_contract H enc W base args ds gs before hval hW hL
theorem blockParts_said : Rows.BlockPartsSaid :=
  OpenClaim.holds_of_cond 3 Tryd.f3 rfl rfl rfl rfl rfl rfl rfl ⟨rfl, rfl, rfl, rfl, rfl⟩ rfl rfl rfl rfl rfl (by kernel_rfl) Tryd.func3 (by kernel_rfl)
    (of_decide_eq_true (by kernel_rfl)) (by unfold Func.isWrapper; first | (rw [if_pos (by decide +kernel)]; kernel_rfl) | (rw [if_neg (by decide +kernel)]; exact ⟨rfl, rfl⟩))
    (fun os started H enc _ F => by rw [OpenClaim.pre_eq_preRow]; exact blockParts_lifted os started H enc F)
theorem blockParts_plain (f : FuncId) (fn : Func) (hf : Tryd.pinned.checked.prog.funcNamed "honeycomb/honeycomblaw10.BlockParts" = some f) (hfn : Tryd.pinned.checked.prog.funcs[f]? = some fn) :
    true = Tryd.pinned.checked.prog.looks [] ∧ ∀ (j : Nat) t, fn.params[j]? = some t → Tryd.pinned.checked.prog.wantsStandIn t = false := by
  obtain rfl : f = 3 := Option.some.inj ((show Tryd.prog.funcNamed "honeycomb/honeycomblaw10.BlockParts" = some 3 by kernel_rfl).symm.trans hf) |>.symm
  obtain rfl : fn = Tryd.f3 := (Option.some.inj (Tryd.func3.symm.trans hfn)).symm
  refine ⟨by kernel_rfl, fun j t ht => ?_⟩
  have hall : (Tryd.f3.params.toList.all fun t => !Tryd.prog.wantsStandIn t) = true := by kernel_rfl
  have hm : t ∈ Tryd.f3.params.toList := by simpa using Array.mem_of_getElem? ht
  have := List.all_eq_true.1 hall t hm
  exact (show Tryd.prog.wantsStandIn t = false by simpa using this)
end blockPartsFrame
/-- BlockParts: the card: for every input the law answers true. -/
theorem blockParts_card : Rows.BlockPartsCardSaid :=
  Claim7.holds_tied_plain_at .later [] _ _ _ _ blockParts_said (fun _ h => by cases h) (by kernel_rfl) (fun _ h => by cases h) blockParts_row_tie rfl ⟨rfl, rfl⟩ (by kernel_rfl) rfl blockParts_plain (by kernel_rfl)
end Go.Proofs.YtcmfkdhadmfgkaaDoor.BkF
namespace Go.Proofs.YtcmfkdhadmfgkaaDoor
theorem blockParts_proved : Rows.BlockPartsCardSaid := BkF.blockParts_card
#print axioms blockParts_proved
end Go.Proofs.YtcmfkdhadmfgkaaDoor
