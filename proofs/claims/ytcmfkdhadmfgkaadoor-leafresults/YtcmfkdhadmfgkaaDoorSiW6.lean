/- Several texts, joined. -/
import Derived.Test.YtcmfkdhadmfgkaaDoorSiM
import Derived.Test.YtcmfkdhadmfgkaaDoorBs
import Derived.Test.YtcmfkdhadmfgkaaDoorSeL
/- Mathematics of leaves: the lowest bit; the places of a word's bits, rising; the table by which the lowest bit is found. -/
namespace Go.Proofs.YtcmfkdhadmfgkaaDoor.Si

/-- The places of the bits that are 1 among the lowest n, rising. -/
def pos (x : Nat) : Nat → List Nat
  | 0 => []
  | n + 1 => pos x n ++ if x.testBit n then [n] else []
theorem pos_len (x : Nat) : ∀ n, (pos x n).length = pcn x n
  | 0 => rfl
  | n + 1 => by
    unfold pos pcn
    rw [List.length_append, pos_len x n, bit_of]
    cases x.testBit n <;> rfl
theorem mem_pos (x i : Nat) : ∀ n, i ∈ pos x n ↔ i < n ∧ x.testBit i = true
  | 0 => by simp [pos]
  | n + 1 => by
    unfold pos
    rw [List.mem_append, mem_pos x i n]
    cases h : x.testBit n
    · simp
      intro h1
      constructor
      · intro h2; omega
      · intro h2
        rcases Nat.lt_or_ge i n with h3 | h3
        · exact h3
        · obtain rfl : i = n := by omega
          rw [h] at h1; cases h1
    · simp
      constructor
      · rintro (⟨h1, h2⟩ | rfl)
        · exact ⟨by omega, h2⟩
        · exact ⟨by omega, h⟩
      · rintro ⟨h1, h2⟩
        rcases Nat.lt_or_ge i n with h3 | h3
        · exact .inl ⟨h3, h2⟩
        · exact .inr (by omega)
theorem pos_zero (n : Nat) : pos 0 n = [] := by
  rw [List.eq_nil_iff_forall_not_mem]
  intro i hi
  simp [mem_pos] at hi
/-- A number that isn't 0 is 2^k (2m + 1). -/
theorem low_bit : ∀ x : Nat, x ≠ 0 → ∃ k m, x = 2 ^ (k + 1) * m + 2 ^ k := by
  intro x
  induction x using Nat.strongRecOn with
  | ind x ih =>
    intro hx
    rcases Nat.mod_two_eq_zero_or_one x with h | h
    · obtain ⟨k, m, hk⟩ := ih (x / 2) (by omega) (by omega)
      refine ⟨k + 1, m, ?_⟩
      rw [show x = 2 * (x / 2) by omega, hk, Nat.mul_add, ← Nat.mul_assoc, Nat.pow_succ 2 (k + 1), Nat.pow_succ 2 k]
      simp [Nat.mul_comm]
    · exact ⟨0, x / 2, by simp; omega⟩
theorem bits_x (k m i : Nat) : (2 ^ (k + 1) * m + 2 ^ k).testBit i = if i < k + 1 then decide (k = i) else m.testBit (i - (k + 1)) := by
  rw [Nat.testBit_two_pow_mul_add m (Nat.pow_lt_pow_right (by decide) (by omega)), Nat.testBit_two_pow]
theorem bits_y (k m i : Nat) : (2 ^ (k + 1) * m + 2 ^ k - 1).testBit i = if i < k + 1 then decide (i < k) else m.testBit (i - (k + 1)) := by
  have h0 : 0 < 2 ^ k := Nat.two_pow_pos k
  rw [show 2 ^ (k + 1) * m + 2 ^ k - 1 = 2 ^ (k + 1) * m + (2 ^ k - 1) by omega, Nat.testBit_two_pow_mul_add m (by rw [Nat.pow_succ]; omega), Nat.testBit_two_pow_sub_one]
/-- The lowest bit taken away. -/
theorem and_pred (k m : Nat) : (2 ^ (k + 1) * m + 2 ^ k) &&& (2 ^ (k + 1) * m + 2 ^ k - 1) = 2 ^ (k + 1) * m := by
  refine Nat.eq_of_testBit_eq fun i => ?_
  rw [Nat.testBit_and, bits_x, bits_y, Nat.testBit_two_pow_mul]
  by_cases h : i < k + 1
  · simp only [if_pos h]
    rw [show decide (i ≥ k + 1) = false by simp; omega]
    by_cases e : k = i
    · simp [e]
    · simp [e]
  · simp only [if_neg h, Bool.and_self]
    rw [show decide (i ≥ k + 1) = true by simp; omega, Bool.true_and]
/-- The lowest bit alone. -/
theorem and_neg (k m : Nat) (hx : 2 ^ (k + 1) * m + 2 ^ k < 4294967296) : (2 ^ (k + 1) * m + 2 ^ k) &&& (4294967296 - (2 ^ (k + 1) * m + 2 ^ k)) = 2 ^ k := by
  have h0 : 0 < 2 ^ k := Nat.two_pow_pos k
  refine Nat.eq_of_testBit_eq fun i => ?_
  have e : 4294967296 - (2 ^ (k + 1) * m + 2 ^ k) = 2 ^ 32 - ((2 ^ (k + 1) * m + 2 ^ k - 1) + 1) := by omega
  rw [e, Nat.testBit_and, Nat.testBit_two_pow_sub_succ (by omega), bits_x, bits_y, Nat.testBit_two_pow]
  have hk : k < 32 := by
    rcases Nat.lt_or_ge k 32 with h | h
    · exact h
    · have : 2 ^ 32 ≤ 2 ^ k := Nat.pow_le_pow_right (by decide) h
      omega
  by_cases h : i < k + 1
  · simp only [if_pos h]
    by_cases e : k = i
    · subst e; simp [hk]
    · simp [e]
  · have e : ¬ k = i := by omega
    simp only [if_neg h, e, decide_false]
    cases m.testBit (i - (k + 1)) <;> simp
theorem low_lt {k m : Nat} (hx : 2 ^ (k + 1) * m + 2 ^ k < 4294967296) : k < 32 := by
  rcases Nat.lt_or_ge k 32 with h | h
  · exact h
  · have : 2 ^ 32 ≤ 2 ^ k := Nat.pow_le_pow_right (by decide) h
    omega
/-- The places of what is left, behind the lowest one. -/
theorem pos_step (k m : Nat) : ∀ n, pos (2 ^ (k + 1) * m + 2 ^ k) n = (if k < n then [k] else []) ++ pos (2 ^ (k + 1) * m) n
  | 0 => rfl
  | n + 1 => by
    unfold pos
    rw [pos_step k m n, bits_x, Nat.testBit_two_pow_mul]
    rcases Nat.lt_trichotomy n k with h | h | h
    · have e1 : ¬ k < n := by omega
      have e2 : ¬ k < n + 1 := by omega
      have e3 : n < k + 1 := by omega
      have e4 : ¬ k = n := by omega
      have e5 : ¬ n ≥ k + 1 := by omega
      simp [e1, e2, e3, e4, e5]
    · subst h
      have e : pos (2 ^ (n + 1) * m) n = [] := by
        rw [List.eq_nil_iff_forall_not_mem]
        intro i hi
        rw [mem_pos, Nat.testBit_two_pow_mul] at hi
        simp at hi
        omega
      simp [e]
      omega
    · have e1 : k < n := by omega
      have e2 : k < n + 1 := by omega
      have e3 : ¬ n < k + 1 := by omega
      have e5 : n ≥ k + 1 := by omega
      simp [e1, e2, e3, e5]
/-- The table by which the place of a lone bit is found. -/
def deb : List Int := [0, 1, 28, 2, 29, 14, 24, 3, 30, 22, 20, 15, 25, 17, 4, 8, 31, 27, 13, 23, 21, 19, 16, 7, 26, 12, 18, 6, 11, 5, 10, 9]
theorem deb_fin : ∀ k : Fin 32, deb.getD (2 ^ k.val * 125613361 % 4294967296 / 134217728) 0 = (k.val : Int) ∧ 2 ^ k.val * 125613361 % 4294967296 / 134217728 < 32 := by decide +kernel
theorem u32_neg (x : Nat) (h0 : x ≠ 0) (hx : x < 4294967296) : (-(x : Int)) % 4294967296 = ((4294967296 - x : Nat) : Int) := by omega
theorem on_test (f k i : Nat) : (f ||| 2 ^ k).testBit i = (f.testBit i || decide (k = i)) := by rw [Nat.testBit_or, Nat.testBit_two_pow]
theorem off_test (f k i : Nat) (hk : k < 32) (hi : i < 32) : (f &&& (4294967295 - 2 ^ k)).testBit i = (f.testBit i && !decide (k = i)) := by
  have h : 2 ^ k < 2 ^ 32 := Nat.pow_lt_pow_right (by decide) hk
  rw [Nat.testBit_and, show 4294967295 - 2 ^ k = 2 ^ 32 - (2 ^ k + 1) by omega, Nat.testBit_two_pow_sub_succ h, Nat.testBit_two_pow]
  simp [hi]
theorem on_lt (f k : Nat) (hf : f < 4294967296) (hk : k < 32) : f ||| 2 ^ k < 4294967296 := Nat.or_lt_two_pow (n := 32) hf (Nat.pow_lt_pow_right (by decide) hk)
theorem off_lt (f k : Nat) (hf : f < 4294967296) : f &&& (4294967295 - 2 ^ k) < 4294967296 := Nat.lt_of_le_of_lt Nat.and_le_left hf
theorem pcn_on (f k : Nat) (hk : k < 32) : ∀ n, n ≤ 32 → pcn (f ||| 2 ^ k) n = pcn (f &&& (4294967295 - 2 ^ k)) n + if k < n then 1 else 0
  | 0, _ => by simp [pcn]
  | n + 1, h => by
    have ih := pcn_on f k hk n (by omega)
    unfold pcn
    rw [ih, bit_of, bit_of, on_test, off_test f k n hk (by omega)]
    rcases Nat.lt_trichotomy k n with h' | h' | h'
    · have e1 : ¬ k = n := by omega
      have e2 : k < n + 1 := by omega
      simp [e1, e2, h']; omega
    · subst h'; simp
    · have e1 : ¬ k = n := by omega
      have e2 : ¬ k < n + 1 := by omega
      have e3 : ¬ k < n := by omega
      simp [e1, e2, e3]
/-- With the bit set, or without it, it is the word itself. -/
theorem on_off (f k : Nat) (hf : f < 4294967296) (hk : k < 32) : f ||| 2 ^ k = f ∨ f &&& (4294967295 - 2 ^ k) = f := by
  cases h : f.testBit k
  · refine .inr (Nat.eq_of_testBit_eq fun i => ?_)
    rcases Nat.lt_or_ge i 32 with hi | hi
    · rw [off_test f k i hk hi]
      by_cases e : k = i
      · subst e; simp [h]
      · simp [e]
    · rw [Nat.testBit_lt_two_pow (Nat.lt_of_lt_of_le (off_lt f k hf) (show 2 ^ 32 ≤ 2 ^ i from Nat.pow_le_pow_right (by decide) hi)), Nat.testBit_lt_two_pow (Nat.lt_of_lt_of_le hf (show 2 ^ 32 ≤ 2 ^ i from Nat.pow_le_pow_right (by decide) hi))]
  · refine .inl (Nat.eq_of_testBit_eq fun i => ?_)
    rw [on_test]
    by_cases e : k = i
    · subst e; simp [h]
    · simp [e]
end Go.Proofs.YtcmfkdhadmfgkaaDoor.Si

/- Contracts of package site: inside, place, State, Put. -/
namespace Go.Proofs.YtcmfkdhadmfgkaaDoor.Si
open Go.RowKit Go.Proofs.YtcmfkdhadmfgkaaDoor.Ba

theorem ret_int {k : IntKind} {a b : Int} (h : a = b) : Ending.returned (.int k a) = .returned (.int k b) := by rw [h]
def inQ (a b : Int) : Bool := decide (0 ≤ a ∧ a < 4 ∧ 0 ≤ b ∧ b < 4)
end Go.Proofs.YtcmfkdhadmfgkaaDoor.Si

/- Contracts of package site: Low, OnesCount32, Count; the law's own look. -/
namespace Go.Proofs.YtcmfkdhadmfgkaaDoor.Si
open Go.RowKit Go.Proofs.YtcmfkdhadmfgkaaDoor.Ba

end Go.Proofs.YtcmfkdhadmfgkaaDoor.Si

/- Contracts: bits.TrailingZeros32, With. -/
namespace Go.Proofs.YtcmfkdhadmfgkaaDoor.Si
open Go.RowKit Go.Proofs.YtcmfkdhadmfgkaaDoor.Ba Go.Proofs.YtcmfkdhadmfgkaaDoor.Se

/-- With, of a cell of the leaf. -/
def bitAt (c : C) : Nat := 2 * (4 * (c.2.1 % 4).toNat + (c.1 % 4).toNat) + c.2.2.toNat
end Go.Proofs.YtcmfkdhadmfgkaaDoor.Si

/- Contract: Cells of a leaf. -/
namespace Go.Proofs.YtcmfkdhadmfgkaaDoor.Si
open Go.RowKit Go.Proofs.YtcmfkdhadmfgkaaDoor.Ba Go.Proofs.YtcmfkdhadmfgkaaDoor.Se Go.Lib

/-- The cell of a leaf's bit. -/
def cAt (A B : Int) (k : Nat) : C := (A + (k : Int) / 2 % 4, B + (k : Int) / 2 / 4, (k : Int) % 2)
def CeR (w : World) (f : Nat) (A B : Int) (s rest : Value) (wr : World) : Prop :=
  ∃ (M : List Nat) (x : Nat), rest = .int .u32 x ∧ x < 4294967296 ∧ pos f 32 = M ++ pos x 32 ∧ wr.ownsRow (w.heap.size + 1) 72 3 s M.length (flat (M.map (cAt A B))) ∧ Blk wr w.heap.size 70 #[.int .i64 A, .int .i64 B] ∧ Below w.heap.size w wr
theorem pos_le (f : Nat) : (pos f 32).length ≤ 32 := by
  have : ∀ n, (pos f n).length ≤ n := by
    intro n
    induction n with
    | zero => simp [pos]
    | succ n ih => unfold pos; rw [List.length_append]; split <;> simp <;> omega
  exact this 32
end Go.Proofs.YtcmfkdhadmfgkaaDoor.Si

/- The document's Low; cells held against each other; boxes that are kept. -/
namespace Go.Proofs.YtcmfkdhadmfgkaaDoor.Si
open Go.RowKit Go.Proofs.YtcmfkdhadmfgkaaDoor.Ba Go.Proofs.YtcmfkdhadmfgkaaDoor.Se Go.Proofs.YtcmfkdhadmfgkaaDoor.Ax Go.Lib

theorem eql_c (x y : C) (w : World) : (binOp .eql 72 (.agg #[.int .i64 x.1, .int .i64 x.2.1, .int .i64 x.2.2]) (.agg #[.int .i64 y.1, .int .i64 y.2.1, .int .i64 y.2.2])).run Tryd.prog w = .ok (.bool (decide (x = y))) w := by
  obtain ⟨a, b, c⟩ := x
  obtain ⟨d, e, f⟩ := y
  rw [eql_ce]
  congr 2
  simp only [Prod.mk.injEq]
  by_cases h1 : a = d <;> by_cases h2 : b = e <;> by_cases h3 : c = f <;> simp [h1, h2, h3]
theorem neq_c (x y : C) (w : World) : (binOp .neq 72 (.agg #[.int .i64 x.1, .int .i64 x.2.1, .int .i64 x.2.2]) (.agg #[.int .i64 y.1, .int .i64 y.2.1, .int .i64 y.2.2])).run Tryd.prog w = .ok (.bool (!decide (x = y))) w := by
  obtain ⟨a, b, c⟩ := x
  obtain ⟨d, e, f⟩ := y
  rw [neq_ce]
  congr 2
  simp only [Prod.mk.injEq]
  by_cases h1 : a = d <;> by_cases h2 : b = e <;> by_cases h3 : c = f <;> simp [h1, h2, h3]
theorem keep3 {W w' : World} {g : Nat} {t : TypeId} {a b c : Value} (k : Blk W g t #[a, b, c]) (hb : Below W.heap.size W w') :
    w'.cell? ⟨g, 0, none⟩ = some a ∧ w'.cell? ⟨g, 1, none⟩ = some b ∧ w'.cell? ⟨g, 2, none⟩ = some c :=
  have k' := k.under hb
  ⟨k'.cell 0, k'.cell 1, k'.cell 2⟩
theorem keep2 {W w' : World} {g : Nat} {t : TypeId} {a b : Value} (k : Blk W g t #[a, b]) (hb : Below W.heap.size W w') :
    w'.cell? ⟨g, 0, none⟩ = some a ∧ w'.cell? ⟨g, 1, none⟩ = some b :=
  have k' := k.under hb
  ⟨k'.cell 0, k'.cell 1⟩
theorem tmod_bd (a m : Int) (h : 0 < m) : -m < a.tmod m ∧ a.tmod m < m := by
  have h1 := Int.tmod_lt_of_pos a h
  have h2 := Int.tmod_lt_of_pos (-a) h
  rw [Int.neg_tmod] at h2
  omega
theorem tmod4 (a : Int) : (0 ≤ a.tmod 4 ∧ a.tmod 4 = a % 4) ∨ (a.tmod 4 < 0 ∧ a.tmod 4 + 4 = a % 4) := by
  have h1 := tmod_bd a 4 (by decide)
  have h2 := Int.tmod_add_mul_tdiv a 4
  omega
theorem bitAt_lt (c : C) (h : c.2.2 = 0 ∨ c.2.2 = 1) : bitAt c < 32 := by unfold bitAt; omega
theorem cAt_bit (a b h : Int) (hh : h = 0 ∨ h = 1) : cAt (a - a % 4) (b - b % 4) (bitAt (a, b, h)) = (a, b, h) := by
  unfold cAt bitAt
  dsimp only
  refine Prod.ext ?_ (Prod.ext ?_ ?_) <;> dsimp only <;> omega
theorem bit_cAt (a b h : Int) (k : Nat) (e : cAt (a - a % 4) (b - b % 4) k = (a, b, h)) : k = bitAt (a, b, h) := by
  unfold cAt at e
  injection e with e1 e
  injection e with e2 e3
  unfold bitAt
  dsimp only
  omega
theorem there_in (f : Nat) (a b h : Int) (hh : h = 0 ∨ h = 1) : ((a, b, h) : C) ∈ (pos (f ||| 2 ^ bitAt (a, b, h)) 32).map (cAt (a - a % 4) (b - b % 4)) := by
  refine List.mem_map.2 ⟨bitAt (a, b, h), (mem_pos _ _ _).2 ⟨bitAt_lt _ hh, ?_⟩, cAt_bit a b h hh⟩
  rw [on_test]; simp
theorem there_out (f : Nat) (a b h : Int) (hh : h = 0 ∨ h = 1) : ((a, b, h) : C) ∉ (pos (f &&& (4294967295 - 2 ^ bitAt (a, b, h))) 32).map (cAt (a - a % 4) (b - b % 4)) := by
  intro hm
  obtain ⟨k, hk, e⟩ := List.mem_map.1 hm
  obtain ⟨h1, h2⟩ := (mem_pos _ _ _).1 hk
  have := bit_cAt a b h k e
  rw [off_test _ _ _ (bitAt_lt _ hh) h1, this] at h2
  simp at h2
theorem mem_take_next {L : List C} {k : Nat} {x c : C} (hx : L[k]? = some x) : decide (c ∈ L.take (k + 1)) = (decide (c ∈ L.take k) || decide (x = c)) := by
  rw [List.take_add_one, hx, Option.toList_some, Bool.eq_iff_iff]
  simp only [List.mem_append, List.mem_singleton, decide_eq_true_eq, Bool.or_eq_true]
  constructor
  · rintro (h | h)
    · exact .inl h
    · exact .inr h.symm
  · rintro (h | h)
    · exact .inl h
    · exact .inr h.symm
theorem set_slice {w : World} {v : Value} {L : List C} (h : SetAt w v L) : ∃ p cap, v = .slice p L.length cap := by
  rcases h with ⟨h1, h2⟩ | ⟨g, cap, h1, _, _⟩
  · exact ⟨none, 0, by rw [h1, h2]; rfl⟩
  · exact ⟨_, _, h1⟩
end Go.Proofs.YtcmfkdhadmfgkaaDoor.Si
