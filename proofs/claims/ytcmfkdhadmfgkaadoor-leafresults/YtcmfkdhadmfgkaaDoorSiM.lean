/- Mathematics of leaves: the states of a word's sixteen places; words of 32 bits. -/
import Derived.Laws.BitsLemmas
import Derived.Laws.BitsAllLaws
import Derived.Lib.Tables
import GoSem.Claim
namespace Go.Proofs.YtcmfkdhadmfgkaaDoor.Si

/-- The k-th state; the word with another k-th state. -/
def st (f k : Nat) : Nat := f / 2 ^ (2 * k) % 4
def pt (f k s : Nat) : Nat := (f &&& (4294967295 - 3 * 2 ^ (2 * k))) ||| s * 2 ^ (2 * k)
theorem u32_wf {n : Int} (h : (Lit.int .u32 n).wf = true) : 0 ≤ n ∧ n < 4294967296 := by
  simp [Lit.wf, IntKind.min, IntKind.max, IntKind.signed, IntKind.bits] at h
  omega
theorem i64_wf {n : Int} (h : (Lit.int .i64 n).wf = true) : -9223372036854775808 ≤ n ∧ n ≤ 9223372036854775807 := by
  simp [Lit.wf, IntKind.min, IntKind.max, IntKind.signed, IntKind.bits] at h
  omega
theorem st_lt (f k : Nat) : st f k < 4 := Nat.mod_lt _ (by decide)
theorem st_bit (f k : Nat) : st f k = (f / 2 ^ (2 * k) % 2) + 2 * (f / 2 ^ (2 * k + 1) % 2) := by
  unfold st
  rw [Nat.pow_succ, ← Nat.div_div_eq_div_mul]
  omega
theorem bit_of (f k : Nat) : f / 2 ^ k % 2 = (f.testBit k).toNat := by
  rw [Nat.testBit_eq_decide_div_mod_eq]
  rcases Nat.mod_two_eq_zero_or_one (f / 2 ^ k) with h | h <;> simp [h]
theorem st_test (f k : Nat) : st f k = (f.testBit (2 * k)).toNat + 2 * (f.testBit (2 * k + 1)).toNat := by rw [st_bit, bit_of, bit_of]
theorem mask_test (k i : Nat) (hk : k < 16) : (4294967295 - 3 * 2 ^ (2 * k)).testBit i = (decide (i < 32) && !decide (i = 2 * k) && !decide (i = 2 * k + 1)) := by
  by_cases hi : i < 32
  · have : ∀ k : Fin 16, ∀ i : Fin 32, (4294967295 - 3 * 2 ^ (2 * k.val)).testBit i.val = (decide (i.val < 32) && !decide (i.val = 2 * k.val) && !decide (i.val = 2 * k.val + 1)) := by decide +kernel
    exact this ⟨k, hk⟩ ⟨i, hi⟩
  · simp only [hi, decide_false, Bool.false_and]
    exact Nat.testBit_lt_two_pow (Nat.lt_of_lt_of_le (by omega : _ < 2 ^ 32) (Nat.pow_le_pow_right (by decide) (by omega)))
theorem pt_lt (f k s : Nat) (hk : k < 16) (hs : s < 4) : pt f k s < 4294967296 := by
  unfold pt
  refine Nat.or_lt_two_pow (n := 32) (Nat.and_lt_two_pow _ (by omega)) ?_
  have h1 : 2 ^ (2 * k) ≤ 2 ^ 30 := Nat.pow_le_pow_right (by decide) (by omega)
  have h2 : s * 2 ^ (2 * k) ≤ 3 * 2 ^ 30 := Nat.mul_le_mul (by omega) h1
  omega
theorem sh_test (s k i : Nat) (hs : s < 4) : (s * 2 ^ (2 * k)).testBit i = ((decide (i = 2 * k) && s.testBit 0) || (decide (i = 2 * k + 1) && s.testBit 1)) := by
  rw [Nat.mul_comm, Nat.testBit_two_pow_mul]
  by_cases h : 2 * k ≤ i
  · obtain ⟨d, rfl⟩ : ∃ d, i = 2 * k + d := ⟨i - 2 * k, by omega⟩
    rw [Nat.add_sub_cancel_left]
    rcases d with _ | _ | d
    · simp
    · simp
    · have : s.testBit (d + 2) = false := Nat.testBit_lt_two_pow (Nat.lt_of_lt_of_le hs (show 2 ^ 2 ≤ 2 ^ (d + 2) from Nat.pow_le_pow_right (by decide) (by omega)))
      have e1 : ¬ 2 * k + (d + 2) = 2 * k := by omega
      have e2 : ¬ 2 * k + (d + 2) = 2 * k + 1 := by omega
      simp [this]
  · have e1 : ¬ i = 2 * k := by omega
    have e2 : ¬ i = 2 * k + 1 := by omega
    simp [h, e1, e2]
theorem pt_test (f k s i : Nat) (hk : k < 16) (hs : s < 4) : (pt f k s).testBit i = if i = 2 * k then s.testBit 0 else if i = 2 * k + 1 then s.testBit 1 else (decide (i < 32) && f.testBit i) := by
  unfold pt
  rw [Nat.testBit_or, Nat.testBit_and, mask_test k i hk, sh_test s k i hs]
  by_cases h1 : i = 2 * k
  · have : ¬ i = 2 * k + 1 := by omega
    simp [h1]
  · by_cases h2 : i = 2 * k + 1
    · simp [h2]
    · simp [h1, h2, Bool.and_comm]
theorem st_pt (f k s j : Nat) (hk : k < 16) (hs : s < 4) (hj : j < 16) : st (pt f k s) j = if j = k then s else st f j := by
  rw [st_test, st_test, pt_test f k s _ hk hs, pt_test f k s _ hk hs]
  by_cases h : j = k
  · subst h
    have : s = 0 ∨ s = 1 ∨ s = 2 ∨ s = 3 := by omega
    rcases this with rfl | rfl | rfl | rfl <;> (simp <;> try decide)
  · have a1 : ¬ 2 * j = 2 * k := by omega
    have a2 : ¬ 2 * j = 2 * k + 1 := by omega
    have a3 : ¬ 2 * j + 1 = 2 * k := by omega
    have a4 : ¬ 2 * j + 1 = 2 * k + 1 := by omega
    have a5 : 2 * j < 32 := by omega
    have a6 : 2 * j + 1 < 32 := by omega
    simp only [if_neg h, if_neg a1, if_neg a2, if_neg a3, if_neg a4, a5, a6, decide_true, Bool.true_and]
theorem two_bits : ∀ a b c d : Bool, a.toNat + 2 * b.toNat = c.toNat + 2 * d.toNat → a = c ∧ b = d := by decide
/-- Words with the same states are the same. -/
theorem st_ext (f g : Nat) (hf : f < 4294967296) (hg : g < 4294967296) (h : ∀ j, j < 16 → st f j = st g j) : f = g := by
  refine Nat.eq_of_testBit_eq fun i => ?_
  by_cases hi : i < 32
  · have hj := h (i / 2) (by omega)
    rw [st_test, st_test] at hj
    rcases Nat.mod_two_eq_zero_or_one i with h0 | h0
    · rw [show 2 * (i / 2) = i by omega] at hj
      exact (two_bits _ _ _ _ hj).1
    · rw [show 2 * (i / 2) + 1 = i by omega] at hj
      exact (two_bits _ _ _ _ hj).2
  · rw [Nat.testBit_lt_two_pow (Nat.lt_of_lt_of_le hf (show 2 ^ 32 ≤ 2 ^ i from Nat.pow_le_pow_right (by decide) (by omega))), Nat.testBit_lt_two_pow (Nat.lt_of_lt_of_le hg (show 2 ^ 32 ≤ 2 ^ i from Nat.pow_le_pow_right (by decide) (by omega)))]
theorem u32_shr (f p : Nat) (hf : f < 4294967296) : bits .and .u32 ((f : Int) / 2 ^ p) 3 = ((f / 2 ^ p % 4 : Nat) : Int) := by
  have e : ((f : Int) / 2 ^ p) = ((f / 2 ^ p : Nat) : Int) := by simp
  have h := u32_and_nat (f / 2 ^ p) 3 (Nat.lt_of_le_of_lt (Nat.div_le_self _ _) hf) (by decide)
  rw [e]
  rw [nat_mask2] at h
  exact h
theorem i64_and3 (n : Int) : bits .and .i64 n 3 = n % 4 := by
  have h127 : (BitVec.ofInt 64 3).toNat = 2 ^ 2 - 1 := by decide
  have key : (BitVec.ofInt 64 n &&& BitVec.ofInt 64 3).toNat = (n % ((2 ^ 64 : Nat) : Int)).toNat % 2 ^ 2 := by
    rw [BitVec.toNat_and, BitVec.toNat_ofInt, h127, Nat.and_two_pow_sub_one_eq_mod]
  show IntKind.i64.wrap ((BitVec.ofInt 64 n &&& BitVec.ofInt 64 3).toNat : Nat) = n % 4
  rw [key, IntKind.wrap_i64]
  omega
theorem i64_and15 (n : Int) : bits .and .i64 n 15 = n % 16 := by
  have h127 : (BitVec.ofInt 64 15).toNat = 2 ^ 4 - 1 := by decide
  have key : (BitVec.ofInt 64 n &&& BitVec.ofInt 64 15).toNat = (n % ((2 ^ 64 : Nat) : Int)).toNat % 2 ^ 4 := by
    rw [BitVec.toNat_and, BitVec.toNat_ofInt, h127, Nat.and_two_pow_sub_one_eq_mod]
  show IntKind.i64.wrap ((BitVec.ofInt 64 n &&& BitVec.ofInt 64 15).toNat : Nat) = n % 16
  rw [key, IntKind.wrap_i64]
  omega
theorem pow_nat (p : Nat) : ((2 : Int) ^ p) = ((2 ^ p : Nat) : Int) := by simp
theorem put_math (f p s k : Nat) (hf : f < 4294967296) (hs : s < 4) (hk : k < 16) (hp : p = 2 * k) :
    bits .or .u32 (bits .andNot .u32 (f : Int) (3 * 2 ^ p % 4294967296)) ((s : Int) * 2 ^ p % 4294967296) = ((pt f k s : Nat) : Int) := by
  subst hp
  have h1 : 2 ^ (2 * k) ≤ 2 ^ 30 := Nat.pow_le_pow_right (by decide) (by omega)
  have h2 : s * 2 ^ (2 * k) ≤ 3 * 2 ^ 30 := Nat.mul_le_mul (by omega) h1
  unfold pt
  rw [pow_nat, show (3 * ((2 ^ (2 * k) : Nat) : Int) % 4294967296) = ((3 * 2 ^ (2 * k) : Nat) : Int) by omega, u32_andNot_nat _ _ hf (by omega)]
  rw [show ((s : Int) * ((2 ^ (2 * k) : Nat) : Int) % 4294967296) = ((s * 2 ^ (2 * k) : Nat) : Int) by rw [Int.natCast_mul]; rw [← Int.natCast_mul]; omega]
  exact u32_or_nat _ _ (Nat.and_lt_two_pow _ (show _ < 2 ^ 32 by omega)) (by omega)
/-- How many of the lowest n bits are 1. -/
def pcn (x : Nat) : Nat → Nat
  | 0 => 0
  | n + 1 => pcn x n + x / 2 ^ n % 2
theorem pcn_add (x n : Nat) : ∀ m, pcn x (n + m) = pcn x n + pcn (x / 2 ^ n) m
  | 0 => rfl
  | m + 1 => by
    show pcn x (n + m) + x / 2 ^ (n + m) % 2 = pcn x n + (pcn (x / 2 ^ n) m + x / 2 ^ n / 2 ^ m % 2)
    rw [pcn_add x n m, Nat.div_div_eq_div_mul, ← Nat.pow_add]
    omega
theorem pcn_mod (x k : Nat) : ∀ n, n ≤ k → pcn (x % 2 ^ k) n = pcn x n
  | 0, _ => rfl
  | n + 1, h => by
    show pcn (x % 2 ^ k) n + x % 2 ^ k / 2 ^ n % 2 = pcn x n + x / 2 ^ n % 2
    rw [pcn_mod x k n (by omega), bit_of, bit_of, Nat.testBit_mod_two_pow]
    simp [show n < k by omega]
theorem fold_pop : (⟨(([0, 1, 1, 2, 1, 2, 2, 3, 1, 2, 2, 3, 2, 3, 3, 4, 1, 2, 2, 3, 2, 3, 3, 4, 2, 3, 3, 4, 3, 4, 4, 5, 1, 2, 2, 3, 2, 3, 3, 4, 2, 3, 3, 4, 3, 4, 4, 5, 2, 3, 3, 4, 3, 4, 4, 5, 3, 4, 4, 5, 4, 5, 5, 6] : List UInt8).append [1, 2, 2, 3, 2, 3, 3, 4, 2, 3, 3, 4, 3, 4, 4, 5, 2, 3, 3, 4, 3, 4, 4, 5, 3, 4, 4, 5, 4, 5, 5, 6, 2, 3, 3, 4, 3, 4, 4, 5, 3, 4, 4, 5, 4, 5, 5, 6, 3, 4, 4, 5, 4, 5, 5, 6, 4, 5, 5, 6, 5, 6, 6, 7] |>.append (List.append [1, 2, 2, 3, 2, 3, 3, 4, 2, 3, 3, 4, 3, 4, 4, 5, 2, 3, 3, 4, 3, 4, 4, 5, 3, 4, 4, 5, 4, 5, 5, 6, 2, 3, 3, 4, 3, 4, 4, 5, 3, 4, 4, 5, 4, 5, 5, 6, 3, 4, 4, 5, 4, 5, 5, 6, 4, 5, 5, 6, 5, 6, 6, 7] [2, 3, 3, 4, 3, 4, 4, 5, 3, 4, 4, 5, 4, 5, 5, 6, 3, 4, 4, 5, 4, 5, 5, 6, 4, 5, 5, 6, 5, 6, 6, 7, 3, 4, 4, 5, 4, 5, 5, 6, 4, 5, 5, 6, 5, 6, 6, 7, 4, 5, 5, 6, 5, 6, 6, 7, 5, 6, 6, 7, 6, 7, 7, 8])).toArray⟩ : ByteArray) = Lib.pop8tab := by decide +kernel
theorem pop8_fin : ∀ b : Fin 256, Lib.pop8 (b.val : Int) = (pcn b.val 8 : Int) := by decide +kernel
theorem pcn8_le : ∀ b : Fin 256, pcn b.val 8 ≤ 8 := by decide +kernel
theorem pop8_eq (b : Nat) (h : b < 256) : Lib.pop8 (b : Int) = (pcn b 8 : Int) := pop8_fin ⟨b, h⟩
theorem u32_and255 (f p : Nat) (hf : f < 4294967296) : bits .and .u32 ((f : Int) / 2 ^ p) 255 = ((f / 2 ^ p % 256 : Nat) : Int) := by
  have e : ((f : Int) / 2 ^ p) = ((f / 2 ^ p : Nat) : Int) := by simp
  have h := u32_and_nat (f / 2 ^ p) 255 (Nat.lt_of_le_of_lt (Nat.div_le_self _ _) hf) (by decide)
  rw [e]
  rw [nat_mask8] at h
  exact h
theorem pc_bytes (x : Nat) : pcn x 32 = pcn (x / 16777216 % 256) 8 + pcn (x / 65536 % 256) 8 + pcn (x / 256 % 256) 8 + pcn (x % 256) 8 := by
  have h1 : pcn x 32 = pcn x 8 + pcn (x / 256) 24 := pcn_add x 8 24
  have h2 : pcn (x / 256) 24 = pcn (x / 256) 8 + pcn (x / 256 / 256) 16 := pcn_add (x / 256) 8 16
  have h3 : pcn (x / 65536) 16 = pcn (x / 65536) 8 + pcn (x / 65536 / 256) 8 := pcn_add (x / 65536) 8 8
  have m0 := pcn_mod x 8 8 (by decide)
  have m1 := pcn_mod (x / 256) 8 8 (by decide)
  have m2 := pcn_mod (x / 65536) 8 8 (by decide)
  have m3 := pcn_mod (x / 16777216) 8 8 (by decide)
  simp only [show (2 : Nat) ^ 8 = 256 from rfl, Nat.div_div_eq_div_mul, show 256 * 256 = 65536 from rfl, show 65536 * 256 = 16777216 from rfl] at h1 h2 h3 m0 m1 m2 m3
  rw [m0, m1, m2, m3]
  omega
theorem low_math (a : Int) (h : -9223372036854775808 ≤ a ∧ a ≤ 9223372036854775807) : bits .andNot .i64 a 3 = a - a % 4 := by
  have hx : (BitVec.ofInt 64 a).toNat = (a % 18446744073709551616).toNat := by rw [BitVec.toNat_ofInt]; rfl
  have key : (BitVec.ofInt 64 a &&& ~~~ BitVec.ofInt 64 3).toNat = (a % 18446744073709551616).toNat / 4 * 4 := by
    rw [BitVec.toNat_and, hx, show (~~~ BitVec.ofInt 64 3).toNat = 2 ^ 64 - 2 ^ 2 by decide, nat_midmask 64 2 _ (by decide)]
    omega
  show IntKind.i64.wrap ((BitVec.ofInt 64 a &&& ~~~ BitVec.ofInt 64 3).toNat : Nat) = a - a % 4
  rw [key, IntKind.wrap_i64]
  omega
end Go.Proofs.YtcmfkdhadmfgkaaDoor.Si
