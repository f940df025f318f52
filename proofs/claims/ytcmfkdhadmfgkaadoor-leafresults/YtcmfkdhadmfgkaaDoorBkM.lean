/- Numbers by their digits; blocks and planes by their bits: the mathematics. -/
import Derived.Test.YtcmfkdhadmfgkaaDoorBkSq
namespace Go.Proofs.YtcmfkdhadmfgkaaDoor.Bk
open Go.Proofs.YtcmfkdhadmfgkaaDoor.Si

/-- A number of k digits of s bits each. -/
def dg (s : Nat) (f : Nat → Nat) : Nat → Nat
  | 0 => 0
  | k + 1 => dg s f k + f k * 2 ^ (s * k)
theorem dg_succ (s : Nat) (f : Nat → Nat) (k : Nat) : dg s f (k + 1) = dg s f k + f k * 2 ^ (s * k) := rfl
theorem dg_lt {s : Nat} {f : Nat → Nat} (hf : ∀ i, f i < 2 ^ s) : ∀ k, dg s f k < 2 ^ (s * k)
  | 0 => by simp [dg]
  | k + 1 => by
    have ih := dg_lt hf k
    have h1 := hf k
    have h2 : 2 ^ (s * (k + 1)) = 2 ^ s * 2 ^ (s * k) := by rw [Nat.mul_succ, Nat.pow_add, Nat.mul_comm]
    have h3 : f k * 2 ^ (s * k) + 2 ^ (s * k) ≤ 2 ^ s * 2 ^ (s * k) := by rw [← Nat.succ_mul]; exact Nat.mul_le_mul_right _ h1
    unfold dg
    rw [h2]
    omega
theorem dg_bit {s : Nat} (hs : 0 < s) {f : Nat → Nat} (hf : ∀ i, f i < 2 ^ s) : ∀ k n, (dg s f k).testBit n = (decide (n < s * k) && (f (n / s)).testBit (n % s))
  | 0, n => by simp [dg]
  | k + 1, n => by
    have ih := dg_bit hs hf k
    have hl := dg_lt hf k
    have e : dg s f (k + 1) = 2 ^ (s * k) * f k + dg s f k := by rw [dg_succ, Nat.mul_comm (f k), Nat.add_comm]
    rw [e, Nat.testBit_two_pow_mul_add _ hl]
    by_cases h : n < s * k
    · rw [if_pos h, ih n]
      have : n < s * (k + 1) := by rw [Nat.mul_succ]; omega
      simp [h, this]
    · rw [if_neg h]
      by_cases h2 : n < s * (k + 1)
      · have hn : n = s * k + (n - s * k) := by omega
        have hd : n - s * k < s := by rw [Nat.mul_succ] at h2; omega
        have h3 : n / s = k := by rw [hn, Nat.mul_add_div hs, Nat.div_eq_of_lt hd]; omega
        have h4 : n % s = n - s * k := by rw [hn, Nat.mul_add_mod, Nat.mod_eq_of_lt hd]; omega
        rw [h3, h4]
        simp [h2]
      · have h5 : f k < 2 ^ (n - s * k) := Nat.lt_of_lt_of_le (hf k) (Nat.pow_le_pow_right (by decide) (by rw [Nat.mul_succ] at h2; omega))
        rw [Nat.testBit_lt_two_pow h5]
        simp [h2]
/-- One digit more, joined by or. -/
theorem dg_or {s : Nat} {f : Nat → Nat} (hf : ∀ i, f i < 2 ^ s) (k : Nat) : dg s f k ||| f k * 2 ^ (s * k) = dg s f (k + 1) := by
  rw [Nat.or_comm, nat_join (s * k) _ _ (Nat.mul_mod_left _ _) (dg_lt hf k), dg_succ]
  omega
theorem ev_dg (r : Nat) : ev r = dg 1 (fun a => r / 2 ^ (2 * a) % 2) 8 := by
  unfold ev
  simp only [dg]
  simp
  omega
theorem od_dg (b : Nat) : od b = dg 2 (fun a => b / 2 ^ a % 2) 8 := by
  unfold od
  simp only [dg]
  simp
  omega
theorem bit_mod (r n : Nat) : (r / 2 ^ n % 2).testBit 0 = r.testBit n := by
  rw [Nat.testBit_zero, Nat.testBit_eq_decide_div_mod_eq]
  simp
theorem ev_bit (r n : Nat) : (ev r).testBit n = (decide (n < 8) && r.testBit (2 * n)) := by
  rw [ev_dg, dg_bit (by decide) (fun i => by have := Nat.mod_lt (r / 2 ^ (2 * i)) (show 0 < 2 by decide); simpa using this)]
  simp only [Nat.one_mul, Nat.div_one, Nat.mod_one]
  rw [bit_mod]
theorem od_bit (b n : Nat) : (od b).testBit n = (decide (n < 16) && (decide (n % 2 = 0) && b.testBit (n / 2))) := by
  rw [od_dg, dg_bit (by decide) (fun i => by have := Nat.mod_lt (b / 2 ^ i) (show 0 < 2 by decide); omega)]
  by_cases h : n % 2 = 0
  · rw [h, bit_mod]; simp
  · have h1 : n % 2 = 1 := by omega
    have : (b / 2 ^ (n / 2) % 2).testBit 1 = false := Nat.testBit_lt_two_pow (by have := Nat.mod_lt (b / 2 ^ (n / 2)) (show 0 < 2 by decide); omega)
    rw [h1, this]
    simp
theorem ev_lt (r : Nat) : ev r < 256 := by rw [ev_dg]; exact dg_lt (fun i => by have := Nat.mod_lt (r / 2 ^ (2 * i)) (show 0 < 2 by decide); simpa using this) 8
theorem od_lt (b : Nat) : od b < 65536 := by rw [od_dg]; exact dg_lt (fun i => by have := Nat.mod_lt (b / 2 ^ i) (show 0 < 2 by decide); omega) 8
/-! Planes: bit 8b + a is the cell of that Half at (a, b). -/
def plF (x : Nat → Nat) (h : Nat) : Nat → Nat := fun b => ev (x b / 2 ^ h)
def plT (x : Nat → Nat) (h k : Nat) : Nat := dg 8 (plF x h) k
def plN (x : Nat → Nat) (h : Nat) : Nat := plT x h 8
theorem plF_lt (x : Nat → Nat) (h i : Nat) : plF x h i < 2 ^ 8 := ev_lt _
theorem plT_lt (x : Nat → Nat) (h k : Nat) : plT x h k < 2 ^ (8 * k) := dg_lt (plF_lt x h) k
theorem plN_lt (x : Nat → Nat) (h : Nat) : plN x h < 2 ^ 64 := plT_lt x h 8
theorem plN_bit (x : Nat → Nat) (h n : Nat) : (plN x h).testBit n = (decide (n < 64) && (x (n / 8)).testBit (2 * (n % 8) + h)) := by
  unfold plN plT
  rw [dg_bit (by decide) (plF_lt x h)]
  unfold plF
  rw [ev_bit, Nat.testBit_div_two_pow]
  have : n % 8 < 8 := Nat.mod_lt _ (by decide)
  simp only [this, decide_true, Bool.true_and]
/-- A row of both Halves' cells. -/
def tgR (p0 p1 b : Nat) : Nat := od (p0 / 2 ^ (8 * b) % 256) ||| od (p1 / 2 ^ (8 * b) % 256) * 2
theorem tgR_lt (p0 p1 b : Nat) : tgR p0 p1 b < 65536 := by
  have h : od (p1 / 2 ^ (8 * b) % 256) * 2 < 65536 := by
    have := od_lt (p1 / 2 ^ (8 * b) % 256)
    have h15 : od (p1 / 2 ^ (8 * b) % 256) < 2 ^ 15 := by
      refine Nat.lt_pow_two_of_testBit _ fun i hi => ?_
      rw [od_bit]
      by_cases h : i < 16
      · have : i = 15 := by omega
        subst this
        simp
      · simp [h]
    omega
  exact Nat.or_lt_two_pow (n := 16) (od_lt _) h
theorem tgR_bit (p0 p1 b n : Nat) (hn : n < 16) : (tgR p0 p1 b).testBit n = if n % 2 = 0 then p0.testBit (8 * b + n / 2) else p1.testBit (8 * b + n / 2) := by
  unfold tgR
  have e2 : od (p1 / 2 ^ (8 * b) % 256) * 2 = 2 ^ 1 * od (p1 / 2 ^ (8 * b) % 256) := by omega
  rw [Nat.testBit_or, e2, Nat.testBit_two_pow_mul, od_bit, od_bit]
  have key : ∀ p m, m < 8 → (p / 2 ^ (8 * b) % 256).testBit m = p.testBit (8 * b + m) := fun p m hm => by
    rw [show (256 : Nat) = 2 ^ 8 from rfl, Nat.testBit_mod_two_pow, Nat.testBit_div_two_pow]
    simp [hm, Nat.add_comm]
  by_cases h : n % 2 = 0
  · rw [if_pos h, key p0 (n / 2) (by omega)]
    have h1 : ¬ (n - 1) % 2 = 0 ∨ n = 0 := by omega
    rcases h1 with h1 | h1
    · simp [hn, h, h1]
    · subst h1; simp
  · rw [if_neg h]
    have h1 : (n - 1) % 2 = 0 := by omega
    have h2 : (n - 1) / 2 = n / 2 := by omega
    have h3 : 1 ≤ n := by omega
    have h4 : n - 1 < 16 := by omega
    rw [h2, key p1 (n / 2) (by omega)]
    simp [h, h1, h3, h4]
end Go.Proofs.YtcmfkdhadmfgkaaDoor.Bk
