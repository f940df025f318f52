/- Blocks of leaves, bit by bit; two blocks that are the same around a place: the mathematics. -/
import Derived.Test.YtcmfkdhadmfgkaaDoorBkN2
import Derived.Test.YtcmfkdhadmfgkaaDoorBkW1
namespace Go.Proofs.YtcmfkdhadmfgkaaDoor.Bk
open Go.Proofs.YtcmfkdhadmfgkaaDoor.Si
open Go.Proofs.YtcmfkdhadmfgkaaDoor.Ce (sh)
open Go.Proofs.YtcmfkdhadmfgkaaDoor.Fl (C)

theorem mod256_bit (f p m : Nat) (hm : m < 8) : (f / 2 ^ p % 256).testBit m = f.testBit (p + m) := by
  rw [show (256 : Nat) = 2 ^ 8 from rfl, Nat.testBit_mod_two_pow, Nat.testBit_div_two_pow]
  simp [hm, Nat.add_comm]
theorem ofB_low (f : Nat → Nat) (r : Nat) (h : r < 4) : ofB f r = 2 ^ 8 * (f 1 / 2 ^ (8 * r) % 256) + f 0 / 2 ^ (8 * r) % 256 := by
  have e1 : r / 4 = 0 := by omega
  have e2 : r % 4 = r := by omega
  unfold ofB con
  rw [e1, e2]
  simp
  omega
theorem ofB_high (f : Nat → Nat) (r : Nat) (h : 4 ≤ r) (h8 : r < 8) : ofB f r = 2 ^ 8 * (f 3 / 2 ^ (8 * (r - 4)) % 256) + f 2 / 2 ^ (8 * (r - 4)) % 256 := by
  have e1 : r / 4 = 1 := by omega
  have e2 : r % 4 = r - 4 := by omega
  unfold ofB con
  rw [e1, e2]
  simp
  omega
theorem two_bit (hi lo i : Nat) (h : lo < 256) : (2 ^ 8 * hi + lo).testBit i = if i < 8 then lo.testBit i else hi.testBit (i - 8) := Nat.testBit_two_pow_mul_add hi h i
theorem ofB_bit (f : Nat → Nat) (a b h : Nat) (ha : a < 8) (hb : b < 8) (hh : h < 2) : (ofB f b).testBit (2 * a + h) = (f (b / 4 * 2 + a / 4)).testBit (8 * (b % 4) + (2 * (a % 4) + h)) := by
  have m0 : ∀ z : Nat, z % 256 < 256 := fun z => Nat.mod_lt _ (by decide)
  by_cases h4 : b < 4
  · rw [ofB_low f b h4, two_bit _ _ _ (m0 _)]
    by_cases ha4 : a < 4
    · rw [if_pos (by omega), mod256_bit _ _ _ (by omega), show b / 4 * 2 + a / 4 = 0 by omega, show b % 4 = b by omega, show a % 4 = a by omega]
    · rw [if_neg (by omega), mod256_bit _ _ _ (by omega), show b / 4 * 2 + a / 4 = 1 by omega, show b % 4 = b by omega, show 2 * (a % 4) + h = 2 * a + h - 8 by omega]
  · rw [ofB_high f b (by omega) hb, two_bit _ _ _ (m0 _)]
    by_cases ha4 : a < 4
    · rw [if_pos (by omega), mod256_bit _ _ _ (by omega), show b / 4 * 2 + a / 4 = 2 by omega, show b % 4 = b - 4 by omega, show a % 4 = a by omega]
    · rw [if_neg (by omega), mod256_bit _ _ _ (by omega), show b / 4 * 2 + a / 4 = 3 by omega, show b % 4 = b - 4 by omega, show 2 * (a % 4) + h = 2 * a + h - 8 by omega]
theorem ofB_lt (f : Nat → Nat) (r : Nat) (h : r < 8) : ofB f r < 65536 := by
  have m0 : ∀ z : Nat, z % 256 < 256 := fun z => Nat.mod_lt _ (by decide)
  by_cases h4 : r < 4
  · rw [ofB_low f r h4]
    have := m0 (f 1 / 2 ^ (8 * r))
    have := m0 (f 0 / 2 ^ (8 * r))
    omega
  · rw [ofB_high f r (by omega) h]
    have := m0 (f 3 / 2 ^ (8 * (r - 4)))
    have := m0 (f 2 / 2 ^ (8 * (r - 4)))
    omega
theorem plN_at (x : Nat → Nat) (h a b : Nat) (ha : a < 8) (hb : b < 8) : (plN x h).testBit (8 * b + a) = (x b).testBit (2 * a + h) := by
  rw [plN_bit, show (8 * b + a) / 8 = b by omega, show (8 * b + a) % 8 = a by omega]
  simp; omega
theorem liv_at (x : Nat → Nat) (a b h : Nat) (ha : a < 8) (hb : b < 8) : liv x ((a : Int), (b : Int), (h : Int)) = (x b).testBit (2 * a + h) := by
  unfold liv
  dsimp only
  rw [decide_eq_true (by omega)]
  simp
/-- Two blocks whose neighbours are the same around two places. -/
theorem num_congr (l : Int) (x y : Nat → Nat) (n m : Nat) (hn : n < 64) (hm : m < 64) : ∀ L : List C, (∀ e ∈ L, 0 ≤ e.2.2 ∧ liv x (sh ((n % 8 : Nat) : Int) ((n / 8 : Nat) : Int) e) = liv y (sh ((m % 8 : Nat) : Int) ((m / 8 : Nat) : Int) e)) → numAt (dgs l x L) n = numAt (dgs l y L) m
  | [], _ => by simp [dgs, numAt]
  | e :: L, h => by
    have ih := num_congr l x y n m hn hm L fun e he => h e (by simp [he])
    obtain ⟨h0, he⟩ := h e (by simp)
    have hb : (nbP x e).testBit n = (nbP y e).testBit m := by rw [nbP_liv x e n hn h0, nbP_liv y e m hm h0, he]
    by_cases h1 : l = 1
    · subst h1
      unfold dgs
      rw [if_pos rfl, if_pos rfl, numAt_app, numAt_app, ih, hb, dgs_len_hex, dgs_len_hex]
    · unfold dgs
      rw [if_neg h1, if_neg h1, addL_num, addL_num, ih, hb]
theorem st_eq {u v p q : Nat} (h : ∀ h, h < 2 → u.testBit (p + h) = v.testBit (q + h)) : u / 2 ^ p % 4 = v / 2 ^ q % 4 := by
  refine Nat.eq_of_testBit_eq fun i => ?_
  rw [show (4 : Nat) = 2 ^ 2 from rfl, Nat.testBit_mod_two_pow, Nat.testBit_mod_two_pow, Nat.testBit_div_two_pow, Nat.testBit_div_two_pow]
  by_cases hi : i < 2
  · rw [Nat.add_comm i p, Nat.add_comm i q, h i hi]
  · simp [hi]
end Go.Proofs.YtcmfkdhadmfgkaaDoor.Bk
