/- Mathematics of rings and tables: numbers under 2^64 by their bits; the class of each of the 64 rings. -/
import Derived.Laws.BitsLemmas
import Derived.Laws.Bits64
namespace Go.Proofs.YtcmfkdhadmfgkaaDoor.Tb

theorem wrapU (a : Nat) (ha : a < 2 ^ 64) : IntKind.u64.wrap (a : Int) = (a : Int) := by rw [IntKind.wrap_u64]; omega
theorem u64_and (a b : Nat) (ha : a < 2 ^ 64) (hb : b < 2 ^ 64) : bits .and .u64 a b = ((a &&& b : Nat) : Int) :=
  (bits_nat .u64 64 (by decide) (fun n h0 h1 => by rw [IntKind.wrap_u64]; omega) a b ha hb).1
theorem u64_or (a b : Nat) (ha : a < 2 ^ 64) (hb : b < 2 ^ 64) : bits .or .u64 a b = ((a ||| b : Nat) : Int) :=
  (bits_nat .u64 64 (by decide) (fun n h0 h1 => by rw [IntKind.wrap_u64]; omega) a b ha hb).2
theorem u64_xor (a b : Nat) (ha : a < 2 ^ 64) (hb : b < 2 ^ 64) : bits .xor .u64 a b = ((a ^^^ b : Nat) : Int) := by
  show IntKind.u64.wrap ((BitVec.ofInt 64 a ^^^ BitVec.ofInt 64 b).toNat : Nat) = _
  rw [BitVec.ofInt_natCast, BitVec.ofInt_natCast, BitVec.toNat_xor, BitVec.toNat_ofNat, BitVec.toNat_ofNat, Nat.mod_eq_of_lt ha, Nat.mod_eq_of_lt hb]
  exact wrapU _ (Nat.xor_lt_two_pow ha hb)
theorem i64_and63 (n : Int) : bits .and .i64 n 63 = n % 64 := by
  have h127 : (BitVec.ofInt 64 63).toNat = 2 ^ 6 - 1 := by decide
  have key : (BitVec.ofInt 64 n &&& BitVec.ofInt 64 63).toNat = (n % ((2 ^ 64 : Nat) : Int)).toNat % 2 ^ 6 := by
    rw [BitVec.toNat_and, BitVec.toNat_ofInt, h127, Nat.and_two_pow_sub_one_eq_mod]
  show IntKind.i64.wrap ((BitVec.ofInt 64 n &&& BitVec.ofInt 64 63).toNat : Nat) = n % 64
  rw [key, IntKind.wrap_i64]
  omega
theorem i64_and255 (n : Int) : bits .and .i64 n 255 = n % 256 := by
  have h127 : (BitVec.ofInt 64 255).toNat = 2 ^ 8 - 1 := by decide
  have key : (BitVec.ofInt 64 n &&& BitVec.ofInt 64 255).toNat = (n % ((2 ^ 64 : Nat) : Int)).toNat % 2 ^ 8 := by
    rw [BitVec.toNat_and, BitVec.toNat_ofInt, h127, Nat.and_two_pow_sub_one_eq_mod]
  show IntKind.i64.wrap ((BitVec.ofInt 64 n &&& BitVec.ofInt 64 255).toNat : Nat) = n % 256
  rw [key, IntKind.wrap_i64]
  omega
theorem i64_and1 (n : Int) : bits .and .i64 n 1 = n % 2 := by
  have h127 : (BitVec.ofInt 64 1).toNat = 2 ^ 1 - 1 := by decide
  have key : (BitVec.ofInt 64 n &&& BitVec.ofInt 64 1).toNat = (n % ((2 ^ 64 : Nat) : Int)).toNat % 2 ^ 1 := by
    rw [BitVec.toNat_and, BitVec.toNat_ofInt, h127, Nat.and_two_pow_sub_one_eq_mod]
  show IntKind.i64.wrap ((BitVec.ofInt 64 n &&& BitVec.ofInt 64 1).toNat : Nat) = n % 2
  rw [key, IntKind.wrap_i64]
  omega

/-- How many of the lowest six bits are 1; a ring turned; its class's letter. -/
def oc (n : Nat) : Nat := n % 2 + n / 2 % 2 + n / 4 % 2 + n / 8 % 2 + n / 16 % 2 + n / 32 % 2
def tnd (n p : Nat) : Nat := (n * 2 ^ p ||| n / 2 ^ (6 - p)) % 64
def l2 (n : Nat) : Nat := if n &&& tnd n 1 = 0 then (if n &&& tnd n 2 = 0 then 112 else 109) else 111
def l3 (n : Nat) : Nat := if oc (n &&& tnd n 1) = 2 then 111 else if oc (n &&& tnd n 1) = 1 then 109 else 112
def lett (n : Nat) : Nat := if oc n = 4 then l2 (n ^^^ 63) else if oc n = 2 then l2 n else if oc n = 3 then l3 n else 0
/-- Is the n-th bit 1? -/
def bitB (x n : Nat) : Bool := x / 2 ^ n % 2 == 1
theorem bitB_test (x n : Nat) : bitB x n = x.testBit n := by
  rw [Nat.testBit_eq_decide_div_mod_eq]; rfl
/-- The rings of a class. -/
def ringsTo (c l : Int) : Nat → Nat
  | 0 => 0
  | k + 1 => if ((oc k : Int) == c && (lett k : Int) == l) = true then ringsTo c l k ||| 2 ^ k else ringsTo c l k
theorem ringsTo_lt (c l : Int) : ∀ k, ringsTo c l k < 2 ^ k
  | 0 => by simp [ringsTo]
  | k + 1 => by
    have ih := ringsTo_lt c l k
    have h2 : 2 ^ k < 2 ^ (k + 1) := Nat.pow_lt_pow_right (by decide) (by omega)
    unfold ringsTo
    split
    · exact Nat.or_lt_two_pow (by omega) h2
    · omega
theorem ringsTo_bit (c l : Int) (i : Nat) : ∀ k, (ringsTo c l k).testBit i = (decide (i < k) && ((oc i : Int) == c && (lett i : Int) == l))
  | 0 => by simp [ringsTo]
  | k + 1 => by
    have ih := ringsTo_bit c l i k
    have hlt := ringsTo_lt c l k
    unfold ringsTo
    rcases Nat.lt_trichotomy i k with h | h | h
    · split
      · rw [Nat.testBit_or, ih, Nat.testBit_two_pow]
        have : ¬ k = i := by omega
        simp [h, this, Nat.lt_succ_of_lt h]
      · rw [ih]; simp [h, Nat.lt_succ_of_lt h]
    · subst h
      split
      · rename_i h; rw [Nat.testBit_or, Nat.testBit_two_pow, h]; simp
      · rename_i h; rw [ih]; simp at h ⊢; exact h
    · have : ¬ i < k + 1 := by omega
      have h' : ¬ i < k := by omega
      have h2 : ¬ k = i := by omega
      split
      · rw [Nat.testBit_or, ih, Nat.testBit_two_pow]; simp [this, h', h2]
      · rw [ih]; simp [this, h']
/-- The document's way: the places of those that live (or don't) among the first k; the gaps between one and the next. -/
def lsT (b : Bool) (r : Nat) : Nat → List Int
  | 0 => []
  | k + 1 => if (bitB r k == b) = true then lsT b r k ++ [(k : Int)] else lsT b r k
def gpT (L : List Int) : Nat → List Int
  | 0 => []
  | k + 1 => gpT L k ++ [(L.getD ((k + 1) % L.length) 0 - L.getD k 0) % 6]
def cnt (v : Int) (G : List Int) (k : Nat) : Nat := ((G.take k).filter (· == v)).length
def pick (r : Nat) : List Int := if oc r = 4 then lsT false r 6 else lsT true r 6
def lettOf (L : List Int) : Nat :=
  if L.length = 2 then (if 0 < cnt 1 (gpT L L.length) L.length then 111 else if 0 < cnt 2 (gpT L L.length) L.length then 109 else 112)
  else if cnt 1 (gpT L L.length) L.length = 2 then 111 else if cnt 1 (gpT L L.length) L.length = 0 then 112 else 109
theorem ring_fin : ∀ r : Fin 64, (lsT true r.val 6).length = oc r.val ∧ (lsT false r.val 6).length = 6 - oc r.val ∧ oc r.val ≤ 6 ∧ (oc r.val < 2 ∨ 4 < oc r.val → lett r.val = 0) ∧ (2 ≤ oc r.val → oc r.val ≤ 4 → lett r.val = lettOf (pick r.val)) := by decide +kernel
theorem ls_fin : ∀ r : Fin 64, ∀ x ∈ pick r.val, 0 ≤ x ∧ x ≤ 5 := by decide +kernel
theorem ls_len (b : Bool) (r : Nat) : ∀ k, (lsT b r k).length ≤ k
  | 0 => by simp [lsT]
  | k + 1 => by
    have := ls_len b r k
    unfold lsT
    split
    · simp; exact this
    · omega
theorem gp_len (L : List Int) : ∀ k, (gpT L k).length = k
  | 0 => rfl
  | k + 1 => by simp [gpT, gp_len L k]
/-- The turned ring of the law. -/
def turnK (mirror : Bool) (t i : Nat) : Nat := if mirror then 5 - (i + t) % 6 else (i + t) % 6
def turnTo (mirror : Bool) (r t : Nat) : Nat → Nat
  | 0 => 0
  | k + 1 => if bitB r k = true then turnTo mirror r t k ||| 2 ^ turnK mirror t k else turnTo mirror r t k
theorem turn_fin : ∀ m : Bool, ∀ r : Fin 64, ∀ t : Fin 6, oc (turnTo m r.val t.val 6) = oc r.val ∧ lett (turnTo m r.val t.val 6) = lett r.val := by decide +kernel
theorem turn_lt (m : Bool) (r t : Nat) : ∀ k, turnTo m r t k < 64
  | 0 => by simp [turnTo]
  | k + 1 => by
    have h := turn_lt m r t k
    have ht : turnK m t k < 6 := by unfold turnK; split <;> omega
    unfold turnTo
    split
    · exact Nat.or_lt_two_pow (n := 6) h (Nat.pow_lt_pow_right (by decide) ht)
    · exact h
/-- The classes, in their order. -/
def cls : List (Nat × Nat) := [(0, 0), (1, 0), (2, 111), (2, 109), (2, 112), (3, 111), (3, 109), (3, 112), (4, 111), (4, 109), (4, 112), (5, 0), (6, 0)]
def rgs (c : Nat × Nat) : Nat := ringsTo c.1 c.2 64
def allTo (k : Nat) : Nat := (cls.take k).foldl (fun a c => a ||| rgs c) 0
theorem cls_fin : ∀ k : Fin 13, allTo k.val &&& rgs (cls.getD k.val (0, 0)) = 0 ∧ allTo (k.val + 1) = allTo k.val ||| rgs (cls.getD k.val (0, 0)) ∧ rgs (cls.getD k.val (0, 0)) ≠ 0 ∧ (k.val = 0 ∨ (cls.getD (k.val - 1) (0, 0)).1 ≤ (cls.getD k.val (0, 0)).1) := by decide +kernel
theorem all13 : allTo 13 = 2 ^ 64 - 1 := by decide +kernel
theorem rgs7 : ringsTo 7 0 64 = 0 := by decide +kernel
end Go.Proofs.YtcmfkdhadmfgkaaDoor.Tb
