/- Numbers by planes: what digits say at a place, choosing by them, counting on: the mathematics. -/
import Derived.Test.YtcmfkdhadmfgkaaDoorSiM
namespace Go.Proofs.YtcmfkdhadmfgkaaDoor.Bk

/-- The number that digits say at a place, the lowest one first. -/
def numAt : List Nat → Nat → Nat
  | [], _ => 0
  | d :: D, n => (d.testBit n).toNat + 2 * numAt D n
theorem numAt_app (d n : Nat) : ∀ D : List Nat, numAt (D ++ [d]) n = numAt D n + 2 ^ D.length * (d.testBit n).toNat
  | [] => by simp [numAt]
  | e :: D => by
    have ih := numAt_app d n D
    simp only [List.cons_append, numAt, ih, List.length_cons, Nat.pow_succ]
    rw [Nat.mul_add, Nat.mul_comm (2 ^ D.length) 2, Nat.mul_assoc]
    omega
theorem numAt_lt (n : Nat) : ∀ D : List Nat, numAt D n < 2 ^ D.length
  | [] => by simp [numAt]
  | d :: D => by
    have ih := numAt_lt n D
    have : (d.testBit n).toNat ≤ 1 := Bool.toNat_le _
    simp only [numAt, List.length_cons, Nat.pow_succ]
    omega
/-! Choosing. -/
def ChB (f : Nat) (D : List Nat) (z : Nat) : Prop := z < 2 ^ 64 ∧ ∀ n, n < 64 → z.testBit n = f.testBit (numAt D n)
theorem ch_zero (D : List Nat) : ChB 0 D 0 := ⟨by decide, fun n _ => by simp⟩
theorem ones_bit (n : Nat) (h : n < 64) : (2 ^ 64 - 1 : Nat).testBit n = true := by
  rw [Nat.testBit_two_pow_sub_one]; simpa using h
theorem ch_nil0 {f : Nat} (h : f % 2 = 0) : ChB f [] 0 := ⟨by decide, fun n _ => by simp [numAt, h]⟩
theorem ch_nil1 {f : Nat} (h : f % 2 = 1) : ChB f [] (2 ^ 64 - 1) := ⟨by decide, fun n hn => by rw [ones_bit n hn]; simp [numAt, h]⟩
def mixN (d lo hi : Nat) : Nat := (d ^^^ (2 ^ 64 - 1)) &&& lo ||| d &&& hi
theorem mix_bit {d lo hi n : Nat} (hn : n < 64) : (mixN d lo hi).testBit n = if d.testBit n then hi.testBit n else lo.testBit n := by
  unfold mixN
  rw [Nat.testBit_or, Nat.testBit_and, Nat.testBit_and, Nat.testBit_xor, ones_bit n hn]
  cases d.testBit n <;> simp
theorem mix_lt {d lo hi : Nat} (hl : lo < 2 ^ 64) (hh : hi < 2 ^ 64) : mixN d lo hi < 2 ^ 64 :=
  Nat.or_lt_two_pow (Nat.lt_of_le_of_lt Nat.and_le_right hl) (Nat.lt_of_le_of_lt Nat.and_le_right hh)
theorem ch_step {f d lo hi : Nat} {R : List Nat} (hl : ChB (f % 2 ^ 2 ^ R.length) R lo) (hh : ChB (f / 2 ^ 2 ^ R.length) R hi) : ChB f (R ++ [d]) (mixN d lo hi) := by
  refine ⟨mix_lt hl.1 hh.1, fun n hn => ?_⟩
  rw [mix_bit hn, numAt_app, hl.2 n hn, hh.2 n hn, Nat.testBit_mod_two_pow, Nat.testBit_div_two_pow]
  have := numAt_lt n R
  cases d.testBit n
  · simp [this]
  · simp
/-! Counting on. -/
/-- What is carried behind so many digits. -/
def carC : List Nat → Nat → Nat → Nat
  | [], c, _ => c
  | _ :: _, c, 0 => c
  | d :: D, c, i + 1 => carC D (d &&& c) i
/-- The digits of which so many were turned. -/
def addP : List Nat → Nat → Nat → List Nat
  | [], _, _ => []
  | d :: D, _, 0 => d :: D
  | d :: D, c, i + 1 => (d ^^^ c) :: addP D (d &&& c) i
def addL (D : List Nat) (c : Nat) : List Nat := if carC D c D.length = 0 then addP D c D.length else addP D c D.length ++ [carC D c D.length]
theorem addP_len : ∀ (D : List Nat) (c i : Nat), (addP D c i).length = D.length
  | [], _, _ => rfl
  | _ :: _, _, 0 => rfl
  | _ :: D, _, _ + 1 => by simp [addP, addP_len D]
theorem addP_zero (D : List Nat) (c : Nat) : addP D c 0 = D := by cases D <;> rfl
theorem carC_zero (D : List Nat) (c : Nat) : carC D c 0 = c := by cases D <;> rfl
theorem carC_succ : ∀ (D : List Nat) (c i d : Nat), D[i]? = some d → carC D c (i + 1) = d &&& carC D c i
  | [], _, _, _, h => by simp at h
  | e :: D, c, 0, d, h => by
    simp only [List.getElem?_cons_zero, Option.some.injEq] at h
    subst h
    show carC D (e &&& c) 0 = _
    rw [carC_zero, carC_zero]
  | e :: D, c, i + 1, d, h => by
    simp only [List.getElem?_cons_succ] at h
    exact carC_succ D (e &&& c) i d h
theorem addP_set : ∀ (D : List Nat) (c i d : Nat), D[i]? = some d → addP D c (i + 1) = (addP D c i).set i (d ^^^ carC D c i)
  | [], _, _, _, h => by simp at h
  | e :: D, c, 0, d, h => by
    simp only [List.getElem?_cons_zero, Option.some.injEq] at h
    subst h
    simp [addP, addP_zero, carC_zero]
  | e :: D, c, i + 1, d, h => by
    simp only [List.getElem?_cons_succ] at h
    have := addP_set D (e &&& c) i d h
    simp only [addP, this, List.set_cons_succ, carC]
theorem addP_get : ∀ (D : List Nat) (c i j : Nat), i ≤ j → (addP D c i)[j]? = D[j]?
  | [], _, _, _, _ => rfl
  | _ :: _, _, 0, _, _ => rfl
  | e :: D, c, i + 1, j, h => by
    obtain ⟨k, rfl⟩ : ∃ k, j = k + 1 := ⟨j - 1, by omega⟩
    simp only [addP, List.getElem?_cons_succ]
    exact addP_get D _ i k (by omega)
theorem half_add : ∀ a b : Bool, (a ^^ b).toNat + 2 * (a && b).toNat = a.toNat + b.toNat := by decide
theorem addP_num (n : Nat) : ∀ (D : List Nat) (c : Nat), numAt (addP D c D.length) n + 2 ^ D.length * ((carC D c D.length).testBit n).toNat = numAt D n + (c.testBit n).toNat
  | [], c => by simp [addP, carC, numAt]
  | d :: D, c => by
    have ih := addP_num n D (d &&& c)
    have h := half_add (d.testBit n) (c.testBit n)
    simp only [List.length_cons, addP, carC, numAt, Nat.testBit_xor, Nat.testBit_and, Nat.pow_succ] at ih ⊢
    rw [Nat.mul_comm (2 ^ D.length) 2, Nat.mul_assoc]
    generalize 2 ^ D.length * ((carC D (d &&& c) D.length).testBit n).toNat = z at *
    omega
theorem addL_num (n : Nat) (D : List Nat) (c : Nat) : numAt (addL D c) n = numAt D n + (c.testBit n).toNat := by
  have h := addP_num n D c
  unfold addL
  split
  · next h0 =>
    rw [h0] at h
    simpa using h
  · rw [numAt_app, addP_len]
    exact h
theorem addL_len (D : List Nat) (c : Nat) : (addL D c).length = D.length + (if carC D c D.length = 0 then 0 else 1) := by
  unfold addL
  split <;> simp [addP_len]
theorem carC_lt : ∀ (D : List Nat) (c i : Nat), c < 2 ^ 64 → carC D c i < 2 ^ 64
  | [], _, _, h => h
  | _ :: _, _, 0, h => h
  | _ :: D, _, i + 1, h => carC_lt D _ i (Nat.lt_of_le_of_lt Nat.and_le_right h)
theorem addP_lt : ∀ (D : List Nat) (c i : Nat), c < 2 ^ 64 → (∀ d ∈ D, d < 2 ^ 64) → ∀ d ∈ addP D c i, d < 2 ^ 64
  | [], _, _, _, _ => by simp [addP]
  | _ :: _, _, 0, _, h => h
  | d :: D, c, i + 1, hc, h => by
    intro e he
    simp only [addP, List.mem_cons] at he
    rcases he with rfl | he
    · exact Nat.xor_lt_two_pow (h d (by simp)) hc
    · exact addP_lt D _ i (Nat.lt_of_le_of_lt Nat.and_le_right hc) (fun x hx => h x (by simp [hx])) e he
theorem addL_lt {D : List Nat} {c : Nat} (hc : c < 2 ^ 64) (h : ∀ d ∈ D, d < 2 ^ 64) : ∀ d ∈ addL D c, d < 2 ^ 64 := by
  unfold addL
  split
  · exact addP_lt D c _ hc h
  · intro d hd
    rw [List.mem_append, List.mem_singleton] at hd
    rcases hd with hd | rfl
    · exact addP_lt D c _ hc h d hd
    · exact carC_lt D c _ hc
/-- So many are counted: there are no more digits than that wants. -/
theorem carC_room {D : List Nat} {c m : Nat} (hc : c < 2 ^ 64) (h : ∀ n, n < 64 → numAt D n ≤ m) (h0 : carC D c D.length ≠ 0) : 2 ^ D.length ≤ m + 1 := by
  have hl := carC_lt D c D.length hc
  obtain ⟨n, hn⟩ : ∃ n, (carC D c D.length).testBit n = true := by
    rcases Nat.lt_or_ge 0 (carC D c D.length) with h | h
    · exact Nat.exists_testBit_of_ne_zero h0
    · omega
  have hn64 : n < 64 := by
    rcases Nat.lt_or_ge n 64 with h | h
    · exact h
    · rw [Nat.testBit_lt_two_pow (Nat.lt_of_lt_of_le hl (Nat.pow_le_pow_right (by decide) h))] at hn
      cases hn
  have h1 := addP_num n D c
  have h2 := h n hn64
  have h3 : (c.testBit n).toNat ≤ 1 := Bool.toNat_le _
  rw [hn] at h1
  simp only [Bool.toNat_true, Nat.mul_one] at h1
  omega
end Go.Proofs.YtcmfkdhadmfgkaaDoor.Bk
