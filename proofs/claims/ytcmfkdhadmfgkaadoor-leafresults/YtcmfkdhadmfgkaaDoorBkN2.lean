/- Neighbours by planes: the cells that have one that lives; how many, or which: the mathematics. -/
import Derived.Test.YtcmfkdhadmfgkaaDoorBkM
import Derived.Test.YtcmfkdhadmfgkaaDoorBkN
import Derived.Test.YtcmfkdhadmfgkaaDoorFlM
namespace Go.Proofs.YtcmfkdhadmfgkaaDoor.Bk
open Go.Proofs.YtcmfkdhadmfgkaaDoor.Si
open Go.Proofs.YtcmfkdhadmfgkaaDoor.Ce (besAll sh)
open Go.Proofs.YtcmfkdhadmfgkaaDoor.Fl (C besC nbC shareN valid sixIx besC_at)

def rowB (A : Int) (i : Nat) : Bool := decide (0 ≤ ((i % 8 : Nat) : Int) + A ∧ ((i % 8 : Nat) : Int) + A < 8)
def mkF (A : Int) (i : Nat) : Nat := (rowB A i).toNat
theorem mkF_lt (A : Int) (i : Nat) : mkF A i < 2 ^ 1 := Nat.lt_succ_of_le (Bool.toNat_le _)
/-- The cells whose neighbour is in the block, as far as A tells. -/
def maskT (A : Int) (k : Nat) : Nat := dg 1 (mkF A) k
theorem maskT_lt (A : Int) (k : Nat) : maskT A k < 2 ^ k := by
  have := dg_lt (mkF_lt A) k
  rwa [Nat.one_mul] at this
theorem maskT_bit (A : Int) (k n : Nat) : (maskT A k).testBit n = (decide (n < k) && rowB A n) := by
  unfold maskT
  rw [dg_bit (by decide) (mkF_lt A), Nat.one_mul, Nat.div_one, Nat.mod_one]
  congr 1
  unfold mkF
  cases rowB A n <;> rfl
theorem mask_no {A : Int} {k : Nat} (h : rowB A k = false) : maskT A (k + 1) = maskT A k := by
  unfold maskT
  rw [dg_succ]
  simp [mkF, h]
theorem mask_yes {A : Int} {k : Nat} (h : rowB A k = true) : maskT A k ||| 2 ^ k = maskT A (k + 1) := by
  have := dg_or (mkF_lt A) k
  simpa [mkF, h, maskT] using this
def awayI (A B : Int) : Int := 8 * B + A
/-- The cells whose neighbour lives. -/
def ofN (p : Nat) (A B : Int) : Nat := if awayI A B < 0 then p * 2 ^ (-awayI A B).toNat % 2 ^ 64 &&& maskT A 64 else p / 2 ^ (awayI A B).toNat &&& maskT A 64
theorem ofN_lt (p : Nat) (A B : Int) : ofN p A B < 2 ^ 64 := by
  unfold ofN
  split
  · exact Nat.lt_of_le_of_lt Nat.and_le_right (maskT_lt A 64)
  · exact Nat.lt_of_le_of_lt Nat.and_le_right (maskT_lt A 64)
theorem ofN_bit (p : Nat) (A B : Int) (n : Nat) (hn : n < 64) : (ofN p A B).testBit n = (rowB A n && (decide (0 ≤ (n : Int) + awayI A B) && p.testBit ((n : Int) + awayI A B).toNat)) := by
  unfold ofN
  split
  · next h =>
    rw [Nat.testBit_and, maskT_bit, Nat.testBit_mod_two_pow, Nat.mul_comm, Nat.testBit_two_pow_mul]
    generalize hk : (-awayI A B).toNat = k
    have hk2 : awayI A B = -(k : Int) := by omega
    rw [hk2]
    by_cases hle : k ≤ n
    · have e : ((n : Int) + -(k : Int)).toNat = n - k := by omega
      have e2 : (0 ≤ (n : Int) + -(k : Int)) := by omega
      rw [e]
      simp only [hn, decide_true, hle, e2, Bool.true_and]
      rw [Bool.and_comm]
    · have e2 : ¬ (0 ≤ (n : Int) + -(k : Int)) := by omega
      simp [hle, e2]
  · next h =>
    rw [Nat.testBit_and, maskT_bit, Nat.testBit_div_two_pow]
    generalize hk : (awayI A B).toNat = k
    have hk2 : awayI A B = (k : Int) := by omega
    rw [hk2]
    have e : ((n : Int) + (k : Int)).toNat = k + n := by omega
    have e2 : (0 ≤ (n : Int) + (k : Int)) := by omega
    rw [e, Nat.add_comm n k]
    simp only [hn, decide_true, e2, Bool.true_and]
    rw [Bool.and_comm]
/-- Does a cell of a block live? -/
def liv (x : Nat → Nat) (c : C) : Bool := decide ((0 ≤ c.1 ∧ c.1 < 8) ∧ (0 ≤ c.2.1 ∧ c.2.1 < 8)) && (x c.2.1.toNat).testBit (2 * c.1.toNat + c.2.2.toNat)
/-- The cell of a Half at a place of a plane. -/
def plc (n : Nat) (h : Int) : C := (((n % 8 : Nat) : Int), ((n / 8 : Nat) : Int), h)
theorem ofN_liv (x : Nat → Nat) (h : Nat) (A B : Int) (n : Nat) (hn : n < 64) : (ofN (plN x h) A B).testBit n = liv x (sh ((n % 8 : Nat) : Int) ((n / 8 : Nat) : Int) (A, B, (h : Int))) := by
  rw [ofN_bit _ _ _ _ hn]
  unfold liv sh rowB awayI
  dsimp only
  have h1 : n % 8 < 8 := Nat.mod_lt _ (by decide)
  have h2 : n / 8 < 8 := by omega
  have h3 : n = 8 * (n / 8) + n % 8 := by omega
  generalize n % 8 = a at *
  generalize n / 8 = b at *
  by_cases ha : 0 ≤ (a : Int) + A ∧ (a : Int) + A < 8
  · by_cases hb : 0 ≤ (b : Int) + B ∧ (b : Int) + B < 8
    · obtain ⟨u, hu⟩ : ∃ u : Nat, (a : Int) + A = u := ⟨((a : Int) + A).toNat, by omega⟩
      obtain ⟨v, hv⟩ : ∃ v : Nat, (b : Int) + B = v := ⟨((b : Int) + B).toNat, by omega⟩
      have e : (n : Int) + (8 * B + A) = ((8 * v + u : Nat) : Int) := by omega
      have e2 : ((8 * v + u : Nat) : Int).toNat = 8 * v + u := by omega
      have e3 : (8 * v + u) / 8 = v := by omega
      have e4 : (8 * v + u) % 8 = u := by omega
      have e5 : 8 * v + u < 64 := by omega
      have e6 : (0 : Int) ≤ ((8 * v + u : Nat) : Int) := by omega
      have e7 : (u : Int) < 8 := by omega
      have e8 : (v : Int) < 8 := by omega
      rw [e, e2, plN_bit, e3, e4, hu, hv, decide_eq_true e6]
      simp [e5, e7, e8]
    · have e : (decide (0 ≤ (n : Int) + (8 * B + A)) && (plN x h).testBit ((n : Int) + (8 * B + A)).toNat) = false := by
        by_cases hp : 0 ≤ (n : Int) + (8 * B + A)
        · have : ¬ ((n : Int) + (8 * B + A)).toNat < 64 := by omega
          rw [plN_bit]
          simp [this]
        · simp [hp]
      rw [e, show decide ((0 ≤ (a : Int) + A ∧ (a : Int) + A < 8) ∧ (0 ≤ (b : Int) + B ∧ (b : Int) + B < 8)) = false by simpa [ha] using fun h => by omega]
      simp
  · rw [show decide (0 ≤ (a : Int) + A ∧ (a : Int) + A < 8) = false by simpa using fun h => by omega, show decide ((0 ≤ (a : Int) + A ∧ (a : Int) + A < 8) ∧ (0 ≤ (b : Int) + B ∧ (b : Int) + B < 8)) = false by simp; omega]
    simp
/-! The neighbours that all cells of a Half have, in the program's order. -/
def six0 : List C := [(1, 0, 0), (0, 1, 0), (-1, 1, 0), (-1, 0, 0), (0, -1, 0), (1, -1, 0)]
def NB (l h : Int) : List C := if l = 1 then six0 else besAll l 0 0 h
/-- A neighbour's plane. -/
def nbP (x : Nat → Nat) (e : C) : Nat := ofN (plN x e.2.2.toNat) e.1 e.2.1
theorem nbP_lt (x : Nat → Nat) (e : C) : nbP x e < 2 ^ 64 := ofN_lt _ _ _
theorem nbP_liv (x : Nat → Nat) (e : C) (n : Nat) (hn : n < 64) (he : 0 ≤ e.2.2) : (nbP x e).testBit n = liv x (sh ((n % 8 : Nat) : Int) ((n / 8 : Nat) : Int) e) := by
  unfold nbP
  rw [ofN_liv x _ _ _ n hn]
  congr 2
  obtain ⟨a, b, h⟩ := e
  simp only at he ⊢
  rw [Int.toNat_of_nonneg he]
/-- The digits behind some neighbours. -/
def dgs (l : Int) (x : Nat → Nat) : List C → List Nat
  | [] => []
  | e :: L => if l = 1 then dgs l x L ++ [nbP x e] else addL (dgs l x L) (nbP x e)
def numS (l : Int) (x : Nat → Nat) (L : List C) (n : Nat) : Nat := numAt (dgs l x L.reverse) n
theorem dgs_lt (l : Int) (x : Nat → Nat) : ∀ L : List C, ∀ d ∈ dgs l x L, d < 2 ^ 64
  | [] => by simp [dgs]
  | e :: L => by
    have ih := dgs_lt l x L
    unfold dgs
    split
    · intro d hd
      rw [List.mem_append, List.mem_singleton] at hd
      rcases hd with hd | rfl
      · exact ih d hd
      · exact nbP_lt x e
    · exact addL_lt (nbP_lt x e) ih
theorem dgs_cnt {l : Int} (hl : l ≠ 1) (x : Nat → Nat) (n : Nat) (hn : n < 64) : ∀ L : List C, (∀ e ∈ L, 0 ≤ e.2.2) → numAt (dgs l x L) n = (L.filter fun e => liv x (sh ((n % 8 : Nat) : Int) ((n / 8 : Nat) : Int) e)).length
  | [], _ => by simp [dgs, numAt]
  | e :: L, h => by
    have ih := dgs_cnt hl x n hn L fun e he => h e (by simp [he])
    unfold dgs
    rw [if_neg hl, addL_num, ih, nbP_liv x e n hn (h e (by simp)), List.filter_cons]
    split
    · next h => rw [h, List.length_cons]; rfl
    · next h => rw [Bool.not_eq_true] at h; rw [h]; rfl
theorem dgs_len_hex (x : Nat → Nat) : ∀ L : List C, (dgs 1 x L).length = L.length
  | [] => rfl
  | e :: L => by simp [dgs, dgs_len_hex x L]
theorem pow_room {n m : Nat} (h : 2 ^ n ≤ m) (hm : m < 16) : n ≤ 3 := by
  rcases Nat.lt_or_ge n 4 with h4 | h4
  · omega
  · have := Nat.pow_le_pow_right (show 0 < 2 by decide) h4
    omega
theorem dgs_len {l : Int} (hl : l ≠ 1) (x : Nat → Nat) : ∀ L : List C, (∀ e ∈ L, 0 ≤ e.2.2) → L.length ≤ 12 → (dgs l x L).length ≤ 4
  | [], _, _ => by simp [dgs]
  | e :: L, h, hL => by
    have hL' : L.length + 1 ≤ 12 := hL
    have ih := dgs_len hl x L (fun e he => h e (by simp [he])) (by omega)
    unfold dgs
    rw [if_neg hl, addL_len]
    split
    · exact ih
    · next h0 =>
      have hr := carC_room (m := L.length) (nbP_lt x e) (fun n hn => by
        rw [dgs_cnt hl x n hn L fun e he => h e (by simp [he])]
        exact List.length_filter_le _ _) h0
      have := pow_room hr (by omega)
      omega
/-! The neighbourhood that the digits say is the set's. -/
theorem sum_filter_map (f : C → Nat) (p : C → Bool) : ∀ L : List C, ((L.filter p).map f).sum = (L.map fun e => if p e then f e else 0).sum
  | [] => rfl
  | e :: L => by
    have ih := sum_filter_map f p L
    rw [List.filter_cons]
    split
    · next h => simp [h, ih]
    · next h => simp [h, ih]
theorem six_bes : besAll 1 0 0 0 = [(0, -1, 0), (1, -1, 0), (-1, 0, 0), (1, 0, 0), (-1, 1, 0), (0, 1, 0)] := by decide +kernel
theorem share_one {l : Int} (h : l ≠ 1) (c d : C) : shareN l c d = 1 := by unfold shareN; rw [if_neg h]
theorem share_at (l a b h : Int) (e : C) : shareN l (sh a b e) (a, b, h) = shareN l e (0, 0, h) := by
  unfold shareN sh
  dsimp only
  rw [show a + e.1 - a = e.1 - 0 by omega, show b + e.2.1 - b = e.2.1 - 0 by omega]
theorem if_toNat (b : Bool) (k : Nat) : (if b = true then k else 0) = k * b.toNat := by cases b <;> simp
theorem dgs_six (x : Nat → Nat) : dgs 1 x (NB 1 0).reverse = [nbP x (1, 0, 0), nbP x (0, 1, 0), nbP x (-1, 1, 0), nbP x (-1, 0, 0), nbP x (0, -1, 0), nbP x (1, -1, 0)] := by
  simp [NB, six0, dgs]
theorem shares : shareN 1 (1, 0, 0) (0, 0, 0) = 1 ∧ shareN 1 (0, 1, 0) (0, 0, 0) = 2 ∧ shareN 1 (-1, 1, 0) (0, 0, 0) = 4 ∧ shareN 1 (-1, 0, 0) (0, 0, 0) = 8 ∧ shareN 1 (0, -1, 0) (0, 0, 0) = 16 ∧ shareN 1 (1, -1, 0) (0, 0, 0) = 32 := by decide
theorem bes_half {l h : Int} (hl : l = 1 ∨ l = 2 ∨ l = 3) (hv : 0 ≤ h ∧ h < (if l = 1 then 1 else 2)) : (∀ e ∈ besAll l 0 0 h, 0 ≤ e.2.2 ∧ e.2.2 < 2) ∧ (besAll l 0 0 h).length ≤ 12 := by
  have hh : h ∈ [(0 : Int), 1] := by
    have : h = 0 ∨ h = 1 := by obtain ⟨h1, h2⟩ := hv; split at h2 <;> omega
    simpa using this
  have := Fl.bes_fin l (Fl.lat3 hl) h hh hv.2
  refine ⟨fun e he => ?_, this.2.2.2⟩
  have := (this.2.1 e he).1
  unfold valid at this
  obtain ⟨h1, h2⟩ := this
  split at h2 <;> omega
theorem num_nb {l : Int} (hl : l = 1 ∨ l = 2 ∨ l = 3) {h : Int} {n : Nat} (hv : valid l (plc n h)) (hn : n < 64) {x : Nat → Nat} {S : List C} (hS : ∀ e ∈ besC l (plc n h), decide (e ∈ S) = liv x e) :
    numS l x (NB l h) n = nbC l S (plc n h) := by
  have hbh := bes_half hl hv
  have hkey : ∀ e : C, 0 ≤ e.2.2 → (nbP x e).testBit n = liv x (sh ((n % 8 : Nat) : Int) ((n / 8 : Nat) : Int) e) := fun e he => nbP_liv x e n hn he
  unfold numS nbC
  unfold plc at *
  rw [besC_at] at hS ⊢
  generalize ha : ((n % 8 : Nat) : Int) = a at *
  generalize hb : ((n / 8 : Nat) : Int) = b at *
  have e2 : ∀ e ∈ besAll l 0 0 h, decide (sh a b e ∈ S) = liv x (sh a b e) := fun e he => hS _ (List.mem_map.2 ⟨e, he, rfl⟩)
  rw [sum_filter_map, List.map_map]
  have e3 : ((besAll l 0 0 h).map ((fun e => if decide (e ∈ S) = true then shareN l e (a, b, h) else 0) ∘ sh a b)) = (besAll l 0 0 h).map fun e => shareN l e (0, 0, h) * (liv x (sh a b e)).toNat := by
    refine List.map_congr_left fun e he => ?_
    simp only [Function.comp]
    rw [e2 e he, if_toNat, share_at]
  rw [e3]
  by_cases h1 : l = 1
  · subst h1
    obtain rfl : h = 0 := by have h3 := hv.1; have h4 := hv.2; simp at h3 h4; omega
    obtain ⟨s0, s1, s2, s3, s4, s5⟩ := shares
    rw [dgs_six, six_bes]
    simp only [numAt, List.map_cons, List.map_nil, List.sum_cons, List.sum_nil, s0, s1, s2, s3, s4, s5]
    rw [hkey (1, 0, 0) (by decide), hkey (0, 1, 0) (by decide), hkey (-1, 1, 0) (by decide), hkey (-1, 0, 0) (by decide), hkey (0, -1, 0) (by decide), hkey (1, -1, 0) (by decide)]
    omega
  · rw [dgs_cnt h1 x n hn _ fun e he => by rw [NB, if_neg h1, List.mem_reverse] at he; exact (hbh.1 e he).1]
    rw [NB, if_neg h1, ha, hb, List.filter_reverse, List.length_reverse]
    clear hS e2 e3 hkey hbh
    induction besAll l 0 0 h with
    | nil => rfl
    | cons e L ih =>
      rw [List.filter_cons, List.map_cons, List.sum_cons, ← ih, share_one h1, Nat.one_mul]
      split
      · next h => rw [h, List.length_cons]; simp; omega
      · next h => rw [Bool.not_eq_true] at h; rw [h]; simp
end Go.Proofs.YtcmfkdhadmfgkaaDoor.Bk
