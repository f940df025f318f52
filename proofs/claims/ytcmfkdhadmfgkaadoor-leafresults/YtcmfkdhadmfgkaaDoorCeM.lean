/- Plain mathematics of cells: corners, which cells stand beside each other, by differences alone. -/
namespace Go.Proofs.YtcmfkdhadmfgkaaDoor.Ce

/-- 1 if two points are one, else 0. -/
def eqn (x y x' y' : Int) : Int := if x = x' ∧ y = y' then 1 else 0
/-- The i-th corner of a triangle, from its point on. -/
def cX (h : Int) (i : Nat) : Int := if h = 0 then (if i = 1 then 1 else 0) else (if i = 1 then 0 else 1)
def cY (h : Int) (i : Nat) : Int := if h = 0 then (if i = 2 then 1 else 0) else (if i = 0 then 0 else 1)
/-- How many of the first j corners of a triangle a point is. -/
def rowN (x y a h b : Int) : Nat → Int
  | 0 => 0
  | j + 1 => rowN x y a h b j + eqn x y (a + cX h j) (b + cY h j)
/-- How many corners the first i corners of a triangle are of another. -/
def comN (a b h a' b' h' : Int) : Nat → Int
  | 0 => 0
  | i + 1 => comN a b h a' b' h' i + rowN (a + cX h i) (b + cY h i) a' h' b' 3

theorem eqn_bd (x y x' y' : Int) : 0 ≤ eqn x y x' y' ∧ eqn x y x' y' ≤ 1 := by unfold eqn; split <;> omega
theorem rowN_bd (x y a h b : Int) (j : Nat) : 0 ≤ rowN x y a h b j ∧ rowN x y a h b j ≤ j := by
  induction j with
  | zero => simp [rowN]
  | succ j ih => have := eqn_bd x y (a + cX h j) (b + cY h j); simp only [rowN]; omega
theorem comN_bd (a b h a' b' h' : Int) (i : Nat) : 0 ≤ comN a b h a' b' h' i ∧ comN a b h a' b' h' i ≤ 3 * i := by
  induction i with
  | zero => simp [comN]
  | succ i ih => have := rowN_bd (a + cX h i) (b + cY h i) a' h' b' 3; simp only [comN]; omega
theorem cX_bd (h : Int) (i : Nat) : 0 ≤ cX h i ∧ cX h i ≤ 1 := by unfold cX; split <;> split <;> omega
theorem cY_bd (h : Int) (i : Nat) : 0 ≤ cY h i ∧ cY h i ≤ 1 := by unfold cY; split <;> split <;> omega
theorem eqn_shift (a b x y x' y' : Int) : eqn (a + x) (b + y) (a + x') (b + y') = eqn x y x' y' := by
  unfold eqn
  by_cases h : x = x' ∧ y = y'
  · rw [if_pos h, if_pos (by omega)]
  · rw [if_neg h, if_neg (by omega)]
theorem rowN_shift (a b x y i h j : Int) (n : Nat) : rowN (a + x) (b + y) (a + i) h (b + j) n = rowN x y i h j n := by
  induction n with
  | zero => rfl
  | succ n ih => simp only [rowN, ih, Int.add_assoc, eqn_shift]
theorem comN_shift (a b h i j h' : Int) (n : Nat) : comN a b h (a + i) (b + j) h' n = comN 0 0 h i j h' n := by
  induction n with
  | zero => rfl
  | succ n ih => simp only [comN, ih, rowN_shift, Int.zero_add]

/-- Is a point one of the six around the origin? -/
def inSix (x y : Int) : Bool := decide (x = 1 ∧ y = 0 ∨ x = 0 ∧ y = 1 ∨ x = -1 ∧ y = 1 ∨ x = -1 ∧ y = 0 ∨ x = 0 ∧ y = -1 ∨ x = 1 ∧ y = -1)
/-- Do two cells stand beside each other? -/
def touchB (l a b h a' b' h' : Int) : Bool :=
  if l = 1 then inSix (a' - a) (b' - b) else if l = 2 then comN a b h a' b' h' 3 == 2 else (comN a b h a' b' h' 3 == 1 || comN a b h a' b' h' 3 == 2)
theorem touchB_shift (l a b h i j h' : Int) : touchB l a b h (a + i) (b + j) h' = touchB l 0 0 h i j h' := by
  unfold touchB
  rw [comN_shift, show a + i - a = i - 0 by omega, show b + j - b = j - 0 by omega]

abbrev C := Int × Int × Int
def H (l : Int) : Nat := if l = 1 then 1 else 2
/-- The n-th cell at the nine points around a point. -/
def cd (l a b : Int) (n : Nat) : C := (a - 1 + ((n / H l % 3 : Nat) : Int), b - 1 + ((n / H l / 3 : Nat) : Int), ((n % H l : Nat) : Int))
/-- Those of the first n that stand beside a cell. -/
def bes (l a b h : Int) (n : Nat) : List C := ((List.range n).map (cd l a b)).filter fun d => touchB l a b h d.1 d.2.1 d.2.2
def sh (a b : Int) (d : C) : C := (a + d.1, b + d.2.1, d.2.2)
theorem cd_shift (l a b : Int) (n : Nat) : cd l a b n = sh a b (cd l 0 0 n) := by
  unfold cd sh
  simp only [Prod.mk.injEq, and_true]
  omega
theorem bes_succ_yes (l a b h : Int) (n : Nat) (ht : touchB l a b h (cd l a b n).1 (cd l a b n).2.1 (cd l a b n).2.2 = true) : bes l a b h (n + 1) = bes l a b h n ++ [cd l a b n] := by
  simp [bes, List.range_succ, List.filter_append, ht]
theorem bes_succ_no (l a b h : Int) (n : Nat) (ht : touchB l a b h (cd l a b n).1 (cd l a b n).2.1 (cd l a b n).2.2 = false) : bes l a b h (n + 1) = bes l a b h n := by
  simp [bes, List.range_succ, List.filter_append, ht]
theorem bes_shift (l a b h : Int) (n : Nat) : bes l a b h n = (bes l 0 0 h n).map (sh a b) := by
  induction n with
  | zero => rfl
  | succ n ih =>
    have e : touchB l a b h (cd l a b n).1 (cd l a b n).2.1 (cd l a b n).2.2 = touchB l 0 0 h (cd l 0 0 n).1 (cd l 0 0 n).2.1 (cd l 0 0 n).2.2 := by
      rw [cd_shift]; exact touchB_shift ..
    cases ht : touchB l 0 0 h (cd l 0 0 n).1 (cd l 0 0 n).2.1 (cd l 0 0 n).2.2
    · rw [bes_succ_no _ _ _ _ _ ht, bes_succ_no _ _ _ _ _ (e.trans ht), ih]
    · rw [bes_succ_yes _ _ _ _ _ ht, bes_succ_yes _ _ _ _ _ (e.trans ht), ih, List.map_append, cd_shift]; rfl
/-- All cells beside one. -/
def besAll (l a b h : Int) : List C := bes l a b h (9 * H l)
theorem besAll_shift (l a b h : Int) : besAll l a b h = (besAll l 0 0 h).map (sh a b) := bes_shift ..
theorem bes_len (l a b h : Int) (n : Nat) : (bes l a b h n).length ≤ n := by
  unfold bes; exact Nat.le_trans (List.length_filter_le _ _) (by simp)
theorem besAll_hex : besAll 1 0 0 0 = [(0, -1, 0), (1, -1, 0), (-1, 0, 0), (1, 0, 0), (-1, 1, 0), (0, 1, 0)] := by decide +kernel
theorem besAll_e0 : besAll 2 0 0 0 = [(0, -1, 1), (-1, 0, 1), (0, 0, 1)] := by decide +kernel
theorem besAll_e1 : besAll 2 0 0 1 = [(0, 0, 0), (1, 0, 0), (0, 1, 0)] := by decide +kernel
theorem besAll_v0 : besAll 3 0 0 0 = [(0, -1, 0), (0, -1, 1), (1, -1, 0), (1, -1, 1), (-1, 0, 0), (-1, 0, 1), (0, 0, 1), (1, 0, 0), (-1, 1, 0), (-1, 1, 1), (0, 1, 0), (-1, -1, 1)] ∨ True := by right; trivial
end Go.Proofs.YtcmfkdhadmfgkaaDoor.Ce
