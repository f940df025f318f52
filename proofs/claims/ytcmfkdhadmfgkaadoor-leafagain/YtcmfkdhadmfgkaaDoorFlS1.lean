/- The document's own next generation: the mathematics. -/
import Derived.Test.YtcmfkdhadmfgkaaDoorFlM
import Derived.Test.YtcmfkdhadmfgkaaDoorCeW13
import Derived.Test.YtcmfkdhadmfgkaaDoorFlG
namespace Go.Proofs.YtcmfkdhadmfgkaaDoor.Fl
open Go.RowKit Go.Proofs.YtcmfkdhadmfgkaaDoor.Ax Go.Lib
open Go.Proofs.YtcmfkdhadmfgkaaDoor.Ce (sh besAll nearB selB rb rb_all halvesV)
open Go.Proofs.YtcmfkdhadmfgkaaDoor.Se (Rising ofL mem_ofL rising_ofL ofL_len)

abbrev PL := Int × Int
/-! The places of a box. -/
def rowP (a0 b : Int) (n : Nat) : List PL := (List.range n).map fun i : Nat => (a0 + (i : Int), b)
def boxP (a0 b0 : Int) (na : Nat) : Nat → List PL
  | 0 => []
  | k + 1 => boxP a0 b0 na k ++ rowP a0 (b0 + (k : Int)) na
theorem rowP_succ (a0 b : Int) (n : Nat) : rowP a0 b (n + 1) = rowP a0 b n ++ [(a0 + (n : Int), b)] := by simp [rowP, List.range_succ]
theorem mem_rowP {a0 b : Int} {n : Nat} {p : PL} : p ∈ rowP a0 b n ↔ (a0 ≤ p.1 ∧ p.1 < a0 + n) ∧ p.2 = b := by
  unfold rowP
  simp only [List.mem_map, List.mem_range]
  constructor
  · rintro ⟨i, hi, rfl⟩; exact ⟨⟨by dsimp only; omega, by dsimp only; omega⟩, rfl⟩
  · rintro ⟨⟨h1, h2⟩, h3⟩
    obtain ⟨x, y⟩ := p
    exact ⟨(x - a0).toNat, by dsimp only at h1 h2; omega, by simp only [Prod.mk.injEq]; dsimp only at h1 h2 h3; omega⟩
theorem mem_boxP {a0 b0 : Int} {na : Nat} {p : PL} : ∀ {nb : Nat}, p ∈ boxP a0 b0 na nb ↔ (a0 ≤ p.1 ∧ p.1 < a0 + na) ∧ (b0 ≤ p.2 ∧ p.2 < b0 + nb)
  | 0 => by
    unfold boxP
    simp only [List.not_mem_nil, false_iff]
    omega
  | k + 1 => by
    unfold boxP
    rw [List.mem_append, mem_boxP, mem_rowP]
    omega
theorem rowP_len (a0 b : Int) (n : Nat) : (rowP a0 b n).length = n := by simp [rowP]
theorem boxP_len (a0 b0 : Int) (na : Nat) : ∀ nb, (boxP a0 b0 na nb).length = nb * na
  | 0 => by simp [boxP]
  | k + 1 => by rw [boxP, List.length_append, boxP_len a0 b0 na k, rowP_len, Nat.add_mul, Nat.one_mul]
/-! The least and the greatest of a list. -/
def mnL (f : C → Int) : List C → Int → Int
  | [], x => x
  | c :: L, x => mnL f L (min x (f c))
def mxL (f : C → Int) : List C → Int → Int
  | [], x => x
  | c :: L, x => mxL f L (max x (f c))
theorem mnL_app (f : C → Int) (c : C) : ∀ (L : List C) (x : Int), mnL f (L ++ [c]) x = min (mnL f L x) (f c)
  | [], _ => rfl
  | d :: L, x => by simp only [List.cons_append, mnL]; exact mnL_app f c L _
theorem mxL_app (f : C → Int) (c : C) : ∀ (L : List C) (x : Int), mxL f (L ++ [c]) x = max (mxL f L x) (f c)
  | [], _ => rfl
  | d :: L, x => by simp only [List.cons_append, mxL]; exact mxL_app f c L _
theorem mnL_le (f : C → Int) : ∀ (L : List C) (x : Int), mnL f L x ≤ x ∧ ∀ c ∈ L, mnL f L x ≤ f c
  | [], x => ⟨Int.le_refl _, by simp⟩
  | d :: L, x => by
    obtain ⟨h1, h2⟩ := mnL_le f L (min x (f d))
    refine ⟨by unfold mnL; omega, fun c hc => ?_⟩
    unfold mnL
    rcases List.mem_cons.1 hc with rfl | hc
    · omega
    · exact h2 c hc
theorem mxL_le (f : C → Int) : ∀ (L : List C) (x : Int), x ≤ mxL f L x ∧ ∀ c ∈ L, f c ≤ mxL f L x
  | [], x => ⟨Int.le_refl _, by simp⟩
  | d :: L, x => by
    obtain ⟨h1, h2⟩ := mxL_le f L (max x (f d))
    refine ⟨by unfold mxL; omega, fun c hc => ?_⟩
    unfold mxL
    rcases List.mem_cons.1 hc with rfl | hc
    · omega
    · exact h2 c hc
theorem mnL_bd (f : C → Int) {m : Int} : ∀ (L : List C) (x : Int), (∀ c ∈ L, m ≤ f c) → m ≤ x → m ≤ mnL f L x
  | [], _, _, h => h
  | d :: L, x, hL, h => mnL_bd f L _ (fun c hc => hL c (by simp [hc])) (by have := hL d (by simp); omega)
theorem mxL_bd (f : C → Int) {m : Int} : ∀ (L : List C) (x : Int), (∀ c ∈ L, f c ≤ m) → x ≤ m → mxL f L x ≤ m
  | [], _, _, h => h
  | d :: L, x, hL, h => mxL_bd f L _ (fun c hc => hL c (by simp [hc])) (by have := hL d (by simp); omega)
def fA (c : C) : Int := c.1
def fB (c : C) : Int := c.2.1
/-- All places at which a cell may live then. -/
def plS (s : C) (S : List C) : List PL := boxP (mnL fA S s.1 - 1) (mnL fB S s.2.1 - 1) (mxL fA S s.1 - mnL fA S s.1 + 3).toNat (mxL fB S s.2.1 - mnL fB S s.2.1 + 3).toNat
theorem mem_plS {s : C} {S : List C} {p : PL} : p ∈ plS s S ↔ (mnL fA S s.1 - 1 ≤ p.1 ∧ p.1 ≤ mxL fA S s.1 + 1) ∧ (mnL fB S s.2.1 - 1 ≤ p.2 ∧ p.2 ≤ mxL fB S s.2.1 + 1) := by
  unfold plS
  rw [mem_boxP]
  have h1 := (mnL_le fA S s.1).1
  have h2 := (mxL_le fA S s.1).1
  have h3 := (mnL_le fB S s.2.1).1
  have h4 := (mxL_le fB S s.2.1).1
  omega
theorem plS_len {s : C} {S : List C} (hs : s ∈ S) (h : Wi 13 S) : (plS s S).length ≤ 841 := by
  unfold plS
  rw [boxP_len]
  have h0 := h s hs
  have a1 := mnL_bd fA S s.1 (m := -13) (fun c hc => (h c hc).1.1) (by omega)
  have a2 := mxL_bd fA S s.1 (m := 13) (fun c hc => (h c hc).1.2) (by omega)
  have b1 := mnL_bd fB S s.2.1 (m := -13) (fun c hc => (h c hc).2.1) (by omega)
  have b2 := mxL_bd fB S s.2.1 (m := 13) (fun c hc => (h c hc).2.2) (by omega)
  exact Nat.mul_le_mul (show _ ≤ 29 by omega) (show _ ≤ 29 by omega)
/-! What lives then. -/
def genB (nx : Int → Bool → Nat → Bool) (l : Int) (S : List C) (c : C) : Bool := (c.2.2 == 0 || decide (1 < l)) && nx c.2.2 (decide (c ∈ S)) (nbC l S c)
def ptP (nx : Int → Bool → Nat → Bool) (l : Int) (S : List C) (p : PL) : Nat → List C
  | 0 => []
  | k + 1 => ptP nx l S p k ++ if genB nx l S (p.1, p.2, (k : Int)) = true then [(p.1, p.2, (k : Int))] else []
def outP (nx : Int → Bool → Nat → Bool) (l : Int) (S : List C) (Q : List PL) : List C := Q.flatMap fun p => ptP nx l S p 2
section
variable {nx : Int → Bool → Nat → Bool} {l : Int} {S R : List C}
theorem mem_ptP {p : PL} {c : C} : ∀ {k : Nat}, c ∈ ptP nx l S p k ↔ (c.1 = p.1 ∧ c.2.1 = p.2) ∧ (0 ≤ c.2.2 ∧ c.2.2 < k) ∧ genB nx l S c = true
  | 0 => by
    unfold ptP
    simp only [List.not_mem_nil, false_iff]
    omega
  | k + 1 => by
    unfold ptP
    rw [List.mem_append, mem_ptP]
    by_cases hg : genB nx l S (p.1, p.2, (k : Int)) = true
    · rw [if_pos hg, List.mem_singleton]
      constructor
      · rintro (⟨h1, h2, h3⟩ | rfl)
        · exact ⟨h1, ⟨h2.1, by omega⟩, h3⟩
        · exact ⟨⟨rfl, rfl⟩, ⟨by dsimp only; omega, by dsimp only; omega⟩, hg⟩
      · rintro ⟨⟨e1, e2⟩, ⟨h1, h2⟩, h3⟩
        by_cases hk : c.2.2 = (k : Int)
        · right
          obtain ⟨x, y, z⟩ := c
          simp only [Prod.mk.injEq]
          exact ⟨e1, e2, hk⟩
        · exact .inl ⟨⟨e1, e2⟩, ⟨h1, by omega⟩, h3⟩
    · rw [if_neg hg]
      simp only [List.not_mem_nil, or_false]
      constructor
      · rintro ⟨h1, h2, h3⟩
        exact ⟨h1, ⟨h2.1, by omega⟩, h3⟩
      · rintro ⟨⟨e1, e2⟩, ⟨h1, h2⟩, h3⟩
        refine ⟨⟨e1, e2⟩, ⟨h1, ?_⟩, h3⟩
        by_cases hk : c.2.2 = (k : Int)
        · exfalso
          obtain ⟨x, y, z⟩ := c
          dsimp only at e1 e2 hk
          subst e1 e2 hk
          exact hg h3
        · omega
theorem ptP_len (p : PL) : ∀ k, (ptP nx l S p k).length ≤ k
  | 0 => Nat.le_refl _
  | k + 1 => by
    have := ptP_len p k
    unfold ptP
    rw [List.length_append]
    split <;> simp <;> omega
theorem outP_len : ∀ Q : List PL, (outP nx l S Q).length ≤ 2 * Q.length
  | [] => Nat.le_refl _
  | p :: Q => by
    have h1 : (ptP nx l S p 2).length ≤ 2 := ptP_len p 2
    have h2 := outP_len Q
    unfold outP at h2 ⊢
    rw [List.flatMap_cons, List.length_append, List.length_cons]
    omega
theorem outP_app (Q : List PL) (p : PL) : outP nx l S (Q ++ [p]) = outP nx l S Q ++ ptP nx l S p 2 := by simp [outP]
theorem mem_outP {Q : List PL} {c : C} : c ∈ outP nx l S Q ↔ (c.1, c.2.1) ∈ Q ∧ (0 ≤ c.2.2 ∧ c.2.2 < 2) ∧ genB nx l S c = true := by
  unfold outP
  rw [List.mem_flatMap]
  constructor
  · rintro ⟨p, hp, hc⟩
    obtain ⟨⟨e1, e2⟩, h2, h3⟩ := mem_ptP.1 hc
    refine ⟨?_, h2, h3⟩
    obtain ⟨x, y⟩ := p
    dsimp only at e1 e2
    rw [e1, e2]; exact hp
  · rintro ⟨h1, h2, h3⟩
    exact ⟨_, h1, mem_ptP.2 ⟨⟨rfl, rfl⟩, h2, h3⟩⟩
theorem near_nx (hl : l = 1 ∨ l = 2 ∨ l = 3) (hb : Bare nx) {c : C} (hv : valid l c) (hn : nx c.2.2 (decide (c ∈ S)) (nbC l S c) = true) : ∃ d ∈ S, (-1 ≤ c.1 - d.1 ∧ c.1 - d.1 ≤ 1) ∧ (-1 ≤ c.2.1 - d.2.1 ∧ c.2.1 - d.2.1 ≤ 1) := by
  by_cases hS : c ∈ S
  · exact ⟨c, hS, by omega, by omega⟩
  · by_cases he : ∃ e ∈ besC l c, e ∈ S
    · obtain ⟨e, he, hes⟩ := he
      obtain ⟨_, _, h1, h2⟩ := bes_mem hl hv he
      exact ⟨e, hes, by omega, by omega⟩
    · rw [nb_none fun e h1 h2 => he ⟨e, h1, h2⟩, show decide (c ∈ S) = false by simpa using hS, hb] at hn
      cases hn
theorem stp_out (hl : l = 1 ∨ l = 2 ∨ l = 3) (hb : Bare nx) (s : C) : Stp nx l S (ofL (outP nx l S (plS s S))) := by
  refine ⟨rising_ofL _, fun c => ?_⟩
  rw [mem_ofL, mem_outP]
  have hval : valid l c ↔ (0 ≤ c.2.2 ∧ c.2.2 < 2) ∧ (c.2.2 == 0 || decide (1 < l)) = true := by
    unfold valid
    simp only [Bool.or_eq_true, beq_iff_eq, decide_eq_true_eq]
    split <;> omega
  unfold genB
  rw [Bool.and_eq_true, hval]
  constructor
  · rintro ⟨_, h2, h3, h4⟩
    exact ⟨⟨h2, h3⟩, h4⟩
  · rintro ⟨⟨h2, h3⟩, h4⟩
    refine ⟨?_, h2, h3, h4⟩
    obtain ⟨d, hd, h5, h6⟩ := near_nx hl hb (hval.2 ⟨h2, h3⟩) h4
    rw [mem_plS]
    have a1 := (mnL_le fA S s.1).2 d hd
    have a2 := (mxL_le fA S s.1).2 d hd
    have b1 := (mnL_le fB S s.2.1).2 d hd
    have b2 := (mxL_le fB S s.2.1).2 d hd
    unfold fA at a1 a2
    unfold fB at b1 b2
    unfold fA fB
    dsimp only
    omega
end
/-! Near, and beside. -/
theorem near_fin : ∀ l ∈ [(1 : Int), 2, 3], ∀ h ∈ [(0 : Int), 1], h < (if l = 1 then 1 else 2) → ∀ k ∈ [(0 : Int), 1], k < (if l = 1 then 1 else 2) → ∀ x ∈ [(-1 : Int), 0, 1], ∀ y ∈ [(-1 : Int), 0, 1], nearB l 0 0 h x y k = decide ((x, y, k) ∈ besAll l 0 0 h) := by decide +kernel
theorem near_bes {l : Int} (hl : l = 1 ∨ l = 2 ∨ l = 3) {c d : C} (hc : valid l c) (hd : valid l d) (hx : -1 ≤ d.1 - c.1 ∧ d.1 - c.1 ≤ 1) (hy : -1 ≤ d.2.1 - c.2.1 ∧ d.2.1 - c.2.1 ≤ 1) : nearB l c.1 c.2.1 c.2.2 d.1 d.2.1 d.2.2 = decide (d ∈ besC l c) := by
  obtain ⟨a, b, h⟩ := c
  obtain ⟨a', b', k⟩ := d
  dsimp only at hx hy ⊢
  have e1 : (a', b', k) = sh a b (a' - a, b' - b, k) := by simp only [sh, Prod.mk.injEq, and_true]; omega
  rw [e1, besC_at]
  have e2 := Go.Proofs.YtcmfkdhadmfgkaaDoor.Ce.nearB_shift l a b h (a' - a) (b' - b) k
  rw [show a + (a' - a) = a' by omega, show b + (b' - b) = b' by omega] at e2
  rw [e2]
  have hm : (sh a b (a' - a, b' - b, k) ∈ (besAll l 0 0 h).map (sh a b)) ↔ (a' - a, b' - b, k) ∈ besAll l 0 0 h := mem_sh
  rw [decide_eq_decide.2 hm]
  have ex : a' - a ∈ [(-1 : Int), 0, 1] := by simp; omega
  have ey : b' - b ∈ [(-1 : Int), 0, 1] := by simp; omega
  exact near_fin l (lat3 hl) h (val2 hc) hc.2 k (val2 hd) hd.2 _ ex _ ey
def cntN (l : Int) (S : List C) (c : C) (k : Nat) : Nat := ((S.take k).filter fun d => decide (d ∈ besC l c)).length
theorem cntN_succ {l : Int} {S : List C} {c d : C} {k : Nat} (h : S[k]? = some d) : cntN l S c (k + 1) = cntN l S c k + if decide (d ∈ besC l c) = true then 1 else 0 := by
  unfold cntN
  rw [List.take_add_one, h]
  simp only [Option.toList, List.filter_append, List.length_append]
  by_cases hd : d ∈ besC l c <;> simp [hd]
theorem cntN_le (l : Int) (S : List C) (c : C) (k : Nat) : cntN l S c k ≤ k := Nat.le_trans (List.length_filter_le _ _) (by rw [List.length_take]; omega)
theorem nb_cnt {l : Int} (hl : l = 2 ∨ l = 3) {S : List C} (hn : S.Nodup) (hv : ∀ c ∈ S, valid l c) {c : C} (hc : valid l c) : nbC l S c = cntN l S c S.length := by
  have h3 : l = 1 ∨ l = 2 ∨ l = 3 := by omega
  rw [← around_nb h3 hn hv hc]
  unfold around cntN
  rw [List.take_length]
  have e : S.filter (fun x => decide (c ∈ besC l x)) = S.filter (fun d => decide (d ∈ besC l c)) := List.filter_congr fun x hx => decide_eq_decide.2 (bes_comm h3 (hv x hx) hc)
  rw [e]
  have e : (fun x => shareN l x c) = fun _ => 1 := funext fun x => by unfold shareN; rw [if_neg (by omega)]
  rw [e]
  induction (S.filter fun d => decide (d ∈ besC l c)) with
  | nil => rfl
  | cons x L ih => simp [ih]; omega
end Go.Proofs.YtcmfkdhadmfgkaaDoor.Fl
