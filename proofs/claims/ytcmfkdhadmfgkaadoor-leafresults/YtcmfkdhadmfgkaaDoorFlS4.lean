/- Several texts, joined. -/
import Derived.Test.YtcmfkdhadmfgkaaDoorCeW12
import Derived.Test.YtcmfkdhadmfgkaaDoorFlM
import Derived.Test.YtcmfkdhadmfgkaaDoorFlG
import Derived.Test.YtcmfkdhadmfgkaaDoorSeR2
import Derived.Deep.RegionHeld3
import Derived.StillTailTactics
import Derived.Deep.DeepCutAuto
import Derived.Test.YtcmfkdhadmfgkaaDoorTbC5

/- The document's own Beside. -/
namespace Go.Proofs.YtcmfkdhadmfgkaaDoor.Ce
open Go.RowKit Go.Proofs.YtcmfkdhadmfgkaaDoor.Ax

/-- The n-th cell at the twenty-five points around a point; those of the first n that are near. -/
def cr (a b : Int) (n : Nat) : C := (a - 2 + ((n / 2 % 5 : Nat) : Int), b - 2 + ((n / 10 : Nat) : Int), ((n % 2 : Nat) : Int))
def selB (l a b h : Int) (d : C) : Bool := (decide (1 < l) || d.2.2 == 0) && nearB l a b h d.1 d.2.1 d.2.2
def rb (l a b h : Int) (n : Nat) : List C := ((List.range n).map (cr a b)).filter (selB l a b h)
theorem cr_at (a b : Int) (i j m : Nat) (hj : j < 5) (hm : m < 2) : cr a b (i * 10 + j * 2 + m) = (a - 2 + (j : Int), b - 2 + (i : Int), (m : Int)) := by
  unfold cr
  simp only [Prod.mk.injEq]
  omega
theorem cr_shift (a b : Int) (n : Nat) : cr a b n = sh a b (cr 0 0 n) := by
  unfold cr sh
  simp only [Prod.mk.injEq, and_true]
  omega
theorem sel_shift (l a b h : Int) (d : C) : selB l a b h (sh a b d) = selB l 0 0 h d := by
  unfold selB sh
  dsimp only
  rw [nearB_shift]
theorem rb_yes (l a b h : Int) (n : Nat) (ht : selB l a b h (cr a b n) = true) : rb l a b h (n + 1) = rb l a b h n ++ [cr a b n] := by
  simp [rb, List.range_succ, List.filter_append, ht]
theorem rb_no (l a b h : Int) (n : Nat) (ht : selB l a b h (cr a b n) = false) : rb l a b h (n + 1) = rb l a b h n := by
  simp [rb, List.range_succ, List.filter_append, ht]
theorem rb_shift (l a b h : Int) (n : Nat) : rb l a b h n = (rb l 0 0 h n).map (sh a b) := by
  induction n with
  | zero => rfl
  | succ n ih =>
    have e : selB l a b h (cr a b n) = selB l 0 0 h (cr 0 0 n) := by rw [cr_shift]; exact sel_shift ..
    cases ht : selB l 0 0 h (cr 0 0 n)
    · rw [rb_no _ _ _ _ _ ht, rb_no _ _ _ _ _ (e.trans ht), ih]
    · rw [rb_yes _ _ _ _ _ ht, rb_yes _ _ _ _ _ (e.trans ht), ih, List.map_append, cr_shift]; rfl
theorem rb_len (l a b h : Int) (n : Nat) : (rb l a b h n).length ≤ n := by
  unfold rb; exact Nat.le_trans (List.length_filter_le _ _) (by simp)
theorem rb_fin : ∀ l ∈ [(1 : Int), 2, 3], ∀ h ∈ [(0 : Int), 1], h < (if l = 1 then 1 else 2) → rb l 0 0 h 50 = besAll l 0 0 h := by decide +kernel
theorem rb_all {l a b h : Int} (hl : l = 1 ∨ l = 2 ∨ l = 3) (h0 : 0 ≤ h) (h1 : h < halvesV l) : rb l a b h 50 = besAll l a b h := by
  have hh : h = 0 ∨ h = 1 := by unfold halvesV at h1; split at h1 <;> omega
  rw [rb_shift, besAll_shift, rb_fin l (by rcases hl with rfl | rfl | rfl <;> simp) h (by rcases hh with rfl | rfl <;> simp) h1]
def RbRel (w : World) (B0 : Nat) (l a b h : Int) (n : Nat) (v f : Value) (wq : World) : Prop :=
  f = .bool (allG (rb l a b h n)) ∧ wq.ownsRow B0 67 3 v (rb l a b h n).length (flat (rb l a b h n)) ∧ Below w.heap.size w wq ∧ Blk wq w.heap.size 67 #[.int .i64 a, .int .i64 b, .int .i64 h] ∧ B0 ≤ wq.heap.size
def Rb1 (w : World) (B0 : Nat) (l a b h : Int) (v f y : Value) (wq : World) : Prop := ∃ i : Nat, i ≤ 5 ∧ y = .int .i64 (b - 2 + (i : Int)) ∧ RbRel w B0 l a b h (i * 10) v f wq
def Rb2 (w : World) (B0 : Nat) (l a b h : Int) (i : Nat) (v f x : Value) (wq : World) : Prop := ∃ j : Nat, j ≤ 5 ∧ x = .int .i64 (a - 2 + (j : Int)) ∧ RbRel w B0 l a b h (i * 10 + j * 2) v f wq
def Rb3 (w : World) (B0 : Nat) (l a b h : Int) (i j : Nat) (v f z : Value) (wq : World) : Prop := ∃ m : Nat, m ≤ 2 ∧ z = .int .i64 (m : Int) ∧ RbRel w B0 l a b h (i * 10 + j * 2 + m) v f wq
theorem rcell_info : (Tryd.prog.info? 67).map (fun i => (i.zero, i.size, i.bytes)) = some (some (.agg #[.int .i64 0, .int .i64 0, .int .i64 0]), 3, 24) := by kernel_rfl
def RBesPost (w : World) (l a b h : Int) (e : Ending) (w' : World) : Prop :=
  ∃ v, e = .returned (.tuple #[v, .bool (allG (rb l a b h 50))]) ∧ w'.ownsRow w.heap.size 67 3 v (rb l a b h 50).length (flat (rb l a b h 50)) ∧ Below w.heap.size w w'
end Go.Proofs.YtcmfkdhadmfgkaaDoor.Ce

/- The document's own next generation: the mathematics. -/
namespace Go.Proofs.YtcmfkdhadmfgkaaDoor.Fl
open Go.RowKit Go.Proofs.YtcmfkdhadmfgkaaDoor.Ax Go.Lib
open Go.Proofs.YtcmfkdhadmfgkaaDoor.Ce (sh besAll nearB selB rb rb_all halvesV)
open Go.Proofs.YtcmfkdhadmfgkaaDoor.Se (Rising ofL mem_ofL rising_ofL ofL_len)

abbrev PL := Int × Int
/-! The places of a box. -/
def rowP (a0 b : Int) (n : Nat) : List PL := (List.range n).map fun i : Nat => (a0 + (i : Int), b)
def boxP (a0 b0 : Int) (na : Nat) : Nat → List PL
  | 0 => []
  | k + 1 => boxP a0 b0 na k ++ rowP a0 (b0 + (k : Int)) na
theorem rowP_succ (a0 b : Int) (n : Nat) : rowP a0 b (n + 1) = rowP a0 b n ++ [(a0 + (n : Int), b)] := by simp [rowP, List.range_succ]
theorem mem_rowP {a0 b : Int} {n : Nat} {p : PL} : p ∈ rowP a0 b n ↔ (a0 ≤ p.1 ∧ p.1 < a0 + n) ∧ p.2 = b := by
  unfold rowP
  simp only [List.mem_map, List.mem_range]
  constructor
  · rintro ⟨i, hi, rfl⟩; exact ⟨⟨by dsimp only; omega, by dsimp only; omega⟩, rfl⟩
  · rintro ⟨⟨h1, h2⟩, h3⟩
    obtain ⟨x, y⟩ := p
    exact ⟨(x - a0).toNat, by dsimp only at h1 h2; omega, by simp only [Prod.mk.injEq]; dsimp only at h1 h2 h3; omega⟩
theorem mem_boxP {a0 b0 : Int} {na : Nat} {p : PL} : ∀ {nb : Nat}, p ∈ boxP a0 b0 na nb ↔ (a0 ≤ p.1 ∧ p.1 < a0 + na) ∧ (b0 ≤ p.2 ∧ p.2 < b0 + nb)
  | 0 => by
    unfold boxP
    simp only [List.not_mem_nil, false_iff]
    omega
  | k + 1 => by
    unfold boxP
    rw [List.mem_append, mem_boxP, mem_rowP]
    omega
theorem rowP_len (a0 b : Int) (n : Nat) : (rowP a0 b n).length = n := by simp [rowP]
theorem boxP_len (a0 b0 : Int) (na : Nat) : ∀ nb, (boxP a0 b0 na nb).length = nb * na
  | 0 => by simp [boxP]
  | k + 1 => by rw [boxP, List.length_append, boxP_len a0 b0 na k, rowP_len, Nat.add_mul, Nat.one_mul]
/-! The least and the greatest of a list. -/
def mnL (f : C → Int) : List C → Int → Int
  | [], x => x
  | c :: L, x => mnL f L (min x (f c))
def mxL (f : C → Int) : List C → Int → Int
  | [], x => x
  | c :: L, x => mxL f L (max x (f c))
theorem mnL_app (f : C → Int) (c : C) : ∀ (L : List C) (x : Int), mnL f (L ++ [c]) x = min (mnL f L x) (f c)
  | [], _ => rfl
  | d :: L, x => by simp only [List.cons_append, mnL]; exact mnL_app f c L _
theorem mxL_app (f : C → Int) (c : C) : ∀ (L : List C) (x : Int), mxL f (L ++ [c]) x = max (mxL f L x) (f c)
  | [], _ => rfl
  | d :: L, x => by simp only [List.cons_append, mxL]; exact mxL_app f c L _
theorem mnL_le (f : C → Int) : ∀ (L : List C) (x : Int), mnL f L x ≤ x ∧ ∀ c ∈ L, mnL f L x ≤ f c
  | [], x => ⟨Int.le_refl _, by simp⟩
  | d :: L, x => by
    obtain ⟨h1, h2⟩ := mnL_le f L (min x (f d))
    refine ⟨by unfold mnL; omega, fun c hc => ?_⟩
    unfold mnL
    rcases List.mem_cons.1 hc with rfl | hc
    · omega
    · exact h2 c hc
theorem mxL_le (f : C → Int) : ∀ (L : List C) (x : Int), x ≤ mxL f L x ∧ ∀ c ∈ L, f c ≤ mxL f L x
  | [], x => ⟨Int.le_refl _, by simp⟩
  | d :: L, x => by
    obtain ⟨h1, h2⟩ := mxL_le f L (max x (f d))
    refine ⟨by unfold mxL; omega, fun c hc => ?_⟩
    unfold mxL
    rcases List.mem_cons.1 hc with rfl | hc
    · omega
    · exact h2 c hc
theorem mnL_bd (f : C → Int) {m : Int} : ∀ (L : List C) (x : Int), (∀ c ∈ L, m ≤ f c) → m ≤ x → m ≤ mnL f L x
  | [], _, _, h => h
  | d :: L, x, hL, h => mnL_bd f L _ (fun c hc => hL c (by simp [hc])) (by have := hL d (by simp); omega)
theorem mxL_bd (f : C → Int) {m : Int} : ∀ (L : List C) (x : Int), (∀ c ∈ L, f c ≤ m) → x ≤ m → mxL f L x ≤ m
  | [], _, _, h => h
  | d :: L, x, hL, h => mxL_bd f L _ (fun c hc => hL c (by simp [hc])) (by have := hL d (by simp); omega)
def fA (c : C) : Int := c.1
def fB (c : C) : Int := c.2.1
/-- All places at which a cell may live then. -/
def plS (s : C) (S : List C) : List PL := boxP (mnL fA S s.1 - 1) (mnL fB S s.2.1 - 1) (mxL fA S s.1 - mnL fA S s.1 + 3).toNat (mxL fB S s.2.1 - mnL fB S s.2.1 + 3).toNat
theorem mem_plS {s : C} {S : List C} {p : PL} : p ∈ plS s S ↔ (mnL fA S s.1 - 1 ≤ p.1 ∧ p.1 ≤ mxL fA S s.1 + 1) ∧ (mnL fB S s.2.1 - 1 ≤ p.2 ∧ p.2 ≤ mxL fB S s.2.1 + 1) := by
  unfold plS
  rw [mem_boxP]
  have h1 := (mnL_le fA S s.1).1
  have h2 := (mxL_le fA S s.1).1
  have h3 := (mnL_le fB S s.2.1).1
  have h4 := (mxL_le fB S s.2.1).1
  omega
theorem plS_len {s : C} {S : List C} (hs : s ∈ S) (h : Wi 13 S) : (plS s S).length ≤ 841 := by
  unfold plS
  rw [boxP_len]
  have h0 := h s hs
  have a1 := mnL_bd fA S s.1 (m := -13) (fun c hc => (h c hc).1.1) (by omega)
  have a2 := mxL_bd fA S s.1 (m := 13) (fun c hc => (h c hc).1.2) (by omega)
  have b1 := mnL_bd fB S s.2.1 (m := -13) (fun c hc => (h c hc).2.1) (by omega)
  have b2 := mxL_bd fB S s.2.1 (m := 13) (fun c hc => (h c hc).2.2) (by omega)
  exact Nat.mul_le_mul (show _ ≤ 29 by omega) (show _ ≤ 29 by omega)
/-! What lives then. -/
def genB (nx : Int → Bool → Nat → Bool) (l : Int) (S : List C) (c : C) : Bool := (c.2.2 == 0 || decide (1 < l)) && nx c.2.2 (decide (c ∈ S)) (nbC l S c)
def ptP (nx : Int → Bool → Nat → Bool) (l : Int) (S : List C) (p : PL) : Nat → List C
  | 0 => []
  | k + 1 => ptP nx l S p k ++ if genB nx l S (p.1, p.2, (k : Int)) = true then [(p.1, p.2, (k : Int))] else []
def outP (nx : Int → Bool → Nat → Bool) (l : Int) (S : List C) (Q : List PL) : List C := Q.flatMap fun p => ptP nx l S p 2
section
variable {nx : Int → Bool → Nat → Bool} {l : Int} {S R : List C}
theorem mem_ptP {p : PL} {c : C} : ∀ {k : Nat}, c ∈ ptP nx l S p k ↔ (c.1 = p.1 ∧ c.2.1 = p.2) ∧ (0 ≤ c.2.2 ∧ c.2.2 < k) ∧ genB nx l S c = true
  | 0 => by
    unfold ptP
    simp only [List.not_mem_nil, false_iff]
    omega
  | k + 1 => by
    unfold ptP
    rw [List.mem_append, mem_ptP]
    by_cases hg : genB nx l S (p.1, p.2, (k : Int)) = true
    · rw [if_pos hg, List.mem_singleton]
      constructor
      · rintro (⟨h1, h2, h3⟩ | rfl)
        · exact ⟨h1, ⟨h2.1, by omega⟩, h3⟩
        · exact ⟨⟨rfl, rfl⟩, ⟨by dsimp only; omega, by dsimp only; omega⟩, hg⟩
      · rintro ⟨⟨e1, e2⟩, ⟨h1, h2⟩, h3⟩
        by_cases hk : c.2.2 = (k : Int)
        · right
          obtain ⟨x, y, z⟩ := c
          simp only [Prod.mk.injEq]
          exact ⟨e1, e2, hk⟩
        · exact .inl ⟨⟨e1, e2⟩, ⟨h1, by omega⟩, h3⟩
    · rw [if_neg hg]
      simp only [List.not_mem_nil, or_false]
      constructor
      · rintro ⟨h1, h2, h3⟩
        exact ⟨h1, ⟨h2.1, by omega⟩, h3⟩
      · rintro ⟨⟨e1, e2⟩, ⟨h1, h2⟩, h3⟩
        refine ⟨⟨e1, e2⟩, ⟨h1, ?_⟩, h3⟩
        by_cases hk : c.2.2 = (k : Int)
        · exfalso
          obtain ⟨x, y, z⟩ := c
          dsimp only at e1 e2 hk
          subst e1 e2 hk
          exact hg h3
        · omega
theorem ptP_len (p : PL) : ∀ k, (ptP nx l S p k).length ≤ k
  | 0 => Nat.le_refl _
  | k + 1 => by
    have := ptP_len p k
    unfold ptP
    rw [List.length_append]
    split <;> simp <;> omega
theorem outP_len : ∀ Q : List PL, (outP nx l S Q).length ≤ 2 * Q.length
  | [] => Nat.le_refl _
  | p :: Q => by
    have h1 : (ptP nx l S p 2).length ≤ 2 := ptP_len p 2
    have h2 := outP_len Q
    unfold outP at h2 ⊢
    rw [List.flatMap_cons, List.length_append, List.length_cons]
    omega
theorem outP_app (Q : List PL) (p : PL) : outP nx l S (Q ++ [p]) = outP nx l S Q ++ ptP nx l S p 2 := by simp [outP]
theorem mem_outP {Q : List PL} {c : C} : c ∈ outP nx l S Q ↔ (c.1, c.2.1) ∈ Q ∧ (0 ≤ c.2.2 ∧ c.2.2 < 2) ∧ genB nx l S c = true := by
  unfold outP
  rw [List.mem_flatMap]
  constructor
  · rintro ⟨p, hp, hc⟩
    obtain ⟨⟨e1, e2⟩, h2, h3⟩ := mem_ptP.1 hc
    refine ⟨?_, h2, h3⟩
    obtain ⟨x, y⟩ := p
    dsimp only at e1 e2
    rw [e1, e2]; exact hp
  · rintro ⟨h1, h2, h3⟩
    exact ⟨_, h1, mem_ptP.2 ⟨⟨rfl, rfl⟩, h2, h3⟩⟩
theorem near_nx (hl : l = 1 ∨ l = 2 ∨ l = 3) (hb : Bare nx) {c : C} (hv : valid l c) (hn : nx c.2.2 (decide (c ∈ S)) (nbC l S c) = true) : ∃ d ∈ S, (-1 ≤ c.1 - d.1 ∧ c.1 - d.1 ≤ 1) ∧ (-1 ≤ c.2.1 - d.2.1 ∧ c.2.1 - d.2.1 ≤ 1) := by
  by_cases hS : c ∈ S
  · exact ⟨c, hS, by omega, by omega⟩
  · by_cases he : ∃ e ∈ besC l c, e ∈ S
    · obtain ⟨e, he, hes⟩ := he
      obtain ⟨_, _, h1, h2⟩ := bes_mem hl hv he
      exact ⟨e, hes, by omega, by omega⟩
    · rw [nb_none fun e h1 h2 => he ⟨e, h1, h2⟩, show decide (c ∈ S) = false by simpa using hS, hb] at hn
      cases hn
theorem stp_out (hl : l = 1 ∨ l = 2 ∨ l = 3) (hb : Bare nx) (s : C) : Stp nx l S (ofL (outP nx l S (plS s S))) := by
  refine ⟨rising_ofL _, fun c => ?_⟩
  rw [mem_ofL, mem_outP]
  have hval : valid l c ↔ (0 ≤ c.2.2 ∧ c.2.2 < 2) ∧ (c.2.2 == 0 || decide (1 < l)) = true := by
    unfold valid
    simp only [Bool.or_eq_true, beq_iff_eq, decide_eq_true_eq]
    split <;> omega
  unfold genB
  rw [Bool.and_eq_true, hval]
  constructor
  · rintro ⟨_, h2, h3, h4⟩
    exact ⟨⟨h2, h3⟩, h4⟩
  · rintro ⟨⟨h2, h3⟩, h4⟩
    refine ⟨?_, h2, h3, h4⟩
    obtain ⟨d, hd, h5, h6⟩ := near_nx hl hb (hval.2 ⟨h2, h3⟩) h4
    rw [mem_plS]
    have a1 := (mnL_le fA S s.1).2 d hd
    have a2 := (mxL_le fA S s.1).2 d hd
    have b1 := (mnL_le fB S s.2.1).2 d hd
    have b2 := (mxL_le fB S s.2.1).2 d hd
    unfold fA at a1 a2
    unfold fB at b1 b2
    unfold fA fB
    dsimp only
    omega
end
/-! Near, and beside. -/
theorem near_fin : ∀ l ∈ [(1 : Int), 2, 3], ∀ h ∈ [(0 : Int), 1], h < (if l = 1 then 1 else 2) → ∀ k ∈ [(0 : Int), 1], k < (if l = 1 then 1 else 2) → ∀ x ∈ [(-1 : Int), 0, 1], ∀ y ∈ [(-1 : Int), 0, 1], nearB l 0 0 h x y k = decide ((x, y, k) ∈ besAll l 0 0 h) := by decide +kernel
theorem near_bes {l : Int} (hl : l = 1 ∨ l = 2 ∨ l = 3) {c d : C} (hc : valid l c) (hd : valid l d) (hx : -1 ≤ d.1 - c.1 ∧ d.1 - c.1 ≤ 1) (hy : -1 ≤ d.2.1 - c.2.1 ∧ d.2.1 - c.2.1 ≤ 1) : nearB l c.1 c.2.1 c.2.2 d.1 d.2.1 d.2.2 = decide (d ∈ besC l c) := by
  obtain ⟨a, b, h⟩ := c
  obtain ⟨a', b', k⟩ := d
  dsimp only at hx hy ⊢
  have e1 : (a', b', k) = sh a b (a' - a, b' - b, k) := by simp only [sh, Prod.mk.injEq, and_true]; omega
  rw [e1, besC_at]
  have e2 := Go.Proofs.YtcmfkdhadmfgkaaDoor.Ce.nearB_shift l a b h (a' - a) (b' - b) k
  rw [show a + (a' - a) = a' by omega, show b + (b' - b) = b' by omega] at e2
  rw [e2]
  have hm : (sh a b (a' - a, b' - b, k) ∈ (besAll l 0 0 h).map (sh a b)) ↔ (a' - a, b' - b, k) ∈ besAll l 0 0 h := mem_sh
  rw [decide_eq_decide.2 hm]
  have ex : a' - a ∈ [(-1 : Int), 0, 1] := by simp; omega
  have ey : b' - b ∈ [(-1 : Int), 0, 1] := by simp; omega
  exact near_fin l (lat3 hl) h (val2 hc) hc.2 k (val2 hd) hd.2 _ ex _ ey
def cntN (l : Int) (S : List C) (c : C) (k : Nat) : Nat := ((S.take k).filter fun d => decide (d ∈ besC l c)).length
theorem cntN_succ {l : Int} {S : List C} {c d : C} {k : Nat} (h : S[k]? = some d) : cntN l S c (k + 1) = cntN l S c k + if decide (d ∈ besC l c) = true then 1 else 0 := by
  unfold cntN
  rw [List.take_add_one, h]
  simp only [Option.toList, List.filter_append, List.length_append]
  by_cases hd : d ∈ besC l c <;> simp [hd]
theorem cntN_le (l : Int) (S : List C) (c : C) (k : Nat) : cntN l S c k ≤ k := Nat.le_trans (List.length_filter_le _ _) (by rw [List.length_take]; omega)
theorem nb_cnt {l : Int} (hl : l = 2 ∨ l = 3) {S : List C} (hn : S.Nodup) (hv : ∀ c ∈ S, valid l c) {c : C} (hc : valid l c) : nbC l S c = cntN l S c S.length := by
  have h3 : l = 1 ∨ l = 2 ∨ l = 3 := by omega
  rw [← around_nb h3 hn hv hc]
  unfold around cntN
  rw [List.take_length]
  have e : S.filter (fun x => decide (c ∈ besC l x)) = S.filter (fun d => decide (d ∈ besC l c)) := List.filter_congr fun x hx => decide_eq_decide.2 (bes_comm h3 (hv x hx) hc)
  rw [e]
  have e : (fun x => shareN l x c) = fun _ => 1 := funext fun x => by unfold shareN; rw [if_neg (by omega)]
  rw [e]
  induction (S.filter fun d => decide (d ∈ besC l c)) with
  | nil => rfl
  | cons x L ih => simp [ih]; omega
end Go.Proofs.YtcmfkdhadmfgkaaDoor.Fl

/- The document's own places. -/
namespace Go.Proofs.YtcmfkdhadmfgkaaDoor.Fl
open Go.RowKit Go.Proofs.YtcmfkdhadmfgkaaDoor.Ax Go.Lib
open Go.Proofs.YtcmfkdhadmfgkaaDoor.Ba (Blk)
open Go.Proofs.YtcmfkdhadmfgkaaDoor.Se (SetAt Rising)

theorem pl_info : (Tryd.prog.info? 123).map (fun i => (i.zero, i.size, i.bytes)) = some (some (.slice none 0 0), 1, 24) := by kernel_rfl
abbrev rowV (g : Nat) : Value := .slice (some ⟨g, 0, none⟩) 2 2
/-- A list of places, as rows of two. -/
def PlAt (w : World) (base : Nat) (v : Value) (Q : List PL) : Prop :=
  ∃ G : List Nat, G.length = Q.length ∧ w.ownsRow base 123 1 v Q.length (G.map rowV) ∧ ∀ (i g : Nat) (p : PL), G[i]? = some g → Q[i]? = some p → Blk w g 2 #[.int .i64 p.1, .int .i64 p.2]
section
variable {w w' : World} {base : Nat} {v : Value} {Q : List PL}
theorem PlAt.under (h : PlAt w base v Q) (hb : Below w.heap.size w w') : PlAt w' base v Q := by
  obtain ⟨G, h1, h2, h3⟩ := h
  exact ⟨G, h1, Ba.own_below h2 hb, fun i g p hg hp => (h3 i g p hg hp).under hb⟩
theorem PlAt.at_ (h : PlAt w base v Q) {i : Nat} {p : PL} (hp : Q[i]? = some p) : ∃ a cap g, v = .slice (some ⟨a, 0, none⟩) Q.length cap ∧ a < w.heap.size ∧ w.cell? ⟨a, i, none⟩ = some (rowV g) ∧ Blk w g 2 #[.int .i64 p.1, .int .i64 p.2] := by
  obtain ⟨G, h1, h2, h3⟩ := h
  have hi : i < Q.length := (List.getElem?_eq_some_iff.1 hp).1
  obtain ⟨g, hg⟩ : ∃ g, G[i]? = some g := ⟨_, List.getElem?_eq_getElem (by omega)⟩
  obtain ⟨a, cap, hv, _, hlt⟩ := h2.form (by omega)
  have hu : (G.map rowV)[i]? = some (rowV g) := by rw [List.getElem?_map, hg]; rfl
  have := h2.cells (g := a) (by rw [hv]; rfl) i (rowV g) hu
  exact ⟨a, cap, g, hv, hlt, by rw [Addr.add_lit, Nat.zero_add] at this; exact this, h3 i g p hg hp⟩
theorem PlAt.low {base' : Nat} (h : PlAt w base v Q) (hb : base' ≤ base) : PlAt w base' v Q := by
  obtain ⟨G, h1, h2, h3⟩ := h
  exact ⟨G, h1, Ba.owns_base hb h2, h3⟩
theorem pl_nil (w : World) : PlAt (w.alloc (.cells #[] 123)) w.heap.size (.slice (some ⟨w.heap.size, 0, none⟩) 0 0) [] :=
  ⟨[], rfl, World.ownsRow_made (base := w.heap.size) (e := 123) (size := 1) w #[] 0 (Nat.le_refl _) (Nat.zero_le _) (by simp), fun i g p hg _ => by simp at hg⟩
end
/-- One more row, and append's step. -/
theorem pl_snoc' {w w' : World} {base g : Nat} {v v' : Value} {Q : List PL} {p : PL} {G : List Nat} (h2 : w.ownsRow base 123 1 v Q.length (G.map rowV)) (h1 : G.length = Q.length)
    (h3 : ∀ (i g : Nat) (p : PL), G[i]? = some g → Q[i]? = some p → Blk w g 2 #[.int .i64 p.1, .int .i64 p.2]) (hk : Blk w g 2 #[.int .i64 p.1, .int .i64 p.2])
    (hown' : w'.ownsRow base 123 1 v' (Q.length + 1) (G.map rowV ++ [rowV g])) (hgr : w.grownBy w' v.ownBlock) : PlAt w' base v' (Q ++ [p]) := by
  have hkeep : ∀ {g : Nat} {p : PL}, Blk w g 2 #[.int .i64 p.1, .int .i64 p.2] → Blk w' g 2 #[.int .i64 p.1, .int .i64 p.2] := fun hg => hg.grown hgr (Ba.own_blk_ne h2 hg (by decide))
  refine ⟨G ++ [g], by simp [h1], by simpa using hown', fun i g' p' hg hp => ?_⟩
  by_cases hi : i < Q.length
  · rw [List.getElem?_append_left (by omega)] at hg
    rw [List.getElem?_append_left hi] at hp
    exact hkeep (h3 i g' p' hg hp)
  · have hlt : i < (G ++ [g]).length := (List.getElem?_eq_some_iff.1 hg).1
    simp only [List.length_append, List.length_singleton] at hlt
    obtain rfl : i = Q.length := by omega
    rw [← h1, List.getElem?_append_right (Nat.le_refl _), Nat.sub_self] at hg
    rw [List.getElem?_append_right (Nat.le_refl _), Nat.sub_self] at hp
    simp only [List.getElem?_cons_zero, Option.some.injEq] at hg hp
    subst hg hp
    exact hkeep hk
def LoHi (w : World) (A : Nat) (s : C) (L : List C) : Prop :=
  Blk w A 2 #[.int .i64 (mnL fA L s.1), .int .i64 (mnL fB L s.2.1)] ∧ Blk w (A + 1) 2 #[.int .i64 (mxL fA L s.1), .int .i64 (mxL fB L s.2.1)]
/-- The two rows, and the cell at work. -/
structure Min4 (w : World) (A B : Nat) (a0 a1 b0 b1 : Int) (d : C) (wx : World) : Prop where
  lo : Blk wx A 2 #[.int .i64 a0, .int .i64 a1]
  hi : Blk wx (A + 1) 2 #[.int .i64 b0, .int .i64 b1]
  at_ : Blk wx B 67 #[.int .i64 d.1, .int .i64 d.2.1, .int .i64 d.2.2]
  below : Below w.heap.size w wx
theorem Min4.cells {w wx : World} {A B : Nat} {a0 a1 b0 b1 : Int} {d : C} (h : Min4 w A B a0 a1 b0 b1 d wx) : (wx.cell? ⟨A, 0, none⟩ = some (.int .i64 a0) ∧ wx.cell? ⟨A, 1, none⟩ = some (.int .i64 a1)) ∧ (wx.cell? ⟨A + 1, 0, none⟩ = some (.int .i64 b0) ∧ wx.cell? ⟨A + 1, 1, none⟩ = some (.int .i64 b1)) ∧ wx.cell? ⟨B, 0, none⟩ = some (.int .i64 d.1) ∧ wx.cell? ⟨B, 1, none⟩ = some (.int .i64 d.2.1) :=
  ⟨⟨h.lo.cell 0, h.lo.cell 1⟩, ⟨h.hi.cell 0, h.hi.cell 1⟩, h.at_.cell 0, h.at_.cell 1⟩
theorem mm_next {w w3 : World} {A B : Nat} {a0 a1 b0 b1 v : Int} {d s : C} {L : List C} (h : Min4 w A B a0 a1 b0 b1 d w3) (e0 : mnL fA L s.1 = a0) (e1 : mnL fB L s.2.1 = a1) (e2 : mxL fA L s.1 = b0) (e3 : mxL fB L s.2.1 = v) : LoHi (w3.drew.setCell ⟨A + 1, 1, none⟩ (.int .i64 v)) A s L := by
  unfold LoHi
  rw [e0, e1, e2, e3]
  exact ⟨Blk.far (w := w3.drew) h.lo (by simp) _, Blk.set_ (w := w3.drew) h.hi 1 _⟩
theorem box_of {wr : World} {A : Nat} {s : C} {S : List C} (hs : s ∈ S) (hw : Wi 13 S) (h : LoHi wr A s S) : ∃ (a0 a1 b0 b1 : Int) (na nb : Nat), plS s S = boxP (a0 - 1) (a1 - 1) na nb ∧ b0 = a0 - 3 + (na : Int) ∧ b1 = a1 - 3 + (nb : Int) ∧ 3 ≤ na ∧ na ≤ 29 ∧ 3 ≤ nb ∧ nb ≤ 29 ∧ (-13 ≤ a0 ∧ a0 ≤ 13) ∧ (-13 ≤ a1 ∧ a1 ≤ 13) ∧
    Blk wr A 2 #[.int .i64 a0, .int .i64 a1] ∧ Blk wr (A + 1) 2 #[.int .i64 b0, .int .i64 b1] := by
  obtain ⟨kl, kh⟩ := h
  have hs0 := hw s hs
  have x1 := (mnL_le fA S s.1).1
  have x2 := mnL_bd fA S s.1 (m := -13) (fun c hc => (hw c hc).1.1) hs0.1.1
  have x3 := (mxL_le fA S s.1).1
  have x4 := mxL_bd fA S s.1 (m := 13) (fun c hc => (hw c hc).1.2) hs0.1.2
  have y1 := (mnL_le fB S s.2.1).1
  have y2 := mnL_bd fB S s.2.1 (m := -13) (fun c hc => (hw c hc).2.1) hs0.2.1
  have y3 := (mxL_le fB S s.2.1).1
  have y4 := mxL_bd fB S s.2.1 (m := 13) (fun c hc => (hw c hc).2.2) hs0.2.2
  exact ⟨_, _, _, _, _, _, rfl, by omega, by omega, by omega, by omega, by omega, by omega, by omega, by omega, kl, kh⟩
def Bx1 (w : World) (a0 a1 b0 b1 : Int) (na nb : Nat) (t7 t8 : Value) (wq : World) : Prop :=
  ∃ j : Nat, j ≤ nb ∧ t8 = .int .i64 (a1 - 1 + (j : Int)) ∧ PlAt wq w.heap.size t7 (boxP (a0 - 1) (a1 - 1) na j) ∧ Blk wq w.heap.size 2 #[.int .i64 a0, .int .i64 a1] ∧ Blk wq (w.heap.size + 1) 2 #[.int .i64 b0, .int .i64 b1] ∧ Below w.heap.size w wq
def Bx2 (w : World) (a0 a1 b0 b1 : Int) (na j : Nat) (t7 t9 : Value) (wq : World) : Prop :=
  ∃ i : Nat, i ≤ na ∧ t9 = .int .i64 (a0 - 1 + (i : Int)) ∧ PlAt wq w.heap.size t7 (boxP (a0 - 1) (a1 - 1) na j ++ rowP (a0 - 1) (a1 - 1 + (j : Int)) i) ∧ Blk wq w.heap.size 2 #[.int .i64 a0, .int .i64 a1] ∧ Blk wq (w.heap.size + 1) 2 #[.int .i64 b0, .int .i64 b1] ∧ Below w.heap.size w wq
def MmR (w : World) (s : C) (S : List C) (t37 : Value) (wr : World) : Prop :=
  ∃ k : Nat, k ≤ S.length ∧ t37 = .int .i64 k ∧ LoHi wr w.heap.size s (S.take k) ∧ Below w.heap.size w wr
set_option maxRecDepth 100000 in
set_option maxHeartbeats 4000000 in
theorem places_any (v : Value) (S : List C) (s : C) (w : World) (h : SetAt w v S) (hs : S[0]? = some s) (hL : S.length ≤ 2000) (hw : Wi 13 S) :
    Calls Tryd.prog 61 #[v] w fun e w' => ∃ v', e = .returned v' ∧ PlAt w' w.heap.size v' (plS s S) ∧ Below w.heap.size w w' := by
  obtain ⟨i0, hi0, hz0, hz1, hz2'⟩ := info_parts pl_info
  have HU := Lib.hid h
  rcases h with ⟨_, rfl⟩ | ⟨g, cap, rfl, hcap, hr⟩
  · simp at hs
  obtain ⟨c0, c1, c2⟩ := hr.1 0 s hs
  have hgl := hr.2
  have hpos : 0 < S.length := (List.getElem?_eq_some_iff.1 hs).1
  simp only [Nat.zero_mul, Nat.zero_add] at c0 c1 c2
  have hb0 : Below w.heap.size w w := Below.refl _ _
  have HW := Lib.hid hw
  have HS := Lib.hid hs
  clear hr hw hs
  go_enter Tryd.func61, Tryd.ntmps61
  go_upto_region 1 with fail
  go_cut [3] (fun t3 wx => t3 = rowV w.heap.size ∧ Blk wx w.heap.size 2 #[.int .i64 s.1, .int .i64 s.2.1] ∧ w.heap.size + 1 = wx.heap.size ∧ Below w.heap.size w wx)
  case first =>
    go_region_held3 (fun w' => w'.cell? ⟨g, 0, none⟩ = some (.int .i64 s.1) ∧ w'.cell? ⟨g, 1, none⟩ = some (.int .i64 s.2.1)) (go_keep) (fail)
    all_goals go_wp2_with fail
    all_goals go_meet
    all_goals exact ⟨rfl, Blk.newAt _ _ _ _ rfl, by simp, by go_grown⟩
  case rest =>
    obtain ⟨rfl, ka, hsz, hb1⟩ := hcut
    generalize wc = w1 at *
    have d0 := (hb1.cell (p := ⟨g, 0, none⟩) hgl).trans c0
    have d1 := (hb1.cell (p := ⟨g, 1, none⟩) hgl).trans c1
    have hgl1 : g < w1.heap.size := by omega
    clear c0 c1 c2 hb0
    go_upto_region 2 with fail
    go_cut [4] (fun t4 wx => t4 = rowV (w.heap.size + 1) ∧ LoHi wx w.heap.size s [] ∧ Below w.heap.size w wx)
    case first =>
      go_region_held3 (fun w' => w'.cell? ⟨g, 0, none⟩ = some (.int .i64 s.1) ∧ w'.cell? ⟨g, 1, none⟩ = some (.int .i64 s.2.1)) (go_keep) (fail)
      all_goals go_wp2_with fail
      all_goals go_meet
      all_goals exact ⟨by rw [hsz], ⟨ka.alloc _, Blk.newAt _ _ _ _ hsz⟩, by go_grown⟩
    case rest =>
      obtain ⟨rfl, hlh, hb2⟩ := hcut
      generalize wc = w2 at *
      clear ka hsz hb1 d0 d1 hgl1
      go_wp2_with fail
      go_loopw [37] (fun t37 wr => MmR w s S t37 wr) (fun t37 _ => S.length - (intOf t37).toNat)
      case atStart => exact ⟨0, Nat.zero_le _, rfl, hlh, hb2⟩
      case round =>
        clear hlh hb2
        obtain ⟨k, hk, rfl, hlh, hb⟩ := hrel
        have hz := hb.size
        by_cases hlt : k < S.length
        · obtain ⟨d, hd⟩ : ∃ d, S[k]? = some d := ⟨_, List.getElem?_eq_getElem hlt⟩
          rcases HU.out.below hb with ⟨_, hnil⟩ | ⟨g', cp, hv, _, hr⟩
          · subst hnil; simp at hlt
          · injection hv with hv1 hv2 hv3
            injection hv1 with hv1
            injection hv1 with hv1 hv4 hv5
            subst hv1 hv3
            clear hv2 hv4 hv5
            obtain ⟨c0, c1, c2⟩ := hr.1 k d hd
            have HT := Lib.hid (show S.take (k + 1) = S.take k ++ [d] by rw [List.take_add_one, hd]; rfl)
            clear hd hr
            generalize S.take k = K at *
            obtain ⟨kl, kh⟩ := hlh
            generalize hq0 : mnL fA K s.1 = a0 at *
            have Q0 := Lib.hid hq0
            clear hq0
            generalize hq1 : mnL fB K s.2.1 = a1 at *
            have Q1 := Lib.hid hq1
            clear hq1
            generalize hq2 : mxL fA K s.1 = b0 at *
            have Q2 := Lib.hid hq2
            clear hq2
            generalize hq3 : mxL fB K s.2.1 = b1 at *
            have Q3 := Lib.hid hq3
            clear hq3
            go_upto_region 6 with fail
            have hm : Min4 w w.heap.size wr.heap.size a0 a1 b0 b1 d (wr.alloc (.cells #[.int .i64 d.1, .int .i64 d.2.1, .int .i64 d.2.2] 67)) := ⟨kl.alloc _, kh.alloc _, Blk.newAt _ _ _ _ rfl, by go_grown⟩
            have hAB : w.heap.size + 1 < wr.heap.size := kh.lt
            generalize wr.alloc (.cells #[.int .i64 d.1, .int .i64 d.2.1, .int .i64 d.2.2] 67) = w3 at *
            generalize wr.heap.size = B at *
            clear kl kh c0 c1 c2 hb
            obtain ⟨⟨m0, m1⟩, ⟨m2, m3⟩, m4, m5⟩ := hm.cells
            have fr0 := hm.lo.frozen 0
            have fr1 := hm.lo.frozen 1
            have fr2 := hm.hi.frozen 0
            have fr3 := hm.hi.frozen 1
            have l0 := hm.lo.lt
            have l1 := hm.hi.lt
            have l2 := hm.at_.lt
            go_cut [] (fun wx => Min4 w w.heap.size B (min a0 d.1) a1 b0 b1 d wx)
            case first =>
              by_cases hc : d.1 < a0
              · (go_still_tail 8, (by kernel_rfl); change wpList _ _ _ _ _ _; go_wp2_with fail; go_meet; (rw [show min a0 d.1 = d.1 by omega]; exact ⟨hm.lo.set_ 0 _, hm.hi.far (by simp) _, hm.at_.far (by simp; omega) _, by have := hm.below; go_grown⟩))
              · (go_still_tail 8, (by kernel_rfl); change wpList _ _ _ _ _ _; go_wp2_with fail; go_meet; (rw [show min a0 d.1 = a0 by omega]; exact ⟨hm.lo.set_ 0 _, hm.hi.far (by simp) _, hm.at_.far (by simp; omega) _, by have := hm.below; go_grown⟩))
            case rest =>
              replace hm := hcut
              generalize ha0 : min a0 d.1 = a0' at *
              have Ha0 := Lib.hid ha0
              clear ha0 m0 m1 m2 m3 m4 m5 l0 l1 l2 fr0 fr1 fr2 fr3
              generalize wc = w3 at *
              obtain ⟨⟨m0, m1⟩, ⟨m2, m3⟩, m4, m5⟩ := hm.cells
              have fr0 := hm.lo.frozen 0
              have fr1 := hm.lo.frozen 1
              have fr2 := hm.hi.frozen 0
              have fr3 := hm.hi.frozen 1
              have l0 := hm.lo.lt
              have l1 := hm.hi.lt
              have l2 := hm.at_.lt
              go_upto_region 7 with fail
              go_cut [] (fun wx => Min4 w w.heap.size B a0' (min a1 d.2.1) b0 b1 d wx)
              case first =>
                by_cases hc : d.2.1 < a1
                · (go_still_tail 8, (by kernel_rfl); change wpList _ _ _ _ _ _; go_wp2_with fail; go_meet; (rw [show min a1 d.2.1 = d.2.1 by omega]; exact ⟨hm.lo.set_ 1 _, hm.hi.far (by simp) _, hm.at_.far (by simp; omega) _, by have := hm.below; go_grown⟩))
                · (go_still_tail 8, (by kernel_rfl); change wpList _ _ _ _ _ _; go_wp2_with fail; go_meet; (rw [show min a1 d.2.1 = a1 by omega]; exact ⟨hm.lo.set_ 1 _, hm.hi.far (by simp) _, hm.at_.far (by simp; omega) _, by have := hm.below; go_grown⟩))
              case rest =>
                replace hm := hcut
                generalize ha1 : min a1 d.2.1 = a1' at *
                have Ha1 := Lib.hid ha1
                clear ha1 m0 m1 m2 m3 m4 m5 l0 l1 l2 fr0 fr1 fr2 fr3
                generalize wc = w3 at *
                obtain ⟨⟨m0, m1⟩, ⟨m2, m3⟩, m4, m5⟩ := hm.cells
                have fr0 := hm.lo.frozen 0
                have fr1 := hm.lo.frozen 1
                have fr2 := hm.hi.frozen 0
                have fr3 := hm.hi.frozen 1
                have l0 := hm.lo.lt
                have l1 := hm.hi.lt
                have l2 := hm.at_.lt
                go_upto_region 8 with fail
                go_cut [] (fun wx => Min4 w w.heap.size B a0' a1' (max b0 d.1) b1 d wx)
                case first =>
                  by_cases hc : b0 < d.1
                  · (go_still_tail 8, (by kernel_rfl); change wpList _ _ _ _ _ _; go_wp2_with fail; go_meet; (rw [show max b0 d.1 = d.1 by omega]; exact ⟨hm.lo.far (by simp) _, hm.hi.set_ 0 _, hm.at_.far (by simp; omega) _, by have := hm.below; go_grown⟩))
                  · (go_still_tail 8, (by kernel_rfl); change wpList _ _ _ _ _ _; go_wp2_with fail; go_meet; (rw [show max b0 d.1 = b0 by omega]; exact ⟨hm.lo.far (by simp) _, hm.hi.set_ 0 _, hm.at_.far (by simp; omega) _, by have := hm.below; go_grown⟩))
                case rest =>
                  replace hm := hcut
                  generalize hb0 : max b0 d.1 = b0' at *
                  have Hb0 := Lib.hid hb0
                  clear hb0 m0 m1 m2 m3 m4 m5 l0 l1 l2 fr0 fr1 fr2 fr3
                  generalize wc = w3 at *
                  obtain ⟨⟨m0, m1⟩, ⟨m2, m3⟩, m4, m5⟩ := hm.cells
                  have fr0 := hm.lo.frozen 0
                  have fr1 := hm.lo.frozen 1
                  have fr2 := hm.hi.frozen 0
                  have fr3 := hm.hi.frozen 1
                  have l0 := hm.lo.lt
                  have l1 := hm.hi.lt
                  have l2 := hm.at_.lt
                  have hmb := hm.below
                  have HH := Lib.hid hm
                  clear hm
                  by_cases hc : b1 < d.2.1
                  all_goals
                    go_upto_region 9 with fail
                    go_still_tail 8, (by kernel_rfl)
                    change wpList _ _ _ _ _ _
                    go_wp2_with fail
                    go_roundw
                    case rel => exact ⟨k + 1, by omega, by go_num, mm_next HH.out (by rw [HT.out, mnL_app, Q0.out]; exact Ha0.out) (by rw [HT.out, mnL_app, Q1.out]; exact Ha1.out) (by rw [HT.out, mxL_app, Q2.out]; exact Hb0.out) (by rw [HT.out, mxL_app, Q3.out]; show max _ d.2.1 = _; omega), by go_grown⟩
                    case measure => simp [intOf]; omega
        · obtain rfl : k = S.length := by omega
          rw [List.take_length] at hlh
          obtain ⟨a0, a1, b0, b1, na, nb, hbox, hb0, hb1, na1, na2, nb1, nb2, ⟨x1, x2⟩, ⟨x3, x4⟩, kl, kh⟩ := box_of (List.mem_of_getElem? HS.out) HW.out hlh
          have HP := Lib.hid hbox
          have HB0 := Lib.hid hb0
          have HB1 := Lib.hid hb1
          have y1 : a0 ≤ b0 := by omega
          have y2 : b0 ≤ 13 + 28 := by omega
          have y3 : a1 ≤ b1 := by omega
          have y4 : b1 ≤ 13 + 28 := by omega
          have c0 := kl.cell 0
          have c1 := kl.cell 1
          have c2 := kh.cell 0
          have c3 := kh.cell 1
          simp only [List.getElem?_toArray, List.getElem?_cons_zero, List.getElem?_cons_succ] at c0 c1 c2 c3
          have l0 := kl.lt
          have l1 := kh.lt
          clear hbox hb0 hb1 hlh hlt
          go_upto_region 12 with fail
          have e1 : IntKind.i64.wrap (b0 - a0) = b0 - a0 := IntWalk.i64_in _ (by omega)
          have e2 : IntKind.i64.wrap (b1 - a1) = b1 - a1 := IntWalk.i64_in _ (by omega)
          have e3 : decide (b0 - a0 < 60) = true := by simp; omega
          have e4 : decide (b1 - a1 < 60) = true := by simp; omega
          have e5 : b0 - a0 < 60 := by omega
          have e6 : b1 - a1 < 60 := by omega
          go_quiet (fail)
          clear e1 e2 e3 e4 e5 e6
          go_wp2_with fail
          have kl2 := kl.alloc (.cells #[] 123)
          have kh2 := kh.alloc (.cells #[] 123)
          have hpn : PlAt (wr.alloc (.cells #[] 123)) w.heap.size (.slice (some ⟨wr.heap.size, 0, none⟩) 0 0) [] := (pl_nil wr).low hz
          clear kl kh c0 c1 c2 c3 l0 l1
          go_loopw [7, 8, 9] (fun t7 t8 t9 wq => Bx1 w a0 a1 b0 b1 na nb t7 t8 wq) (fun _ t8 _ _ => (b1 + 2 - intOf t8).toNat)
          case atStart => exact ⟨0, Nat.zero_le _, by simp, hpn, kl2, kh2, Ba.below_dr _ (by go_grown)⟩
          case round =>
            clear kl2 kh2 hpn hb
            obtain ⟨j, hj, rfl, hpl, kl, kh, hb⟩ := hrel
            have c0 := kl.cell 0
            have c1 := kl.cell 1
            have c2 := kh.cell 0
            have c3 := kh.cell 1
            simp only [List.getElem?_toArray, List.getElem?_cons_zero, List.getElem?_cons_succ] at c0 c1 c2 c3
            have l0 := kl.lt
            have l1 := kh.lt
            by_cases hlt : j < nb
            · have hd : decide (a1 - 1 + (j : Int) ≤ b1 + 1) = true := by have := HB1.out; simp; omega
              go_wp2_with fail
              clear hd
              go_loopw [7, 9] (fun t7 t9 wq => Bx2 w a0 a1 b0 b1 na j t7 t9 wq) (fun _ t9 _ => (b0 + 2 - intOf t9).toNat)
              case atStart => exact ⟨0, Nat.zero_le _, by simp, by simpa [rowP] using hpl, kl, kh, hb⟩
              case round =>
                clear kl kh hpl hb c0 c1 c2 c3 l0 l1
                obtain ⟨i, hi, rfl, hpl, kl, kh, hb⟩ := hrel
                have c0 := kl.cell 0
                have c1 := kl.cell 1
                have c2 := kh.cell 0
                have c3 := kh.cell 1
                simp only [List.getElem?_toArray, List.getElem?_cons_zero, List.getElem?_cons_succ] at c0 c1 c2 c3
                have l0 := kl.lt
                have l1 := kh.lt
                by_cases hlt2 : i < na
                · have hd : decide (a0 - 1 + (i : Int) ≤ b0 + 1) = true := by have := HB0.out; simp; omega
                  have hz2 := hb.size
                  have HPL := Lib.hid hpl
                  generalize hX : a0 - 1 + (i : Int) = X at *
                  generalize hY : a1 - 1 + (j : Int) = Y at *
                  have HX := Lib.hid hX
                  have HY := Lib.hid hY
                  have hX1 : -20 ≤ X ∧ X ≤ 60 := by omega
                  have hblen := boxP_len (a0 - 1) (a1 - 1) na j
                  have hrlen := rowP_len (a0 - 1) Y i
                  have hjn : j * na ≤ 841 := Nat.mul_le_mul (show j ≤ 29 by omega) (show na ≤ 29 by omega)
                  have hlen : (boxP (a0 - 1) (a1 - 1) na j ++ rowP (a0 - 1) Y i).length ≤ 2000 := by rw [List.length_append, hblen, hrlen]; omega
                  have HR := Lib.hid (show boxP (a0 - 1) (a1 - 1) na j ++ rowP (a0 - 1) Y (i + 1) = (boxP (a0 - 1) (a1 - 1) na j ++ rowP (a0 - 1) Y i) ++ [(X, Y)] by rw [rowP_succ, List.append_assoc, hX])
                  clear hX hY hblen hrlen hjn hpl
                  generalize boxP (a0 - 1) (a1 - 1) na j ++ rowP (a0 - 1) Y i = Q at *
                  have hpl1 := (HPL.out.under ((Below.refl _ _).alloc (Nat.le_refl _) (.cells #[.int .i64 X, .int .i64 Y] 2))).under ((Below.refl _ _).alloc (Nat.le_refl _) (.cells #[rowV wr.heap.size] 123))
                  have kr := (Blk.newAt wr 2 #[.int .i64 X, .int .i64 Y] _ rfl).alloc (.cells #[rowV wr.heap.size] 123)
                  have hnew : ∀ j u, [rowV wr.heap.size][j]? = some u → ((wr.alloc (.cells #[.int .i64 X, .int .i64 Y] 2)).alloc (.cells #[rowV wr.heap.size] 123)).cell? ((⟨wr.heap.size + 1, 0, none⟩ : Addr).add j) = some u := fun j u hu => by
                    rw [Addr.add_lit, Nat.zero_add, (Blk.newAt (wr.alloc (.cells #[.int .i64 X, .int .i64 Y] 2)) 123 #[rowV wr.heap.size] (wr.heap.size + 1) (by simp)).cell j]
                    simpa using hu
                  obtain ⟨G, hGl, hown, hrows⟩ := hpl1
                  have hpl2 := hrows
                  clear HPL hd
                  have hd : decide (X ≤ b0 + 1) = true := by have := HB0.out; have := HX.out; simp; omega
                  go_wp2_with (at_builtin; refine wpList_append_own _ rfl _ _ 121 rfl w.heap.size 123 i0 _ 1 24 Tryd.underlying121 hi0 hz0 hz1 hz2' rfl (by decide) _ _ _ rfl hown ⟨wr.heap.size + 1, 0, none⟩ 1 1 [rowV wr.heap.size] rfl rfl hnew (by simp [rowV, Value.oneCell']) (by unfold maxLen; omega) (by omega) (by simp; omega) ?_)
                  intro v' w' hown' hgr _
                  have hb2 : Below w.heap.size w w' := ((hb.alloc hz2 (.cells #[.int .i64 X, .int .i64 Y] 2)).alloc (by simp; omega) (.cells #[rowV wr.heap.size] 123)).grown hgr (by simp; omega) (fun q hq => (hown.lt q hq).1)
                  have hpl3 : PlAt w' w.heap.size v' (Q ++ [(X, Y)]) := pl_snoc' hown hGl hrows kr hown' hgr
                  have kl' := ((kl.alloc (.cells #[.int .i64 X, .int .i64 Y] 2)).alloc (.cells #[rowV wr.heap.size] 123)).grown hgr (Ba.own_blk_ne hown ((kl.alloc (.cells #[.int .i64 X, .int .i64 Y] 2)).alloc (.cells #[rowV wr.heap.size] 123)) (by decide))
                  have kh' := ((kh.alloc (.cells #[.int .i64 X, .int .i64 Y] 2)).alloc (.cells #[rowV wr.heap.size] 123)).grown hgr (Ba.own_blk_ne hown ((kh.alloc (.cells #[.int .i64 X, .int .i64 Y] 2)).alloc (.cells #[rowV wr.heap.size] 123)) (by decide))
                  clear hown hrows hown' hgr kl kh
                  go_wp2_with fail
                  go_roundw
                  case rel => exact ⟨i + 1, by omega, by have := HX.out; go_num, by rw [HY.out, HR.out]; exact hpl3, kl', kh', hb2⟩
                  case measure => have := HX.out; have := HB0.out; simp [intOf]; omega
                · obtain rfl : i = na := by omega
                  have hd : decide (a0 - 1 + (i : Int) ≤ b0 + 1) = false := by have := HB0.out; simp; omega
                  go_wp2_with fail
                  clear hd
                  go_roundw
                  case rel => exact ⟨j + 1, by omega, by go_num, hpl, kl, kh, hb⟩
                  case measure => simp [intOf]; have := HB1.out; omega
            · obtain rfl : j = nb := by omega
              have hd : decide (a1 - 1 + (j : Int) ≤ b1 + 1) = false := by have := HB1.out; simp; omega
              go_wp2_with fail
              go_ret
              exact ⟨_, rfl, by rw [HP.out]; exact hpl, hb⟩
end Go.Proofs.YtcmfkdhadmfgkaaDoor.Fl

/- The neighbourhood of a hexagon, one of the six after the other; the document's Next and ours. -/
namespace Go.Proofs.YtcmfkdhadmfgkaaDoor.Fl
open Go.RowKit Go.Proofs.YtcmfkdhadmfgkaaDoor.Ax Go.Lib
open Go.Proofs.YtcmfkdhadmfgkaaDoor.Ce (sh allG besAll sX sY)
open Go.Proofs.YtcmfkdhadmfgkaaDoor.Tb (nextB)

theorem sum_ite (f : C → Nat) (p : C → Bool) : ∀ L : List C, ((L.filter p).map f).sum = (L.map fun e => if p e = true then f e else 0).sum
  | [] => rfl
  | c :: L => by
    rw [List.filter_cons]
    cases h : p c
    · simp [h, sum_ite f p L]
    · simp [h, sum_ite f p L]
/-- The hexagons' ring, the first of them counted. -/
def hexN (S : List C) (a b : Int) : Nat → Nat
  | 0 => 0
  | k + 1 => hexN S a b k + if decide ((a + sX k, b + sY k, (0 : Int)) ∈ S) = true then 2 ^ k else 0
theorem hexN_lt (S : List C) (a b : Int) : ∀ k, hexN S a b k < 2 ^ k
  | 0 => by simp [hexN]
  | k + 1 => by
    have := hexN_lt S a b k
    rw [Nat.pow_succ]
    unfold hexN
    split <;> omega
theorem bes_hex : besAll 1 0 0 0 = [(0, -1, 0), (1, -1, 0), (-1, 0, 0), (1, 0, 0), (-1, 1, 0), (0, 1, 0)] := by decide +kernel
theorem nb_hex (S : List C) (a b : Int) : nbC 1 S (a, b, 0) = hexN S a b 6 := by
  unfold nbC
  rw [besC_at, bes_hex, sum_ite]
  simp only [List.map_cons, List.map_nil, sh, List.sum_cons, List.sum_nil, hexN]
  have e : ∀ x y : Int, shareN 1 (a + x, b + y, 0) (a, b, 0) = 2 ^ sixIx x y := fun x y => by
    unfold shareN
    rw [if_pos rfl, show a + x - a = x by omega, show b + y - b = y by omega]
  rw [e, e, e, e, e, e]
  rw [show sixIx 0 (-1) = 4 by decide, show sixIx 1 (-1) = 5 by decide, show sixIx (-1) 0 = 3 by decide, show sixIx 1 0 = 0 by decide, show sixIx (-1) 1 = 2 by decide, show sixIx 0 1 = 1 by decide]
  rw [show sX 0 = 1 from rfl, show sX 1 = 0 from rfl, show sX 2 = -1 from rfl, show sX 3 = -1 from rfl, show sX 4 = 0 from rfl, show sX 5 = 1 from rfl, show sY 0 = 0 from rfl, show sY 1 = 1 from rfl, show sY 2 = 1 from rfl, show sY 3 = 0 from rfl, show sY 4 = -1 from rfl, show sY 5 = -1 from rfl]
  omega
theorem next_nx {b0 b1 s0 s1 : Nat} {l : Int} {c : C} (hc : valid l c) (live : Bool) {n : Nat} (hn : n < 64) : nextB b0 b1 s0 s1 c.2.2 live (n : Int) = nxT b0 b1 s0 s1 c.2.2 live n := by
  have h0 := hc.1
  have h1 := hc.2
  unfold nextB nxT
  rw [if_neg (by split at h1 <;> omega), show ((n : Int)).toNat = n by omega]
end Go.Proofs.YtcmfkdhadmfgkaaDoor.Fl

/- The document's own neighbourhood. -/
namespace Go.Proofs.YtcmfkdhadmfgkaaDoor.Fl
open Go.RowKit Go.Proofs.YtcmfkdhadmfgkaaDoor.Ax Go.Lib
open Go.Proofs.YtcmfkdhadmfgkaaDoor.Ba (Blk)
open Go.Proofs.YtcmfkdhadmfgkaaDoor.Ce (sX sY nearB near_any)
open Go.Proofs.YtcmfkdhadmfgkaaDoor.Se (SetAt Rising refhas_any)

/-- The six differences, as rows of two. -/
structure SixRows (w : World) (B : Nat) : Prop where
  row : ∀ i, i < 6 → Blk w (B + i) 2 #[.int .i64 (sX i), .int .i64 (sY i)]
  all : Blk w (B + 6) 123 #[.slice (some ⟨B, 0, none⟩) 2 2, .slice (some ⟨B + 1, 0, none⟩) 2 2, .slice (some ⟨B + 2, 0, none⟩) 2 2, .slice (some ⟨B + 3, 0, none⟩) 2 2, .slice (some ⟨B + 4, 0, none⟩) 2 2, .slice (some ⟨B + 5, 0, none⟩) 2 2]
theorem SixRows.under {w w' : World} {B : Nat} (h : SixRows w B) (hb : Below w.heap.size w w') : SixRows w' B := ⟨fun i hi => (h.row i hi).under hb, h.all.under hb⟩
theorem SixRows.at_ {w : World} {B i : Nat} (h : SixRows w B) (hi : i < 6) : w.cell? ⟨B + 6, i, none⟩ = some (.slice (some ⟨B + i, 0, none⟩) 2 2) := by
  rw [h.all.cell]
  have : i = 0 ∨ i = 1 ∨ i = 2 ∨ i = 3 ∨ i = 4 ∨ i = 5 := by omega
  rcases this with rfl | rfl | rfl | rfl | rfl | rfl <;> rfl
theorem SixRows.lt {w : World} {B : Nat} (h : SixRows w B) : B + 6 < w.heap.size := h.all.lt
theorem six_made (w : World) (n : Nat) (hn : n = w.heap.size) : SixRows (((((((w.alloc (.cells #[.int .i64 1, .int .i64 0] 2)).alloc (.cells #[.int .i64 0, .int .i64 1] 2)).alloc (.cells #[.int .i64 (-1), .int .i64 1] 2)).alloc (.cells #[.int .i64 (-1), .int .i64 0] 2)).alloc (.cells #[.int .i64 0, .int .i64 (-1)] 2)).alloc (.cells #[.int .i64 1, .int .i64 (-1)] 2)).alloc
    (.cells #[.slice (some ⟨n, 0, none⟩) 2 2, .slice (some ⟨n + 1, 0, none⟩) 2 2, .slice (some ⟨n + 2, 0, none⟩) 2 2, .slice (some ⟨n + 3, 0, none⟩) 2 2, .slice (some ⟨n + 4, 0, none⟩) 2 2, .slice (some ⟨n + 5, 0, none⟩) 2 2] 123)) n := by
  subst hn
  refine ⟨fun i hi => ?_, Blk.newAt _ _ _ _ (by simp)⟩
  have : i = 0 ∨ i = 1 ∨ i = 2 ∨ i = 3 ∨ i = 4 ∨ i = 5 := by omega
  rcases this with rfl | rfl | rfl | rfl | rfl | rfl
  · exact ((((((Blk.newAt _ _ _ _ (by simp)).alloc _).alloc _).alloc _).alloc _).alloc _).alloc _
  · exact (((((Blk.newAt _ _ _ _ (by simp)).alloc _).alloc _).alloc _).alloc _).alloc _
  · exact ((((Blk.newAt _ _ _ _ (by simp)).alloc _).alloc _).alloc _).alloc _
  · exact (((Blk.newAt _ _ _ _ (by simp)).alloc _).alloc _).alloc _
  · exact ((Blk.newAt _ _ _ _ (by simp)).alloc _).alloc _
  · exact (Blk.newAt _ _ _ _ (by simp)).alloc _
theorem six_bd2 (i : Nat) : (-1 ≤ sX i ∧ sX i ≤ 1) ∧ (-1 ≤ sY i ∧ sY i ≤ 1) := by
  unfold sX sY
  split <;> decide
theorem keepRow {W w' : World} {B i P : Nat} {a b h x y : Int} (kr : Blk W (B + i) 2 #[.int .i64 x, .int .i64 y]) (kp : Blk W P 67 #[.int .i64 a, .int .i64 b, .int .i64 h]) (hb : Below W.heap.size W w') :
    w'.cell? ⟨B + i, 0, none⟩ = some (.int .i64 x) ∧ w'.cell? ⟨B + i, 1, none⟩ = some (.int .i64 y) ∧ w'.cell? ⟨P, 0, none⟩ = some (.int .i64 a) ∧ w'.cell? ⟨P, 1, none⟩ = some (.int .i64 b) ∧ w'.cell? ⟨P, 2, none⟩ = some (.int .i64 h) :=
  ⟨(kr.under hb).cell 0, (kr.under hb).cell 1, (kp.under hb).cell 0, (kp.under hb).cell 1, (kp.under hb).cell 2⟩
def HnR (w : World) (S : List C) (a b : Int) (t7 t9 t25 : Value) (wr : World) : Prop :=
  ∃ i : Nat, i ≤ 6 ∧ t25 = .int .i64 i ∧ t9 = .int .i64 ((2 ^ i : Nat) : Int) ∧ t7 = .int .i64 (hexN S a b i) ∧ Below w.heap.size w wr
theorem pow6 {i : Nat} (h : i ≤ 6) : 1 ≤ 2 ^ i ∧ 2 ^ i ≤ 64 := by
  have : i = 0 ∨ i = 1 ∨ i = 2 ∨ i = 3 ∨ i = 4 ∨ i = 5 ∨ i = 6 := by omega
  rcases this with rfl | rfl | rfl | rfl | rfl | rfl | rfl <;> decide
set_option maxRecDepth 100000 in
set_option maxHeartbeats 4000000 in
theorem refnb_hex (v : Value) (S : List C) (a b : Int) (w : World) (h : SetAt w v S) (hL : S.length ≤ 2000) (ha : -1000000 ≤ a ∧ a ≤ 1000000) (hb : -1000000 ≤ b ∧ b ≤ 1000000) :
    Calls Tryd.prog 63 #[.int .i64 1, v, .agg #[.int .i64 a, .int .i64 b, .int .i64 0]] w fun e w' => e = .returned (.int .i64 (nbC 1 S (a, b, 0) : Nat)) ∧ Below w.heap.size w w' := by
  rw [nb_hex]
  go_enter Tryd.func63, Tryd.ntmps63
  go_upto_region 3 with fail
  have kc := Blk.newAt w 67 #[.int .i64 a, .int .i64 b, .int .i64 0] _ rfl
  have hb0 : Below w.heap.size w (w.alloc (.cells #[.int .i64 a, .int .i64 b, .int .i64 0] 67)) := (Below.refl _ _).alloc (Nat.le_refl _) _
  have h0 := h.below hb0
  clear h
  generalize w.alloc (.cells #[.int .i64 a, .int .i64 b, .int .i64 0] 67) = w0 at *
  go_cut [8] (fun t8 wx => t8 = .slice (some ⟨w0.heap.size + 6, 0, none⟩) 6 6 ∧ SixRows wx w0.heap.size ∧ Below w0.heap.size w0 wx)
  case first =>
    go_wp2
    go_meet
    exact ⟨rfl, six_made w0 _ rfl, by go_grown⟩
  case rest =>
    obtain ⟨rfl, hr, hbc⟩ := hcut
    have h1 := h0.below hbc
    have kc1 := kc.under hbc
    have hb1 := hb0.trans (hbc.mono hb0.size)
    have hbw := hb1.size
    generalize wc = w1 at *
    clear hb0 kc h0 hbc
    go_wp2_with fail
    go_loopw [7, 9, 25] (fun t7 t9 t25 wr => HnR w1 S a b t7 t9 t25 wr) (fun _ _ t25 _ => 6 - (intOf t25).toNat)
    case atStart => exact ⟨0, by omega, rfl, rfl, rfl, Below.refl _ _⟩
    case round =>
      obtain ⟨i, hi, rfl, rfl, rfl, hbr⟩ := hrel
      have hz := hbr.size
      by_cases hlt : i < 6
      · have hr2 := hr.under hbr
        have kc2 := kc1.under hbr
        have c25 := hr2.at_ hlt
        have hrl := hr2.lt
        have kr := hr2.row i hlt
        obtain ⟨r0, r1, p0, p1, p2⟩ := keepRow kr kc2 (Below.refl _ _)
        have hkl := kr.lt
        have hpl := kc2.lt
        obtain ⟨⟨x1, x2⟩, y1, y2⟩ := six_bd2 i
        have hha := fun W hW => refhas_any v S (a + sX i, b + sY i, 0) W hW (by omega)
        have hpw := pow6 hi
        have hx := hexN_lt S a b i
        have HN1 := Lib.hid (show hexN S a b (i + 1) = hexN S a b i + if decide ((a + sX i, b + sY i, (0 : Int)) ∈ S) = true then 2 ^ i else 0 from rfl)
        have HP := Lib.hid (show (2 ^ (i + 1) : Nat) = 2 * 2 ^ i by rw [Nat.pow_succ, Nat.mul_comm])
        have h2 := h1.below hbr
        generalize hexN S a b i = N at *
        generalize (2 ^ i : Nat) = E at *
        generalize sX i = x at *
        generalize sY i = y at *
        generalize w0.heap.size = B at *
        have e1 : IntKind.i64.wrap (a + x) = a + x := IntWalk.i64_in _ (by omega)
        have e2 : IntKind.i64.wrap (b + y) = b + y := IntWalk.i64_in _ (by omega)
        clear hr2 kc1 hr h1 x1 x2 y1 y2
        go_wp2_with fail
        have hkb : Below wr.heap.size wr wr := Below.refl _ _
        cases g : decide ((a + x, b + y, (0 : Int)) ∈ S)
        all_goals
          rw [g] at hha HN1
          have G := Lib.hid g
          clear g
          go_region_held3 (fun w' => w'.cell? ⟨B + i, 0, none⟩ = some (.int .i64 x) ∧ w'.cell? ⟨B + i, 1, none⟩ = some (.int .i64 y) ∧ w'.cell? ⟨w.heap.size, 0, none⟩ = some (.int .i64 a) ∧ w'.cell? ⟨w.heap.size, 1, none⟩ = some (.int .i64 b) ∧ w'.cell? ⟨w.heap.size, 2, none⟩ = some (.int .i64 0)) (first | (refine keepRow kr kc2 ?_; go_grown; done))
            (first | (go_at_call 45; refine (hha _ (h2.below (by go_grown))).mono ?_; rintro e wH ⟨rfl, hbH⟩; have hkb : Below wr.heap.size wr wH := Ba.below_call hbH (by go_grown) (by first | exact hkb.size | go_size); clear hbH))
          all_goals
            go_wp2_with fail
            go_roundw
            case rel => exact ⟨i + 1, by omega, by go_num, by rw [HP.out]; go_num, by rw [HN1.out]; go_num, hbr.trans (hkb.mono hz)⟩
            case measure => simp [intOf]; omega
      · obtain rfl : i = 6 := by omega
        clear hr kc1 h1
        go_wp2_with fail
        go_ret
        exact ⟨rfl, hb1.trans (hbr.mono hb1.size)⟩
def CnR (w : World) (l : Int) (S : List C) (c : C) (t7 t53 : Value) (wr : World) : Prop :=
  ∃ k : Nat, k ≤ S.length ∧ t53 = .int .i64 k ∧ t7 = .int .i64 (cntN l S c k : Nat) ∧ Blk wr w.heap.size 67 #[.int .i64 c.1, .int .i64 c.2.1, .int .i64 c.2.2] ∧ Below w.heap.size w wr
theorem not_bes {l : Int} (hl : l = 1 ∨ l = 2 ∨ l = 3) {c d : C} (hc : valid l c) (h : ¬ ((-1 ≤ d.1 - c.1 ∧ d.1 - c.1 ≤ 1) ∧ (-1 ≤ d.2.1 - c.2.1 ∧ d.2.1 - c.2.1 ≤ 1))) : decide (d ∈ besC l c) = false := by
  rw [decide_eq_false_iff_not]
  exact fun hm => h (bes_mem hl hc hm).2.2
set_option maxRecDepth 100000 in
set_option maxHeartbeats 4000000 in
theorem refnb_tri (l : Int) (hl : l = 2 ∨ l = 3) (v : Value) (S : List C) (c : C) (w : World) (h : SetAt w v S) (hL : S.length ≤ 2000) (hc : valid l c) (hv : ∀ d ∈ S, valid l d) (hn : S.Nodup) (hw : Wi 1000 S) (ha : -1000000 ≤ c.1 ∧ c.1 ≤ 1000000) (hb : -1000000 ≤ c.2.1 ∧ c.2.1 ≤ 1000000) :
    Calls Tryd.prog 63 #[.int .i64 l, v, .agg #[.int .i64 c.1, .int .i64 c.2.1, .int .i64 c.2.2]] w fun e w' => e = .returned (.int .i64 (nbC l S c : Nat)) ∧ Below w.heap.size w w' := by
  rw [nb_cnt hl hn hv hc]
  have HU := Lib.hid h
  have hl3 : l = 1 ∨ l = 2 ∨ l = 3 := by omega
  have hl1 : (l == 1) = false := by simp; omega
  have key : ∀ v, SetAt w v S → ∃ p cap, v = .slice p S.length cap := by
    rintro v (⟨rfl, rfl⟩ | ⟨g, cap, rfl, _, _⟩)
    · exact ⟨none, 0, rfl⟩
    · exact ⟨_, _, rfl⟩
  obtain ⟨p, cap, rfl⟩ := key v h
  have HL := Lib.hid hl3
  have HV := Lib.hid hv
  have HW := Lib.hid hw
  have HC0 := Lib.hid hc
  clear h key hl hl3 hv hn hw hc
  go_enter Tryd.func63, Tryd.ntmps63
  go_wp2_with fail
  have k0 := Blk.newAt w 67 #[.int .i64 c.1, .int .i64 c.2.1, .int .i64 c.2.2] _ rfl
  have hb0 : Below w.heap.size w (w.alloc (.cells #[.int .i64 c.1, .int .i64 c.2.1, .int .i64 c.2.2] 67)) := (Below.refl _ _).alloc (Nat.le_refl _) _
  go_loopw [7, 53] (fun t7 t53 wr => CnR w l S c t7 t53 wr) (fun _ t53 _ => S.length - (intOf t53).toNat)
  case atStart => exact ⟨0, Nat.zero_le _, rfl, by simp [cntN], k0, hb0⟩
  case round =>
    clear k0 hb0
    obtain ⟨k, hk, rfl, rfl, kc, hbr⟩ := hrel
    have hz := hbr.size
    by_cases hlt : k < S.length
    · obtain ⟨d, hd⟩ : ∃ d, S[k]? = some d := ⟨_, List.getElem?_eq_getElem hlt⟩
      rcases HU.out.below hbr with ⟨_, hnil⟩ | ⟨g, cp, hv, _, hr⟩
      · subst hnil; simp at hlt
      · injection hv with hv1 hv2 hv3
        subst hv1 hv3
        clear hv2
        obtain ⟨c0, c1, c2⟩ := hr.1 k d hd
        obtain ⟨d0, d1, d2⟩ := Se.keepB kc (Below.refl _ _)
        have hgl := hr.2
        have hcl := kc.lt
        have hdm := List.mem_of_getElem? hd
        obtain ⟨⟨m1, m2⟩, m3, m4⟩ := HW.out d hdm
        have HC := Lib.hid (cntN_succ (l := l) (c := c) hd)
        have hcl2 := cntN_le l S c k
        have HD := Lib.hid (HV.out d hdm)
        clear hd hr hdm
        by_cases h1 : d.1 - c.1 ≤ 1
        · by_cases h2 : c.1 - d.1 ≤ 1
          · by_cases h3 : d.2.1 - c.2.1 ≤ 1
            · by_cases h4 : c.2.1 - d.2.1 ≤ 1
              · have hne := near_bes HL.out HC0.out HD.out (by omega) (by omega)
                have hnr := fun W => near_any l c.1 c.2.1 c.2.2 d.1 d.2.1 d.2.2 W HL.out (by omega) (by omega) (by omega) (by omega) _ hne
                clear hne
                cases g2 : decide (d ∈ besC l c)
                all_goals
                  rw [g2] at hnr
                  have G := Lib.hid g2
                  clear g2
                  go_wp2_with fail
                  refine (hnr _).mono ?_
                  rintro e wN ⟨rfl, hbN⟩
                  have hbx := Ba.below_call (B := w.heap.size) (w := w) hbN (by go_grown) (by go_size)
                  have kcx := (kc.alloc (.cells #[.int .i64 d.1, .int .i64 d.2.1, .int .i64 d.2.2] 67)).under hbN
                  clear hnr hbN
                  go_wp2_with fail
                  go_roundw
                  case rel => exact ⟨k + 1, by omega, by go_num, by rw [HC.out, G.out]; go_num, kcx, hbx⟩
                  case measure => simp [intOf]; omega
              · have G := Lib.hid (not_bes HL.out HC0.out (d := d) (by omega))
                (go_wp2_with fail; go_roundw; (case rel => exact ⟨k + 1, by omega, by go_num, by rw [HC.out, G.out]; simp, kc.alloc _, by go_grown⟩); (case measure => simp [intOf]; omega))
            · have G := Lib.hid (not_bes HL.out HC0.out (d := d) (by omega))
              (go_wp2_with fail; go_roundw; (case rel => exact ⟨k + 1, by omega, by go_num, by rw [HC.out, G.out]; simp, kc.alloc _, by go_grown⟩); (case measure => simp [intOf]; omega))
          · have G := Lib.hid (not_bes HL.out HC0.out (d := d) (by omega))
            (go_wp2_with fail; go_roundw; (case rel => exact ⟨k + 1, by omega, by go_num, by rw [HC.out, G.out]; simp, kc.alloc _, by go_grown⟩); (case measure => simp [intOf]; omega))
        · have G := Lib.hid (not_bes HL.out HC0.out (d := d) (by omega))
          (go_wp2_with fail; go_roundw; (case rel => exact ⟨k + 1, by omega, by go_num, by rw [HC.out, G.out]; simp, kc.alloc _, by go_grown⟩); (case measure => simp [intOf]; omega))
    · obtain rfl : k = S.length := by omega
      go_wp2_with fail
      go_ret
      exact ⟨rfl, hbr⟩
end Go.Proofs.YtcmfkdhadmfgkaaDoor.Fl

/- The document's own next generation, and so many. -/
namespace Go.Proofs.YtcmfkdhadmfgkaaDoor.Fl
open Go.RowKit Go.Proofs.YtcmfkdhadmfgkaaDoor.Ax Go.Lib
open Go.Proofs.YtcmfkdhadmfgkaaDoor.Ba (Blk)
open Go.Proofs.YtcmfkdhadmfgkaaDoor.Se (SetAt Rising ofL flat set_own flat_app one_flat flat_len news1 refof_any refhas_any)
open Go.Proofs.YtcmfkdhadmfgkaaDoor.Tb (RT nextB refnext_any)

theorem refnb_any (l : Int) (hl : l = 1 ∨ l = 2 ∨ l = 3) (v : Value) (S : List C) (c : C) (w : World) (h : SetAt w v S) (hL : S.length ≤ 2000) (hc : valid l c) (hv : ∀ d ∈ S, valid l d) (hn : S.Nodup) (hw : Wi 1000 S) (ha : -1000000 ≤ c.1 ∧ c.1 ≤ 1000000) (hb : -1000000 ≤ c.2.1 ∧ c.2.1 ≤ 1000000) :
    Calls Tryd.prog 63 #[.int .i64 l, v, .agg #[.int .i64 c.1, .int .i64 c.2.1, .int .i64 c.2.2]] w fun e w' => e = .returned (.int .i64 (nbC l S c : Nat)) ∧ Below w.heap.size w w' := by
  by_cases h1 : l = 1
  · subst h1
    obtain ⟨a, b, k⟩ := c
    obtain rfl : k = 0 := by unfold valid at hc; simp at hc; omega
    exact refnb_hex v S a b w h hL ha hb
  · exact refnb_tri l (by omega) v S c w h hL hc hv hn hw ha hb
theorem PlAt.grown {w w' : World} {base n size B : Nat} {v u : Value} {Q : List PL} {xs : List Value} (h : PlAt w base v Q) (ho : w.ownsRow B 67 size u n xs) (hgr : w.grownBy w' u.ownBlock) : PlAt w' base v Q := by
  obtain ⟨G, h1, h2, h3⟩ := h
  refine ⟨G, h1, ?_, fun i g p hg hp => (h3 i g p hg hp).grown hgr (Ba.own_blk_ne ho (h3 i g p hg hp) (by decide))⟩
  refine ⟨h2.1, ?_⟩
  rcases h2.2 with hn | ⟨g, cap, cur, hv, hbs, hg, rest⟩
  · exact .inl hn
  · have hlt : g < w.heap.size := by
      rcases Nat.lt_or_ge g w.heap.size with h' | h'
      · exact h'
      · rw [Array.getElem?_eq_none h'] at hg; cases hg
    refine .inr ⟨g, cap, cur, hv, hbs, (hgr.block g hlt (fun he => ?_)).trans hg, rest⟩
    rcases ho.2 with ⟨rfl, _⟩ | ⟨g', cap', cur', rfl, _, hh, _⟩
    · simp [Value.ownBlock] at he
    · have : g = g' := by simpa [Value.ownBlock] using he
      subst this
      rw [hg] at hh
      injection hh with hh
      injection hh with _ ht
      exact absurd ht (by decide)
theorem gen_yes {nx : Int → Bool → Nat → Bool} {l : Int} {S : List C} {c : C} (h : c.2.2 = 0 ∨ 1 < l) : genB nx l S c = nx c.2.2 (decide (c ∈ S)) (nbC l S c) := by
  unfold genB
  rcases h with h | h <;> simp [h]
theorem gen_no {nx : Int → Bool → Nat → Bool} {l : Int} {S : List C} {c : C} (h0 : c.2.2 ≠ 0) (h : ¬ 1 < l) : genB nx l S c = false := by
  unfold genB
  simp [h0, h]
theorem keep11 {W w' : World} {A B l g : Nat} {a b h : Int} (kt : Blk W A 57 #[.int .i64 l, .slice (some ⟨g, 1, none⟩) 2 2, .slice (some ⟨g, 3, none⟩) 2 2]) (kp : Blk W B 67 #[.int .i64 a, .int .i64 b, .int .i64 h]) (hb : Below W.heap.size W w') :
    (w'.cell? ⟨A, 0, none⟩ = some (.int .i64 l) ∧ w'.cell? ⟨A, 1, none⟩ = some (.slice (some ⟨g, 1, none⟩) 2 2) ∧ w'.cell? ⟨A, 2, none⟩ = some (.slice (some ⟨g, 3, none⟩) 2 2)) ∧ w'.cell? ⟨B, 0, none⟩ = some (.int .i64 a) ∧ w'.cell? ⟨B, 1, none⟩ = some (.int .i64 b) ∧ w'.cell? ⟨B, 2, none⟩ = some (.int .i64 h) :=
  ⟨⟨(kt.under hb).cell 0, (kt.under hb).cell 1, (kt.under hb).cell 2⟩, (kp.under hb).cell 0, (kp.under hb).cell 1, (kp.under hb).cell 2⟩
/-- The table's box, as the document's Step has it. -/
abbrev TB (l g : Nat) : Array Value := #[.int .i64 l, .slice (some ⟨g, 1, none⟩) 2 2, .slice (some ⟨g, 3, none⟩) 2 2]
def So1 (w : World) (nx : Int → Bool → Nat → Bool) (l g : Nat) (S : List C) (Q : List PL) (v16 t5 t18 : Value) (wr : World) : Prop :=
  ∃ k : Nat, k ≤ Q.length ∧ t18 = .int .i64 k ∧ wr.ownsRow (w.heap.size + 1) 67 3 t5 (outP nx l S (Q.take k)).length (flat (outP nx l S (Q.take k))) ∧ Blk wr w.heap.size 57 (TB l g) ∧ PlAt wr 0 v16 Q ∧ Below w.heap.size w wr
def So2 (w : World) (nx : Int → Bool → Nat → Bool) (l g : Nat) (S : List C) (Q : List PL) (p : PL) (O : List C) (v16 : Value) (qg : Nat) (t5 t8 : Value) (wr : World) : Prop :=
  ∃ m : Nat, m ≤ 2 ∧ t8 = .int .i64 m ∧ wr.ownsRow (w.heap.size + 1) 67 3 t5 (O ++ ptP nx l S p m).length (flat (O ++ ptP nx l S p m)) ∧ Blk wr w.heap.size 57 (TB l g) ∧ PlAt wr 0 v16 Q ∧ Blk wr qg 2 #[.int .i64 p.1, .int .i64 p.2] ∧ Below w.heap.size w wr
set_option maxRecDepth 100000 in
set_option maxHeartbeats 8000000 in
theorem refstep_any (l b0 b1 s0 s1 : Nat) (hg : Good l b0 b1 s0 s1) (g : Nat) (v : Value) (S : List C) (w : World) (kg : Blk w g 47 (TabC l b0 b1 s0 s1)) (h : SetAt w v S) (hR : Rising S) (hv : ∀ d ∈ S, valid l d) (hL : S.length ≤ 2000) (hw : Wi 13 S) :
    Calls Tryd.prog 32 #[RT l g, v] w fun e w' => ∃ v' R, e = .returned v' ∧ SetAt w' v' R ∧ Stp (nxT b0 b1 s0 s1) l S R ∧ R.length ≤ 2000 ∧ Below w.heap.size w w' := by
  obtain ⟨i0, hi0, hz0, hz1, hz2⟩ := info_parts Se.raw_info
  have HU := Lib.hid h
  have key : ∀ v, SetAt w v S → ∃ p cap, v = .slice p S.length cap := by
    rintro v (⟨rfl, rfl⟩ | ⟨g, cap, rfl, _, _⟩)
    · exact ⟨none, 0, rfl⟩
    · exact ⟨_, _, rfl⟩
  obtain ⟨p, cap, rfl⟩ := key v h
  clear h key
  have hbare := bare_of hg.ok
  have HB := Lib.hid hbare
  have hown0 := World.ownsRow_made (base := w.heap.size + 1) (e := 67) (size := 3) (w.alloc (.cells (TB l g) 57)) #[] 0 (by simp) (Nat.zero_le _) (by simp)
  have kt0 := (Blk.newAt w 57 (TB l g) _ rfl).alloc (.cells #[] 67)
  have hb0 : Below w.heap.size w ((w.alloc (.cells (TB l g) 57)).alloc (.cells #[] 67)) := ((Below.refl _ _).alloc (Nat.le_refl _) _).alloc (by simp) _
  clear hbare
  by_cases hS : S.length = 0
  · obtain rfl : S = [] := List.eq_nil_of_length_eq_zero hS
    have hset := Se.set_own (L := []) (by simpa [flat] using hown0)
    go_enter Tryd.func32, Tryd.ntmps32
    go_wp2_with fail
    go_ret
    exact ⟨_, [], rfl, hset, stp_nil HB.out, by simp, hb0⟩
  · obtain ⟨s, hs⟩ : ∃ s, S[0]? = some s := ⟨_, List.getElem?_eq_getElem (by omega)⟩
    have hpl := fun W hW => places_any (.slice p S.length cap) S s W hW hs hL hw
    have hz0' : ((S.length : Int) == 0) = false := by rw [beq_eq_false_iff_ne]; omega
    have hsm := List.mem_of_getElem? hs
    have hql := plS_len hsm hw
    have hpb : ∀ q ∈ plS s S, (-100 ≤ q.1 ∧ q.1 ≤ 100) ∧ (-100 ≤ q.2 ∧ q.2 ≤ 100) := fun q hq => by
      have h1 := mem_plS.1 hq
      have h0 := hw s hsm
      have a1 := mnL_bd fA S s.1 (m := -13) (fun c hc => (hw c hc).1.1) (by omega)
      have a2 := mxL_bd fA S s.1 (m := 13) (fun c hc => (hw c hc).1.2) (by omega)
      have b1 := mnL_bd fB S s.2.1 (m := -13) (fun c hc => (hw c hc).2.1) (by omega)
      have b2 := mxL_bd fB S s.2.1 (m := 13) (fun c hc => (hw c hc).2.2) (by omega)
      omega
    have hst := stp_out (S := S) hg.latI HB.out s
    have HST := Lib.hid hst
    have HPB := Lib.hid hpb
    generalize plS s S = Q at *
    have HV := Lib.hid hv
    have HW := Lib.hid hw
    have HR := Lib.hid hR
    have HG := Lib.hid hg
    have HK := Lib.hid kg
    clear hs hsm hst hpb hv hw hR hg
    go_enter Tryd.func32, Tryd.ntmps32
    go_wp2_with fail
    refine (hpl _ (HU.out.below hb0)).mono ?_
    rintro e w1 ⟨v16, rfl, hq, hb1⟩
    have hb2 := hb0.trans (hb1.mono hb0.size)
    have kt1 := kt0.under hb1
    have hown1 := Ba.own_below hown0 hb1
    have hq1 := hq.low (Nat.zero_le _)
    clear hpl hb0 hb1 kt0 hown0 hq
    have key : ∃ p cap, v16 = .slice p Q.length cap := by
      obtain ⟨G, _, h2, _⟩ := hq1
      rcases h2.2 with ⟨rfl, h3⟩ | ⟨g, cap, cur, rfl, _⟩
      · have : Q = [] := List.eq_nil_of_length_eq_zero h3
        subst this
        exact ⟨_, _, rfl⟩
      · exact ⟨_, _, rfl⟩
    obtain ⟨p16, cap16, rfl⟩ := key
    go_wp2_with fail
    go_loopw [5, 7, 8, 9, 18] (fun t5 _ _ _ t18 wr => So1 w (nxT b0 b1 s0 s1) l g S Q (.slice p16 Q.length cap16) t5 t18 wr) (fun _ _ _ _ t18 _ => Q.length - (intOf t18).toNat)
    case atStart => exact ⟨0, Nat.zero_le _, rfl, by simpa [outP, flat] using hown1, kt1, hq1, hb2⟩
    case round =>
      clear kt1 hown1 hq1 hb2
      obtain ⟨k, hk, rfl, hown, kt, hq, hb⟩ := hrel
      by_cases hlt : k < Q.length
      · obtain ⟨q, hqk⟩ : ∃ q, Q[k]? = some q := ⟨_, List.getElem?_eq_getElem hlt⟩
        obtain ⟨qa, qc, qg, hqv, hqal, hqc, kq⟩ := hq.at_ hqk
        injection hqv with hq1 hq2 hq3
        subst hq1 hq3
        have HPQ := Lib.hid (HPB.out q (List.mem_of_getElem? hqk))
        have HOA := Lib.hid (show outP (nxT b0 b1 s0 s1) l S (Q.take (k + 1)) = outP (nxT b0 b1 s0 s1) l S (Q.take k) ++ ptP (nxT b0 b1 s0 s1) l S q 2 by rw [List.take_add_one, hqk]; exact outP_app _ _)
        have HOL := Lib.hid (show (outP (nxT b0 b1 s0 s1) l S (Q.take k)).length ≤ 1682 from Nat.le_trans (outP_len _) (by rw [List.length_take]; omega))
        clear hqk
        generalize hO : outP (nxT b0 b1 s0 s1) l S (Q.take k) = O at *
        clear hO
        go_wp2_with fail
        go_loopw [5, 8, 9] (fun t5 t8 _ wr => So2 w (nxT b0 b1 s0 s1) l g S Q q O (.slice (some ⟨qa, 0, none⟩) Q.length cap16) qg t5 t8 wr) (fun _ t8 _ _ => 2 - (intOf t8).toNat)
        case atStart => exact ⟨0, by omega, rfl, by simpa [ptP] using hown, kt, hq, kq, hb⟩
        case round =>
          clear hown kt hq kq hb hqc hqal
          obtain ⟨m, hm, rfl, hown, kt, hq, kq, hb⟩ := hrel
          have hz := hb.size
          by_cases hm2 : m < 2
          · have r0 := kq.cell 0
            have r1 := kq.cell 1
            have q0 := kt.cell 0
            have q1 := kt.cell 1
            have q2 := kt.cell 2
            simp only [List.getElem?_toArray, List.getElem?_cons_zero, List.getElem?_cons_succ] at r0 r1 q0 q1 q2
            have ql := kq.lt
            have tl := kt.lt
            go_upto_region 10 with fail
            go_cut [9] (fun t9 wx => t9 = .pointer (some ⟨wr.heap.size, 0, none⟩) ∧ wx.heap.size = wr.heap.size + 1 ∧ Blk wx wr.heap.size 67 #[.int .i64 q.1, .int .i64 q.2, .int .i64 m] ∧ Below wr.heap.size wr wx)
            case first =>
              have n0 := World.new_ne wr _ r0
              have n1 := World.new_ne wr _ r1
              go_region_held3 (fun w' => w'.cell? ⟨qg, 0, none⟩ = some (.int .i64 q.1) ∧ w'.cell? ⟨qg, 1, none⟩ = some (.int .i64 q.2)) (go_keep) (fail)
              all_goals go_wp2_with fail
              all_goals go_meet
              all_goals exact ⟨rfl, by simp, (Blk.newAt wr _ _ _ rfl : Blk (wr.alloc _) _ _ _), by go_grown⟩
            case rest =>
              obtain ⟨rfl, hsz9, kc, hbc⟩ := hcut
              generalize wc = w3 at *
              have hown3 := Ba.own_below hown hbc
              have kt3 := kt.under hbc
              have hq3 := hq.under hbc
              have kq3 := kq.under hbc
              have hb3 := hb.trans (hbc.mono hz)
              clear hown kt hq kq hb r0 r1 q0 q1 q2 ql tl hbc
              go_upto_region 11 with fail
              generalize wr.heap.size = B at *
              obtain ⟨⟨q0, q1, q2⟩, r0, r1, r2⟩ := keep11 kt3 kc (Below.refl _ _)
              have ql := kc.lt
              have tl := kt3.lt
              have hcl := HPQ.out
              obtain ⟨⟨x1, x2⟩, x3, x4⟩ := hcl
              have hH01 : (m : Int) = 0 ∨ (m : Int) = 1 := by omega
              generalize hH : (m : Int) = H at *
              have HH := Lib.hid hH
              clear hH
              go_cut [53] (fun t53 wx => t53 = .bool (genB (nxT b0 b1 s0 s1) l S (q.1, q.2, H)) ∧ Below w3.heap.size w3 wx)
              case first =>
                have hcase : (H = 0) ∨ (H = 1 ∧ 1 < (l : Int)) ∨ (H = 1 ∧ (l : Int) = 1) := by have := HG.out.latI; omega
                clear hH01
                rcases hcase with rfl | ⟨rfl, hl1⟩ | ⟨rfl, hl1⟩
                · have hva : valid l (q.1, q.2, (0 : Int)) := ⟨by simp, by split <;> simp⟩
                  have hgen := Lib.hid (gen_yes (nx := nxT b0 b1 s0 s1) (l := (l : Int)) (S := S) (c := (q.1, q.2, (0 : Int))) (.inl rfl))
                  have hnn := next_nx (b0 := b0) (b1 := b1) (s0 := s0) (s1 := s1) hva (decide ((q.1, q.2, (0 : Int)) ∈ S)) (nb_lt HG.out.latI S hva)
                  have hm0 : ((0 : Int) == 0) = true := rfl
                  (have hha := (fun W hW => refhas_any (.slice p S.length cap) S (q.1, q.2, (0 : Int)) W hW (by omega)); have hnb := (fun W hW => refnb_any l HG.out.latI (.slice p S.length cap) S (q.1, q.2, (0 : Int)) W hW (by omega) hva HV.out (rising_nodup HR.out) (fun c hc => by have := HW.out c hc; omega) (by dsimp only; omega) (by dsimp only; omega)); have hne := (fun W hW => refnext_any b0 b1 s0 s1 HG.out.h0 HG.out.h1 HG.out.h2 HG.out.h3 (0 : Int) (decide ((q.1, q.2, (0 : Int)) ∈ S)) ((nbC l S (q.1, q.2, (0 : Int)) : Nat) : Int) l g W hW); dsimp only at hnn; rw [hnn] at hne; have hkb : Below w3.heap.size w3 w3 := Below.refl _ _; clear hnn hva)
                  refine wp_region_held_drew (S := fun w' => (w'.cell? ⟨w.heap.size, 0, none⟩ = some (.int .i64 l) ∧ w'.cell? ⟨w.heap.size, 1, none⟩ = some (.slice (some ⟨g, 1, none⟩) 2 2) ∧ w'.cell? ⟨w.heap.size, 2, none⟩ = some (.slice (some ⟨g, 3, none⟩) 2 2)) ∧ w'.cell? ⟨B, 0, none⟩ = some (.int .i64 q.1) ∧ w'.cell? ⟨B, 1, none⟩ = some (.int .i64 q.2) ∧ w'.cell? ⟨B, 2, none⟩ = some (.int .i64 (0 : Int))) (by kernel_rfl) (keep11 kt3 kc (by go_grown)) (fun hHeld => ?_)
                  (refine wpAnyH_take (i := 0) (v := ?_) rfl (by kernel_rfl) (by kernel_rfl) (by kernel_rfl) (fun _ _ _ h => h) (Or.inl ⟨by kernel_rfl, ?_⟩) (by assumption) ?_; rotate_left; (focus (intro wq hSw; (try dsimp only at hSw); go_simp; (try with_reducible rfl))); (try simp only [Act.put]))
                  (refine wpAnyH_take (i := 1) (v := ?_) rfl (by kernel_rfl) (by kernel_rfl) (by kernel_rfl) (fun _ _ _ h => h) (Or.inl ⟨by kernel_rfl, ?_⟩) (by assumption) ?_; rotate_left; (focus (intro wq hSw; (try dsimp only at hSw); go_simp; (try with_reducible rfl))); (try simp only [Act.put]))
                  (refine wpAnyH_take (i := 2) (v := ?_) rfl (by kernel_rfl) (by kernel_rfl) (by kernel_rfl) (fun _ _ _ h => h) (Or.inl ⟨by kernel_rfl, ?_⟩) (by assumption) ?_; rotate_left; (focus (intro wq hSw; (try dsimp only at hSw); go_simp; (try with_reducible rfl))); (try simp only [Act.put]))
                  (refine wpAnyH_take (i := 3) (v := undef) rfl (by kernel_rfl) (by kernel_rfl) (by kernel_rfl) (fun _ _ _ h => h) (Or.inr ⟨by kernel_rfl, rfl⟩) (by assumption) ?_; (try simp only [Act.put]))
                  (refine wpAnyH_take (i := 4) (v := undef) rfl (by kernel_rfl) (by kernel_rfl) (by kernel_rfl) (fun _ _ _ h => h) (Or.inr ⟨by kernel_rfl, rfl⟩) (by assumption) ?_; (try simp only [Act.put]))
                  (refine wpAnyH_take (i := 5) (v := undef) rfl (by kernel_rfl) (by kernel_rfl) (by kernel_rfl) (fun _ _ _ h => h) (Or.inr ⟨by kernel_rfl, rfl⟩) (by assumption) ?_; (try simp only [Act.put]))
                  (refine wpAnyH_take (i := 6) (v := ?_) rfl (by kernel_rfl) (by kernel_rfl) (by kernel_rfl) (fun _ _ _ h => h) (Or.inl ⟨by kernel_rfl, ?_⟩) (by assumption) ?_; rotate_left; (focus (intro wq hSw; (try dsimp only at hSw); go_simp; (try with_reducible rfl))); (try simp only [Act.put]))
                  (refine wpAnyH_take (i := 7) (v := ?_) rfl (by kernel_rfl) (by kernel_rfl) (by kernel_rfl) (fun _ _ _ h => h) (Or.inl ⟨by kernel_rfl, ?_⟩) (by assumption) ?_; rotate_left; (focus (intro wq hSw; (try dsimp only at hSw); go_simp; (try with_reducible rfl))); (try simp only [Act.put]))
                  (refine wpAnyH_take (i := 8) (v := ?_) rfl (by kernel_rfl) (by kernel_rfl) (by kernel_rfl) (fun _ _ _ h => h) (Or.inl ⟨by kernel_rfl, ?_⟩) (by assumption) ?_; rotate_left; (focus (intro wq hSw; (try dsimp only at hSw); go_simp; (try with_reducible rfl))); (try simp only [Act.put]))
                  (refine wpAnyH_take (i := 9) (v := ?_) rfl (by kernel_rfl) (by kernel_rfl) (by kernel_rfl) (fun _ _ _ h => h) (Or.inl ⟨by kernel_rfl, ?_⟩) (by assumption) ?_; rotate_left; (focus (intro wq hSw; (try dsimp only at hSw); go_simp; (try with_reducible rfl))); (try simp only [Act.put]))
                  (refine wpAnyH_take (i := 10) (v := ?_) rfl (by kernel_rfl) (by kernel_rfl) (by kernel_rfl) (fun _ _ _ h => h) (Or.inl ⟨by kernel_rfl, ?_⟩) (by assumption) ?_; rotate_left; (focus (intro wq hSw; (try dsimp only at hSw); go_simp; (try with_reducible rfl))); (try simp only [Act.put]))
                  (refine wpAnyH_take (i := 11) (v := ?_) rfl (by kernel_rfl) (by kernel_rfl) (by kernel_rfl) (fun _ _ _ h => h) (Or.inl ⟨by kernel_rfl, ?_⟩) (by assumption) ?_; rotate_left; (focus (intro wq hSw; (try dsimp only at hSw); go_simp; (try with_reducible rfl))); (try simp only [Act.put]))
                  (refine wpAnyH_take (i := 13) (v := ?_) rfl (by kernel_rfl) (by kernel_rfl) (by kernel_rfl) (fun _ _ _ h => h) (Or.inl ⟨by kernel_rfl, ?_⟩) (by assumption) ?_; rotate_left; (focus (intro wq hSw; (try dsimp only at hSw); go_simp; (try with_reducible rfl))); (try simp only [Act.put]))
                  (refine wpAnyH_take (i := 14) (v := ?_) rfl (by kernel_rfl) (by kernel_rfl) (by kernel_rfl) (fun _ _ _ h => h) (Or.inl ⟨by kernel_rfl, ?_⟩) (by assumption) ?_; rotate_left; (focus (intro wq hSw; (try dsimp only at hSw); go_simp; (try with_reducible rfl))); (try simp only [Act.put]))
                  (refine wpAnyH_take (i := 15) (v := ?_) rfl (by kernel_rfl) (by kernel_rfl) (by kernel_rfl) (fun _ _ _ h => h) (Or.inl ⟨by kernel_rfl, ?_⟩) (by assumption) ?_; rotate_left; (focus (intro wq hSw; (try dsimp only at hSw); go_simp; (try with_reducible rfl))); (try simp only [Act.put]))
                  (refine wpAnyH_take (i := 16) (v := ?_) rfl (by kernel_rfl) (by kernel_rfl) (by kernel_rfl) (fun _ _ _ h => h) (Or.inl ⟨by kernel_rfl, ?_⟩) (by assumption) ?_; rotate_left; (focus (intro wq hSw; (try dsimp only at hSw); go_simp; (try with_reducible rfl))); (try simp only [Act.put]))
                  (refine wpAnyH_ready (rs := [12]) (by kernel_rfl) (by simp) ?_; refine AllReadyH.cons rfl (fun K hK => ?_) AllReadyH.nil; go_simp; (with_reducible refine Calls.mono (hha _ (HU.out.below ?_)) ?_); (focus (exact hb3.trans (Below.mono (by go_grown) hb3.size))); rintro e w7 ⟨rfl, hbn⟩; have hkb : Below w3.heap.size w3 w7 := Ba.below_call hbn (by go_grown) (by have := hkb.size; first | omega | (simp; done) | (simp; omega)); clear hbn; dsimp only; refine hK.out _ _ ?_ (fun hHeld => ?_); (focus (exact keep11 kt3 kc hkb)); clear hK K; (try simp only [Act.put, List.setIfInBounds_toArray, List.set_cons_zero, List.set_cons_succ]))
                  (refine wpAnyH_ready (rs := [17]) (by kernel_rfl) (by simp) ?_; refine AllReadyH.cons rfl (fun K hK => ?_) AllReadyH.nil; go_simp; (with_reducible refine Calls.mono (hnb _ (HU.out.below ?_)) ?_); (focus (exact hb3.trans (Below.mono (by go_grown) hb3.size))); rintro e w7 ⟨rfl, hbn⟩; have hkb : Below w3.heap.size w3 w7 := Ba.below_call hbn (by go_grown) (by have := hkb.size; first | omega | (simp; done) | (simp; omega)); clear hbn; dsimp only; refine hK.out _ _ ?_ (fun hHeld => ?_); (focus (exact keep11 kt3 kc hkb)); clear hK K; (try simp only [Act.put, List.setIfInBounds_toArray, List.set_cons_zero, List.set_cons_succ]))
                  (refine wpAnyH_ready (rs := [18]) (by kernel_rfl) (by simp) ?_; refine AllReadyH.cons rfl (fun K hK => ?_) AllReadyH.nil; go_simp; (with_reducible refine Calls.mono (hne _ (HK.out.below ?_ HK.out.lt)) ?_); (focus (exact hb3.trans (Below.mono (by go_grown) hb3.size))); rintro e w7 ⟨rfl, hbn⟩; have hkb : Below w3.heap.size w3 w7 := Ba.below_call hbn (by go_grown) (by have := hkb.size; first | omega | (simp; done) | (simp; omega)); clear hbn; dsimp only; refine hK.out _ _ ?_ (fun hHeld => ?_); (focus (exact keep11 kt3 kc hkb)); clear hK K; (try simp only [Act.put, List.setIfInBounds_toArray, List.set_cons_zero, List.set_cons_succ]))
                  (refine wpAnyH_take (i := 19) (v := ?_) rfl (by kernel_rfl) (by kernel_rfl) (by kernel_rfl) (fun _ _ _ h => h) (Or.inl ⟨by kernel_rfl, ?_⟩) (by assumption) ?_; rotate_left; (focus (intro wq hSw; (try dsimp only at hSw); go_simp; (try with_reducible rfl))); (try simp only [Act.put]))
                  refine wpAnyH_done (by kernel_rfl) ?_ _
                  go_wp2_with fail
                  go_meet
                  exact ⟨by rw [hgen.out], hkb⟩
                · have hva : valid l (q.1, q.2, (1 : Int)) := ⟨by simp, by rw [if_neg (by omega)]; simp⟩
                  have hgen := Lib.hid (gen_yes (nx := nxT b0 b1 s0 s1) (l := (l : Int)) (S := S) (c := (q.1, q.2, (1 : Int))) (.inr hl1))
                  have hnn := next_nx (b0 := b0) (b1 := b1) (s0 := s0) (s1 := s1) hva (decide ((q.1, q.2, (1 : Int)) ∈ S)) (nb_lt HG.out.latI S hva)
                  have hm0 : ((1 : Int) == 0) = false := rfl
                  have hl2 : decide (1 < (l : Int)) = true := by simpa using hl1
                  (have hha := (fun W hW => refhas_any (.slice p S.length cap) S (q.1, q.2, (1 : Int)) W hW (by omega)); have hnb := (fun W hW => refnb_any l HG.out.latI (.slice p S.length cap) S (q.1, q.2, (1 : Int)) W hW (by omega) hva HV.out (rising_nodup HR.out) (fun c hc => by have := HW.out c hc; omega) (by dsimp only; omega) (by dsimp only; omega)); have hne := (fun W hW => refnext_any b0 b1 s0 s1 HG.out.h0 HG.out.h1 HG.out.h2 HG.out.h3 (1 : Int) (decide ((q.1, q.2, (1 : Int)) ∈ S)) ((nbC l S (q.1, q.2, (1 : Int)) : Nat) : Int) l g W hW); dsimp only at hnn; rw [hnn] at hne; have hkb : Below w3.heap.size w3 w3 := Below.refl _ _; clear hnn hva; (go_region_held3 (fun w' => (w'.cell? ⟨w.heap.size, 0, none⟩ = some (.int .i64 l) ∧ w'.cell? ⟨w.heap.size, 1, none⟩ = some (.slice (some ⟨g, 1, none⟩) 2 2) ∧ w'.cell? ⟨w.heap.size, 2, none⟩ = some (.slice (some ⟨g, 3, none⟩) 2 2)) ∧ w'.cell? ⟨B, 0, none⟩ = some (.int .i64 q.1) ∧ w'.cell? ⟨B, 1, none⟩ = some (.int .i64 q.2) ∧ w'.cell? ⟨B, 2, none⟩ = some (.int .i64 (1 : Int))) (first | (refine keep11 kt3 kc ?_; go_grown; done)) (first | (go_at_call 62; refine (hne _ (HK.out.below (hb3.trans (Below.mono (by go_grown) hb3.size)) HK.out.lt)).mono ?_; rintro e wN ⟨rfl, hbn⟩; have hkb : Below w3.heap.size w3 wN := Ba.below_call hbn (by go_grown) (by first | exact hkb.size | go_size); clear hbn) | (go_at_call 45; refine (hha _ (HU.out.below (hb3.trans (Below.mono (by go_grown) hb3.size)))).mono ?_; rintro e wN ⟨rfl, hbn⟩; have hkb : Below w3.heap.size w3 wN := Ba.below_call hbn (by go_grown) (by first | exact hkb.size | go_size); clear hbn) | (go_at_call 63; refine (hnb _ (HU.out.below (hb3.trans (Below.mono (by go_grown) hb3.size)))).mono ?_; rintro e wN ⟨rfl, hbn⟩; have hkb : Below w3.heap.size w3 wN := Ba.below_call hbn (by go_grown) (by first | exact hkb.size | go_size); clear hbn))); all_goals (go_wp2_with fail; go_meet; exact ⟨by rw [hgen.out], by go_grown⟩))
                · have hgen := Lib.hid (gen_no (nx := nxT b0 b1 s0 s1) (l := (l : Int)) (S := S) (c := (q.1, q.2, (1 : Int))) (by simp) (by omega))
                  have hm0 : ((1 : Int) == 0) = false := rfl
                  have hl2 : decide (1 < (l : Int)) = false := by simp; omega
                  have hl3 : ¬ 1 < (l : Int) := by omega
                  clear hl1
                  go_quiet (fail)
                  go_wp2_with fail
                  go_meet
                  exact ⟨by rw [hgen.out], Ba.below_dr _ (Below.refl _ _)⟩
              case rest =>
                obtain ⟨rfl, hbc⟩ := hcut
                generalize wc = w4 at *
                have hb4 := hb3.trans (hbc.mono hb3.size)
                have hown4 := Ba.own_below hown3 hbc
                have kt4 := kt3.under hbc
                have hq4 := hq3.under hbc
                have kq4 := kq3.under hbc
                have kc4 := kc.under hbc
                have hz4 := hb4.size
                have HPT := Lib.hid (show ptP (nxT b0 b1 s0 s1) l S q (m + 1) = ptP (nxT b0 b1 s0 s1) l S q m ++ if genB (nxT b0 b1 s0 s1) l S (q.1, q.2, H) = true then [(q.1, q.2, H)] else [] by rw [← HH.out]; rfl)
                have hpl := ptP_len (nx := nxT b0 b1 s0 s1) (l := (l : Int)) (S := S) q m
                clear hown3 kt3 hq3 kq3 kc hbc q0 q1 q2 r0 r1 r2 ql tl
                obtain ⟨⟨q0, q1, q2⟩, r0, r1, r2⟩ := keep11 kt4 kc4 (Below.refl _ _)
                have ql := kc4.lt
                have hlen : (O ++ ptP (nxT b0 b1 s0 s1) l S q m).length ≤ 2000 := by rw [List.length_append]; have := HOL.out; omega
                generalize hX : O ++ ptP (nxT b0 b1 s0 s1) l S q m = X at *
                have HX := Lib.hid hX
                clear hX
                cases hgn : genB (nxT b0 b1 s0 s1) l S (q.1, q.2, H)
                · have HGN := Lib.hid hgn
                  clear hgn
                  go_wp2_with fail
                  go_roundw
                  case rel => exact ⟨m + 1, by omega, by rw [← HH.out]; go_num, by rw [HPT.out, HGN.out, if_neg (by simp), List.append_nil, HX.out]; exact hown4, kt4, hq4, kq4, hb4⟩
                  case measure => rw [← HH.out]; simp [intOf]; omega
                · have HGN := Lib.hid hgn
                  clear hgn
                  have hown5 := hown4.alloc (.cells #[.int .i64 q.1, .int .i64 q.2, .int .i64 H] 67)
                  have hnew := news1 w4 67 (q.1, q.2, H)
                  go_wp2_with (at_builtin; refine wpList_append_own _ rfl _ _ 36 rfl (w.heap.size + 1) 67 i0 _ 3 24 Tryd.underlying36 hi0 hz0 hz1 hz2 rfl (by decide) _ _ _ rfl hown5 ⟨w4.heap.size, 0, none⟩ 1 1 (flat [(q.1, q.2, H)]) rfl (by simp [flat_len]) hnew (one_flat [(q.1, q.2, H)]) (by unfold maxLen; omega) (by omega) (by simp; omega) ?_)
                  intro v' w' hown' hgr _
                  have hb' : Below w.heap.size w w' := (hb4.alloc hz4 (.cells #[.int .i64 q.1, .int .i64 q.2, .int .i64 H] 67)).grown hgr (by simp; omega) (fun q hq => by have := (hown5.lt q hq).1; omega)
                  have kt' := (kt4.alloc (.cells #[.int .i64 q.1, .int .i64 q.2, .int .i64 H] 67)).grown hgr (Ba.own_low_ne hown5 (by omega))
                  have kq' := (kq4.alloc (.cells #[.int .i64 q.1, .int .i64 q.2, .int .i64 H] 67)).grown hgr (Ba.own_blk_ne hown5 (kq4.alloc (.cells #[.int .i64 q.1, .int .i64 q.2, .int .i64 H] 67)) (by decide))
                  have hq' := (hq4.under ((Below.refl _ _).alloc (Nat.le_refl _) (.cells #[.int .i64 q.1, .int .i64 q.2, .int .i64 H] 67))).grown hown5 hgr
                  clear hown4 hown5 hgr kt4 kq4 hq4 hnew
                  go_wp2_with fail
                  go_roundw
                  case rel => exact ⟨m + 1, by omega, by rw [← HH.out]; go_num, by rw [HPT.out, HGN.out, if_pos rfl, ← List.append_assoc, HX.out, flat_app, List.length_append]; exact hown', kt', hq', kq', hb'⟩
                  case measure => rw [← HH.out]; simp [intOf]; omega
          · obtain rfl : m = 2 := by omega
            go_wp2_with fail
            go_roundw
            case rel => exact ⟨k + 1, by omega, by go_num, by rw [HOA.out]; exact hown, kt, hq, hb⟩
            case measure => simp [intOf]; omega
      · obtain rfl : k = Q.length := by omega
        rw [List.take_length] at hown
        have hol : (outP (nxT b0 b1 s0 s1) l S Q).length ≤ 2000 := Nat.le_trans (outP_len _) (by omega)
        have hof := refof_any u5 _ wr (Se.set_own hown) (Nat.le_trans hol (by decide))
        have HL2 := Lib.hid (Nat.le_trans (Se.ofL_len (outP (nxT b0 b1 s0 s1) l S Q)) hol)
        clear hown hol hq kt
        go_wp2_with fail
        refine hof.mono ?_
        rintro e w3 ⟨v3, rfl, hs3, hb3⟩
        go_wp2_with fail
        go_ret
        exact ⟨_, _, rfl, hs3, HST.out, HL2.out, hb.trans (hb3.mono hb.size)⟩
def SnR (w : World) (b0 b1 s0 s1 l g n : Nat) (S : List C) (t1 t7 : Value) (wr : World) : Prop :=
  ∃ (i : Nat) (M : List C), i ≤ n ∧ t7 = .int .i64 i ∧ SetAt wr t1 M ∧ StpN (nxT b0 b1 s0 s1) l i S M ∧ M.length ≤ 2000 ∧ Blk wr w.heap.size 57 (TB l g) ∧ Below w.heap.size w wr
end Go.Proofs.YtcmfkdhadmfgkaaDoor.Fl
