/- Trees of nodes: which cells live in them; equal squares are one node. -/
import Derived.Test.YtahlinekbllkaaaGreatDoorArWf
import Derived.Test.YtahlinekbllkaaaGreatDoorSiQ
namespace Go.Proofs.YtahlinekbllkaaaGreatDoor.Tr
open Go.Proofs.YtahlinekbllkaaaGreatDoor.Ar Go.Proofs.YtahlinekbllkaaaGreatDoor.Mp
open Go.Proofs.YtahlinekbllkaaaGreatDoor.Si (cAt mem_pos leaf_nodup pcn pos_len)

abbrev C := Int × Int × Int
/-- A node's side, its level being d and 2. -/
def sd (d : Nat) : Int := 2 ^ (d + 2)
theorem sd_succ (d : Nat) : sd (d + 1) = 2 * sd d := by unfold sd; rw [Int.pow_succ]; omega
theorem sd_pos : ∀ d, 0 < sd d
  | 0 => by decide
  | d + 1 => by rw [sd_succ]; have := sd_pos d; omega
def kd (k : K4) : Nat → Nat
  | 0 => k.1
  | 1 => k.2.1
  | 2 => k.2.2.1
  | _ => k.2.2.2
def px (d : Nat) (x : Int) (q : Nat) : Int := x + ((q % 2 : Nat) : Int) * sd d
def py (d : Nat) (y : Int) (q : Nat) : Int := y + ((q / 2 : Nat) : Int) * sd d
theorem four {q : Nat} (h : q < 4) : q = 0 ∨ q = 1 ∨ q = 2 ∨ q = 3 := by omega
theorem kd_mem (k : K4) {q : Nat} (h : q < 4) : kd k q ∈ kli k := by rcases four h with rfl | rfl | rfl | rfl <;> simp [kd, kli]
/-- The cells of a node, its least point being there. -/
def cellsL (N : List Nd) : Nat → Nat → Int → Int → List C
  | 0, i, x, y => (Si.pos (ndAt N i).1.bits 32).map (cAt x y)
  | d + 1, i, x, y => (List.range 4).flatMap fun q => cellsL N d (kd (ndAt N i).1.k q) (px d x q) (py d y q)
theorem cells_succ (N : List Nd) (d i : Nat) (x y : Int) : cellsL N (d + 1) i x y = (List.range 4).flatMap fun q => cellsL N d (kd (ndAt N i).1.k q) (px d x q) (py d y q) := rfl
def inSq (d : Nat) (x y : Int) (c : C) : Prop := (x ≤ c.1 ∧ c.1 < x + sd d) ∧ (y ≤ c.2.1 ∧ c.2.1 < y + sd d) ∧ (c.2.2 = 0 ∨ c.2.2 = 1)
section
variable {d : Nat} {x y : Int} {c : C}
theorem pxy {q : Nat} (h : q < 4) : (q = 0 ∧ px d x q = x ∧ py d y q = y) ∨ (q = 1 ∧ px d x q = x + sd d ∧ py d y q = y) ∨ (q = 2 ∧ px d x q = x ∧ py d y q = y + sd d) ∨ (q = 3 ∧ px d x q = x + sd d ∧ py d y q = y + sd d) := by
  rcases four h with rfl | rfl | rfl | rfl <;> simp [px, py]
theorem sq_one {q r : Nat} (hq : q < 4) (hr : r < 4) (h : inSq d (px d x q) (py d y q) c) (k : inSq d (px d x r) (py d y r) c) : q = r := by
  obtain ⟨h1, h2, _⟩ := h
  obtain ⟨k1, k2, _⟩ := k
  have hp := sd_pos d
  rcases pxy (d := d) (x := x) (y := y) hq with ⟨e, e1, e2⟩ | ⟨e, e1, e2⟩ | ⟨e, e1, e2⟩ | ⟨e, e1, e2⟩ <;> rw [e1] at h1 <;> rw [e2] at h2 <;>
  rcases pxy (d := d) (x := x) (y := y) hr with ⟨f, f1, f2⟩ | ⟨f, f1, f2⟩ | ⟨f, f1, f2⟩ | ⟨f, f1, f2⟩ <;> rw [f1] at k1 <;> rw [f2] at k2 <;> omega
theorem sq_up {q : Nat} (hq : q < 4) (h : inSq d (px d x q) (py d y q) c) : inSq (d + 1) x y c := by
  obtain ⟨h1, h2, h3⟩ := h
  have hp := sd_pos d
  unfold inSq
  rw [sd_succ]
  rcases pxy (d := d) (x := x) (y := y) hq with ⟨e, e1, e2⟩ | ⟨e, e1, e2⟩ | ⟨e, e1, e2⟩ | ⟨e, e1, e2⟩ <;> rw [e1] at h1 <;> rw [e2] at h2 <;> exact ⟨by omega, by omega, h3⟩
theorem sq_down (h : inSq (d + 1) x y c) : ∃ q, q < 4 ∧ inSq d (px d x q) (py d y q) c := by
  obtain ⟨h1, h2, h3⟩ := h
  rw [sd_succ] at h1 h2
  by_cases a : c.1 < x + sd d
  · by_cases b : c.2.1 < y + sd d
    · exact ⟨0, by omega, by unfold inSq; simp only [px, py]; exact ⟨by simp; omega, by simp; omega, h3⟩⟩
    · exact ⟨2, by omega, by unfold inSq; simp only [px, py]; exact ⟨by simp; omega, by simp; omega, h3⟩⟩
  · by_cases b : c.2.1 < y + sd d
    · exact ⟨1, by omega, by unfold inSq; simp only [px, py]; exact ⟨by simp; omega, by simp; omega, h3⟩⟩
    · exact ⟨3, by omega, by unfold inSq; simp only [px, py]; exact ⟨by simp; omega, by simp; omega, h3⟩⟩
end
theorem mem_cells {N : List Nd} {d i : Nat} {x y : Int} {c : C} : c ∈ cellsL N (d + 1) i x y ↔ ∃ q, q < 4 ∧ c ∈ cellsL N d (kd (ndAt N i).1.k q) (px d x q) (py d y q) := by
  rw [cells_succ, List.mem_flatMap]
  simp only [List.mem_range]
theorem cells_in {N : List Nd} : ∀ {d i : Nat} {x y : Int} {c : C}, c ∈ cellsL N d i x y → inSq d x y c
  | 0, i, x, y, c, h => by
    unfold cellsL at h
    obtain ⟨b, hb, rfl⟩ := List.mem_map.1 h
    have hb := ((mem_pos _ _ _).1 hb).1
    unfold inSq cAt sd
    refine ⟨?_, ?_, ?_⟩ <;> dsimp only <;> omega
  | d + 1, i, x, y, c, h => by
    obtain ⟨q, hq, hc⟩ := mem_cells.1 h
    exact sq_up hq (cells_in hc)
theorem cells_kid {N : List Nd} {d i q : Nat} {x y : Int} {c : C} (hq : q < 4) (hs : inSq d (px d x q) (py d y q) c) : c ∈ cellsL N (d + 1) i x y ↔ c ∈ cellsL N d (kd (ndAt N i).1.k q) (px d x q) (py d y q) := by
  rw [mem_cells]
  constructor
  · rintro ⟨r, hr, hc⟩
    have := sq_one hq hr hs (cells_in hc)
    subst this
    exact hc
  · exact fun h => ⟨q, hq, h⟩
theorem cells_nodup (N : List Nd) : ∀ (d i : Nat) (x y : Int), (cellsL N d i x y).Nodup
  | 0, i, x, y => leaf_nodup _ _ _
  | d + 1, i, x, y => by
    rw [cells_succ]
    unfold List.Nodup
    rw [List.pairwise_flatMap]
    refine ⟨fun q _ => cells_nodup N d _ _ _, ?_⟩
    have hr : (List.range 4).Pairwise (· ≠ ·) := List.nodup_range
    refine hr.imp_of_mem ?_
    intro a b ha hb hne u hu v hv e
    subst e
    exact hne (sq_one (List.mem_range.1 ha) (List.mem_range.1 hb) (cells_in hu) (cells_in hv))
/-! Arenas whose leaves are words. -/
structure Tw (S : Sta) : Prop where
  wf : Wf S
  nok : Nok S.N
  bits : ∀ nd ∈ S.N, nd.bits < 4294967296
def lvOk (N : List Nd) (d i : Nat) : Prop := levelOf N i = (d : Int) + 2
section
variable {S : Sta} {d i j : Nat} {x y : Int}
theorem lv_is {N : List Nd} (h : lvOk N d i) : (ndAt N i).2 = true ∧ (ndAt N i).1.level = (d : Int) + 2 := by
  unfold lvOk levelOf at h
  split at h
  · rename_i h1; exact ⟨h1, h⟩
  · omega
theorem lv_of {N : List Nd} (h : (ndAt N i).2 = true) (k : (ndAt N i).1.level = (d : Int) + 2) : lvOk N d i := by
  unfold lvOk levelOf
  rw [if_pos h]
  exact k
theorem lv_le {N : List Nd} (h : lvOk N d i) : i ≤ N.length := by
  have h := (lv_is h).1
  unfold ndAt at h
  by_cases h0 : i = 0
  · omega
  · rw [if_neg h0] at h
    cases hd : N[i - 1]? with
    | none => rw [hd] at h; cases h
    | some nd => have := (List.getElem?_eq_some_iff.1 hd).1; omega
theorem lv_zero (N : List Nd) : lvOk N 0 0 := lv_of (by simp [ndAt]) (by simp [ndAt, leaf0])
theorem lv_get {N : List Nd} (h : lvOk N d i) (h0 : i ≠ 0) : ∃ nd, N[i - 1]? = some nd ∧ ndAt N i = (nd, true) ∧ nd.level = (d : Int) + 2 := by
  obtain ⟨h1, h2⟩ := lv_is h
  unfold ndAt at h1 h2 ⊢
  rw [if_neg h0] at h1 h2 ⊢
  cases hd : N[i - 1]? with
  | none => rw [hd] at h1; cases h1
  | some nd => rw [hd] at h2; exact ⟨nd, rfl, rfl, h2⟩
theorem leaf_case (T : Tw S) (h : lvOk S.N 0 i) (h0 : i ≠ 0) : ∃ f, f ≠ 0 ∧ f < 4294967296 ∧ S.N[i - 1]? = some (leafNd f) ∧ ndAt S.N i = (leafNd f, true) ∧ S.L f = some i := by
  obtain ⟨nd, h1, h2, h3⟩ := lv_get h h0
  rcases T.wf.kinds nd (List.mem_of_getElem? h1) with ⟨f, hf, rfl⟩ | ⟨h4, _⟩
  · exact ⟨f, hf, T.bits _ (List.mem_of_getElem? h1), h1, h2, (T.wf.leaf f i).2 ⟨hf, by omega, h1⟩⟩
  · omega
theorem node_case (T : Tw S) (h : lvOk S.N (d + 1) i) : ∃ nd, i ≠ 0 ∧ S.N[i - 1]? = some nd ∧ ndAt S.N i = (nd, true) ∧ nd.level = (d : Int) + 3 ∧ aboveR S.N nd.k = (nd, none) ∧ S.J nd.k = some i := by
  have h0 : i ≠ 0 := by
    rintro rfl
    have := (lv_is h).2
    simp [ndAt, leaf0] at this
    omega
  obtain ⟨nd, h1, h2, h3⟩ := lv_get h h0
  have h3 : nd.level = (d : Int) + 3 := by rw [h3]; omega
  rcases T.wf.kinds nd (List.mem_of_getElem? h1) with ⟨f, hf, rfl⟩ | ⟨h4, h5⟩
  · have : (leafNd f).level = 2 := rfl
    omega
  · exact ⟨nd, h0, h1, h2, h3, h5, (T.wf.join nd.k i).2 ⟨by omega, nd, h1, rfl, h4⟩⟩
theorem above_lv {N : List Nd} {k : K4} {nd : Nd} (h : aboveR N k = (nd, none)) : nd = ⟨cntS N (kli k), k, 0, levelOf N k.1 + 1⟩ ∧ levelOf N k.1 < 44 ∧ ∀ q, q < 4 → levelOf N (kd k q) = levelOf N k.1 := by
  have hk := above_kids h
  unfold aboveR at h
  split at h
  · split at h
    · simp at h
    · simp only [Prod.mk.injEq, and_true] at h
      refine ⟨h.symm, by omega, fun q hq => ?_⟩
      have := hk _ (kd_mem k hq)
      unfold kidOk at this
      simp only [Bool.and_eq_true, decide_eq_true_eq] at this
      unfold levelOf at this ⊢
      rw [if_pos this.1]
      exact this.2
  · simp at h
theorem kid_ok (T : Tw S) (h : lvOk S.N (d + 1) i) {q : Nat} (hq : q < 4) : lvOk S.N d (kd (ndAt S.N i).1.k q) := by
  obtain ⟨nd, _, _, h2, h3, h4, _⟩ := node_case T h
  obtain ⟨h5, _, h6⟩ := above_lv h4
  rw [h2]
  unfold lvOk
  rw [h6 q hq]
  rw [h5] at h3
  dsimp only at h3
  omega
theorem cAt_inj {a b : Nat} (h : cAt x y a = cAt x y b) : a = b := by
  unfold cAt at h
  simp only [Prod.mk.injEq] at h
  omega
theorem bits_high {f k : Nat} (hf : f < 2 ^ 32) (hk : 32 ≤ k) : f.testBit k = false := Nat.testBit_lt_two_pow (Nat.lt_of_lt_of_le hf (Nat.pow_le_pow_right (by decide) hk))
theorem bits_eq {f g : Nat} (hf : f < 2 ^ 32) (hg : g < 2 ^ 32) (h : ∀ k, k < 32 → f.testBit k = g.testBit k) : f = g := by
  refine Nat.eq_of_testBit_eq fun k => ?_
  rcases Nat.lt_or_ge k 32 with hk | hk
  · exact h k hk
  · rw [bits_high hf hk, bits_high hg hk]
theorem p32 : (2 : Nat) ^ 32 = 4294967296 := by decide
theorem leaf_bits (T : Tw S) (h : lvOk S.N 0 i) : (ndAt S.N i).1.bits < 2 ^ 32 := by
  rw [p32]
  by_cases h0 : i = 0
  · subst h0
    have e : (ndAt S.N 0).1.bits = 0 := by simp [ndAt, leaf0]
    omega
  · obtain ⟨f, _, f1, _, h2, _⟩ := leaf_case T h h0
    rw [h2]
    exact f1
theorem leaf_same (T : Tw S) (hi : lvOk S.N 0 i) (hj : lvOk S.N 0 j) (h : (ndAt S.N i).1.bits = (ndAt S.N j).1.bits) : i = j := by
  have h0 : (ndAt S.N 0).1.bits = 0 := by simp [ndAt, leaf0]
  by_cases i0 : i = 0
  · by_cases j0 : j = 0
    · rw [i0, j0]
    · obtain ⟨f, f0, _, _, h2, _⟩ := leaf_case T hj j0
      rw [i0, h0, h2] at h
      exact absurd h.symm f0
  · obtain ⟨f, f0, _, _, h2, h3⟩ := leaf_case T hi i0
    by_cases j0 : j = 0
    · rw [j0, h0, h2] at h
      exact absurd h f0
    · obtain ⟨g, _, _, _, k2, k3⟩ := leaf_case T hj j0
      rw [h2, k2] at h
      have h : f = g := h
      rw [h, k3] at h3
      exact (Option.some.inj h3).symm
theorem mem_bits {f k : Nat} (hk : k < 32) : cAt x y k ∈ (Si.pos f 32).map (cAt x y) ↔ f.testBit k = true := by
  rw [List.mem_map]
  constructor
  · rintro ⟨b, hb, e⟩
    obtain ⟨h1, h2⟩ := (mem_pos _ _ _).1 hb
    rw [← cAt_inj e]; exact h2
  · exact fun h => ⟨k, (mem_pos _ _ _).2 ⟨hk, h⟩, rfl⟩
/-- Equal squares are one node. -/
theorem uniq_base (T : Tw S) (hi : lvOk S.N 0 i) (hj : lvOk S.N 0 j) (h : ∀ c, c ∈ cellsL S.N 0 i x y ↔ c ∈ cellsL S.N 0 j x y) : i = j := by
  refine leaf_same T hi hj (bits_eq (leaf_bits T hi) (leaf_bits T hj) fun k hk => ?_)
  have h1 : cAt x y k ∈ cellsL S.N 0 i x y ↔ cAt x y k ∈ cellsL S.N 0 j x y := h (cAt x y k)
  have h2 : cAt x y k ∈ (Si.pos (ndAt S.N i).1.bits 32).map (cAt x y) ↔ cAt x y k ∈ (Si.pos (ndAt S.N j).1.bits 32).map (cAt x y) := h1
  rw [mem_bits hk, mem_bits hk] at h2
  rw [Bool.eq_iff_iff]
  exact h2
theorem uniq_step (T : Tw S) (ih : ∀ {i j : Nat} {x y : Int}, lvOk S.N d i → lvOk S.N d j → (∀ c, c ∈ cellsL S.N d i x y ↔ c ∈ cellsL S.N d j x y) → i = j) (hi : lvOk S.N (d + 1) i) (hj : lvOk S.N (d + 1) j) (h : ∀ c, c ∈ cellsL S.N (d + 1) i x y ↔ c ∈ cellsL S.N (d + 1) j x y) : i = j := by
  obtain ⟨nd, _, _, h2, _, _, h5⟩ := node_case T hi
  obtain ⟨md, _, _, k2, _, _, k5⟩ := node_case T hj
  have hk : ∀ q, q < 4 → kd nd.k q = kd md.k q := fun q hq => by
    have hi' := kid_ok T hi hq
    have hj' := kid_ok T hj hq
    rw [h2] at hi'
    rw [k2] at hj'
    refine ih hi' hj' (x := px d x q) (y := py d y q) fun c => ?_
    constructor
    · intro hc
      have hs := cells_in hc
      have h6 := (cells_kid (N := S.N) (i := i) hq hs).2 (by rw [h2]; exact hc)
      have h7 := (cells_kid (N := S.N) (i := j) hq hs).1 ((h c).1 h6)
      rw [k2] at h7
      exact h7
    · intro hc
      have hs := cells_in hc
      have h6 := (cells_kid (N := S.N) (i := j) hq hs).2 (by rw [k2]; exact hc)
      have h7 := (cells_kid (N := S.N) (i := i) hq hs).1 ((h c).2 h6)
      rw [h2] at h7
      exact h7
  have e : nd.k = md.k := by
    have a := hk 0 (by decide)
    have b := hk 1 (by decide)
    have c := hk 2 (by decide)
    have e := hk 3 (by decide)
    simp only [kd] at a b c e
    exact Prod.ext a (Prod.ext b (Prod.ext c e))
  rw [e] at h5
  rw [h5] at k5
  exact Option.some.inj k5
theorem uniq (T : Tw S) : ∀ {d i j : Nat} {x y : Int}, lvOk S.N d i → lvOk S.N d j → (∀ c, c ∈ cellsL S.N d i x y ↔ c ∈ cellsL S.N d j x y) → i = j := by
  intro d
  induction d with
  | zero => exact fun hi hj h => uniq_base T hi hj h
  | succ d ih => exact fun hi hj h => uniq_step T ih hi hj h
/-- How many there are. -/
def mxC : Nat := 4611686018427387904
theorem count_leaf (T : Tw S) (h : lvOk S.N 0 i) : (ndAt S.N i).1.count = pcn (ndAt S.N i).1.bits 32 := by
  by_cases h0 : i = 0
  · subst h0
    have e : (ndAt S.N 0).1 = leaf0 := by simp [ndAt]
    rw [e]
    show 0 = pcn 0 32
    decide
  · obtain ⟨f, _, _, _, h2, _⟩ := leaf_case T h h0
    rw [h2]
    rfl
theorem cnt_four {N : List Nd} {k : K4} {a b c e : Nat} (ha : (ndAt N k.1).1.count = min a mxC) (hb : (ndAt N k.2.1).1.count = min b mxC) (hc : (ndAt N k.2.2.1).1.count = min c mxC) (he : (ndAt N k.2.2.2).1.count = min e mxC) : cntS N (kli k) = min (a + (b + (c + e))) mxC := by
  unfold cntS kli
  simp only [List.foldl_cons, List.foldl_nil]
  rw [ha, hb, hc, he]
  unfold mxC
  omega
theorem count_eq (T : Tw S) : ∀ {d i : Nat} {x y : Int}, lvOk S.N d i → (ndAt S.N i).1.count = min (cellsL S.N d i x y).length mxC
  | 0, i, x, y, h => by
    rw [count_leaf T h]
    unfold cellsL mxC
    rw [List.length_map, pos_len]
    have := Go.Proofs.YtahlinekbllkaaaGreatDoor.Si.pcn_le (ndAt S.N i).1.bits 32
    omega
  | d + 1, i, x, y, h => by
    obtain ⟨nd, _, _, h2, _, h4, _⟩ := node_case T h
    obtain ⟨h5, _, _⟩ := above_lv h4
    have hk : ∀ q, q < 4 → (ndAt S.N (kd nd.k q)).1.count = min (cellsL S.N d (kd nd.k q) (px d x q) (py d y q)).length mxC := fun q hq => by
      have := kid_ok T h hq
      rw [h2] at this
      exact count_eq T this
    rw [cells_succ, h2, show List.range 4 = [0, 1, 2, 3] from rfl]
    simp only [List.flatMap_cons, List.flatMap_nil, List.append_nil, List.length_append]
    have hc : nd.count = cntS S.N (kli nd.k) := by rw [h5]
    rw [hc]
    exact cnt_four (hk 0 (by decide)) (hk 1 (by decide)) (hk 2 (by decide)) (hk 3 (by decide))
end
end Go.Proofs.YtahlinekbllkaaaGreatDoor.Tr
