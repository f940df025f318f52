/- Building a node of leaves: the mathematics. -/
import Derived.Test.YtahlinekbllkaaaGreatDoorTrM2
namespace Go.Proofs.YtahlinekbllkaaaGreatDoor.Tr
open Go.Proofs.YtahlinekbllkaaaGreatDoor.Ar Go.Proofs.YtahlinekbllkaaaGreatDoor.Mp
open Go.Proofs.YtahlinekbllkaaaGreatDoor.Si (cAt mem_pos pcn)

/-- A leaf, and its least point. -/
abbrev Plot := (Int × Int) × Nat
def plC (p : Plot) : List C := (Si.pos p.2 32).map (cAt p.1.1 p.1.2)
def memP (PL : List Plot) (c : C) : Prop := ∃ p ∈ PL, c ∈ plC p
structure PlIn (d : Nat) (x y : Int) (p : Plot) : Prop where
  x0 : x ≤ p.1.1
  x1 : p.1.1 + 4 ≤ x + sd d
  y0 : y ≤ p.1.2
  y1 : p.1.2 + 4 ≤ y + sd d
  xm : (p.1.1 - x) % 4 = 0
  ym : (p.1.2 - y) % 4 = 0
  ne : p.2 ≠ 0
  lt : p.2 < 4294967296
structure Pls (d : Nat) (x y : Int) (PL : List Plot) : Prop where
  all : ∀ p ∈ PL, PlIn d x y p
  nodup : (PL.map (·.1)).Nodup
/-- Which kid has a point. -/
def twd (d : Nat) (x y : Int) (p : Int × Int) : Nat := (if x + sd d ≤ p.1 then 1 else 0) + if y + sd d ≤ p.2 then 2 else 0
def prt (d : Nat) (x y : Int) (q : Nat) (PL : List Plot) : List Plot := PL.filter fun p => decide (twd d x y p.1 = q)
theorem twd_lt (d : Nat) (x y : Int) (p : Int × Int) : twd d x y p < 4 := by unfold twd; split <;> split <;> omega
theorem sd_four (d : Nat) : sd d % 4 = 0 := by
  cases d with
  | zero => decide
  | succ d => unfold sd; rw [show d + 1 + 2 = d + 1 + 1 + 1 by omega, Int.pow_succ, Int.pow_succ]; omega
theorem sd_ge (d : Nat) : 4 ≤ sd d := by have := sd_pos d; have := sd_four d; omega
section
variable {S S1 S2 : Sta} {d i j q : Nat} {x y : Int} {PL : List Plot} {k : K4} {e : Option Nat}
theorem plC_in {p : Plot} {c : C} (h : c ∈ plC p) : (p.1.1 ≤ c.1 ∧ c.1 < p.1.1 + 4) ∧ (p.1.2 ≤ c.2.1 ∧ c.2.1 < p.1.2 + 4) ∧ (c.2.2 = 0 ∨ c.2.2 = 1) := by
  unfold plC at h
  obtain ⟨b, hb, rfl⟩ := List.mem_map.1 h
  have hb := ((mem_pos _ _ _).1 hb).1
  unfold cAt
  refine ⟨?_, ?_, ?_⟩ <;> dsimp only <;> omega
theorem pl_sq {p : Plot} {c : C} (hp : PlIn d x y p) (h : c ∈ plC p) : inSq d x y c := by
  obtain ⟨h1, h2, h3⟩ := plC_in h
  have := hp.x0
  have := hp.x1
  have := hp.y0
  have := hp.y1
  exact ⟨by omega, by omega, h3⟩
theorem pl_kid {p : Plot} (hp : PlIn (d + 1) x y p) : PlIn d (px d x (twd d x y p.1)) (py d y (twd d x y p.1)) p := by
  obtain ⟨x0, x1, y0, y1, xm, ym, ne, lt⟩ := hp
  have h4 := sd_four d
  rw [sd_succ] at x1 y1
  unfold twd
  by_cases a : x + sd d ≤ p.1.1
  · by_cases b : y + sd d ≤ p.1.2
    · rw [if_pos a, if_pos b]
      refine ⟨?_, ?_, ?_, ?_, ?_, ?_, ne, lt⟩ <;> simp only [px, py] <;> simp <;> omega
    · rw [if_pos a, if_neg b]
      refine ⟨?_, ?_, ?_, ?_, ?_, ?_, ne, lt⟩ <;> simp only [px, py] <;> simp <;> omega
  · by_cases b : y + sd d ≤ p.1.2
    · rw [if_neg a, if_pos b]
      refine ⟨?_, ?_, ?_, ?_, ?_, ?_, ne, lt⟩ <;> simp only [px, py] <;> simp <;> omega
    · rw [if_neg a, if_neg b]
      refine ⟨?_, ?_, ?_, ?_, ?_, ?_, ne, lt⟩ <;> simp only [px, py] <;> simp <;> omega
theorem prt_pls (h : Pls (d + 1) x y PL) (q : Nat) : Pls d (px d x q) (py d y q) (prt d x y q PL) := by
  refine ⟨fun p hp => ?_, ?_⟩
  · obtain ⟨h1, h2⟩ := List.mem_filter.1 hp
    have h2 : twd d x y p.1 = q := by simpa using h2
    have := pl_kid (h.all p h1)
    rw [h2] at this
    exact this
  · exact h.nodup.sublist (List.filter_sublist.map _)
theorem mem_prt (h : Pls (d + 1) x y PL) (hq : q < 4) {c : C} : memP (prt d x y q PL) c ↔ memP PL c ∧ inSq d (px d x q) (py d y q) c := by
  constructor
  · rintro ⟨p, hp, hc⟩
    exact ⟨⟨p, (List.mem_filter.1 hp).1, hc⟩, pl_sq ((prt_pls h q).all p hp) hc⟩
  · rintro ⟨⟨p, hp, hc⟩, hs⟩
    refine ⟨p, List.mem_filter.2 ⟨hp, ?_⟩, hc⟩
    have := sq_one (twd_lt d x y p.1) hq (pl_sq (pl_kid (h.all p hp)) hc) hs
    simpa using this
theorem memP_sq (h : Pls d x y PL) {c : C} (hc : memP PL c) : inSq d x y c := by
  obtain ⟨p, hp, hc⟩ := hc
  exact pl_sq (h.all p hp) hc
theorem pls_perm {PL' : List Plot} (h : Pls d x y PL) (hp : PL'.Perm PL) : Pls d x y PL' := ⟨fun p hm => h.all p (hp.mem_iff.1 hm), (hp.map (·.1)).nodup_iff.2 h.nodup⟩
theorem memP_perm {PL' : List Plot} (hp : PL'.Perm PL) {c : C} : memP PL' c ↔ memP PL c := by
  unfold memP
  constructor
  · rintro ⟨p, h1, h2⟩; exact ⟨p, hp.mem_iff.1 h1, h2⟩
  · rintro ⟨p, h1, h2⟩; exact ⟨p, hp.mem_iff.2 h1, h2⟩
theorem pls_one {p : Plot} {L : List Plot} (h : Pls 0 x y (p :: L)) : L = [] ∧ p.1 = (x, y) := by
  have key : ∀ r ∈ p :: L, r.1 = (x, y) := fun r hr => by
    obtain ⟨x0, x1, y0, y1, _⟩ := h.all r hr
    have e : sd 0 = 4 := by decide
    rw [e] at x1 y1
    exact Prod.ext (by dsimp only; omega) (by dsimp only; omega)
  refine ⟨?_, key p (by simp)⟩
  cases L with
  | nil => rfl
  | cons r L =>
    have := h.nodup
    simp only [List.map_cons, List.nodup_cons] at this
    exact absurd ((key p (by simp)).trans (key r (by simp)).symm) (fun e => this.1 (by simp [e]))
/-! What building costs. -/
def cost (d : Nat) (PL : List Plot) : Nat := PL.length * (d + 1)
def costK (d : Nat) (x y : Int) (PL : List Plot) : Nat → Nat
  | 0 => 0
  | q + 1 => costK d x y PL q + cost d (prt d x y q PL)
def sumK (d : Nat) (x y : Int) (PL : List Plot) : Nat → Nat
  | 0 => 0
  | q + 1 => sumK d x y PL q + (prt d x y q PL).length
theorem sumK_le (d : Nat) (x y : Int) (PL : List Plot) : ∀ q, sumK d x y PL q = (PL.filter fun p => decide (twd d x y p.1 < q)).length
  | 0 => by rw [List.filter_eq_nil_iff.2 (fun p _ => by simp)]; rfl
  | q + 1 => by
    rw [sumK, sumK_le d x y PL q]
    unfold prt
    induction PL with
    | nil => rfl
    | cons p L ih =>
      by_cases a : twd d x y p.1 < q
      · rw [List.filter_cons_of_pos (by simpa using a), List.filter_cons_of_neg (by simp; omega), List.filter_cons_of_pos (by simp; omega), List.length_cons, List.length_cons]
        omega
      · by_cases b : twd d x y p.1 = q
        · rw [List.filter_cons_of_neg (by simpa using a), List.filter_cons_of_pos (by simpa using b), List.filter_cons_of_pos (by simp; omega), List.length_cons, List.length_cons]
          omega
        · rw [List.filter_cons_of_neg (by simpa using a), List.filter_cons_of_neg (by simpa using b), List.filter_cons_of_neg (by simp; omega)]
          exact ih
theorem costK_eq (d : Nat) (x y : Int) (PL : List Plot) : ∀ q, costK d x y PL q = sumK d x y PL q * (d + 1)
  | 0 => by simp [costK, sumK]
  | q + 1 => by rw [costK, sumK, Nat.add_mul, costK_eq d x y PL q]; rfl
theorem costK_all (h : PL ≠ []) (_hq : q ≤ 4) : costK d x y PL q + 1 ≤ cost (d + 1) PL := by
  have h1 := costK_eq d x y PL q
  have h2 := sumK_le d x y PL q
  have h3 : (PL.filter fun p => decide (twd d x y p.1 < q)).length ≤ PL.length := List.length_filter_le _ _
  have hl : PL.length ≠ 0 := fun e => h (List.eq_nil_of_length_eq_zero e)
  have h4 : sumK d x y PL q * (d + 1) ≤ PL.length * (d + 1) := Nat.mul_le_mul_right _ (by omega)
  have h5 : PL.length * (d + 1 + 1) = PL.length * (d + 1) + PL.length := by rw [Nat.mul_succ]
  unfold cost
  rw [h5]
  omega
/-! What it answers. -/
structure Bd (S : Sta) (d : Nat) (x y : Int) (PL : List Plot) (i : Nat) (e : Option Nat) (S' : Sta) : Prop where
  ext : Ext S S'
  ok : (e = none ∧ lvOk S'.N d i ∧ ∀ c, c ∈ cellsL S'.N d i x y ↔ memP PL c) ∨ (e = some 8 ∧ i = 0 ∧ full S')
  len : ne S'.N ≤ ne S.N + cost d PL
  old : ∀ j, lvOk S.N d j → (∀ c, c ∈ cellsL S.N d j x y ↔ memP PL c) → i = j ∧ e = none ∧ S' = S
theorem memP_nil {c : C} : ¬ memP [] c := by rintro ⟨p, hp, _⟩; simp at hp
theorem nil_of (h : ∀ c, c ∈ cellsL S.N d j x y ↔ memP [] c) : cellsL S.N d j x y = [] := nil_iff.1 fun c hc => memP_nil ((h c).1 hc)
theorem bd_empty (T : Tw S) (hd : d ≤ 42) : Bd S d x y [] (empL d S).1 (empL d S).2.1 (empL d S).2.2 := by
  have hold : ∀ j, lvOk S.N d j → (∀ c, c ∈ cellsL S.N d j x y ↔ memP [] c) → (empL d S).1 = j ∧ (empL d S).2.1 = none ∧ (empL d S).2.2 = S := fun j hj hc => by
    rw [emp_found T hj (nil_of hc)]
    exact ⟨rfl, rfl, rfl⟩
  have hc : cost d [] = 0 := by simp [cost]
  rcases emp_spec T d hd with ⟨h1, h2, h3, h4, h5⟩ | ⟨h1, h2, h3, h4, h5⟩
  · exact ⟨h2, .inl ⟨h1, h3, fun c => by rw [h4]; simp [memP_nil]⟩, by omega, hold⟩
  · exact ⟨h3, .inr ⟨h1, h2, h4⟩, by omega, hold⟩
theorem bd_known (T : Tw S) (hi : lvOk S.N d i) (hc : cellsL S.N d i x y = []) : Bd S d x y [] i none S :=
  ⟨Ext.refl T, .inl ⟨rfl, hi, fun c => by rw [hc]; simp [memP_nil]⟩, by omega, fun j hj h => ⟨uniq T hi hj fun c => by rw [hc, h c]; simp [memP_nil], rfl, rfl⟩⟩
theorem bits_of_cells {f g : Nat} (hf : f < 4294967296) (hg : g < 4294967296) (h : ∀ c, c ∈ (Si.pos f 32).map (cAt x y) ↔ c ∈ (Si.pos g 32).map (cAt x y)) : f = g := by
  refine bits_eq (by rw [p32]; exact hf) (by rw [p32]; exact hg) fun k hk => ?_
  have := h (cAt x y k)
  rw [mem_bits hk, mem_bits hk] at this
  rw [Bool.eq_iff_iff]
  exact this
theorem bd_leaf (T : Tw S) {p : Plot} (hp : p.1 = (x, y)) (hl : p.2 < 4294967296) : Bd S 0 x y [p] (leafR S p.2).1 (leafR S p.2).2.1 (leafR S p.2).2.2 := by
  have hm : ∀ c, memP [p] c ↔ c ∈ (Si.pos p.2 32).map (cAt x y) := fun c => by
    unfold memP plC
    constructor
    · rintro ⟨r, hr, hc⟩
      rw [List.mem_singleton.1 hr, hp] at hc
      exact hc
    · intro hc
      exact ⟨p, by simp, by rw [hp]; exact hc⟩
  have hold : ∀ j, lvOk S.N 0 j → (∀ c, c ∈ cellsL S.N 0 j x y ↔ memP [p] c) → (leafR S p.2).1 = j ∧ (leafR S p.2).2.1 = none ∧ (leafR S p.2).2.2 = S := fun j hj hc => by
    have e : p.2 = (ndAt S.N j).1.bits := bits_of_cells (x := x) (y := y) hl (by have := leaf_bits T hj; rw [p32] at this; exact this) fun c => by
      rw [← hm c, ← hc c]
      rfl
    rw [e, leaf_found T hj]
    exact ⟨rfl, rfl, rfl⟩
  have hc : cost 0 [p] = 1 := by simp [cost]
  rcases leaf_spec T hl with ⟨h1, h2, h3, h4, h5⟩ | ⟨h1, h2⟩
  · refine ⟨h2, .inl ⟨h1, h3, fun c => ?_⟩, by omega, hold⟩
    rw [hm]
    show c ∈ (Si.pos (ndAt (leafR S p.2).2.2.N (leafR S p.2).1).1.bits 32).map (cAt x y) ↔ _
    rw [h4]
  · rw [h1] at hold ⊢
    exact ⟨Ext.refl T, .inr ⟨rfl, rfl, h2⟩, by dsimp only; omega, hold⟩
/-! Kid by kid. -/
def kset (k : K4) (q i : Nat) : K4 := match q with
  | 0 => (i, k.2.1, k.2.2.1, k.2.2.2)
  | 1 => (k.1, i, k.2.2.1, k.2.2.2)
  | 2 => (k.1, k.2.1, i, k.2.2.2)
  | _ => (k.1, k.2.1, k.2.2.1, i)
theorem kd_set (k : K4) {q r : Nat} (i : Nat) (hq : q < 4) (hr : r < 4) : kd (kset k q i) r = if r = q then i else kd k r := by
  rcases four hq with rfl | rfl | rfl | rfl <;> rcases four hr with rfl | rfl | rfl | rfl <;> simp [kset, kd]
structure Bk (S : Sta) (d : Nat) (x y : Int) (PL : List Plot) (q : Nat) (k : K4) (S1 : Sta) : Prop where
  ext : Ext S S1
  kid : ∀ r, r < q → lvOk S1.N d (kd k r) ∧ ∀ c, c ∈ cellsL S1.N d (kd k r) (px d x r) (py d y r) ↔ memP PL c ∧ inSq d (px d x r) (py d y r) c
  len : ne S1.N ≤ ne S.N + costK d x y PL q
  old : ∀ j, lvOk S.N (d + 1) j → (∀ c, c ∈ cellsL S.N (d + 1) j x y ↔ memP PL c) → S1 = S ∧ ∀ r, r < q → kd k r = kd (ndAt S.N j).1.k r
theorem bk_zero (T : Tw S) (k : K4) : Bk S d x y PL 0 k S := ⟨Ext.refl T, fun r hr => by omega, by simp [costK], fun j _ _ => ⟨rfl, fun r hr => by omega⟩⟩
theorem kid_cells (hj : ∀ c, c ∈ cellsL S.N (d + 1) j x y ↔ memP PL c) (hq : q < 4) (c : C) : c ∈ cellsL S.N d (kd (ndAt S.N j).1.k q) (px d x q) (py d y q) ↔ memP PL c ∧ inSq d (px d x q) (py d y q) c := by
  constructor
  · intro h
    have hs := cells_in h
    exact ⟨(hj c).1 ((cells_kid hq hs).2 h), hs⟩
  · rintro ⟨h1, hs⟩
    exact (cells_kid hq hs).1 ((hj c).2 h1)
theorem bk_step (T : Tw S) (hP : Pls (d + 1) x y PL) (h : Bk S d x y PL q k S1) (hq : q < 4) (hb : Bd S1 d (px d x q) (py d y q) (prt d x y q PL) i none S2) : Bk S d x y PL (q + 1) (kset k q i) S2 := by
  refine ⟨h.ext.trans hb.ext, fun r hr => ?_, ?_, fun j hj hc => ?_⟩
  · rw [kd_set k i hq (by omega)]
    by_cases e : r = q
    · subst e
      rw [if_pos rfl]
      rcases hb.ok with ⟨_, h2, h3⟩ | ⟨h1, _⟩
      · exact ⟨h2, fun c => by rw [h3 c, mem_prt hP hq]⟩
      · cases h1
    · rw [if_neg e]
      obtain ⟨h1, h2⟩ := h.kid r (by omega)
      exact ⟨hb.ext.lv h1, fun c => by rw [hb.ext.cells h.ext.tw h1]; exact h2 c⟩
  · have := h.len
    have := hb.len
    rw [costK]
    omega
  · obtain ⟨rfl, h2⟩ := h.old j hj hc
    obtain ⟨h3, _, rfl⟩ := hb.old _ (kid_ok T hj hq) fun c => by rw [kid_cells hc hq, mem_prt hP hq]
    refine ⟨rfl, fun r hr => ?_⟩
    rw [kd_set k i hq (by omega)]
    by_cases e : r = q
    · rw [if_pos e, e]; exact h3
    · rw [if_neg e]; exact h2 r (by omega)
theorem bk_stop (T : Tw S) (hP : Pls (d + 1) x y PL) (hne : PL ≠ []) (h : Bk S d x y PL q k S1) (hq : q < 4) {c : Nat} (hb : Bd S1 d (px d x q) (py d y q) (prt d x y q PL) i (some c) S2) : Bd S (d + 1) x y PL 0 (some c) S2 := by
  refine ⟨h.ext.trans hb.ext, ?_, ?_, fun j hj hc => ?_⟩
  · rcases hb.ok with ⟨h1, _⟩ | ⟨h1, _, h3⟩
    · cases h1
    · exact .inr ⟨h1, rfl, h3⟩
  · have h1 := h.len
    have h2 := hb.len
    have h3 := costK_all (d := d) (x := x) (y := y) hne (show q + 1 ≤ 4 by omega)
    rw [costK] at h3
    omega
  · obtain ⟨rfl, h2⟩ := h.old j hj hc
    obtain ⟨_, h4, _⟩ := hb.old _ (kid_ok T hj hq) fun c => by rw [kid_cells hc hq, mem_prt hP hq]
    cases h4
theorem bk_done (T : Tw S) (hP : Pls (d + 1) x y PL) (hne : PL ≠ []) (hd : d ≤ 41) (h : Bk S d x y PL 4 k S1) : Bd S (d + 1) x y PL (joinR S1 k).1 (joinR S1 k).2.1 (joinR S1 k).2.2 := by
  have hold : ∀ j, lvOk S.N (d + 1) j → (∀ c, c ∈ cellsL S.N (d + 1) j x y ↔ memP PL c) → (joinR S1 k).1 = j ∧ (joinR S1 k).2.1 = none ∧ (joinR S1 k).2.2 = S := fun j hj hc => by
    obtain ⟨rfl, h2⟩ := h.old j hj hc
    have e : k = (ndAt S1.N j).1.k := by
      have a := h2 0 (by decide)
      have b := h2 1 (by decide)
      have c := h2 2 (by decide)
      have e := h2 3 (by decide)
      exact Prod.ext a (Prod.ext b (Prod.ext c e))
    rw [e, join_found T hj]
    exact ⟨rfl, rfl, rfl⟩
  have hl := h.len
  have hk := costK_all (d := d) (x := x) (y := y) hne (show 4 ≤ 4 by omega)
  rcases join_spec h.ext.tw (fun q hq => (h.kid q hq).1) hd with ⟨h1, h2, h3, h4, h5, _⟩ | ⟨h1, h2⟩
  · refine ⟨h.ext.trans h2, .inl ⟨h1, h3, fun c => ?_⟩, by omega, hold⟩
    rw [cells_four h4]
    constructor
    · rintro ⟨q, hq, hc⟩
      rw [h2.cells h.ext.tw (h.kid q hq).1] at hc
      exact (((h.kid q hq).2 c).1 hc).1
    · intro hc
      obtain ⟨q, hq, hs⟩ := sq_down (memP_sq hP hc)
      refine ⟨q, hq, ?_⟩
      rw [h2.cells h.ext.tw (h.kid q hq).1]
      exact ((h.kid q hq).2 c).2 ⟨hc, hs⟩
  · rw [h1] at hold ⊢
    exact ⟨h.ext, .inr ⟨rfl, rfl, h2⟩, by dsimp only; omega, hold⟩
theorem bd_perm {PL' : List Plot} (hp : PL'.Perm PL) (h : Bd S d x y PL' i e S1) : Bd S d x y PL i e S1 := by
  have hc : cost d PL' = cost d PL := by unfold cost; rw [hp.length_eq]
  refine ⟨h.ext, ?_, by rw [← hc]; exact h.len, fun j hj h2 => h.old j hj fun c => by rw [h2 c, memP_perm hp]⟩
  rcases h.ok with ⟨a, b, c⟩ | k
  · exact .inl ⟨a, b, fun z => by rw [c z, memP_perm hp]⟩
  · exact .inr k
end
end Go.Proofs.YtahlinekbllkaaaGreatDoor.Tr
