/- Lists of cells in memory; cell.Compare, as the library's sorts ask it. -/
import Derived.Test.YtkejniadapnofaaSeM
import Derived.Test.YtkejniadapnofaaAxEq
import Derived.Test.YtkejniadapnofaaSh
namespace Go.Proofs.Ytkejniadapnofaa.Se
open Go.RowKit Go.Proofs.Ytkejniadapnofaa.Ax Go.Proofs.Ytkejniadapnofaa.Ba Go.Shelf Go.Lib Go.Sort

abbrev Ce (c : C) : Value := .agg #[.int .i64 c.1, .int .i64 c.2.1, .int .i64 c.2.2]
def encC (c : C) : List Value := [.int .i64 c.1, .int .i64 c.2.1, .int .i64 c.2.2]
theorem grow_step {w W w' : World} (h : ∃ q os, W = grow (w.drewN q) os) (k : ∃ q os, w' = grow (W.drewN q) os) : ∃ q os, w' = grow (w.drewN q) os := by
  obtain ⟨q, os, rfl⟩ := h
  obtain ⟨q', os', rfl⟩ := k
  refine ⟨q + q', os ++ os', ?_⟩
  rw [← grow_grow, ← World.drewN_drewN]
  rfl
theorem grow_alloc {w W : World} (h : ∃ q os, W = grow (w.drewN q) os) (o : Obj) : ∃ q os, W.alloc o = grow (w.drewN q) os := by
  obtain ⟨q, os, rfl⟩ := h
  exact ⟨q, os ++ #[o], by rw [alloc_eq_grow, grow_grow]⟩
theorem grow_refl (w : World) : ∃ q os, w = grow (w.drewN q) os := ⟨0, #[], by simp [World.drewN]⟩
def lessB (a b c d : Int) : Bool := decide (b < d ∨ b = d ∧ a < c)
theorem less_grow (a b c d : Int) (w : World) :
    Calls Try.prog 51 #[Pt a b, Pt c d] w fun e w' => e = .returned (.bool (lessB a b c d)) ∧ ∃ q os, w' = grow (w.drewN q) os := by
  by_cases h : b = d
  · have h1 : (b != d) = false := by simp [h]
    have e : lessB a b c d = decide (a < c) := by unfold lessB; simp [h]
    rw [e]
    have H := Lib.hid h
    clear h e
    go_enter Try.func51, Try.ntmps51
    go_wp2
    go_ret
    exact ⟨rfl, grow_alloc (grow_alloc (grow_refl _) _) _⟩
  · have h1 : (b != d) = true := by simp [h]
    have e : lessB a b c d = decide (b < d) := by unfold lessB; simp [h]
    rw [e]
    clear h e
    go_enter Try.func51, Try.ntmps51
    go_wp2
    go_ret
    exact ⟨rfl, grow_alloc (grow_alloc (grow_refl _) _) _⟩
theorem isNaN_any (n : Int) (w : World) :
    Calls Try.prog 70 #[.int .i64 n] w fun e w' => e = .returned (.bool false) ∧ w = w' := by
  have h : (n != n) = false := by simp
  go_enter Try.func70, Try.ntmps70
  go_wp2
  go_ret
  exact ⟨rfl, rfl⟩
def cmpV (x y : Int) : Int := if x < y then -1 else if y < x then 1 else 0
theorem cmpcmp_any (x y : Int) (w : World) :
    Calls Try.prog 50 #[.int .i64 x, .int .i64 y] w fun e w' => e = .returned (.int .i64 (cmpV x y)) ∧ w = w' := by
  unfold cmpV
  by_cases h1 : x < y
  · rw [if_pos h1]
    (go_enter Try.func50, Try.ntmps50; go_wp2_with (go_at_call 70; refine (isNaN_any _ _).mono ?_; rintro e w' ⟨rfl, rfl⟩); go_ret; exact ⟨rfl, rfl⟩)
  · rw [if_neg h1]
    by_cases h2 : y < x
    · rw [if_pos h2]
      (go_enter Try.func50, Try.ntmps50; go_wp2_with (go_at_call 70; refine (isNaN_any _ _).mono ?_; rintro e w' ⟨rfl, rfl⟩); go_ret; exact ⟨rfl, rfl⟩)
    · rw [if_neg h2]
      (go_enter Try.func50, Try.ntmps50; go_wp2_with (go_at_call 70; refine (isNaN_any _ _).mono ?_; rintro e w' ⟨rfl, rfl⟩); go_ret; exact ⟨rfl, rfl⟩)
/-- -1, 0 or 1: a cell is ahead of another, it is that, it is behind it. -/
def cf (c d : C) : Int := if lt c d = true then -1 else if c = d then 0 else 1
def ceCmp (a b h c d k : Int) : Int := if (a == c && b == d) = true then cmpV h k else if lessB a b c d = true then -1 else 1
theorem ceCmp_cf (c d : C) : ceCmp c.1 c.2.1 c.2.2 d.1 d.2.1 d.2.2 = cf c d := by
  obtain ⟨a, b, h⟩ := c
  obtain ⟨a', b', h'⟩ := d
  unfold ceCmp cf lt cmpV lessB
  by_cases h1 : a = a' <;> by_cases h2 : b = b' <;> simp [h1, h2]
  by_cases h3 : h < h'
  · simp [h3]
  · by_cases h4 : h' < h
    · simp [h3, h4]; omega
    · simp [h3, h4]; omega
theorem compare_at (a b h c d k : Int) (w : World) :
    Calls Try.prog 29 #[.agg #[.int .i64 a, .int .i64 b, .int .i64 h], .agg #[.int .i64 c, .int .i64 d, .int .i64 k]] w fun e w' => e = .returned (.int .i64 (ceCmp a b h c d k)) ∧ ∃ q os, w' = grow (w.drewN q) os := by
  unfold ceCmp
  have ep := eql_pt a b c d
  cases g1 : (a == c && b == d)
  · rw [if_neg (by simp)]
    rw [g1] at ep
    clear g1
    cases g2 : lessB a b c d
    all_goals
      go_enter Try.func29, Try.ntmps29
      go_wp2_with fail
      refine (less_grow _ _ _ _ _).mono ?_
      rintro e w1 ⟨rfl, hb⟩
      have hb1 := grow_step (grow_alloc (grow_alloc (grow_refl w) _) _) hb
      clear hb
      go_wp2_with fail
      go_ret
      exact ⟨rfl, hb1⟩
  · rw [if_pos rfl]
    rw [g1] at ep
    clear g1
    go_enter Try.func29, Try.ntmps29
    go_wp2_with (go_at_call 50; refine (cmpcmp_any _ _ _).mono ?_; rintro e w' ⟨rfl, rfl⟩)
    go_ret
    exact ⟨rfl, grow_alloc (grow_alloc (grow_refl _) _) _⟩
theorem compare_any (c d : C) (w : World) :
    Calls Try.prog 29 #[Ce c, Ce d] w fun e w' => e = .returned (.int .i64 (cf c d)) ∧ ∃ q os, w' = grow (w.drewN q) os := by
  rw [← ceCmp_cf]
  exact compare_at _ _ _ _ _ _ w
theorem grow_below {w w' : World} (h : ∃ q os, w' = grow (w.drewN q) os) : Below w.heap.size w w' := by
  obtain ⟨q, os, rfl⟩ := h
  refine ⟨rfl, rfl, rfl, by simp [grow, World.drewN], fun b hb => ?_⟩
  simp [grow, World.drewN, Array.getElem?_append, hb]
theorem compare_below (c d : C) (w : World) :
    Calls Try.prog 29 #[Ce c, Ce d] w fun e w' => e = .returned (.int .i64 (cf c d)) ∧ Below w.heap.size w w' :=
  (compare_any c d w).mono fun _ _ ⟨he, hg⟩ => ⟨he, grow_below hg⟩
theorem ltOf_cf (c d : C) : ltOf cf c d = lt c d := by
  unfold ltOf cf
  cases h : lt c d
  · by_cases e : c = d <;> simp [e]
  · simp
theorem swo : SWO (ltOf cf) where
  irrefl x := by rw [ltOf_cf]; exact lt_irrefl x
  trans x y z h1 h2 := by rw [ltOf_cf] at *; exact lt_trans h1 h2
  ntrans x y z h1 h2 := by
    rw [ltOf_cf] at *
    cases h : lt x z
    · rfl
    · cases h3 : lt y x
      · have := lt_or h1 h3; subst this; rw [h] at h2; cases h2
      · have := lt_trans h3 h; rw [this] at h2; cases h2
theorem cmpLays (blk off size : Nat) (w : World) : CmpLays Try.prog 29 #[] encC 3 cf blk off size w :=
  fun _ _ _ _ x y => compare_any x y _
/-! Lists of cells in memory. -/
/-- A block holds a list of cells from its start on. -/
def Row (w : World) (g : Nat) (L : List C) : Prop :=
  (∀ (i : Nat) (d : C), L[i]? = some d → w.cell? ⟨g, i * 3, none⟩ = some (.int .i64 d.1) ∧ w.cell? ⟨g, i * 3 + 1, none⟩ = some (.int .i64 d.2.1) ∧ w.cell? ⟨g, i * 3 + 1 + 1, none⟩ = some (.int .i64 d.2.2)) ∧ g < w.heap.size
theorem Row.below {w w' : World} {g : Nat} {L : List C} (h : Row w g L) (hb : Below w.heap.size w w') : Row w' g L :=
  ⟨fun i d hd => ⟨(hb.cell (p := ⟨g, i * 3, none⟩) h.2).trans (h.1 i d hd).1, (hb.cell (p := ⟨g, i * 3 + 1, none⟩) h.2).trans (h.1 i d hd).2.1, (hb.cell (p := ⟨g, i * 3 + 1 + 1, none⟩) h.2).trans (h.1 i d hd).2.2⟩, Nat.lt_of_lt_of_le h.2 hb.size⟩
/-- A value is a list of cells: nil, or a row from a block's start on. -/
def SetAt (w : World) (v : Value) (L : List C) : Prop :=
  (v = .slice none 0 0 ∧ L = []) ∨ ∃ g cap : Nat, v = .slice (some ⟨g, 0, none⟩) L.length cap ∧ L.length ≤ cap ∧ Row w g L
theorem SetAt.below {w w' : World} {v : Value} {L : List C} (h : SetAt w v L) (hb : Below w.heap.size w w') : SetAt w' v L := by
  rcases h with h | ⟨g, cap, hv, hc, hr⟩
  · exact .inl h
  · exact .inr ⟨g, cap, hv, hc, hr.below hb⟩
def flat (l : List C) : List Value := l.flatMap encC
theorem flat_len (l : List C) : (flat l).length = l.length * 3 := by
  induction l with
  | nil => rfl
  | cons d l ih => simp [flat, encC] at ih ⊢; omega
theorem flat_app (l m : List C) : flat (l ++ m) = flat l ++ flat m := by simp [flat]
theorem flat_one (d : C) : flat [d] = [.int .i64 d.1, .int .i64 d.2.1, .int .i64 d.2.2] := by simp [flat, encC]
theorem flat_get : ∀ (L : List C) (i : Nat) (d : C), L[i]? = some d → (flat L)[i * 3]? = some (.int .i64 d.1) ∧ (flat L)[i * 3 + 1]? = some (.int .i64 d.2.1) ∧ (flat L)[i * 3 + 1 + 1]? = some (.int .i64 d.2.2)
  | [], i, d, h => by simp at h
  | c :: L, 0, d, h => by
    simp at h
    subst h
    simp [flat, encC]
  | c :: L, i + 1, d, h => by
    have ih := flat_get L i d (by simpa using h)
    have e : flat (c :: L) = .int .i64 c.1 :: .int .i64 c.2.1 :: .int .i64 c.2.2 :: flat L := by simp [flat, encC]
    rw [e, show (i + 1) * 3 = i * 3 + 1 + 1 + 1 by omega]
    simpa using ih
/-- .. cell by cell, and back. -/
theorem flat_cells {w : World} {g : Nat} : ∀ {L : List C} (o : Nat), (∀ (i : Nat) (d : C), L[i]? = some d → w.cell? ⟨g, o + i * 3, none⟩ = some (.int .i64 d.1) ∧ w.cell? ⟨g, o + (i * 3 + 1), none⟩ = some (.int .i64 d.2.1) ∧ w.cell? ⟨g, o + (i * 3 + 1 + 1), none⟩ = some (.int .i64 d.2.2)) →
    ∀ j u, (flat L)[j]? = some u → w.cell? ⟨g, o + j, none⟩ = some u
  | [], _, _, j, u, hu => by simp [flat] at hu
  | c :: L, o, h, j, u, hu => by
    have e : flat (c :: L) = .int .i64 c.1 :: .int .i64 c.2.1 :: .int .i64 c.2.2 :: flat L := by simp [flat, encC]
    rw [e] at hu
    obtain ⟨h0, h1, h2⟩ := h 0 c (by simp)
    match j, hu with
    | 0, hu => simp at hu; subst hu; simpa using h0
    | 1, hu => simp at hu; subst hu; simpa using h1
    | 2, hu => simp at hu; subst hu; simpa using h2
    | j + 3, hu =>
      have := flat_cells (w := w) (g := g) (L := L) (o + 3) (fun i d hd => by
        have hq := h (i + 1) d (by simpa using hd)
        rw [show o + (i + 1) * 3 = o + 3 + i * 3 by omega, show o + ((i + 1) * 3 + 1) = o + 3 + (i * 3 + 1) by omega, show o + ((i + 1) * 3 + 1 + 1) = o + 3 + (i * 3 + 1 + 1) by omega] at hq
        exact hq) j u (by simpa using hu)
      rw [show o + (j + 3) = o + 3 + j by omega]
      exact this
theorem row_of_own {w : World} {base g cap : Nat} {L : List C} (h : w.ownsRow base 37 3 (.slice (some ⟨g, 0, none⟩) L.length cap) L.length (flat L)) (hg : g < w.heap.size) : Row w g L := by
  refine ⟨fun i d hd => ?_, hg⟩
  have hi : i < L.length := (List.getElem?_eq_some_iff.1 hd).1
  obtain ⟨h1, h2, h3⟩ := flat_get L i d hd
  exact ⟨(h.cellAt (i * 3) (by omega)).trans h1, (h.cellAt (i * 3 + 1) (by omega)).trans h2, (h.cellAt (i * 3 + 1 + 1) (by omega)).trans h3⟩
theorem Row.flat {w : World} {g : Nat} {L : List C} (h : Row w g L) : ∀ j u, (flat L)[j]? = some u → w.cell? ⟨g, 0 + j, none⟩ = some u :=
  flat_cells 0 fun i d hd => by simpa [Nat.zero_add] using h.1 i d hd
theorem one_flat (L : List C) : ∀ u ∈ flat L, u.oneCell' = true := by
  intro u hu
  simp only [flat, List.mem_flatMap, encC] at hu
  obtain ⟨c, _, hu⟩ := hu
  simp at hu
  rcases hu with rfl | rfl | rfl <;> rfl
/-- Memory of one's own is a list of cells. -/
theorem set_of_own {w : World} {base : Nat} {v : Value} {L : List C} (h : w.ownsRow base 37 3 v L.length (flat L)) : SetAt w v L := by
  rcases h.2 with ⟨hv, hn⟩ | ⟨g, cap, cur, hv, hb, hh, hc, _⟩
  · refine .inl ⟨hv, ?_⟩
    simp_all
  · refine .inr ⟨g, cap, hv, hc, ?_⟩
    subst hv
    refine row_of_own h ?_
    rcases Nat.lt_or_ge g w.heap.size with h' | h'
    · exact h'
    · rw [Array.getElem?_eq_none h'] at hh; cases hh
theorem cell_info : (Try.prog.info? 37).map (fun i => (i.zero, i.size, i.bytes)) = some (some (.agg #[.int .i64 0, .int .i64 0, .int .i64 0]), 3, 24) := by kernel_rfl
end Go.Proofs.Ytkejniadapnofaa.Se
