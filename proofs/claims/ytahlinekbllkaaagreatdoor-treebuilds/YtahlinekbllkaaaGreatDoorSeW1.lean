/- Lists of cells in memory; cell.Compare, as the library's sorts ask it. -/
import Derived.Test.YtahlinekbllkaaaGreatDoorSeL
import Derived.Test.YtahlinekbllkaaaGreatDoorSh
import Derived.Test.YtahlinekbllkaaaGreatDoorCmI
namespace Go.Proofs.YtahlinekbllkaaaGreatDoor.Se
open Go.RowKit Go.Proofs.YtahlinekbllkaaaGreatDoor.Ax Go.Proofs.YtahlinekbllkaaaGreatDoor.Ba Go.Shelf Go.Lib Go.Sort

theorem grow_step {w W w' : World} (h : ∃ q os, W = grow (w.drewN q) os) (k : ∃ q os, w' = grow (W.drewN q) os) : ∃ q os, w' = grow (w.drewN q) os := by
  obtain ⟨q, os, rfl⟩ := h
  obtain ⟨q', os', rfl⟩ := k
  refine ⟨q + q', os ++ os', ?_⟩
  rw [← grow_grow, ← World.drewN_drewN]
  rfl
theorem grow_alloc {w W : World} (h : ∃ q os, W = grow (w.drewN q) os) (o : Obj) : ∃ q os, W.alloc o = grow (w.drewN q) os := by
  obtain ⟨q, os, rfl⟩ := h
  exact ⟨q, os ++ #[o], by rw [alloc_eq_grow, grow_grow]⟩
theorem grow_refl (w : World) : ∃ q os, w = grow (w.drewN q) os := ⟨0, #[], by simp [World.drewN]⟩
def lessB (a b c d : Int) : Bool := decide (b < d ∨ b = d ∧ a < c)
theorem less_grow (a b c d : Int) (w : World) :
    Calls Tryz.prog 86 #[Pt a b, Pt c d] w fun e w' => e = .returned (.bool (lessB a b c d)) ∧ ∃ q os, w' = grow (w.drewN q) os := by
  by_cases h : b = d
  · have h1 : (b != d) = false := by simp [h]
    have e : lessB a b c d = decide (a < c) := by unfold lessB; simp [h]
    rw [e]
    have H := Lib.hid h
    clear h e
    go_enter Tryz.func86, Tryz.ntmps86
    go_wp2
    go_ret
    exact ⟨rfl, grow_alloc (grow_alloc (grow_refl _) _) _⟩
  · have h1 : (b != d) = true := by simp [h]
    have e : lessB a b c d = decide (b < d) := by unfold lessB; simp [h]
    rw [e]
    clear h e
    go_enter Tryz.func86, Tryz.ntmps86
    go_wp2
    go_ret
    exact ⟨rfl, grow_alloc (grow_alloc (grow_refl _) _) _⟩
/-- -1, 0 or 1: a cell is ahead of another, it is that, it is behind it. -/
def cf (c d : C) : Int := if lt c d = true then -1 else if c = d then 0 else 1
def ceCmp (a b h c d k : Int) : Int := if (a == c && b == d) = true then cmpV h k else if lessB a b c d = true then -1 else 1
theorem ceCmp_cf (c d : C) : ceCmp c.1 c.2.1 c.2.2 d.1 d.2.1 d.2.2 = cf c d := by
  obtain ⟨a, b, h⟩ := c
  obtain ⟨a', b', h'⟩ := d
  unfold ceCmp cf lt cmpV lessB
  by_cases h1 : a = a' <;> by_cases h2 : b = b' <;> simp [h1, h2]
  by_cases h3 : h < h'
  · simp [h3]
  · by_cases h4 : h' < h
    · simp [h3, h4]; omega
    · simp [h3, h4]; omega
theorem compare_at (a b h c d k : Int) (w : World) :
    Calls Tryz.prog 69 #[.agg #[.int .i64 a, .int .i64 b, .int .i64 h], .agg #[.int .i64 c, .int .i64 d, .int .i64 k]] w fun e w' => e = .returned (.int .i64 (ceCmp a b h c d k)) ∧ ∃ q os, w' = grow (w.drewN q) os := by
  unfold ceCmp
  have ep := eql_pt a b c d
  cases g1 : (a == c && b == d)
  · rw [if_neg (by simp)]
    rw [g1] at ep
    clear g1
    cases g2 : lessB a b c d
    all_goals
      go_enter Tryz.func69, Tryz.ntmps69
      go_wp2_with fail
      refine (less_grow _ _ _ _ _).mono ?_
      rintro e w1 ⟨rfl, hb⟩
      have hb1 := grow_step (grow_alloc (grow_alloc (grow_refl w) _) _) hb
      clear hb
      go_wp2_with fail
      go_ret
      exact ⟨rfl, hb1⟩
  · rw [if_pos rfl]
    rw [g1] at ep
    clear g1
    go_enter Tryz.func69, Tryz.ntmps69
    go_wp2_with (go_at_call 85; refine (cmpcmp_any _ _ _).mono ?_; rintro e w' ⟨rfl, rfl⟩)
    go_ret
    exact ⟨rfl, grow_alloc (grow_alloc (grow_refl _) _) _⟩
theorem compare_any (c d : C) (w : World) :
    Calls Tryz.prog 69 #[Ce c, Ce d] w fun e w' => e = .returned (.int .i64 (cf c d)) ∧ ∃ q os, w' = grow (w.drewN q) os := by
  rw [← ceCmp_cf]
  exact compare_at _ _ _ _ _ _ w
theorem grow_below {w w' : World} (h : ∃ q os, w' = grow (w.drewN q) os) : Below w.heap.size w w' := by
  obtain ⟨q, os, rfl⟩ := h
  refine ⟨rfl, rfl, rfl, by simp [grow, World.drewN], fun b hb => ?_⟩
  simp [grow, World.drewN, Array.getElem?_append, hb]
theorem compare_below (c d : C) (w : World) :
    Calls Tryz.prog 69 #[Ce c, Ce d] w fun e w' => e = .returned (.int .i64 (cf c d)) ∧ Below w.heap.size w w' :=
  (compare_any c d w).mono fun _ _ ⟨he, hg⟩ => ⟨he, grow_below hg⟩
theorem ltOf_cf (c d : C) : ltOf cf c d = lt c d := by
  unfold ltOf cf
  cases h : lt c d
  · by_cases e : c = d <;> simp [e]
  · simp
theorem swo : SWO (ltOf cf) where
  irrefl x := by rw [ltOf_cf]; exact lt_irrefl x
  trans x y z h1 h2 := by rw [ltOf_cf] at *; exact lt_trans h1 h2
  ntrans x y z h1 h2 := by
    rw [ltOf_cf] at *
    cases h : lt x z
    · rfl
    · cases h3 : lt y x
      · have := lt_or h1 h3; subst this; rw [h] at h2; cases h2
      · have := lt_trans h3 h; rw [this] at h2; cases h2
theorem cmpLays (blk off size : Nat) (w : World) : CmpLays Tryz.prog 69 #[] encC 3 cf blk off size w :=
  fun _ _ _ _ x y => compare_any x y _
end Go.Proofs.YtahlinekbllkaaaGreatDoor.Se
