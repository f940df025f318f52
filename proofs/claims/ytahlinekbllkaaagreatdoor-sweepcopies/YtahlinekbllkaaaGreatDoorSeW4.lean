/- Several texts, joined. -/
import Derived.Test.YtahlinekbllkaaaGreatDoorSeL
import Derived.Test.YtahlinekbllkaaaGreatDoorSh
import Derived.Test.YtahlinekbllkaaaGreatDoorCmI
import Derived.Lib.SlicesCompact
import Derived.Lib.SliceRun
import Derived.Deep.LoopGhost
import Derived.Shelf.SlSortCmp.NoneTotal
/- Lists of cells in memory; cell.Compare, as the library's sorts ask it. -/
namespace Go.Proofs.YtahlinekbllkaaaGreatDoor.Se
open Go.RowKit Go.Proofs.YtahlinekbllkaaaGreatDoor.Ax Go.Proofs.YtahlinekbllkaaaGreatDoor.Ba Go.Shelf Go.Lib Go.Sort

theorem grow_step {w W w' : World} (h : ∃ q os, W = grow (w.drewN q) os) (k : ∃ q os, w' = grow (W.drewN q) os) : ∃ q os, w' = grow (w.drewN q) os := by
  obtain ⟨q, os, rfl⟩ := h
  obtain ⟨q', os', rfl⟩ := k
  refine ⟨q + q', os ++ os', ?_⟩
  rw [← grow_grow, ← World.drewN_drewN]
  rfl
theorem grow_alloc {w W : World} (h : ∃ q os, W = grow (w.drewN q) os) (o : Obj) : ∃ q os, W.alloc o = grow (w.drewN q) os := by
  obtain ⟨q, os, rfl⟩ := h
  exact ⟨q, os ++ #[o], by rw [alloc_eq_grow, grow_grow]⟩
theorem grow_refl (w : World) : ∃ q os, w = grow (w.drewN q) os := ⟨0, #[], by simp [World.drewN]⟩
def lessB (a b c d : Int) : Bool := decide (b < d ∨ b = d ∧ a < c)
theorem less_grow (a b c d : Int) (w : World) :
    Calls Tryz.prog 86 #[Pt a b, Pt c d] w fun e w' => e = .returned (.bool (lessB a b c d)) ∧ ∃ q os, w' = grow (w.drewN q) os := by
  by_cases h : b = d
  · have h1 : (b != d) = false := by simp [h]
    have e : lessB a b c d = decide (a < c) := by unfold lessB; simp [h]
    rw [e]
    have H := Lib.hid h
    clear h e
    go_enter Tryz.func86, Tryz.ntmps86
    go_wp2
    go_ret
    exact ⟨rfl, grow_alloc (grow_alloc (grow_refl _) _) _⟩
  · have h1 : (b != d) = true := by simp [h]
    have e : lessB a b c d = decide (b < d) := by unfold lessB; simp [h]
    rw [e]
    clear h e
    go_enter Tryz.func86, Tryz.ntmps86
    go_wp2
    go_ret
    exact ⟨rfl, grow_alloc (grow_alloc (grow_refl _) _) _⟩
/-- -1, 0 or 1: a cell is ahead of another, it is that, it is behind it. -/
def cf (c d : C) : Int := if lt c d = true then -1 else if c = d then 0 else 1
def ceCmp (a b h c d k : Int) : Int := if (a == c && b == d) = true then cmpV h k else if lessB a b c d = true then -1 else 1
theorem ceCmp_cf (c d : C) : ceCmp c.1 c.2.1 c.2.2 d.1 d.2.1 d.2.2 = cf c d := by
  obtain ⟨a, b, h⟩ := c
  obtain ⟨a', b', h'⟩ := d
  unfold ceCmp cf lt cmpV lessB
  by_cases h1 : a = a' <;> by_cases h2 : b = b' <;> simp [h1, h2]
  by_cases h3 : h < h'
  · simp [h3]
  · by_cases h4 : h' < h
    · simp [h3, h4]; omega
    · simp [h3, h4]; omega
theorem compare_at (a b h c d k : Int) (w : World) :
    Calls Tryz.prog 69 #[.agg #[.int .i64 a, .int .i64 b, .int .i64 h], .agg #[.int .i64 c, .int .i64 d, .int .i64 k]] w fun e w' => e = .returned (.int .i64 (ceCmp a b h c d k)) ∧ ∃ q os, w' = grow (w.drewN q) os := by
  unfold ceCmp
  have ep := eql_pt a b c d
  cases g1 : (a == c && b == d)
  · rw [if_neg (by simp)]
    rw [g1] at ep
    clear g1
    cases g2 : lessB a b c d
    all_goals
      go_enter Tryz.func69, Tryz.ntmps69
      go_wp2_with fail
      refine (less_grow _ _ _ _ _).mono ?_
      rintro e w1 ⟨rfl, hb⟩
      have hb1 := grow_step (grow_alloc (grow_alloc (grow_refl w) _) _) hb
      clear hb
      go_wp2_with fail
      go_ret
      exact ⟨rfl, hb1⟩
  · rw [if_pos rfl]
    rw [g1] at ep
    clear g1
    go_enter Tryz.func69, Tryz.ntmps69
    go_wp2_with (go_at_call 85; refine (cmpcmp_any _ _ _).mono ?_; rintro e w' ⟨rfl, rfl⟩)
    go_ret
    exact ⟨rfl, grow_alloc (grow_alloc (grow_refl _) _) _⟩
theorem compare_any (c d : C) (w : World) :
    Calls Tryz.prog 69 #[Ce c, Ce d] w fun e w' => e = .returned (.int .i64 (cf c d)) ∧ ∃ q os, w' = grow (w.drewN q) os := by
  rw [← ceCmp_cf]
  exact compare_at _ _ _ _ _ _ w
theorem grow_below {w w' : World} (h : ∃ q os, w' = grow (w.drewN q) os) : Below w.heap.size w w' := by
  obtain ⟨q, os, rfl⟩ := h
  refine ⟨rfl, rfl, rfl, by simp [grow, World.drewN], fun b hb => ?_⟩
  simp [grow, World.drewN, Array.getElem?_append, hb]
theorem compare_below (c d : C) (w : World) :
    Calls Tryz.prog 69 #[Ce c, Ce d] w fun e w' => e = .returned (.int .i64 (cf c d)) ∧ Below w.heap.size w w' :=
  (compare_any c d w).mono fun _ _ ⟨he, hg⟩ => ⟨he, grow_below hg⟩
theorem ltOf_cf (c d : C) : ltOf cf c d = lt c d := by
  unfold ltOf cf
  cases h : lt c d
  · by_cases e : c = d <;> simp [e]
  · simp
theorem swo : SWO (ltOf cf) where
  irrefl x := by rw [ltOf_cf]; exact lt_irrefl x
  trans x y z h1 h2 := by rw [ltOf_cf] at *; exact lt_trans h1 h2
  ntrans x y z h1 h2 := by
    rw [ltOf_cf] at *
    cases h : lt x z
    · rfl
    · cases h3 : lt y x
      · have := lt_or h1 h3; subst this; rw [h] at h2; cases h2
      · have := lt_trans h3 h; rw [this] at h2; cases h2
theorem cmpLays (blk off size : Nat) (w : World) : CmpLays Tryz.prog 69 #[] encC 3 cf blk off size w :=
  fun _ _ _ _ x y => compare_any x y _
end Go.Proofs.YtahlinekbllkaaaGreatDoor.Se

/- slices.Clone, slices.SortFunc at cells, in our own words. -/
namespace Go.Proofs.YtahlinekbllkaaaGreatDoor.Se
open Go.RowKit Go.Proofs.YtahlinekbllkaaaGreatDoor.Ax Go.Proofs.YtahlinekbllkaaaGreatDoor.Ba Go.Shelf Go.Lib Go.Sort

/-- slices.Clone: the same cells, in memory of the call's own (or nil). -/
theorem clone_any (v : Value) (L : List C) (w : World) (h : SetAt w v L) (hL : L.length ≤ 1000000) :
    Calls Tryz.prog 67 #[v] w fun e w' => ∃ v', e = .returned v' ∧ w'.ownsRow w.heap.size 53 3 v' L.length (flat L) ∧ Below w.heap.size w w' := by
  rcases h with ⟨rfl, rfl⟩ | ⟨g, cap, rfl, hc, hr⟩
  · have hcon := AnyE.slices_Clone_nil Tryz.layClone 0 0 w
    change Calls Tryz.prog 67 _ _ _ at hcon
    refine hcon.mono ?_
    rintro e w' ⟨rfl, rfl⟩
    exact ⟨_, rfl, World.ownsRow_nil _ _ _ _, Below.refl _ _⟩
  · obtain ⟨i0, hi0, hz0, hz1, hz2⟩ := info_parts cell_info
    have hcon := AnyE.slices_Clone Tryz.layClone i0 _ 3 24 hi0 hz0 hz1 hz2 rfl (by decide) Tryz.sizeOf53 g 0 L.length cap (flat L) w (flat_len L) (by unfold maxLen; omega) (by omega) hr.flat (one_flat L)
    change Calls Tryz.prog 67 _ _ _ at hcon
    refine hcon.mono ?_
    rintro e w' ⟨v', rfl, ho, _, hb⟩
    exact ⟨v', rfl, ho, hb⟩
end Go.Proofs.YtahlinekbllkaaaGreatDoor.Se

/- slices.Compact at cells. -/
namespace Go.Proofs.YtahlinekbllkaaaGreatDoor.Se
open Go.RowKit Go.Proofs.YtahlinekbllkaaaGreatDoor.Ax Go.Proofs.YtahlinekbllkaaaGreatDoor.Ba Go.Shelf Go.Lib Go.Sort

/-! The mathematics. -/
def Sorted (d : List C) : Prop := d.Pairwise fun x y => lt y x = false
theorem compact_rising {d : List C} (h : Sorted d) : ∀ m, m ≤ d.length → Rising (compactUpTo d.toArray m) ∧ (∀ x, x ∈ compactUpTo d.toArray m ↔ x ∈ d.take m) ∧ ∀ x ∈ compactUpTo d.toArray m, x = d.toArray[m - 1]! ∨ lt x d.toArray[m - 1]! = true
  | 0, _ => ⟨by simp [compactUpTo, Rising], by simp [compactUpTo], by simp [compactUpTo]⟩
  | m + 1, hm => by
    obtain ⟨h1, h2, h3⟩ := compact_rising h m (by omega)
    have hd : d[m]? = some d.toArray[m]! := by
      rw [getElem!_pos d.toArray m (by simp; omega)]
      simp [List.getElem?_eq_getElem (show m < d.length by omega)]
    have ht : d.take (m + 1) = d.take m ++ [d.toArray[m]!] := by rw [List.take_add_one, hd]; rfl
    rw [compactUpTo_succ, ht]
    simp only [Nat.add_sub_cancel]
    cases hk : keeps d.toArray m
    · simp only [Bool.false_eq_true, if_false, List.append_nil]
      have hk' : ¬ (m = 0 ∨ d.toArray[m]! ≠ d.toArray[m - 1]!) := by simpa [keeps] using hk
      have h0 : m ≠ 0 := fun e => hk' (.inl e)
      have he : d.toArray[m]! = d.toArray[m - 1]! := Decidable.byContradiction fun e => hk' (.inr e)
      rw [he]
      refine ⟨h1, fun x => ?_, h3⟩
      rw [h2, List.mem_append, List.mem_singleton]
      refine ⟨.inl, ?_⟩
      rintro (hx | rfl)
      · exact hx
      · have hd' : d[m - 1]? = some d.toArray[m - 1]! := by
          rw [getElem!_pos d.toArray (m - 1) (by simp; omega)]
          simp [List.getElem?_eq_getElem (show m - 1 < d.length by omega)]
        exact List.mem_iff_getElem?.2 ⟨m - 1, by rw [List.getElem?_take, if_pos (by omega), hd']⟩
    · simp only [if_true]
      have hlt : ∀ x ∈ compactUpTo d.toArray m, lt x d.toArray[m]! = true := by
        intro x hx
        have hm0 : m ≠ 0 := by
          rintro rfl
          simp [compactUpTo] at hx
        have hk' : m = 0 ∨ d.toArray[m]! ≠ d.toArray[m - 1]! := by simpa [keeps] using hk
        have hne : d.toArray[m]! ≠ d.toArray[m - 1]! := hk'.resolve_left hm0
        have hs : lt d.toArray[m]! d.toArray[m - 1]! = false := by
          rw [getElem!_pos d.toArray m (by simp; omega), getElem!_pos d.toArray (m - 1) (by simp; omega)]
          exact List.pairwise_iff_getElem.1 h (m - 1) m (by omega) (by omega) (by omega)
        have hl : lt d.toArray[m - 1]! d.toArray[m]! = true := by
          cases hq : lt d.toArray[m - 1]! d.toArray[m]!
          · exact absurd (lt_or hs hq) hne
          · rfl
        rcases h3 x hx with e | e
        · rw [e]; exact hl
        · exact lt_trans e hl
      refine ⟨List.pairwise_append.2 ⟨h1, by simp, fun x hx y hy => ?_⟩, fun x => ?_, fun x hx => ?_⟩
      · rw [List.mem_singleton] at hy; subst hy; exact hlt x hx
      · rw [List.mem_append, List.mem_append, h2]
      · rcases List.mem_append.1 hx with hx | hx
        · exact .inr (hlt x hx)
        · exact .inl (List.mem_singleton.1 hx)
theorem compact_of {L d : List C} (h : Sorted d) (hp : d.Perm L) : compact d = ofL L := by
  obtain ⟨h1, h2, _⟩ := compact_rising h d.length (Nat.le_refl _)
  refine (ofL_eq h1 fun c => ?_).symm
  rw [h2, List.take_length]
  exact hp.mem_iff
/-! In memory. -/
/-- A block holds these cells, and they may be written. -/
def HR (w : World) (g : Nat) (d : List C) : Prop := Row w g d ∧ ∀ i, i < d.length * 3 → w.frozen? ⟨g, i, none⟩ = false
theorem hr_of_holds {w : World} {g : Nat} {d : Array C} (h : HoldsK encC 3 w g 0 d) (hg : g < w.heap.size) : HR w g d.toList := by
  have hc : ∀ t, t < d.size * 3 → w.cell? ⟨g, 0 + t, none⟩ = some (encC d[t / 3]!)[t % 3]! ∧ w.frozen? ⟨g, 0 + t, none⟩ = false := fun t ht => by
    have := h t (by simpa using ht)
    rw [get_flatK encC 3 d t ht] at this
    exact this
  refine ⟨⟨fun i x hx => ?_, hg⟩, fun i hi => ?_⟩
  · have hi : i < d.size := by simpa using (List.getElem?_eq_some_iff.1 hx).1
    have e : d[i]! = x := by
      rw [getElem!_pos d i hi]
      have := (List.getElem?_eq_some_iff.1 hx).2
      simpa using this
    have h0 := (hc (i * 3) (by omega)).1
    have h1 := (hc (i * 3 + 1) (by omega)).1
    have h2 := (hc (i * 3 + 1 + 1) (by omega)).1
    rw [show i * 3 / 3 = i by omega, show i * 3 % 3 = 0 by omega, e, Nat.zero_add] at h0
    rw [show (i * 3 + 1) / 3 = i by omega, show (i * 3 + 1) % 3 = 1 by omega, e, Nat.zero_add] at h1
    rw [show (i * 3 + 1 + 1) / 3 = i by omega, show (i * 3 + 1 + 1) % 3 = 2 by omega, e, Nat.zero_add] at h2
    exact ⟨h0, h1, h2⟩
  · have := (hc i (by simpa using hi)).2
    simpa using this
theorem holds_of_own {w : World} {base g cap : Nat} {L : List C} (h : w.ownsRow base 53 3 (.slice (some ⟨g, 0, none⟩) L.length cap) L.length (flat L)) (hg : g < w.heap.size) : HoldsK encC 3 w g 0 L.toArray := by
  intro t ht
  have ht' : t < L.length * 3 := by simpa using ht
  rw [get_flatK encC 3 L.toArray t (by simpa using ht')]
  refine ⟨?_, by simpa using h.frozenAt t⟩
  obtain ⟨hr, _⟩ := row_of_own h hg
  have hi : t / 3 < L.length := by omega
  have e : L.toArray[t / 3]! = L[t / 3] := by rw [getElem!_pos L.toArray (t / 3) (by simpa using hi)]; simp
  obtain ⟨h0, h1, h2⟩ := hr (t / 3) L[t / 3] (List.getElem?_eq_getElem hi)
  rw [e, Nat.zero_add]
  have h3 : t % 3 = 0 ∨ t % 3 = 1 ∨ t % 3 = 2 := by omega
  rcases h3 with h3 | h3 | h3
  · rw [show t / 3 * 3 = t by omega] at h0; rw [h3]; exact h0
  · rw [show t / 3 * 3 + 1 = t by omega] at h1; rw [h3]; exact h1
  · rw [show t / 3 * 3 + 1 + 1 = t by omega] at h2; rw [h3]; exact h2
theorem hr_set {w : World} {g : Nat} {d : List C} (h : HR w g d) (k : Nat) (hk : k < d.length) (x : C) : HR (w.setCells g (k * 3) (encC x)) g (d.set k x) := by
  obtain ⟨⟨hr, hg⟩, hf⟩ := h
  have hsz : g < (w.setCells g (k * 3) (encC x)).heap.size := by simpa [World.setCells, encC, World.setCell] using hg
  refine ⟨⟨fun i y hy => ?_, hsz⟩, fun i hi => ?_⟩
  · rw [List.getElem?_set] at hy
    by_cases e : k = i
    · subst e
      simp [hk] at hy
      subst hy
      obtain ⟨c0, c1, c2⟩ := hr k d[k] (List.getElem?_eq_getElem hk)
      have hin := World.cell?_setCells_in g (encC x) (k * 3) w (fun j hj => by
        have : j = 0 ∨ j = 1 ∨ j = 2 := by simp [encC] at hj; omega
        rcases this with rfl | rfl | rfl
        · simp [c0]
        · simp [c1]
        · rw [show k * 3 + 2 = k * 3 + 1 + 1 by omega]; simp [c2])
      exact ⟨hin 0 (by simp [encC]), hin 1 (by simp [encC]), hin 2 (by simp [encC])⟩
    · rw [if_neg e] at hy
      obtain ⟨c0, c1, c2⟩ := hr i y hy
      have ho := World.cell?_setCells_out g (encC x) (k * 3) w
      refine ⟨(ho ⟨g, i * 3, none⟩ fun _ _ => ?_).trans c0, (ho ⟨g, i * 3 + 1, none⟩ fun _ _ => ?_).trans c1, (ho ⟨g, i * 3 + 1 + 1, none⟩ fun _ _ => ?_).trans c2⟩
      all_goals simp only [encC, List.length_cons, List.length_nil]; omega
  · rw [World.frozen?_setCells]
    exact hf i (by simpa using hi)
theorem grown_set {w wr : World} {g : Nat} (h : w.grownBy wr (some g)) (o : Nat) (vs : List Value) : w.grownBy (wr.setCells g o vs) (some g) := by
  have : ∀ (vs : List Value) (o : Nat) (wr : World), w.grownBy wr (some g) → w.grownBy (wr.setCells g o vs) (some g) := by
    intro vs
    induction vs with
    | nil => intro o wr h; exact h
    | cons v vs ih =>
      intro o wr h
      refine ih _ _ ⟨h.os, h.tape, h.output, by simpa [World.setCell] using h.size, fun i hi hne => ?_⟩
      rw [Below.heap_setCell wr ⟨g, o, none⟩ v i (fun e => hne (by rw [e]))]
      exact h.block i hi hne
  exact this vs o wr h
theorem row_take {w wr : World} {g : Nat} {dk : List C} {o : Nat} {vs : List Value} (h : Row w g dk) (k : Nat) (hk : k * 3 ≤ o) (M : List C) (hM : ∀ i x, M[i]? = some x → i < k ∧ dk[i]? = some x) (hw : wr = w.setCells g o vs) (hg : g < wr.heap.size) : Row wr g M := by
  subst hw
  refine ⟨fun i x hx => ?_, hg⟩
  obtain ⟨h1, h2⟩ := hM i x hx
  obtain ⟨c0, c1, c2⟩ := h.1 i x h2
  have ho := World.cell?_setCells_out g vs o w
  exact ⟨(ho ⟨g, i * 3, none⟩ fun _ _ => by simp only; omega).trans c0, (ho ⟨g, i * 3 + 1, none⟩ fun _ _ => by simp only; omega).trans c1, (ho ⟨g, i * 3 + 1 + 1, none⟩ fun _ _ => by simp only; omega).trans c2⟩
/-- 'clear' of some cells. -/
theorem run_clear (w : World) (g o n c : Nat) (hn : 0 < n) (hc : ∀ j, j < n * 3 → (w.cell? ⟨g, o + j, none⟩).isSome = true) (hf : ∀ j, j < n * 3 → w.frozen? ⟨g, o + j, none⟩ = false) :
    ∃ vs, ∀ ty, (Builtin.clear_ #[31] ty #[.slice (some ⟨g, o, none⟩) n c]).run Tryz.prog w = .ok (.tuple #[]) (w.setCells g o vs) := by
  have hz : ∀ w, (zeroValue 53).run Tryz.prog w = .ok (.agg #[.int .i64 0, .int .i64 0, .int .i64 0]) w := fun w => by kernel_rfl
  have hlen : (Builtin.zeroCells #[.int .i64 0, .int .i64 0, .int .i64 0] n).toList.length = n * 3 := by simp [Builtin.zeroCells]
  have hone : ∀ v ∈ (Builtin.zeroCells #[.int .i64 0, .int .i64 0, .int .i64 0] n).toList, v.oneCell' = true := by
    intro v hv
    obtain ⟨i, hi, rfl⟩ := List.mem_iff_getElem.1 hv
    simp [Builtin.zeroCells]
    have : i % 3 = 0 ∨ i % 3 = 1 ∨ i % 3 = 2 := by omega
    rcases this with e | e | e <;> simp [e, Value.oneCell']
  have hst := run_storeCells_cells (P := Tryz.prog) g o (Builtin.zeroCells #[.int .i64 0, .int .i64 0, .int .i64 0] n).toList 0 w (by simpa [hlen] using hc) (by simpa [hlen] using hf) hone
  simp only [Nat.add_zero] at hst
  obtain ⟨m, rfl⟩ : ∃ m, n = m + 1 := ⟨n - 1, by omega⟩
  exact ⟨(Builtin.zeroCells #[.int .i64 0, .int .i64 0, .int .i64 0] (m + 1)).toList, fun ty => by simp [Builtin.clear_, run_underlying Tryz.underlying31, hz, Value.cells, hst]⟩
theorem eq_c (x y : C) (w : World) : (binOp .eql 53 (.agg #[.int .i64 x.1, .int .i64 x.2.1, .int .i64 x.2.2]) (.agg #[.int .i64 y.1, .int .i64 y.2.1, .int .i64 y.2.2])).run Tryz.prog w = .ok (.bool (decide (x = y))) w := by
  rw [eql_ce]
  congr 2
  obtain ⟨a, b, h⟩ := x
  obtain ⟨a', b', h'⟩ := y
  rw [Bool.eq_iff_iff]
  simp
theorem ne_c (x y : C) (w : World) : (binOp .neq 53 (.agg #[.int .i64 x.1, .int .i64 x.2.1, .int .i64 x.2.2]) (.agg #[.int .i64 y.1, .int .i64 y.2.1, .int .i64 y.2.2])).run Tryz.prog w = .ok (.bool (!decide (x = y))) w := by
  rw [neq_ce]
  congr 3
  obtain ⟨a, b, h⟩ := x
  obtain ⟨a', b', h'⟩ := y
  rw [Bool.eq_iff_iff]
  simp
end Go.Proofs.YtahlinekbllkaaaGreatDoor.Se

/- slices.Compact at cells: the walk. -/
namespace Go.Proofs.YtahlinekbllkaaaGreatDoor.Se
open Go.RowKit Go.Proofs.YtahlinekbllkaaaGreatDoor.Ax Go.Proofs.YtahlinekbllkaaaGreatDoor.Ba Go.Shelf Go.Lib Go.Sort

def Co1 (w : World) (d : List C) (s : Value) (wr : World) : Prop := ∃ k q : Nat, 1 ≤ k ∧ k ≤ d.length ∧ s = .int .i64 k ∧ wr = w.drewN q ∧ ∀ j, j < k → keeps d.toArray j = true
def Co2 (w : World) (g : Nat) (d : List C) (k : Nat) (s t : Value) (wr : World) : Prop :=
  ∃ (kk k2 : Nat) (dk : Array C), s = .int .i64 kk ∧ t = .int .i64 k2 ∧ 1 ≤ k2 ∧ k + k2 ≤ d.length ∧ HR wr g dk.toList ∧ w.grownBy wr (some g) ∧ CompInv d.toArray (k + k2) kk dk
theorem HR.drewN {w : World} {g : Nat} {d : List C} (h : HR w g d) (q : Nat) : HR (w.drewN q) g d := h
theorem grown_dr {w wr : World} {r : Option Nat} (h : w.grownBy wr r) (q : Nat) : w.grownBy (wr.drewN q) r := ⟨h.os, h.tape, h.output, h.size, h.block⟩
theorem grown_refl (w : World) (r : Option Nat) : w.grownBy w r := ⟨rfl, rfl, rfl, Nat.le_refl _, fun _ _ _ => rfl⟩
set_option maxRecDepth 100000 in
set_option maxHeartbeats 4000000 in
theorem compact_any (g cap : Nat) (d : List C) (w : World) (hH : HR w g d) (hcap : d.length ≤ cap) (hd : d.length ≤ 1000000) :
    Calls Tryz.prog 70 #[.slice (some ⟨g, 0, none⟩) d.length cap] w fun e w' =>
      e = .returned (.slice (some ⟨g, 0, none⟩) (compact d).length cap) ∧ Row w' g (compact d) ∧ w.grownBy w' (some g) := by
  have HA := Lib.hid (show (∀ j, j < d.length → keeps d.toArray j = true) → compact d = d from fun h => compact_all d h)
  by_cases h2 : d.length < 2
  · have HH := Lib.hid hH
    clear hH
    go_enter Tryz.func70, Tryz.ntmps70
    go_wp2
    go_ret
    rw [HA.out (fun j hj => keeps_lt_one d.toArray j (by omega))]
    exact ⟨rfl, HH.out.1, grown_refl _ _⟩
  · go_enter Tryz.func70, Tryz.ntmps70
    go_wp2
    go_loopw [3] (fun s wr => Co1 w d s wr) (fun s _ => d.length - (intOf s).toNat)
    case atStart => exact ⟨1, 0, Nat.le_refl _, by omega, rfl, rfl, keeps_lt_one d.toArray⟩
    case round =>
      obtain ⟨k, q, hk1, hk, rfl, rfl, hkeep⟩ := hrel
      by_cases hlt : k < d.length
      · have HK := Lib.hid hkeep
        have HH := Lib.hid hH
        obtain ⟨x, hx⟩ : ∃ x, d[k]? = some x := ⟨_, List.getElem?_eq_getElem hlt⟩
        obtain ⟨y, hy⟩ : ∃ y, d[k - 1]? = some y := ⟨_, List.getElem?_eq_getElem (by omega)⟩
        obtain ⟨c0, c1, c2⟩ := hH.1.1 k x hx
        obtain ⟨e0, e1, e2⟩ := hH.1.1 (k - 1) y hy
        have hg := hH.1.2
        have hx' : d.toArray[k]! = x := by rw [getElem!_pos d.toArray k (by simpa using hlt)]; simpa using (List.getElem?_eq_some_iff.1 hx).2
        have hy' : d.toArray[k - 1]! = y := by rw [getElem!_pos d.toArray (k - 1) (by simp; omega)]; simpa using (List.getElem?_eq_some_iff.1 hy).2
        have HX := Lib.hid (And.intro hx' hy')
        clear hx' hy' hx hy hkeep hH
        have eq1 := eq_c x y
        by_cases hdup : x = y
        · rw [decide_eq_true hdup] at eq1
          have HD := Lib.hid hdup
          clear hdup
          go_wp2_with fail
          go_quiet (fail)
          clear c0 c1 c2 e0 e1 e2 eq1
          go_wp2
          go_loopw [3, 5] (fun s t wr => Co2 w g d k s t wr) (fun _ t _ => d.length - (intOf t).toNat)
          case atStart => exact ⟨k, 1, d.toArray, rfl, rfl, Nat.le_refl _, by omega, by simpa using (HH.out.drewN _), grown_dr (grown_refl _ _) _, CompInv.start HK.out (keeps_neg (by omega) (by rw [HX.out.1, HX.out.2]; exact HD.out))⟩
          case round =>
            obtain ⟨kk, k2, dk, rfl, rfl, h1, hle, hHk, hgr, hI⟩ := hrel
            have hkk := hI.lt
            have hds : dk.size = d.length := by simpa using hI.size
            have HI := Lib.hid hI
            have HG := Lib.hid hgr
            have HHk := Lib.hid hHk
            by_cases hlt2 : k + k2 < d.length
            · obtain ⟨x', hx'⟩ : ∃ z, dk.toList[k + k2]? = some z := ⟨_, List.getElem?_eq_getElem (by simp; omega)⟩
              obtain ⟨y', hy'⟩ : ∃ z, dk.toList[k + k2 - 1]? = some z := ⟨_, List.getElem?_eq_getElem (by simp; omega)⟩
              obtain ⟨z', hz'⟩ : ∃ z, dk.toList[kk]? = some z := ⟨_, List.getElem?_eq_getElem (by simp; omega)⟩
              obtain ⟨c0, c1, c2⟩ := hHk.1.1 _ x' hx'
              obtain ⟨e0, e1, e2⟩ := hHk.1.1 _ y' hy'
              obtain ⟨f0, f1, f2⟩ := hHk.1.1 _ z' hz'
              have r0 := hHk.2 (kk * 3) (by simp; omega)
              have r1 := hHk.2 (kk * 3 + 1) (by simp; omega)
              have r2 := hHk.2 (kk * 3 + 1 + 1) (by simp; omega)
              have hgl := hHk.1.2
              have hX' : d.toArray[k + k2]! = x' := by
                rw [← hI.high (k + k2) (by omega), getElem!_pos dk (k + k2) (by omega)]; simpa using (List.getElem?_eq_some_iff.1 hx').2
              have hY' : d.toArray[k + k2 - 1]! = y' := by
                rw [← hI.high (k + k2 - 1) (by omega), getElem!_pos dk (k + k2 - 1) (by omega)]; simpa using (List.getElem?_eq_some_iff.1 hy').2
              have HX' := Lib.hid (And.intro hX' hY')
              rw [show (k + k2) * 3 = k * 3 + k2 * 3 by omega] at c0 c1 c2
              rw [show (k + k2 - 1) * 3 = k * 3 + (k2 - 1) * 3 by omega] at e0 e1 e2
              clear hX' hY' hx' hy' hz' hI hHk hgr
              have eq1 := ne_c x' y'
              by_cases hdup : x' = y'
              · rw [decide_eq_true hdup, Bool.not_true] at eq1
                have HD' := Lib.hid hdup
                clear hdup
                go_wp2_with fail
                go_quiet (fail)
                go_wp2
                go_roundw
                case rel => exact ⟨kk, k2 + 1, dk, rfl, by go_num, by omega, by omega, HHk.out.drewN _, grown_dr HG.out _, HI.out.skip (keeps_neg (by omega) (by rw [HX'.out.1, HX'.out.2]; exact HD'.out))⟩
                case measure => simp [intOf]; omega
              · rw [decide_eq_false hdup, Bool.not_false] at eq1
                have HD' := Lib.hid hdup
                clear hdup
                go_wp2_with fail
                go_quiet (fail)
                go_wp2
                go_roundw
                case rel =>
                  refine ⟨kk + 1, k2 + 1, dk.setIfInBounds kk x', by go_num, by go_num, by omega, by omega, ?_, ?_, ?_⟩
                  · rw [Array.toList_setIfInBounds]
                    exact hr_set (HHk.out.drewN _) kk (by simp; omega) x'
                  · exact grown_set (grown_dr HG.out _) (kk * 3) (encC x')
                  · have := HI.out.keep (by simpa using hlt2) (keeps_pos (by rw [HX'.out.1, HX'.out.2]; exact HD'.out))
                    rwa [HX'.out.1] at this
                case measure => simp [intOf]; omega
            · have hend : k + k2 = d.length := by omega
              have hlen : (compact d).length = kk := by
                have := hI.len
                rw [hend] at this
                exact this
              have hlow : ∀ i x, (compact d)[i]? = some x → i < kk ∧ dk.toList[i]? = some x := by
                intro i x hx
                have hi : i < kk := by have := (List.getElem?_eq_some_iff.1 hx).1; omega
                have h := hI.low i hi
                rw [hend] at h
                have h' : (compact d)[i]? = some dk[i]! := h
                rw [hx] at h'
                injection h' with h'
                refine ⟨hi, ?_⟩
                rw [h', getElem!_pos dk i (by omega)]
                simp
              have HL := Lib.hid hlen
              have HW := Lib.hid hlow
              obtain ⟨vs, hcl⟩ := run_clear wr g (kk * 3) (d.length - kk) (cap - kk) (by omega)
                (fun j hj => by
                  obtain ⟨z, hz⟩ : ∃ z, dk.toList[kk + j / 3]? = some z := ⟨_, List.getElem?_eq_getElem (by simp; omega)⟩
                  obtain ⟨c0, c1, c2⟩ := hHk.1.1 _ z hz
                  have h3 : j % 3 = 0 ∨ j % 3 = 1 ∨ j % 3 = 2 := by omega
                  rcases h3 with h3 | h3 | h3
                  · rw [show kk * 3 + j = (kk + j / 3) * 3 by omega, c0]; rfl
                  · rw [show kk * 3 + j = (kk + j / 3) * 3 + 1 by omega, c1]; rfl
                  · rw [show kk * 3 + j = (kk + j / 3) * 3 + 1 + 1 by omega, c2]; rfl)
                (fun j hj => hHk.2 _ (by simp; omega))
              have hgl := hHk.1.2
              clear hI hgr hHk hlen hlow
              go_wp2
              go_ret
              refine ⟨by rw [HL.out]; rfl, ?_, grown_set HG.out _ _⟩
              exact row_take HHk.out.1 kk (Nat.le_refl _) (compact d) HW.out rfl (by have := HHk.out.1.2; have hs := (grown_set (w := wr) (grown_refl wr (some g)) (kk * 3) vs).size; omega)
        · rw [decide_eq_false hdup] at eq1
          have HD := Lib.hid hdup
          clear hdup
          go_wp2_with fail
          go_quiet (fail)
          go_wp2
          go_roundw
          case rel =>
            refine ⟨k + 1, _, by omega, by omega, by go_num, rfl, fun j hj => ?_⟩
            by_cases e : j = k
            · subst e
              exact keeps_pos (by rw [HX.out.1, HX.out.2]; exact HD.out)
            · exact HK.out j (by omega)
          case measure => simp [intOf]; omega
      · obtain rfl : k = d.length := by omega
        have HH := Lib.hid hH
        have HK := Lib.hid hkeep
        clear hH hkeep
        go_wp2
        go_ret
        rw [HA.out HK.out]
        exact ⟨rfl, HH.out.1, grown_dr (grown_refl _ _) _⟩
end Go.Proofs.YtahlinekbllkaaaGreatDoor.Se

/- set.Of: the set of a list of cells. -/
namespace Go.Proofs.YtahlinekbllkaaaGreatDoor.Se
open Go.RowKit Go.Proofs.YtahlinekbllkaaaGreatDoor.Ax Go.Proofs.YtahlinekbllkaaaGreatDoor.Ba Go.Shelf Go.Lib Go.Sort

/-- slices.SortFunc(s, cell.Compare), over memory of one's own. -/
theorem sort_any (v : Value) (L : List C) (B : Nat) (w : World) (h : w.ownsRow B 53 3 v L.length (flat L)) (hL : L.length ≤ 1000000) :
    Calls Tryz.prog 68 #[v, .func (.func 69) #[] #[]] w fun e w' => e = .returned (.tuple #[]) ∧
      ((v = .slice none 0 0 ∧ L = [] ∧ w' = w) ∨ ∃ (g cap : Nat) (d : List C), v = .slice (some ⟨g, 0, none⟩) L.length cap ∧ L.length ≤ cap ∧ B ≤ g ∧ d.length = L.length ∧ d.Perm L ∧ Sorted d ∧ HR w' g d ∧ w.grownBy w' (some g)) := by
  rcases h.2 with ⟨rfl, hn⟩ | ⟨g, cap, cur, rfl, hB, hh, hc, hrest⟩
  · have hL0 : L = [] := by simp_all
    have hcon := AnyF.slices_SortFunc_none Tryz.laySort none 0 (.func (.func 69) #[] #[]) w
    change Calls Tryz.prog 68 _ _ _ at hcon
    refine hcon.mono ?_
    rintro e w' ⟨rfl, rfl⟩
    exact ⟨rfl, .inl ⟨rfl, hL0, rfl⟩⟩
  · have hg : g < w.heap.size := by
      rcases Nat.lt_or_ge g w.heap.size with h' | h'
      · exact h'
      · rw [Array.getElem?_eq_none h'] at hh; cases hh
    have hH := holds_of_own h hg
    have eg : ∀ args w, (callFunc 69 args).run Tryz.prog w = .ok (.enter 69 args) w := enters_of Tryz.func69 (by kernel_rfl) rfl
    have hcon := AnyQ.slices_SortFunc Tryz.laySort 3 Tryz.isAgg53 Tryz.sizeOf53 encC (fun _ => rfl) (fun x v hv => by simp [encC] at hv; rcases hv with rfl | rfl | rfl <;> rfl) cf swo 69 #[] g 0 cap L.toArray w eg (cmpLays g 0 _ w) hH hg (by simp; omega)
    change Calls Tryz.prog 68 _ _ _ at hcon
    rw [show L.toArray.size = L.length by simp] at hcon
    refine hcon.mono ?_
    rintro e w' ⟨rfl, d, n, os, hp, hs, rfl⟩
    have hsz : d.size = L.length := by simpa using hp.1
    refine ⟨rfl, .inr ⟨g, cap, d.toList, rfl, hc, hB, by simpa using hsz, ?_, ?_, ?_, ?_⟩⟩
    · have := hp.2.2
      rw [show d.extract 0 L.length = d by rw [← hsz]; simp, show L.toArray.extract 0 L.length = L.toArray by simp] at this
      simpa using this
    · unfold Sorted
      rw [List.pairwise_iff_getElem]
      intro i j hi hj hij
      have hi' : i < d.size := by simpa using hi
      have hj' : j < d.size := by simpa using hj
      have h1 := hs i j (Nat.zero_le _) hij (by omega)
      rw [ltOf_cf, getElem!_pos d j hj', getElem!_pos d i hi'] at h1
      simpa using h1
    · exact hr_of_holds (holdsK_sortWorldK_c encC 3 w g 0 L.toArray d n os hH hg (by simpa using hp.1)) (Nat.lt_of_lt_of_le hg (size_sortWorldK_c encC 3 w g 0 n d os))
    · refine ⟨rfl, rfl, rfl, size_sortWorldK_c encC 3 w g 0 n d os, fun i hi hne => ?_⟩
      have hne' : g ≠ i := fun e => hne (by rw [e])
      show ((w.heap.modify g _) ++ os)[i]? = w.heap[i]?
      rw [Array.getElem?_append, if_pos (by simpa using hi), Array.getElem?_modify, if_neg hne']
theorem compact_nil (w : World) :
    Calls Tryz.prog 70 #[.slice none 0 0] w fun e w' => e = .returned (.slice none 0 0) ∧ w' = w := by
  go_enter Tryz.func70, Tryz.ntmps70
  go_wp2
  go_ret
  exact ⟨rfl, rfl⟩
set_option maxRecDepth 100000 in
theorem of_any (v : Value) (L : List C) (w : World) (h : SetAt w v L) (hL : L.length ≤ 1000000) :
    Calls Tryz.prog 40 #[v] w fun e w' => ∃ v', e = .returned v' ∧ SetAt w' v' (ofL L) ∧ Below w.heap.size w w' := by
  have hcl := clone_any v L w h hL
  go_enter Tryz.func40, Tryz.ntmps40
  go_wp2_with fail
  refine hcl.mono ?_
  rintro e w1 ⟨v1, rfl, hown, hb1⟩
  have hso := sort_any v1 L _ w1 hown hL
  go_wp2_with fail
  refine hso.mono ?_
  rintro e w2 ⟨rfl, ⟨rfl, rfl, rfl⟩ | ⟨g, cap, d, rfl, hcap, hB, hlen, hperm, hsd, hHR, hgr⟩⟩
  · go_wp2_with fail
    refine (compact_nil _).mono ?_
    rintro e w3 ⟨rfl, rfl⟩
    go_wp2_with fail
    go_ret
    exact ⟨_, rfl, .inl ⟨rfl, rfl⟩, hb1⟩
  · have hb2 : Below w.heap.size w w2 := hb1.grown hgr hb1.size (fun q hq => by injection hq with hq; omega)
    have hco := compact_any g cap d w2 hHR (by omega) (by omega)
    rw [hlen] at hco
    go_wp2_with fail
    refine hco.mono ?_
    rintro e w3 ⟨rfl, hrow, hgr3⟩
    have hb3 : Below w.heap.size w w3 := hb2.grown hgr3 hb2.size (fun q hq => by injection hq with hq; omega)
    go_wp2_with fail
    go_ret
    refine ⟨_, rfl, ?_, hb3⟩
    rw [← compact_of hsd hperm]
    refine .inr ⟨g, cap, rfl, ?_, hrow⟩
    have : (compact d).length ≤ d.length := by
      have h1 : (compact d).length ≤ (List.range d.length).length := by
        unfold compact compactUpTo
        rw [List.length_map]
        exact List.length_filter_le _ _
      simpa using h1
    omega
end Go.Proofs.YtahlinekbllkaaaGreatDoor.Se
