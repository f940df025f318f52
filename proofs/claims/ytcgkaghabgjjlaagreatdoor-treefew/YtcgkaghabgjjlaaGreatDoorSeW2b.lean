/- slices.Compact at cells. -/
import Derived.Test.YtcgkaghabgjjlaaGreatDoorSeW2
import Derived.Lib.SlicesCompact
import Derived.Lib.SliceRun
namespace Go.Proofs.YtcgkaghabgjjlaaGreatDoor.Se
open Go.RowKit Go.Proofs.YtcgkaghabgjjlaaGreatDoor.Ax Go.Proofs.YtcgkaghabgjjlaaGreatDoor.Ba Go.Shelf Go.Lib Go.Sort

/-! The mathematics. -/
def Sorted (d : List C) : Prop := d.Pairwise fun x y => lt y x = false
theorem compact_rising {d : List C} (h : Sorted d) : ∀ m, m ≤ d.length → Rising (compactUpTo d.toArray m) ∧ (∀ x, x ∈ compactUpTo d.toArray m ↔ x ∈ d.take m) ∧ ∀ x ∈ compactUpTo d.toArray m, x = d.toArray[m - 1]! ∨ lt x d.toArray[m - 1]! = true
  | 0, _ => ⟨by simp [compactUpTo, Rising], by simp [compactUpTo], by simp [compactUpTo]⟩
  | m + 1, hm => by
    obtain ⟨h1, h2, h3⟩ := compact_rising h m (by omega)
    have hd : d[m]? = some d.toArray[m]! := by
      rw [getElem!_pos d.toArray m (by simp; omega)]
      simp [List.getElem?_eq_getElem (show m < d.length by omega)]
    have ht : d.take (m + 1) = d.take m ++ [d.toArray[m]!] := by rw [List.take_add_one, hd]; rfl
    rw [compactUpTo_succ, ht]
    simp only [Nat.add_sub_cancel]
    cases hk : keeps d.toArray m
    · simp only [Bool.false_eq_true, if_false, List.append_nil]
      have hk' : ¬ (m = 0 ∨ d.toArray[m]! ≠ d.toArray[m - 1]!) := by simpa [keeps] using hk
      have h0 : m ≠ 0 := fun e => hk' (.inl e)
      have he : d.toArray[m]! = d.toArray[m - 1]! := Decidable.byContradiction fun e => hk' (.inr e)
      rw [he]
      refine ⟨h1, fun x => ?_, h3⟩
      rw [h2, List.mem_append, List.mem_singleton]
      refine ⟨.inl, ?_⟩
      rintro (hx | rfl)
      · exact hx
      · have hd' : d[m - 1]? = some d.toArray[m - 1]! := by
          rw [getElem!_pos d.toArray (m - 1) (by simp; omega)]
          simp [List.getElem?_eq_getElem (show m - 1 < d.length by omega)]
        exact List.mem_iff_getElem?.2 ⟨m - 1, by rw [List.getElem?_take, if_pos (by omega), hd']⟩
    · simp only [if_true]
      have hlt : ∀ x ∈ compactUpTo d.toArray m, lt x d.toArray[m]! = true := by
        intro x hx
        have hm0 : m ≠ 0 := by
          rintro rfl
          simp [compactUpTo] at hx
        have hk' : m = 0 ∨ d.toArray[m]! ≠ d.toArray[m - 1]! := by simpa [keeps] using hk
        have hne : d.toArray[m]! ≠ d.toArray[m - 1]! := hk'.resolve_left hm0
        have hs : lt d.toArray[m]! d.toArray[m - 1]! = false := by
          rw [getElem!_pos d.toArray m (by simp; omega), getElem!_pos d.toArray (m - 1) (by simp; omega)]
          exact List.pairwise_iff_getElem.1 h (m - 1) m (by omega) (by omega) (by omega)
        have hl : lt d.toArray[m - 1]! d.toArray[m]! = true := by
          cases hq : lt d.toArray[m - 1]! d.toArray[m]!
          · exact absurd (lt_or hs hq) hne
          · rfl
        rcases h3 x hx with e | e
        · rw [e]; exact hl
        · exact lt_trans e hl
      refine ⟨List.pairwise_append.2 ⟨h1, by simp, fun x hx y hy => ?_⟩, fun x => ?_, fun x hx => ?_⟩
      · rw [List.mem_singleton] at hy; subst hy; exact hlt x hx
      · rw [List.mem_append, List.mem_append, h2]
      · rcases List.mem_append.1 hx with hx | hx
        · exact .inr (hlt x hx)
        · exact .inl (List.mem_singleton.1 hx)
theorem compact_of {L d : List C} (h : Sorted d) (hp : d.Perm L) : compact d = ofL L := by
  obtain ⟨h1, h2, _⟩ := compact_rising h d.length (Nat.le_refl _)
  refine (ofL_eq h1 fun c => ?_).symm
  rw [h2, List.take_length]
  exact hp.mem_iff
/-! In memory. -/
/-- A block holds these cells, and they may be written. -/
def HR (w : World) (g : Nat) (d : List C) : Prop := Row w g d ∧ ∀ i, i < d.length * 3 → w.frozen? ⟨g, i, none⟩ = false
theorem hr_of_holds {w : World} {g : Nat} {d : Array C} (h : HoldsK encC 3 w g 0 d) (hg : g < w.heap.size) : HR w g d.toList := by
  have hc : ∀ t, t < d.size * 3 → w.cell? ⟨g, 0 + t, none⟩ = some (encC d[t / 3]!)[t % 3]! ∧ w.frozen? ⟨g, 0 + t, none⟩ = false := fun t ht => by
    have := h t (by simpa using ht)
    rw [get_flatK encC 3 d t ht] at this
    exact this
  refine ⟨⟨fun i x hx => ?_, hg⟩, fun i hi => ?_⟩
  · have hi : i < d.size := by simpa using (List.getElem?_eq_some_iff.1 hx).1
    have e : d[i]! = x := by
      rw [getElem!_pos d i hi]
      have := (List.getElem?_eq_some_iff.1 hx).2
      simpa using this
    have h0 := (hc (i * 3) (by omega)).1
    have h1 := (hc (i * 3 + 1) (by omega)).1
    have h2 := (hc (i * 3 + 1 + 1) (by omega)).1
    rw [show i * 3 / 3 = i by omega, show i * 3 % 3 = 0 by omega, e, Nat.zero_add] at h0
    rw [show (i * 3 + 1) / 3 = i by omega, show (i * 3 + 1) % 3 = 1 by omega, e, Nat.zero_add] at h1
    rw [show (i * 3 + 1 + 1) / 3 = i by omega, show (i * 3 + 1 + 1) % 3 = 2 by omega, e, Nat.zero_add] at h2
    exact ⟨h0, h1, h2⟩
  · have := (hc i (by simpa using hi)).2
    simpa using this
theorem holds_of_own {w : World} {base g cap : Nat} {L : List C} (h : w.ownsRow base 53 3 (.slice (some ⟨g, 0, none⟩) L.length cap) L.length (flat L)) (hg : g < w.heap.size) : HoldsK encC 3 w g 0 L.toArray := by
  intro t ht
  have ht' : t < L.length * 3 := by simpa using ht
  rw [get_flatK encC 3 L.toArray t (by simpa using ht')]
  refine ⟨?_, by simpa using h.frozenAt t⟩
  obtain ⟨hr, _⟩ := row_of_own h hg
  have hi : t / 3 < L.length := by omega
  have e : L.toArray[t / 3]! = L[t / 3] := by rw [getElem!_pos L.toArray (t / 3) (by simpa using hi)]; simp
  obtain ⟨h0, h1, h2⟩ := hr (t / 3) L[t / 3] (List.getElem?_eq_getElem hi)
  rw [e, Nat.zero_add]
  have h3 : t % 3 = 0 ∨ t % 3 = 1 ∨ t % 3 = 2 := by omega
  rcases h3 with h3 | h3 | h3
  · rw [show t / 3 * 3 = t by omega] at h0; rw [h3]; exact h0
  · rw [show t / 3 * 3 + 1 = t by omega] at h1; rw [h3]; exact h1
  · rw [show t / 3 * 3 + 1 + 1 = t by omega] at h2; rw [h3]; exact h2
theorem hr_set {w : World} {g : Nat} {d : List C} (h : HR w g d) (k : Nat) (hk : k < d.length) (x : C) : HR (w.setCells g (k * 3) (encC x)) g (d.set k x) := by
  obtain ⟨⟨hr, hg⟩, hf⟩ := h
  have hsz : g < (w.setCells g (k * 3) (encC x)).heap.size := by simpa [World.setCells, encC, World.setCell] using hg
  refine ⟨⟨fun i y hy => ?_, hsz⟩, fun i hi => ?_⟩
  · rw [List.getElem?_set] at hy
    by_cases e : k = i
    · subst e
      simp [hk] at hy
      subst hy
      obtain ⟨c0, c1, c2⟩ := hr k d[k] (List.getElem?_eq_getElem hk)
      have hin := World.cell?_setCells_in g (encC x) (k * 3) w (fun j hj => by
        have : j = 0 ∨ j = 1 ∨ j = 2 := by simp [encC] at hj; omega
        rcases this with rfl | rfl | rfl
        · simp [c0]
        · simp [c1]
        · rw [show k * 3 + 2 = k * 3 + 1 + 1 by omega]; simp [c2])
      exact ⟨hin 0 (by simp [encC]), hin 1 (by simp [encC]), hin 2 (by simp [encC])⟩
    · rw [if_neg e] at hy
      obtain ⟨c0, c1, c2⟩ := hr i y hy
      have ho := World.cell?_setCells_out g (encC x) (k * 3) w
      refine ⟨(ho ⟨g, i * 3, none⟩ fun _ _ => ?_).trans c0, (ho ⟨g, i * 3 + 1, none⟩ fun _ _ => ?_).trans c1, (ho ⟨g, i * 3 + 1 + 1, none⟩ fun _ _ => ?_).trans c2⟩
      all_goals simp only [encC, List.length_cons, List.length_nil]; omega
  · rw [World.frozen?_setCells]
    exact hf i (by simpa using hi)
theorem grown_set {w wr : World} {g : Nat} (h : w.grownBy wr (some g)) (o : Nat) (vs : List Value) : w.grownBy (wr.setCells g o vs) (some g) := by
  have : ∀ (vs : List Value) (o : Nat) (wr : World), w.grownBy wr (some g) → w.grownBy (wr.setCells g o vs) (some g) := by
    intro vs
    induction vs with
    | nil => intro o wr h; exact h
    | cons v vs ih =>
      intro o wr h
      refine ih _ _ ⟨h.os, h.tape, h.output, by simpa [World.setCell] using h.size, fun i hi hne => ?_⟩
      rw [Below.heap_setCell wr ⟨g, o, none⟩ v i (fun e => hne (by rw [e]))]
      exact h.block i hi hne
  exact this vs o wr h
theorem row_take {w wr : World} {g : Nat} {dk : List C} {o : Nat} {vs : List Value} (h : Row w g dk) (k : Nat) (hk : k * 3 ≤ o) (M : List C) (hM : ∀ i x, M[i]? = some x → i < k ∧ dk[i]? = some x) (hw : wr = w.setCells g o vs) (hg : g < wr.heap.size) : Row wr g M := by
  subst hw
  refine ⟨fun i x hx => ?_, hg⟩
  obtain ⟨h1, h2⟩ := hM i x hx
  obtain ⟨c0, c1, c2⟩ := h.1 i x h2
  have ho := World.cell?_setCells_out g vs o w
  exact ⟨(ho ⟨g, i * 3, none⟩ fun _ _ => by simp only; omega).trans c0, (ho ⟨g, i * 3 + 1, none⟩ fun _ _ => by simp only; omega).trans c1, (ho ⟨g, i * 3 + 1 + 1, none⟩ fun _ _ => by simp only; omega).trans c2⟩
/-- 'clear' of some cells. -/
theorem run_clear (w : World) (g o n c : Nat) (hn : 0 < n) (hc : ∀ j, j < n * 3 → (w.cell? ⟨g, o + j, none⟩).isSome = true) (hf : ∀ j, j < n * 3 → w.frozen? ⟨g, o + j, none⟩ = false) :
    ∃ vs, ∀ ty, (Builtin.clear_ #[31] ty #[.slice (some ⟨g, o, none⟩) n c]).run Tryz.prog w = .ok (.tuple #[]) (w.setCells g o vs) := by
  have hz : ∀ w, (zeroValue 53).run Tryz.prog w = .ok (.agg #[.int .i64 0, .int .i64 0, .int .i64 0]) w := fun w => by kernel_rfl
  have hlen : (Builtin.zeroCells #[.int .i64 0, .int .i64 0, .int .i64 0] n).toList.length = n * 3 := by simp [Builtin.zeroCells]
  have hone : ∀ v ∈ (Builtin.zeroCells #[.int .i64 0, .int .i64 0, .int .i64 0] n).toList, v.oneCell' = true := by
    intro v hv
    obtain ⟨i, hi, rfl⟩ := List.mem_iff_getElem.1 hv
    simp [Builtin.zeroCells]
    have : i % 3 = 0 ∨ i % 3 = 1 ∨ i % 3 = 2 := by omega
    rcases this with e | e | e <;> simp [e, Value.oneCell']
  have hst := run_storeCells_cells (P := Tryz.prog) g o (Builtin.zeroCells #[.int .i64 0, .int .i64 0, .int .i64 0] n).toList 0 w (by simpa [hlen] using hc) (by simpa [hlen] using hf) hone
  simp only [Nat.add_zero] at hst
  obtain ⟨m, rfl⟩ : ∃ m, n = m + 1 := ⟨n - 1, by omega⟩
  exact ⟨(Builtin.zeroCells #[.int .i64 0, .int .i64 0, .int .i64 0] (m + 1)).toList, fun ty => by simp [Builtin.clear_, run_underlying Tryz.underlying31, hz, Value.cells, hst]⟩
theorem eq_c (x y : C) (w : World) : (binOp .eql 53 (.agg #[.int .i64 x.1, .int .i64 x.2.1, .int .i64 x.2.2]) (.agg #[.int .i64 y.1, .int .i64 y.2.1, .int .i64 y.2.2])).run Tryz.prog w = .ok (.bool (decide (x = y))) w := by
  rw [eql_ce]
  congr 2
  obtain ⟨a, b, h⟩ := x
  obtain ⟨a', b', h'⟩ := y
  rw [Bool.eq_iff_iff]
  simp
theorem ne_c (x y : C) (w : World) : (binOp .neq 53 (.agg #[.int .i64 x.1, .int .i64 x.2.1, .int .i64 x.2.2]) (.agg #[.int .i64 y.1, .int .i64 y.2.1, .int .i64 y.2.2])).run Tryz.prog w = .ok (.bool (!decide (x = y))) w := by
  rw [neq_ce]
  congr 3
  obtain ⟨a, b, h⟩ := x
  obtain ⟨a', b', h'⟩ := y
  rw [Bool.eq_iff_iff]
  simp
end Go.Proofs.YtcgkaghabgjjlaaGreatDoor.Se
