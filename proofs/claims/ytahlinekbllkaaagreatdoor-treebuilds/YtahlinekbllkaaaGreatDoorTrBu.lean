/- Several texts, joined. -/
import Derived.Test.YtahlinekbllkaaaGreatDoorSeW2
import Derived.Lib.SlicesCompact
import Derived.Lib.SliceRun
import Derived.Deep.LoopGhost
import Derived.Shelf.SlSortCmp.NoneTotal
import Derived.Test.YtahlinekbllkaaaGreatDoorTrW13
import Derived.Test.YtahlinekbllkaaaGreatDoorArW2
import Derived.Test.YtahlinekbllkaaaGreatDoorTrB2
import Derived.Test.YtahlinekbllkaaaGreatDoorSeBx
import Derived.Test.YtahlinekbllkaaaGreatDoorTrW12
import Derived.Deep.RegionLaw
import Derived.Test.YtahlinekbllkaaaGreatDoorSeL
import Derived.Test.YtahlinekbllkaaaGreatDoorBsR
import Derived.Deep.Slices
import Derived.Test.YtahlinekbllkaaaGreatDoorTrW9
import Derived.Deep.RegionHeld3
import Derived.Test.YtahlinekbllkaaaGreatDoorTrW11
import Derived.Deep.DeepCutAuto
import Derived.Laws.BitsLemmas
import Derived.Test.YtahlinekbllkaaaGreatDoorSeR2
import Derived.Maps.AppendAt
import Derived.Test.YtahlinekbllkaaaGreatDoorTrW10
import Derived.BigQuiet
import Derived.Test.YtahlinekbllkaaaGreatDoorTrM4
import Derived.Test.YtahlinekbllkaaaGreatDoorSeR1
import Derived.BigRegion
import Derived.Test.YtahlinekbllkaaaGreatDoorCards
import Derived.Test.YtahlinekbllkaaaGreatDoorTie
import Derived.Test.YtahlinekbllkaaaGreatDoorSiW4
import Derived.ProofKit
import Derived.OpenShut
import Derived.Lib.LaidTab
import Derived.Test.YtahlinekbllkaaaGreatDoorSeA
import Derived.Deep.DeepHandedRow
import Derived.Lib.SmallJoins
/- slices.Compact at cells. -/
namespace Go.Proofs.YtahlinekbllkaaaGreatDoor.Se
open Go.RowKit Go.Proofs.YtahlinekbllkaaaGreatDoor.Ax Go.Proofs.YtahlinekbllkaaaGreatDoor.Ba Go.Shelf Go.Lib Go.Sort

/-! The mathematics. -/
def Sorted (d : List C) : Prop := d.Pairwise fun x y => lt y x = false
theorem compact_rising {d : List C} (h : Sorted d) : ∀ m, m ≤ d.length → Rising (compactUpTo d.toArray m) ∧ (∀ x, x ∈ compactUpTo d.toArray m ↔ x ∈ d.take m) ∧ ∀ x ∈ compactUpTo d.toArray m, x = d.toArray[m - 1]! ∨ lt x d.toArray[m - 1]! = true
  | 0, _ => ⟨by simp [compactUpTo, Rising], by simp [compactUpTo], by simp [compactUpTo]⟩
  | m + 1, hm => by
    obtain ⟨h1, h2, h3⟩ := compact_rising h m (by omega)
    have hd : d[m]? = some d.toArray[m]! := by
      rw [getElem!_pos d.toArray m (by simp; omega)]
      simp [List.getElem?_eq_getElem (show m < d.length by omega)]
    have ht : d.take (m + 1) = d.take m ++ [d.toArray[m]!] := by rw [List.take_add_one, hd]; rfl
    rw [compactUpTo_succ, ht]
    simp only [Nat.add_sub_cancel]
    cases hk : keeps d.toArray m
    · simp only [Bool.false_eq_true, if_false, List.append_nil]
      have hk' : ¬ (m = 0 ∨ d.toArray[m]! ≠ d.toArray[m - 1]!) := by simpa [keeps] using hk
      have h0 : m ≠ 0 := fun e => hk' (.inl e)
      have he : d.toArray[m]! = d.toArray[m - 1]! := Decidable.byContradiction fun e => hk' (.inr e)
      rw [he]
      refine ⟨h1, fun x => ?_, h3⟩
      rw [h2, List.mem_append, List.mem_singleton]
      refine ⟨.inl, ?_⟩
      rintro (hx | rfl)
      · exact hx
      · have hd' : d[m - 1]? = some d.toArray[m - 1]! := by
          rw [getElem!_pos d.toArray (m - 1) (by simp; omega)]
          simp [List.getElem?_eq_getElem (show m - 1 < d.length by omega)]
        exact List.mem_iff_getElem?.2 ⟨m - 1, by rw [List.getElem?_take, if_pos (by omega), hd']⟩
    · simp only [if_true]
      have hlt : ∀ x ∈ compactUpTo d.toArray m, lt x d.toArray[m]! = true := by
        intro x hx
        have hm0 : m ≠ 0 := by
          rintro rfl
          simp [compactUpTo] at hx
        have hk' : m = 0 ∨ d.toArray[m]! ≠ d.toArray[m - 1]! := by simpa [keeps] using hk
        have hne : d.toArray[m]! ≠ d.toArray[m - 1]! := hk'.resolve_left hm0
        have hs : lt d.toArray[m]! d.toArray[m - 1]! = false := by
          rw [getElem!_pos d.toArray m (by simp; omega), getElem!_pos d.toArray (m - 1) (by simp; omega)]
          exact List.pairwise_iff_getElem.1 h (m - 1) m (by omega) (by omega) (by omega)
        have hl : lt d.toArray[m - 1]! d.toArray[m]! = true := by
          cases hq : lt d.toArray[m - 1]! d.toArray[m]!
          · exact absurd (lt_or hs hq) hne
          · rfl
        rcases h3 x hx with e | e
        · rw [e]; exact hl
        · exact lt_trans e hl
      refine ⟨List.pairwise_append.2 ⟨h1, by simp, fun x hx y hy => ?_⟩, fun x => ?_, fun x hx => ?_⟩
      · rw [List.mem_singleton] at hy; subst hy; exact hlt x hx
      · rw [List.mem_append, List.mem_append, h2]
      · rcases List.mem_append.1 hx with hx | hx
        · exact .inr (hlt x hx)
        · exact .inl (List.mem_singleton.1 hx)
theorem compact_of {L d : List C} (h : Sorted d) (hp : d.Perm L) : compact d = ofL L := by
  obtain ⟨h1, h2, _⟩ := compact_rising h d.length (Nat.le_refl _)
  refine (ofL_eq h1 fun c => ?_).symm
  rw [h2, List.take_length]
  exact hp.mem_iff
/-! In memory. -/
/-- A block holds these cells, and they may be written. -/
def HR (w : World) (g : Nat) (d : List C) : Prop := Row w g d ∧ ∀ i, i < d.length * 3 → w.frozen? ⟨g, i, none⟩ = false
theorem hr_of_holds {w : World} {g : Nat} {d : Array C} (h : HoldsK encC 3 w g 0 d) (hg : g < w.heap.size) : HR w g d.toList := by
  have hc : ∀ t, t < d.size * 3 → w.cell? ⟨g, 0 + t, none⟩ = some (encC d[t / 3]!)[t % 3]! ∧ w.frozen? ⟨g, 0 + t, none⟩ = false := fun t ht => by
    have := h t (by simpa using ht)
    rw [get_flatK encC 3 d t ht] at this
    exact this
  refine ⟨⟨fun i x hx => ?_, hg⟩, fun i hi => ?_⟩
  · have hi : i < d.size := by simpa using (List.getElem?_eq_some_iff.1 hx).1
    have e : d[i]! = x := by
      rw [getElem!_pos d i hi]
      have := (List.getElem?_eq_some_iff.1 hx).2
      simpa using this
    have h0 := (hc (i * 3) (by omega)).1
    have h1 := (hc (i * 3 + 1) (by omega)).1
    have h2 := (hc (i * 3 + 1 + 1) (by omega)).1
    rw [show i * 3 / 3 = i by omega, show i * 3 % 3 = 0 by omega, e, Nat.zero_add] at h0
    rw [show (i * 3 + 1) / 3 = i by omega, show (i * 3 + 1) % 3 = 1 by omega, e, Nat.zero_add] at h1
    rw [show (i * 3 + 1 + 1) / 3 = i by omega, show (i * 3 + 1 + 1) % 3 = 2 by omega, e, Nat.zero_add] at h2
    exact ⟨h0, h1, h2⟩
  · have := (hc i (by simpa using hi)).2
    simpa using this
theorem holds_of_own {w : World} {base g cap : Nat} {L : List C} (h : w.ownsRow base 53 3 (.slice (some ⟨g, 0, none⟩) L.length cap) L.length (flat L)) (hg : g < w.heap.size) : HoldsK encC 3 w g 0 L.toArray := by
  intro t ht
  have ht' : t < L.length * 3 := by simpa using ht
  rw [get_flatK encC 3 L.toArray t (by simpa using ht')]
  refine ⟨?_, by simpa using h.frozenAt t⟩
  obtain ⟨hr, _⟩ := row_of_own h hg
  have hi : t / 3 < L.length := by omega
  have e : L.toArray[t / 3]! = L[t / 3] := by rw [getElem!_pos L.toArray (t / 3) (by simpa using hi)]; simp
  obtain ⟨h0, h1, h2⟩ := hr (t / 3) L[t / 3] (List.getElem?_eq_getElem hi)
  rw [e, Nat.zero_add]
  have h3 : t % 3 = 0 ∨ t % 3 = 1 ∨ t % 3 = 2 := by omega
  rcases h3 with h3 | h3 | h3
  · rw [show t / 3 * 3 = t by omega] at h0; rw [h3]; exact h0
  · rw [show t / 3 * 3 + 1 = t by omega] at h1; rw [h3]; exact h1
  · rw [show t / 3 * 3 + 1 + 1 = t by omega] at h2; rw [h3]; exact h2
theorem hr_set {w : World} {g : Nat} {d : List C} (h : HR w g d) (k : Nat) (hk : k < d.length) (x : C) : HR (w.setCells g (k * 3) (encC x)) g (d.set k x) := by
  obtain ⟨⟨hr, hg⟩, hf⟩ := h
  have hsz : g < (w.setCells g (k * 3) (encC x)).heap.size := by simpa [World.setCells, encC, World.setCell] using hg
  refine ⟨⟨fun i y hy => ?_, hsz⟩, fun i hi => ?_⟩
  · rw [List.getElem?_set] at hy
    by_cases e : k = i
    · subst e
      simp [hk] at hy
      subst hy
      obtain ⟨c0, c1, c2⟩ := hr k d[k] (List.getElem?_eq_getElem hk)
      have hin := World.cell?_setCells_in g (encC x) (k * 3) w (fun j hj => by
        have : j = 0 ∨ j = 1 ∨ j = 2 := by simp [encC] at hj; omega
        rcases this with rfl | rfl | rfl
        · simp [c0]
        · simp [c1]
        · rw [show k * 3 + 2 = k * 3 + 1 + 1 by omega]; simp [c2])
      exact ⟨hin 0 (by simp [encC]), hin 1 (by simp [encC]), hin 2 (by simp [encC])⟩
    · rw [if_neg e] at hy
      obtain ⟨c0, c1, c2⟩ := hr i y hy
      have ho := World.cell?_setCells_out g (encC x) (k * 3) w
      refine ⟨(ho ⟨g, i * 3, none⟩ fun _ _ => ?_).trans c0, (ho ⟨g, i * 3 + 1, none⟩ fun _ _ => ?_).trans c1, (ho ⟨g, i * 3 + 1 + 1, none⟩ fun _ _ => ?_).trans c2⟩
      all_goals simp only [encC, List.length_cons, List.length_nil]; omega
  · rw [World.frozen?_setCells]
    exact hf i (by simpa using hi)
theorem grown_set {w wr : World} {g : Nat} (h : w.grownBy wr (some g)) (o : Nat) (vs : List Value) : w.grownBy (wr.setCells g o vs) (some g) := by
  have : ∀ (vs : List Value) (o : Nat) (wr : World), w.grownBy wr (some g) → w.grownBy (wr.setCells g o vs) (some g) := by
    intro vs
    induction vs with
    | nil => intro o wr h; exact h
    | cons v vs ih =>
      intro o wr h
      refine ih _ _ ⟨h.os, h.tape, h.output, by simpa [World.setCell] using h.size, fun i hi hne => ?_⟩
      rw [Below.heap_setCell wr ⟨g, o, none⟩ v i (fun e => hne (by rw [e]))]
      exact h.block i hi hne
  exact this vs o wr h
theorem row_take {w wr : World} {g : Nat} {dk : List C} {o : Nat} {vs : List Value} (h : Row w g dk) (k : Nat) (hk : k * 3 ≤ o) (M : List C) (hM : ∀ i x, M[i]? = some x → i < k ∧ dk[i]? = some x) (hw : wr = w.setCells g o vs) (hg : g < wr.heap.size) : Row wr g M := by
  subst hw
  refine ⟨fun i x hx => ?_, hg⟩
  obtain ⟨h1, h2⟩ := hM i x hx
  obtain ⟨c0, c1, c2⟩ := h.1 i x h2
  have ho := World.cell?_setCells_out g vs o w
  exact ⟨(ho ⟨g, i * 3, none⟩ fun _ _ => by simp only; omega).trans c0, (ho ⟨g, i * 3 + 1, none⟩ fun _ _ => by simp only; omega).trans c1, (ho ⟨g, i * 3 + 1 + 1, none⟩ fun _ _ => by simp only; omega).trans c2⟩
/-- 'clear' of some cells. -/
theorem run_clear (w : World) (g o n c : Nat) (hn : 0 < n) (hc : ∀ j, j < n * 3 → (w.cell? ⟨g, o + j, none⟩).isSome = true) (hf : ∀ j, j < n * 3 → w.frozen? ⟨g, o + j, none⟩ = false) :
    ∃ vs, ∀ ty, (Builtin.clear_ #[31] ty #[.slice (some ⟨g, o, none⟩) n c]).run Tryz.prog w = .ok (.tuple #[]) (w.setCells g o vs) := by
  have hz : ∀ w, (zeroValue 53).run Tryz.prog w = .ok (.agg #[.int .i64 0, .int .i64 0, .int .i64 0]) w := fun w => by kernel_rfl
  have hlen : (Builtin.zeroCells #[.int .i64 0, .int .i64 0, .int .i64 0] n).toList.length = n * 3 := by simp [Builtin.zeroCells]
  have hone : ∀ v ∈ (Builtin.zeroCells #[.int .i64 0, .int .i64 0, .int .i64 0] n).toList, v.oneCell' = true := by
    intro v hv
    obtain ⟨i, hi, rfl⟩ := List.mem_iff_getElem.1 hv
    simp [Builtin.zeroCells]
    have : i % 3 = 0 ∨ i % 3 = 1 ∨ i % 3 = 2 := by omega
    rcases this with e | e | e <;> simp [e, Value.oneCell']
  have hst := run_storeCells_cells (P := Tryz.prog) g o (Builtin.zeroCells #[.int .i64 0, .int .i64 0, .int .i64 0] n).toList 0 w (by simpa [hlen] using hc) (by simpa [hlen] using hf) hone
  simp only [Nat.add_zero] at hst
  obtain ⟨m, rfl⟩ : ∃ m, n = m + 1 := ⟨n - 1, by omega⟩
  exact ⟨(Builtin.zeroCells #[.int .i64 0, .int .i64 0, .int .i64 0] (m + 1)).toList, fun ty => by simp [Builtin.clear_, run_underlying Tryz.underlying31, hz, Value.cells, hst]⟩
theorem eq_c (x y : C) (w : World) : (binOp .eql 53 (.agg #[.int .i64 x.1, .int .i64 x.2.1, .int .i64 x.2.2]) (.agg #[.int .i64 y.1, .int .i64 y.2.1, .int .i64 y.2.2])).run Tryz.prog w = .ok (.bool (decide (x = y))) w := by
  rw [eql_ce]
  congr 2
  obtain ⟨a, b, h⟩ := x
  obtain ⟨a', b', h'⟩ := y
  rw [Bool.eq_iff_iff]
  simp
theorem ne_c (x y : C) (w : World) : (binOp .neq 53 (.agg #[.int .i64 x.1, .int .i64 x.2.1, .int .i64 x.2.2]) (.agg #[.int .i64 y.1, .int .i64 y.2.1, .int .i64 y.2.2])).run Tryz.prog w = .ok (.bool (!decide (x = y))) w := by
  rw [neq_ce]
  congr 3
  obtain ⟨a, b, h⟩ := x
  obtain ⟨a', b', h'⟩ := y
  rw [Bool.eq_iff_iff]
  simp
end Go.Proofs.YtahlinekbllkaaaGreatDoor.Se

/- slices.Compact at cells: the walk. -/
namespace Go.Proofs.YtahlinekbllkaaaGreatDoor.Se
open Go.RowKit Go.Proofs.YtahlinekbllkaaaGreatDoor.Ax Go.Proofs.YtahlinekbllkaaaGreatDoor.Ba Go.Shelf Go.Lib Go.Sort

def Co1 (w : World) (d : List C) (s : Value) (wr : World) : Prop := ∃ k q : Nat, 1 ≤ k ∧ k ≤ d.length ∧ s = .int .i64 k ∧ wr = w.drewN q ∧ ∀ j, j < k → keeps d.toArray j = true
def Co2 (w : World) (g : Nat) (d : List C) (k : Nat) (s t : Value) (wr : World) : Prop :=
  ∃ (kk k2 : Nat) (dk : Array C), s = .int .i64 kk ∧ t = .int .i64 k2 ∧ 1 ≤ k2 ∧ k + k2 ≤ d.length ∧ HR wr g dk.toList ∧ w.grownBy wr (some g) ∧ CompInv d.toArray (k + k2) kk dk
theorem HR.drewN {w : World} {g : Nat} {d : List C} (h : HR w g d) (q : Nat) : HR (w.drewN q) g d := h
theorem grown_dr {w wr : World} {r : Option Nat} (h : w.grownBy wr r) (q : Nat) : w.grownBy (wr.drewN q) r := ⟨h.os, h.tape, h.output, h.size, h.block⟩
theorem grown_refl (w : World) (r : Option Nat) : w.grownBy w r := ⟨rfl, rfl, rfl, Nat.le_refl _, fun _ _ _ => rfl⟩
set_option maxRecDepth 100000 in
set_option maxHeartbeats 4000000 in
theorem compact_any (g cap : Nat) (d : List C) (w : World) (hH : HR w g d) (hcap : d.length ≤ cap) (hd : d.length ≤ 1000000) :
    Calls Tryz.prog 70 #[.slice (some ⟨g, 0, none⟩) d.length cap] w fun e w' =>
      e = .returned (.slice (some ⟨g, 0, none⟩) (compact d).length cap) ∧ Row w' g (compact d) ∧ w.grownBy w' (some g) := by
  have HA := Lib.hid (show (∀ j, j < d.length → keeps d.toArray j = true) → compact d = d from fun h => compact_all d h)
  by_cases h2 : d.length < 2
  · have HH := Lib.hid hH
    clear hH
    go_enter Tryz.func70, Tryz.ntmps70
    go_wp2
    go_ret
    rw [HA.out (fun j hj => keeps_lt_one d.toArray j (by omega))]
    exact ⟨rfl, HH.out.1, grown_refl _ _⟩
  · go_enter Tryz.func70, Tryz.ntmps70
    go_wp2
    go_loopw [3] (fun s wr => Co1 w d s wr) (fun s _ => d.length - (intOf s).toNat)
    case atStart => exact ⟨1, 0, Nat.le_refl _, by omega, rfl, rfl, keeps_lt_one d.toArray⟩
    case round =>
      obtain ⟨k, q, hk1, hk, rfl, rfl, hkeep⟩ := hrel
      by_cases hlt : k < d.length
      · have HK := Lib.hid hkeep
        have HH := Lib.hid hH
        obtain ⟨x, hx⟩ : ∃ x, d[k]? = some x := ⟨_, List.getElem?_eq_getElem hlt⟩
        obtain ⟨y, hy⟩ : ∃ y, d[k - 1]? = some y := ⟨_, List.getElem?_eq_getElem (by omega)⟩
        obtain ⟨c0, c1, c2⟩ := hH.1.1 k x hx
        obtain ⟨e0, e1, e2⟩ := hH.1.1 (k - 1) y hy
        have hg := hH.1.2
        have hx' : d.toArray[k]! = x := by rw [getElem!_pos d.toArray k (by simpa using hlt)]; simpa using (List.getElem?_eq_some_iff.1 hx).2
        have hy' : d.toArray[k - 1]! = y := by rw [getElem!_pos d.toArray (k - 1) (by simp; omega)]; simpa using (List.getElem?_eq_some_iff.1 hy).2
        have HX := Lib.hid (And.intro hx' hy')
        clear hx' hy' hx hy hkeep hH
        have eq1 := eq_c x y
        by_cases hdup : x = y
        · rw [decide_eq_true hdup] at eq1
          have HD := Lib.hid hdup
          clear hdup
          go_wp2_with fail
          go_quiet (fail)
          clear c0 c1 c2 e0 e1 e2 eq1
          go_wp2
          go_loopw [3, 5] (fun s t wr => Co2 w g d k s t wr) (fun _ t _ => d.length - (intOf t).toNat)
          case atStart => exact ⟨k, 1, d.toArray, rfl, rfl, Nat.le_refl _, by omega, by simpa using (HH.out.drewN _), grown_dr (grown_refl _ _) _, CompInv.start HK.out (keeps_neg (by omega) (by rw [HX.out.1, HX.out.2]; exact HD.out))⟩
          case round =>
            obtain ⟨kk, k2, dk, rfl, rfl, h1, hle, hHk, hgr, hI⟩ := hrel
            have hkk := hI.lt
            have hds : dk.size = d.length := by simpa using hI.size
            have HI := Lib.hid hI
            have HG := Lib.hid hgr
            have HHk := Lib.hid hHk
            by_cases hlt2 : k + k2 < d.length
            · obtain ⟨x', hx'⟩ : ∃ z, dk.toList[k + k2]? = some z := ⟨_, List.getElem?_eq_getElem (by simp; omega)⟩
              obtain ⟨y', hy'⟩ : ∃ z, dk.toList[k + k2 - 1]? = some z := ⟨_, List.getElem?_eq_getElem (by simp; omega)⟩
              obtain ⟨z', hz'⟩ : ∃ z, dk.toList[kk]? = some z := ⟨_, List.getElem?_eq_getElem (by simp; omega)⟩
              obtain ⟨c0, c1, c2⟩ := hHk.1.1 _ x' hx'
              obtain ⟨e0, e1, e2⟩ := hHk.1.1 _ y' hy'
              obtain ⟨f0, f1, f2⟩ := hHk.1.1 _ z' hz'
              have r0 := hHk.2 (kk * 3) (by simp; omega)
              have r1 := hHk.2 (kk * 3 + 1) (by simp; omega)
              have r2 := hHk.2 (kk * 3 + 1 + 1) (by simp; omega)
              have hgl := hHk.1.2
              have hX' : d.toArray[k + k2]! = x' := by
                rw [← hI.high (k + k2) (by omega), getElem!_pos dk (k + k2) (by omega)]; simpa using (List.getElem?_eq_some_iff.1 hx').2
              have hY' : d.toArray[k + k2 - 1]! = y' := by
                rw [← hI.high (k + k2 - 1) (by omega), getElem!_pos dk (k + k2 - 1) (by omega)]; simpa using (List.getElem?_eq_some_iff.1 hy').2
              have HX' := Lib.hid (And.intro hX' hY')
              rw [show (k + k2) * 3 = k * 3 + k2 * 3 by omega] at c0 c1 c2
              rw [show (k + k2 - 1) * 3 = k * 3 + (k2 - 1) * 3 by omega] at e0 e1 e2
              clear hX' hY' hx' hy' hz' hI hHk hgr
              have eq1 := ne_c x' y'
              by_cases hdup : x' = y'
              · rw [decide_eq_true hdup, Bool.not_true] at eq1
                have HD' := Lib.hid hdup
                clear hdup
                go_wp2_with fail
                go_quiet (fail)
                go_wp2
                go_roundw
                case rel => exact ⟨kk, k2 + 1, dk, rfl, by go_num, by omega, by omega, HHk.out.drewN _, grown_dr HG.out _, HI.out.skip (keeps_neg (by omega) (by rw [HX'.out.1, HX'.out.2]; exact HD'.out))⟩
                case measure => simp [intOf]; omega
              · rw [decide_eq_false hdup, Bool.not_false] at eq1
                have HD' := Lib.hid hdup
                clear hdup
                go_wp2_with fail
                go_quiet (fail)
                go_wp2
                go_roundw
                case rel =>
                  refine ⟨kk + 1, k2 + 1, dk.setIfInBounds kk x', by go_num, by go_num, by omega, by omega, ?_, ?_, ?_⟩
                  · rw [Array.toList_setIfInBounds]
                    exact hr_set (HHk.out.drewN _) kk (by simp; omega) x'
                  · exact grown_set (grown_dr HG.out _) (kk * 3) (encC x')
                  · have := HI.out.keep (by simpa using hlt2) (keeps_pos (by rw [HX'.out.1, HX'.out.2]; exact HD'.out))
                    rwa [HX'.out.1] at this
                case measure => simp [intOf]; omega
            · have hend : k + k2 = d.length := by omega
              have hlen : (compact d).length = kk := by
                have := hI.len
                rw [hend] at this
                exact this
              have hlow : ∀ i x, (compact d)[i]? = some x → i < kk ∧ dk.toList[i]? = some x := by
                intro i x hx
                have hi : i < kk := by have := (List.getElem?_eq_some_iff.1 hx).1; omega
                have h := hI.low i hi
                rw [hend] at h
                have h' : (compact d)[i]? = some dk[i]! := h
                rw [hx] at h'
                injection h' with h'
                refine ⟨hi, ?_⟩
                rw [h', getElem!_pos dk i (by omega)]
                simp
              have HL := Lib.hid hlen
              have HW := Lib.hid hlow
              obtain ⟨vs, hcl⟩ := run_clear wr g (kk * 3) (d.length - kk) (cap - kk) (by omega)
                (fun j hj => by
                  obtain ⟨z, hz⟩ : ∃ z, dk.toList[kk + j / 3]? = some z := ⟨_, List.getElem?_eq_getElem (by simp; omega)⟩
                  obtain ⟨c0, c1, c2⟩ := hHk.1.1 _ z hz
                  have h3 : j % 3 = 0 ∨ j % 3 = 1 ∨ j % 3 = 2 := by omega
                  rcases h3 with h3 | h3 | h3
                  · rw [show kk * 3 + j = (kk + j / 3) * 3 by omega, c0]; rfl
                  · rw [show kk * 3 + j = (kk + j / 3) * 3 + 1 by omega, c1]; rfl
                  · rw [show kk * 3 + j = (kk + j / 3) * 3 + 1 + 1 by omega, c2]; rfl)
                (fun j hj => hHk.2 _ (by simp; omega))
              have hgl := hHk.1.2
              clear hI hgr hHk hlen hlow
              go_wp2
              go_ret
              refine ⟨by rw [HL.out]; rfl, ?_, grown_set HG.out _ _⟩
              exact row_take HHk.out.1 kk (Nat.le_refl _) (compact d) HW.out rfl (by have := HHk.out.1.2; have hs := (grown_set (w := wr) (grown_refl wr (some g)) (kk * 3) vs).size; omega)
        · rw [decide_eq_false hdup] at eq1
          have HD := Lib.hid hdup
          clear hdup
          go_wp2_with fail
          go_quiet (fail)
          go_wp2
          go_roundw
          case rel =>
            refine ⟨k + 1, _, by omega, by omega, by go_num, rfl, fun j hj => ?_⟩
            by_cases e : j = k
            · subst e
              exact keeps_pos (by rw [HX.out.1, HX.out.2]; exact HD.out)
            · exact HK.out j (by omega)
          case measure => simp [intOf]; omega
      · obtain rfl : k = d.length := by omega
        have HH := Lib.hid hH
        have HK := Lib.hid hkeep
        clear hH hkeep
        go_wp2
        go_ret
        rw [HA.out HK.out]
        exact ⟨rfl, HH.out.1, grown_dr (grown_refl _ _) _⟩
end Go.Proofs.YtahlinekbllkaaaGreatDoor.Se

/- set.Of: the set of a list of cells. -/
namespace Go.Proofs.YtahlinekbllkaaaGreatDoor.Se
open Go.RowKit Go.Proofs.YtahlinekbllkaaaGreatDoor.Ax Go.Proofs.YtahlinekbllkaaaGreatDoor.Ba Go.Shelf Go.Lib Go.Sort

/-- slices.SortFunc(s, cell.Compare), over memory of one's own. -/
theorem sort_any (v : Value) (L : List C) (B : Nat) (w : World) (h : w.ownsRow B 53 3 v L.length (flat L)) (hL : L.length ≤ 1000000) :
    Calls Tryz.prog 68 #[v, .func (.func 69) #[] #[]] w fun e w' => e = .returned (.tuple #[]) ∧
      ((v = .slice none 0 0 ∧ L = [] ∧ w' = w) ∨ ∃ (g cap : Nat) (d : List C), v = .slice (some ⟨g, 0, none⟩) L.length cap ∧ L.length ≤ cap ∧ B ≤ g ∧ d.length = L.length ∧ d.Perm L ∧ Sorted d ∧ HR w' g d ∧ w.grownBy w' (some g)) := by
  rcases h.2 with ⟨rfl, hn⟩ | ⟨g, cap, cur, rfl, hB, hh, hc, hrest⟩
  · have hL0 : L = [] := by simp_all
    have hcon := AnyF.slices_SortFunc_none Tryz.laySort none 0 (.func (.func 69) #[] #[]) w
    change Calls Tryz.prog 68 _ _ _ at hcon
    refine hcon.mono ?_
    rintro e w' ⟨rfl, rfl⟩
    exact ⟨rfl, .inl ⟨rfl, hL0, rfl⟩⟩
  · have hg : g < w.heap.size := by
      rcases Nat.lt_or_ge g w.heap.size with h' | h'
      · exact h'
      · rw [Array.getElem?_eq_none h'] at hh; cases hh
    have hH := holds_of_own h hg
    have eg : ∀ args w, (callFunc 69 args).run Tryz.prog w = .ok (.enter 69 args) w := enters_of Tryz.func69 (by kernel_rfl) rfl
    have hcon := AnyQ.slices_SortFunc Tryz.laySort 3 Tryz.isAgg53 Tryz.sizeOf53 encC (fun _ => rfl) (fun x v hv => by simp [encC] at hv; rcases hv with rfl | rfl | rfl <;> rfl) cf swo 69 #[] g 0 cap L.toArray w eg (cmpLays g 0 _ w) hH hg (by simp; omega)
    change Calls Tryz.prog 68 _ _ _ at hcon
    rw [show L.toArray.size = L.length by simp] at hcon
    refine hcon.mono ?_
    rintro e w' ⟨rfl, d, n, os, hp, hs, rfl⟩
    have hsz : d.size = L.length := by simpa using hp.1
    refine ⟨rfl, .inr ⟨g, cap, d.toList, rfl, hc, hB, by simpa using hsz, ?_, ?_, ?_, ?_⟩⟩
    · have := hp.2.2
      rw [show d.extract 0 L.length = d by rw [← hsz]; simp, show L.toArray.extract 0 L.length = L.toArray by simp] at this
      simpa using this
    · unfold Sorted
      rw [List.pairwise_iff_getElem]
      intro i j hi hj hij
      have hi' : i < d.size := by simpa using hi
      have hj' : j < d.size := by simpa using hj
      have h1 := hs i j (Nat.zero_le _) hij (by omega)
      rw [ltOf_cf, getElem!_pos d j hj', getElem!_pos d i hi'] at h1
      simpa using h1
    · exact hr_of_holds (holdsK_sortWorldK_c encC 3 w g 0 L.toArray d n os hH hg (by simpa using hp.1)) (Nat.lt_of_lt_of_le hg (size_sortWorldK_c encC 3 w g 0 n d os))
    · refine ⟨rfl, rfl, rfl, size_sortWorldK_c encC 3 w g 0 n d os, fun i hi hne => ?_⟩
      have hne' : g ≠ i := fun e => hne (by rw [e])
      show ((w.heap.modify g _) ++ os)[i]? = w.heap[i]?
      rw [Array.getElem?_append, if_pos (by simpa using hi), Array.getElem?_modify, if_neg hne']
theorem compact_nil (w : World) :
    Calls Tryz.prog 70 #[.slice none 0 0] w fun e w' => e = .returned (.slice none 0 0) ∧ w' = w := by
  go_enter Tryz.func70, Tryz.ntmps70
  go_wp2
  go_ret
  exact ⟨rfl, rfl⟩
set_option maxRecDepth 100000 in
theorem of_any (v : Value) (L : List C) (w : World) (h : SetAt w v L) (hL : L.length ≤ 1000000) :
    Calls Tryz.prog 40 #[v] w fun e w' => ∃ v', e = .returned v' ∧ SetAt w' v' (ofL L) ∧ Below w.heap.size w w' := by
  have hcl := clone_any v L w h hL
  go_enter Tryz.func40, Tryz.ntmps40
  go_wp2_with fail
  refine hcl.mono ?_
  rintro e w1 ⟨v1, rfl, hown, hb1⟩
  have hso := sort_any v1 L _ w1 hown hL
  go_wp2_with fail
  refine hso.mono ?_
  rintro e w2 ⟨rfl, ⟨rfl, rfl, rfl⟩ | ⟨g, cap, d, rfl, hcap, hB, hlen, hperm, hsd, hHR, hgr⟩⟩
  · go_wp2_with fail
    refine (compact_nil _).mono ?_
    rintro e w3 ⟨rfl, rfl⟩
    go_wp2_with fail
    go_ret
    exact ⟨_, rfl, .inl ⟨rfl, rfl⟩, hb1⟩
  · have hb2 : Below w.heap.size w w2 := hb1.grown hgr hb1.size (fun q hq => by injection hq with hq; omega)
    have hco := compact_any g cap d w2 hHR (by omega) (by omega)
    rw [hlen] at hco
    go_wp2_with fail
    refine hco.mono ?_
    rintro e w3 ⟨rfl, hrow, hgr3⟩
    have hb3 : Below w.heap.size w w3 := hb2.grown hgr3 hb2.size (fun q hq => by injection hq with hq; omega)
    go_wp2_with fail
    go_ret
    refine ⟨_, rfl, ?_, hb3⟩
    rw [← compact_of hsd hperm]
    refine .inr ⟨g, cap, rfl, ?_, hrow⟩
    have : (compact d).length ≤ d.length := by
      have h1 : (compact d).length ≤ (List.range d.length).length := by
        unfold compact compactUpTo
        rw [List.length_map]
        exact List.length_filter_le _ _
      simpa using h1
    omega
end Go.Proofs.YtahlinekbllkaaaGreatDoor.Se

/- Contracts of package tree: Cells. -/
namespace Go.Proofs.YtahlinekbllkaaaGreatDoor.Tr
open Go.RowKit Go.Proofs.YtahlinekbllkaaaGreatDoor.Ba Go.Proofs.YtahlinekbllkaaaGreatDoor.Ar Go.Lib
open Go.Proofs.YtahlinekbllkaaaGreatDoor.Si (DebIs)
open Go.Proofs.YtahlinekbllkaaaGreatDoor.Se (SetAt ofL of_any set_of_own)

set_option maxRecDepth 100000 in
set_option maxHeartbeats 1000000 in
theorem cells_none (g i : Nat) (most : Int) (S : Sta) (P : Nat → Prop) (w : World) (hA : ArAt w g S P) (hi : okU i) (hN : S.N.length ≤ 1000000) (hno : levelOf S.N i < 3) :
    Calls Tryz.prog 10 #[Pt g, .int .u32 i, .int .i64 most] w fun e w' => e = .returned (.tuple #[.slice none 0 0, errV (some 4)]) ∧ Below w.heap.size w w' := by
  have hr := fun W hW => isroot_any g i S P W hW hi hN
  rw [show decide (3 ≤ levelOf S.N i) = false by simp; omega] at hr
  go_enter Tryz.func10, Tryz.ntmps10
  go_wp2_with fail
  refine (hr _ hA).mono ?_
  rintro e w1 ⟨rfl, hb1⟩
  go_wp2_with fail
  exact bodyPost_ret (v := .tuple #[.slice none 0 0, errV (some 4)]) (by simp [results, Tryz.results10, go_sem, errV]) rfl ⟨rfl, hb1⟩
set_option maxRecDepth 100000 in
set_option maxHeartbeats 1000000 in
theorem cells_big (g i d : Nat) (most : Int) (S : Sta) (P : Nat → Prop) (w : World) (hA : ArAt w g S P) (hv : lvOk S.N d i) (hd : 1 ≤ d) (hN : S.N.length ≤ 1000000) (hm : most ≤ 9223372036854775807) (hb : most < (ndAt S.N i).1.count) :
    Calls Tryz.prog 10 #[Pt g, .int .u32 i, .int .i64 most] w fun e w' => e = .returned (.tuple #[.slice none 0 0, errV (some 3)]) ∧ Below w.heap.size w w' := by
  have hr := fun W hW => isroot_any g i S P W hW (lv_okU hv hN) hN
  rw [show decide (3 ≤ levelOf S.N i) = true by have : levelOf S.N i = (d : Int) + 2 := hv; simp; omega] at hr
  have hc := fun W hW => Ar.count_any g i S P W hW (lv_okU hv hN) hN
  generalize (ndAt S.N i).1.count = n at *
  by_cases h0 : most < 0
  · have h0' : decide (most < 0) = true := by simpa using h0
    go_enter Tryz.func10, Tryz.ntmps10
    go_wp2_with fail
    refine (hr _ hA).mono ?_
    rintro e w1 ⟨rfl, hb1⟩
    go_wp2_with fail
    exact bodyPost_ret (v := .tuple #[.slice none 0 0, errV (some 3)]) (by simp [results, Tryz.results10, go_sem, errV]) rfl ⟨rfl, hb1⟩
  · have h0' : decide (most < 0) = false := by simpa using h0
    have ew : IntKind.u64.wrap most = most := by rw [IntKind.wrap_u64]; omega
    have h1 : decide (most < (n : Int)) = true := by simpa using hb
    go_enter Tryz.func10, Tryz.ntmps10
    go_wp2_with fail
    refine (hr _ hA).mono ?_
    rintro e w1 ⟨rfl, hb1⟩
    have hA1 := hA.under hb1
    go_wp2_with fail
    refine (hc _ hA1).mono ?_
    rintro e w2 ⟨rfl, hb2⟩
    have hb3 := hb1.trans (hb2.mono hb1.size)
    go_wp2_with fail
    exact bodyPost_ret (v := .tuple #[.slice none 0 0, errV (some 3)]) (by simp [results, Tryz.results10, go_sem, errV]) rfl ⟨rfl, hb3⟩
set_option maxRecDepth 100000 in
set_option maxHeartbeats 1000000 in
theorem cells_root (g i d : Nat) (most : Int) (S : Sta) (P : Nat → Prop) (w : World) (hA : ArAt w g S P) (hv : lvOk S.N d i) (hd : 1 ≤ d) (hd2 : d ≤ 42) (T : Tw S) (hN : S.N.length ≤ 1000000) (hD : DebIs w) (hm : most ≤ 9223372036854775807) (h0 : 0 ≤ most) (hb : ((ndAt S.N i).1.count : Int) ≤ most) (hl : (cellsL S.N d i (-hf ((d : Int) + 2)) (-hf ((d : Int) + 2))).length ≤ 1000000) :
    Calls Tryz.prog 10 #[Pt g, .int .u32 i, .int .i64 most] w fun e w' => ∃ v, e = .returned (.tuple #[v, .nilIface]) ∧ SetAt w' v (ofL (cellsL S.N d i (-hf ((d : Int) + 2)) (-hf ((d : Int) + 2)))) ∧ Below w.heap.size w w' := by
  have hlv : levelOf S.N i = (d : Int) + 2 := hv
  have hr := fun W hW => isroot_any g i S (fun b => P b ∧ b < w.heap.size) W hW (lv_okU hv hN) hN
  rw [show decide (3 ≤ levelOf S.N i) = true by simp; omega] at hr
  have hc := fun W hW => Ar.count_any g i S (fun b => P b ∧ b < w.heap.size) W hW (lv_okU hv hN) hN
  have hle := fun W hW => Ar.level_any g i S (fun b => P b ∧ b < w.heap.size) W hW (lv_okU hv hN) hN
  rw [hlv] at hle
  have hwh := fun W => whole_any ((d : Int) + 2) W
  have hwk := fun l v W hW hP hF hDW hG => walk_any d (-hf ((d : Int) + 2)) (-hf ((d : Int) + 2)) i g l v [] S (fun b => P b ∧ b < w.heap.size) W (SqOk.whole hd2 hd) hv hW hP hF hDW hG T hN (by simpa using hl)
  have hA0 := hA.weak (P' := fun b => P b ∧ b < w.heap.size) fun b hb hlt => ⟨hb, hlt⟩
  generalize (ndAt S.N i).1.count = n at *
  generalize cellsL S.N d i (-hf ((d : Int) + 2)) (-hf ((d : Int) + 2)) = K at *
  have HX := Lib.hid (rfl : -hf ((d : Int) + 2) = -hf ((d : Int) + 2))
  have h0' : decide (most < 0) = false := by simpa using h0
  have ew : IntKind.u64.wrap most = most := by rw [IntKind.wrap_u64]; omega
  have h1 : decide (most < (n : Int)) = false := by simpa using hb
  have HD := Lib.hid hD
  clear hA hv hlv T hD hb
  go_enter Tryz.func10, Tryz.ntmps10
  go_wp2_with fail
  refine (hr _ hA0).mono ?_
  rintro e w1 ⟨rfl, hb1⟩
  have HB1 := Lib.hid hb1
  have hA1 := hA0.under hb1
  clear hr hb1 hA0
  go_wp2_with fail
  refine (hc _ hA1).mono ?_
  rintro e w2 ⟨rfl, hb2⟩
  have HB2 := Lib.hid (HB1.out.trans (hb2.mono HB1.out.size))
  have hA2 := hA1.under hb2
  have hb3 : Below w2.heap.size w2 (w2.alloc (.cells #[.slice none 0 0] 31)) := by go_grown
  have kl := Blk.newAt w2 31 #[.slice none 0 0] _ rfl
  have HB3 := Lib.hid (HB2.out.trans (hb3.mono HB2.out.size))
  have hA3 := hA2.under hb3
  clear hc hb2 hA1 hA2 hb3
  go_upto_region 6 with fail
  have hz3 : w2.heap.size + 1 ≤ (w2.alloc (.cells #[.slice none 0 0] 31)).heap.size := by simp
  have HZ := Lib.hid hz3
  clear hz3
  generalize w2.alloc (.cells #[.slice none 0 0] 31) = w3 at *
  go_wp2_with fail
  refine (hle _ hA3).mono ?_
  rintro e w4 ⟨rfl, hb4⟩
  have HB4 := Lib.hid (HB3.out.trans (hb4.mono HB3.out.size))
  have hA4 := hA3.under hb4
  have kl4 := kl.under hb4
  clear hle hb4 hA3 kl
  go_wp2_with fail
  refine (hwh _).mono ?_
  rintro e w5 ⟨rfl, hg5⟩
  have HB5 := Lib.hid (HB4.out.trans (hg5.below.mono HB4.out.size))
  have hA5 := hA4.under hg5.below
  have kl5 := kl4.under hg5.below
  have hD5 := HD.out.below HB5.out
  have hz2 : w.heap.size ≤ w2.heap.size := HB2.out.size
  have hF : Fill w5 w2.heap.size (.slice none 0 0) [] := ⟨kl5, World.ownsRow_nil _ _ _ _⟩
  have hwc := hwk w2.heap.size _ w5 hA5 (fun b hb => by have := hb.2; omega) hF hD5 (by have := HD.out.2; omega)
  have HF := Lib.hid hF
  clear hwh hg5 hA4 kl4 hwk hA5 kl5 hD5 hF
  go_wp2_with fail
  refine hwc.mono ?_
  rintro e w6 ⟨v6, rfl, hfd⟩
  rw [List.nil_append] at hfd
  have HB6 := Lib.hid (HB5.out.trans (hfd.off.below HB5.out.size (fun b hb => by have := wk_ge HF.out b hb; omega)))
  have k6 := hfd.fill.blk
  have hs6 := set_of_own hfd.fill.own
  have v0 : w6.cell? ⟨w2.heap.size, 0, none⟩ = some v6 := k6.cell 0
  have hl6 := k6.lt
  have hof := of_any v6 K w6 hs6 (by omega)
  obtain ⟨p6, c6, rfl⟩ := own_slice hfd.fill.own
  clear hwc hfd k6 hs6
  go_wp2_with fail
  refine hof.mono ?_
  rintro e w7 ⟨v7, rfl, hs7, hb7⟩
  have HB7 := Lib.hid (HB6.out.trans (hb7.mono HB6.out.size))
  have HS7 := Lib.hid hs7
  clear hof hb7 hs7
  go_wp2_with fail
  exact bodyPost_ret (v := .tuple #[v7, .nilIface]) (by simp [results, Tryz.results10, go_sem]) rfl ⟨v7, rfl, HS7.out, HB7.out⟩
end Go.Proofs.YtahlinekbllkaaaGreatDoor.Tr

/- Contracts of package tree: boxes.of and boxes.corners. -/
namespace Go.Proofs.YtahlinekbllkaaaGreatDoor.Tr
open Go.RowKit Go.Proofs.YtahlinekbllkaaaGreatDoor.Ba Go.Proofs.YtahlinekbllkaaaGreatDoor.Ar Go.Lib Go.Maps
open Go.Proofs.YtahlinekbllkaaaGreatDoor.Si (DebIs)
open Go.Proofs.YtahlinekbllkaaaGreatDoor.Se (Q Bx boxL box_any SetAt ofL of_any set_of_own flat)

structure BE (w : World) (g b : Nat) (S : Sta) (L : List Nat) (P : Nat → Prop) : Prop where
  ar : ArAt w g S P
  kb : KB w b S.N L
  nb : ¬ P b
  deb : DebIs w
  gb : 0 < b
  tw : Tw S
  ns : S.N.length ≤ 1000000
theorem deb_off {w w' : World} {b : Nat} (h : DebIs w) (ho : Off (fun k => k = b) w w') (hg : 0 < b) : DebIs w' := by
  have e : w'.heap[0]? = w.heap[0]? := ho.block _ h.2 (fun hq => by omega)
  exact ⟨fun i hi => (World.cell?_of_block (a := ⟨_, i, none⟩) e).trans (h.1 i hi), Nat.lt_of_lt_of_le h.2 ho.size⟩
section
variable {w w' : World} {g b : Nat} {S : Sta} {L L' : List Nat} {P : Nat → Prop}
theorem BE.under (E : BE w g b S L P) (hb : Below w.heap.size w w') : BE w' g b S L P :=
  ⟨E.ar.under hb, E.kb.under hb, E.nb, E.deb.below hb, E.gb, E.tw, E.ns⟩
theorem BE.after (E : BE w g b S L P) (ho : Off (fun k => k = b) w w') (hk : KB w' b S.N L') : BE w' g b S L' P :=
  ⟨E.ar.same fun k hk hlt => ho.block k hlt fun e => E.nb (e ▸ hk), hk, E.nb, deb_off E.deb ho E.gb, E.gb, E.tw, E.ns⟩
theorem BE.low (E : BE w g b S L P) : BE w g b S L (fun k => P k ∧ k < w.heap.size) :=
  ⟨E.ar.weak fun _ hk hlt => ⟨hk, hlt⟩, E.kb, fun h => E.nb h.1, E.deb, E.gb, E.tw, E.ns⟩
/-- A block of one's own changes. -/
theorem BE.same (E : BE w g b S L P) (hs : ∀ k, k < w.heap.size → (P k ∨ k = b ∨ k = 0) → w'.heap[k]? = w.heap[k]?) (hz : w.heap.size ≤ w'.heap.size) : BE w' g b S L P := by
  have e := hs _ E.deb.2 (.inr (.inr rfl))
  exact ⟨E.ar.same fun k hk hlt => hs k hlt (.inl hk), E.kb.same (hs b E.kb.lt (.inr (.inl rfl))), E.nb, ⟨fun i hi => (World.cell?_of_block (a := ⟨_, i, none⟩) e).trans (E.deb.1 i hi), Nat.lt_of_lt_of_le E.deb.2 hz⟩, E.gb, E.tw, E.ns⟩
theorem BE.blt (E : BE w g b S L P) : b < w.heap.size := E.kb.lt
end
theorem heap4 (w : World) {b k : Nat} (h : b ≠ k) (x y z u : Value) : ((((w.setCell ⟨k, 0, none⟩ x).setCell ⟨k, 1, none⟩ y).setCell ⟨k, 2, none⟩ z).setCell ⟨k, 3, none⟩ u).heap[b]? = w.heap[b]? :=
  (Below.heap_setCell _ ⟨k, 3, none⟩ u b h).trans ((Below.heap_setCell _ ⟨k, 2, none⟩ z b h).trans ((Below.heap_setCell _ ⟨k, 1, none⟩ y b h).trans (Below.heap_setCell _ ⟨k, 0, none⟩ x b h)))
theorem off4 {P : Nat → Prop} {w W : World} {k : Nat} (h : Off P w W) (hk : w.heap.size ≤ k) (x y z u : Value) : Off P w ((((W.setCell ⟨k, 0, none⟩ x).setCell ⟨k, 1, none⟩ y).setCell ⟨k, 2, none⟩ z).setCell ⟨k, 3, none⟩ u) :=
  (((h.setCell (p := ⟨k, 0, none⟩) (fun h => absurd h (by show ¬ (k < _); omega)) x).setCell (p := ⟨k, 1, none⟩) (fun h => absurd h (by show ¬ (k < _); omega)) y).setCell (p := ⟨k, 2, none⟩) (fun h => absurd h (by show ¬ (k < _); omega)) z).setCell (p := ⟨k, 3, none⟩) (fun h => absurd h (by show ¬ (k < _); omega)) u
abbrev Bq (g b : Nat) : Value := .agg #[Pt g, .map (some b)]
abbrev Bqc (g b : Nat) : Array Value := #[Pt g, .map (some b)]
def OfPost (w : World) (b d i : Nat) (S : Sta) (L : List Nat) (e : Ending) (w' : World) : Prop := ∃ L', e = .returned (.agg (Bx (bx S.N d i))) ∧ KB w' b S.N L' ∧ (∀ x ∈ L', x ∈ L ∨ levelOf S.N x < (d : Int) + 3) ∧ Off (fun k => k = b) w w'
def CrPost (w : World) (b d i : Nat) (S : Sta) (L : List Nat) (e : Ending) (w' : World) : Prop := ∃ v K L', e = .returned v ∧ SetAt w' v K ∧ K.length ≤ 1000 ∧ boxL K = bx S.N d i ∧ KB w' b S.N L' ∧ (∀ x ∈ L', x ∈ L ∨ levelOf S.N x < (d : Int) + 2) ∧ Off (fun k => k = b) w w'
def OfC (d : Nat) : Prop := ∀ (i g b : Nat) (S : Sta) (L : List Nat) (P : Nat → Prop) (w : World), BE w g b S L P → lvOk S.N d i → d ≤ 42 → (ndAt S.N i).1.count ≠ 0 →
  Calls Tryz.prog 42 #[Bq g b, .int .u32 i] w (OfPost w b d i S L)
def CrC (d : Nat) : Prop := ∀ (i g b : Nat) (S : Sta) (L : List Nat) (P : Nat → Prop) (w : World), BE w g b S L P → lvOk S.N d i → d ≤ 42 → (ndAt S.N i).1.count ≠ 0 →
  Calls Tryz.prog 72 #[Bq g b, .int .u32 i] w (CrPost w b d i S L)
set_option maxRecDepth 100000 in
set_option maxHeartbeats 1000000 in
theorem of_step (d : Nat) (hc : CrC d) : OfC d := by
  intro i g b S L P w E hi hd h0
  have hiu := lv_okU hi E.ns
  have hbw : Below w.heap.size w ((w.alloc (.cells (Bqc g b) 89)).alloc (.cells (Bx (0, 0, 0, 0)) 40)) := by go_grown
  have kq := (Blk.newAt w 89 (Bqc g b) _ rfl).alloc (.cells (Bx (0, 0, 0, 0)) 40)
  have kr : Blk ((w.alloc (.cells (Bqc g b) 89)).alloc (.cells (Bx (0, 0, 0, 0)) 40)) (w.heap.size + 1) 40 (Bx (0, 0, 0, 0)) := Blk.newAt _ _ _ _ (by simp)
  have E1 := E.low.under hbw
  obtain ⟨⟨qa, qb, qc, qe⟩, hlk, hq⟩ := E1.kb.look hiu
  have hlk2 : (Instr.lookup 87 (.map (some b)) (.int .u32 (i : Int)) true).run Tryz.prog ((w.alloc (.cells (Bqc g b) 89)).alloc (.cells (Bx (0, 0, 0, 0)) 40)) = .ok (.tuple #[.agg #[.int .i64 qa, .int .i64 qb, .int .i64 qc, .int .i64 qe], .bool (decide (i ∈ L))]) ((w.alloc (.cells (Bqc g b) 89)).alloc (.cells (Bx (0, 0, 0, 0)) 40)) := hlk
  clear hlk
  have HE := Lib.hid E
  have HE1 := Lib.hid E1
  have HBw := Lib.hid hbw
  have HQ := Lib.hid hq
  have HKq := Lib.hid kq
  have HKr := Lib.hid kr
  obtain ⟨c0, c1⟩ : _ ∧ _ := ⟨kq.cell 0, kq.cell 1⟩
  simp only [List.getElem?_toArray, List.getElem?_cons_zero, List.getElem?_cons_succ] at c0 c1
  have hl := kr.lt
  have hz : w.heap.size + 2 = ((w.alloc (.cells (Bqc g b) 89)).alloc (.cells (Bx (0, 0, 0, 0)) 40)).heap.size := by simp
  clear E E1 hbw hq kq kr
  go_enter Tryz.func42, Tryz.ntmps42
  go_upto_region 2 with fail
  have kr2 := HKr.out
  have kq2 := HKq.out
  have E2 := HE1.out
  have HB2 := HBw
  have HZ := Lib.hid hz
  clear HKr HKq HE1 HBw hlk2 hz hl c0 c1
  generalize ((w.alloc (.cells (Bqc g b) 89)).alloc (.cells (Bx (0, 0, 0, 0)) 40)) = W at *
  have fr0 := kr2.frozen 0
  have fr1 := kr2.frozen 1
  have fr2 := kr2.frozen 2
  have fr3 := kr2.frozen 3
  have z0 := kr2.cell 0
  have z1 := kr2.cell 1
  have z2 := kr2.cell 2
  have z3 := kr2.cell 3
  obtain ⟨c0, c1⟩ : _ ∧ _ := ⟨kq2.cell 0, kq2.cell 1⟩
  simp only [List.getElem?_toArray, List.getElem?_cons_zero, List.getElem?_cons_succ] at c0 c1 z0 z1 z2 z3
  have hlr := kr2.lt
  have hlq := kq2.lt
  have hn1 : w.heap.size + 1 ≠ W.heap.size := by omega
  have hn0 : w.heap.size ≠ W.heap.size := by omega
  by_cases hm : i ∈ L
  · have hd1 : decide (i ∈ L) = true := by simpa using hm
    have HQ2 := Lib.hid ((HQ.out hm).trans (bxN_of hi))
    rw [hd1]
    clear HQ hm hd1 hc E2 kr2 kq2
    go_wp2_with fail
    exact bodyPost_ret (v := .agg (Bx (qa, qb, qc, qe))) (by simp [results, Tryz.results42, go_sem, *]) rfl ⟨L, by rw [HQ2.out], HE.out.kb.under (by have := HB2.out; go_grown), fun x hx => .inl hx, Off.of_below (by have := HB2.out; go_grown)⟩
  · have hd1 : decide (i ∈ L) = false := by simpa using hm
    have kx : Blk (W.alloc (.cells #[.int .i64 qa, .int .i64 qb, .int .i64 qc, .int .i64 qe] 40)) W.heap.size 40 (Bx (qa, qb, qc, qe)) := Blk.newAt _ _ _ _ rfl
    have hbx : Below W.heap.size W (W.alloc (.cells #[.int .i64 qa, .int .i64 qb, .int .i64 qc, .int .i64 qe] 40)) := by go_grown
    have hcall := hc i g b S L _ (W.alloc (.cells #[.int .i64 qa, .int .i64 qb, .int .i64 qc, .int .i64 qe] 40)) (E2.under hbx) hi hd h0
    have HE2 := Lib.hid (E2.under hbx)
    have HKx := Lib.hid kx
    have HKr := Lib.hid (kr2.under hbx)
    have HKq := Lib.hid (kq2.under hbx)
    have HB3 := Lib.hid (HB2.out.trans (hbx.mono HB2.out.size))
    have HM := Lib.hid hm
    rw [hd1]
    clear HQ hm hd1 hc E2 kx kr2 kq2 fr0 fr1 fr2 fr3 z0 z1 z2 z3 hbx
    go_wp2_with fail
    refine hcall.mono ?_
    rintro e w5 ⟨v, K, L', rfl, hs, hKl, hKb, hkb5, hnew, ho5⟩
    have hof := of_any v K w5 hs (by omega)
    have HNew := Lib.hid hnew
    have HKb := Lib.hid hKb
    have HKB5 := Lib.hid hkb5
    have HO5 := Lib.hid ho5
    have HS := Lib.hid hs
    clear hcall hs hKb hkb5 hnew ho5 c0 c1
    go_wp2_with fail
    refine hof.mono ?_
    rintro e w6 ⟨v6, rfl, hs6, hb6⟩
    have hbx := box_any v6 (ofL K) w6 hs6 (by have := Go.Proofs.YtahlinekbllkaaaGreatDoor.Se.ofL_len K; omega)
    rw [box_same fun c => Go.Proofs.YtahlinekbllkaaaGreatDoor.Se.mem_ofL K c, HKb.out] at hbx
    obtain ⟨⟨ra, rb, rc, re⟩, hR⟩ : ∃ r, bx S.N d i = r := ⟨_, rfl⟩
    rw [hR] at hbx
    have hbx' : Calls Tryz.prog 55 #[v6] w6 fun e w' => e = .returned (.tuple #[.agg #[.int .i64 ra, .int .i64 rb, .int .i64 rc, .int .i64 re], .bool (decide (ofL K ≠ []))]) ∧ Below w6.heap.size w6 w' := hbx
    have HR := Lib.hid hR
    have HB6 := Lib.hid hb6
    clear hof hs6 hb6 hbx hR
    go_wp2_with fail
    refine hbx'.mono ?_
    rintro e w7 ⟨rfl, hb7⟩
    have HB7 := Lib.hid (HB6.out.trans (hb7.mono HB6.out.size))
    have hbS : b < w.heap.size := HE.out.blt
    have kx7 := (HO5.out.blk HKx.out (by omega)).under HB7.out
    have kr7 := (HO5.out.blk HKr.out (by omega)).under HB7.out
    have kq7 := (HO5.out.blk HKq.out (by omega)).under HB7.out
    have hlm : levelOf S.N i = (d : Int) + 2 := hi
    have hni : i ∉ L' := fun hm => by
      rcases HNew.out i hm with h | h
      · exact HM.out h
      · omega
    have hk8 : KB ((((w7.setCell ⟨W.heap.size, 0, none⟩ (.int .i64 ra)).setCell ⟨W.heap.size, 1, none⟩ (.int .i64 rb)).setCell ⟨W.heap.size, 2, none⟩ (.int .i64 rc)).setCell ⟨W.heap.size, 3, none⟩ (.int .i64 re)) b S.N L' := (HKB5.out.under HB7.out).same (heap4 w7 (by omega) _ _ _ _)
    obtain ⟨w9, hup, hk9, hg9⟩ := hk8.put HE.out.ns hiu hni (lv_le hi)
    rw [bxN_of hi, HR.out] at hup
    have hup' : (Instr.mapUpdate 87 (.map (some b)) (.int .u32 (i : Int)) (.agg #[.int .i64 ra, .int .i64 rb, .int .i64 rc, .int .i64 re])).run Tryz.prog ((((w7.setCell ⟨W.heap.size, 0, none⟩ (.int .i64 ra)).setCell ⟨W.heap.size, 1, none⟩ (.int .i64 rb)).setCell ⟨W.heap.size, 2, none⟩ (.int .i64 rc)).setCell ⟨W.heap.size, 3, none⟩ (.int .i64 re)) = .ok () w9 := hup
    have kx9 := ((((kx7.set_ 0 (.int .i64 ra)).set_ 1 (.int .i64 rb)).set_ 2 (.int .i64 rc)).set_ 3 (.int .i64 re)).grown hg9 (by intro h; injection h with h; omega)
    have kr9 := ((((kr7.far (p := ⟨W.heap.size, 0, none⟩) hn1 (.int .i64 ra)).far (p := ⟨W.heap.size, 1, none⟩) hn1 (.int .i64 rb)).far (p := ⟨W.heap.size, 2, none⟩) hn1 (.int .i64 rc)).far (p := ⟨W.heap.size, 3, none⟩) hn1 (.int .i64 re)).grown hg9 (by intro h; injection h with h; omega)
    have HO9 : Hid (Off (fun k => k = b) w w9) := Lib.hid ((off4 (((Off.of_below HB3.out).trans HO5.out).trans (Off.of_below HB7.out)) (by omega) (.int .i64 ra) (.int .i64 rb) (.int .i64 rc) (.int .i64 re)).grown hg9 fun k hk _ => by injection hk with hk; exact hk.symm)
    have HK9 := Lib.hid hk9
    have x0 := kx9.cell 0
    have x1 := kx9.cell 1
    have x2 := kx9.cell 2
    have x3 := kx9.cell 3
    have z0 := kr9.cell 0
    have z1 := kr9.cell 1
    have z2 := kr9.cell 2
    have z3 := kr9.cell 3
    have y0 := kx7.cell 0
    have y1 := kx7.cell 1
    have y2 := kx7.cell 2
    have y3 := kx7.cell 3
    obtain ⟨c0, c1⟩ : _ ∧ _ := ⟨kq7.cell 0, kq7.cell 1⟩
    simp only [List.getElem?_toArray, List.getElem?_cons_zero, List.getElem?_cons_succ] at c0 c1 z0 z1 z2 z3 y0 y1 y2 y3
    simp (config := { decide := true }) at x0 x1 x2 x3
    have g0 := kx7.frozen 0
    have g1 := kx7.frozen 1
    have g2 := kx7.frozen 2
    have g3 := kx7.frozen 3
    have fr0 := kr9.frozen 0
    have fr1 := kr9.frozen 1
    have fr2 := kr9.frozen 2
    have fr3 := kr9.frozen 3
    have hl9 := kr9.lt
    have hl7 := kx7.lt
    have hlx := kx9.lt
    clear hup hk8 hk9 hg9 kx7 kr7 kq7 kx9 kr9 hb7 hbx'
    go_wp2_with fail
    exact bodyPost_ret (v := .agg (Bx (ra, rb, rc, re))) (by simp [results, Tryz.results42, go_sem, *]) rfl ⟨i :: L', by rw [HR.out], HK9.out.same (heap4 w9 (by omega) _ _ _ _), fun x hx => by
      rcases List.mem_cons.1 hx with rfl | hx
      · exact .inr (by omega)
      · rcases HNew.out x hx with h | h
        · exact .inl h
        · exact .inr (by omega), off4 HO9.out (by omega) _ _ _ _⟩
end Go.Proofs.YtahlinekbllkaaaGreatDoor.Tr

/- Contracts of package tree: boxes.corners of a leaf. -/
namespace Go.Proofs.YtahlinekbllkaaaGreatDoor.Tr
open Go.RowKit Go.Proofs.YtahlinekbllkaaaGreatDoor.Ba Go.Proofs.YtahlinekbllkaaaGreatDoor.Ar Go.Lib Go.Maps
open Go.Proofs.YtahlinekbllkaaaGreatDoor.Si (DebIs cAt cells_any)
open Go.Proofs.YtahlinekbllkaaaGreatDoor.Se (Q Bx boxL box_any SetAt ofL of_any set_of_own flat)

theorem offdr {P : Nat → Prop} {w W : World} (h : Off P w W) (n : Nat) : Off P w (W.drewN n) := ⟨h.os, h.tape, h.output, h.size, h.block⟩
theorem offal {P : Nat → Prop} {w W : World} (h : Off P w W) (o : Obj) : Off P w (W.alloc o) := h.trans (Off.of_below ((Below.refl _ _).alloc (Nat.le_refl _) _))
theorem keepQS {W w' : World} {A B b g : Nat} {l : Int} (kq : Blk W A 89 (Bqc g b)) (ks : Blk W B 81 #[.int .i64 0, .int .i64 0, .int .i64 l]) (hn : A ≠ b ∧ B ≠ b) (ho : Off (fun k => k = b) W w') :
    (w'.cell? ⟨A, 0, none⟩ = some (Pt g) ∧ w'.cell? ⟨A, 1, none⟩ = some (.map (some b))) ∧ w'.cell? ⟨B, 0, none⟩ = some (.int .i64 0) ∧ w'.cell? ⟨B, 1, none⟩ = some (.int .i64 0) ∧ w'.cell? ⟨B, 2, none⟩ = some (.int .i64 l) :=
  ⟨⟨(ho.blk kq hn.1).cell 0, (ho.blk kq hn.1).cell 1⟩, (ho.blk ks hn.2).cell 0, (ho.blk ks hn.2).cell 1, (ho.blk ks hn.2).cell 2⟩
set_option maxRecDepth 100000 in
set_option maxHeartbeats 4000000 in
theorem cor_leaf : CrC 0 := by
  intro i g b S L P w E hi hd h0
  have hN := E.ns
  have hiu := lv_okU hi hN
  have hle := fun W hW => Ar.level_any g i S (fun k => P k ∧ k < w.heap.size) W hW hiu hN
  rw [show levelOf S.N i = 2 from hi] at hle
  have hbt := fun W hW => Ar.bits_any g i S (fun k => P k ∧ k < w.heap.size) W hW hiu hN
  have hff := leaf_bits E.tw hi
  rw [p32] at hff
  have hce := fun W hW => cells_any (ndAt S.N i).1.bits 0 0 hff (by omega) (by omega) W hW
  have hKl : ((Si.pos (ndAt S.N i).1.bits 32).map (cAt 0 0)).length ≤ 32 := by rw [List.length_map, Si.pos_len]; exact Si.pcn_le _ 32
  have hKb : boxL ((Si.pos (ndAt S.N i).1.bits 32).map (cAt 0 0)) = bx S.N 0 i := rfl
  generalize (Si.pos (ndAt S.N i).1.bits 32).map (cAt 0 0) = K at *
  generalize (ndAt S.N i).1.bits = f at *
  have hbw : Below w.heap.size w (w.alloc (.cells (Bqc g b) 89)) := by go_grown
  have kq := Blk.newAt w 89 (Bqc g b) _ rfl
  have E1 := E.low.under hbw
  obtain ⟨c0, c1⟩ : _ ∧ _ := ⟨kq.cell 0, kq.cell 1⟩
  simp only [List.getElem?_toArray, List.getElem?_cons_zero, List.getElem?_cons_succ] at c0 c1
  have hlq := kq.lt
  have HE := Lib.hid E
  have HB := Lib.hid hbw
  have HKq := Lib.hid kq
  have HKb := Lib.hid hKb
  have hA1 := E1.ar
  have HE1 := Lib.hid E1
  clear E E1 hbw kq hff hKb
  go_enter Tryz.func72, Tryz.ntmps72
  go_wp2_with fail
  refine (hle _ hA1).mono ?_
  rintro e w1 ⟨rfl, hb1⟩
  have HB1 := Lib.hid (HB.out.trans (hb1.mono HB.out.size))
  have E2 := HE1.out.under hb1
  have kq1 := HKq.out.under hb1
  clear hle hA1 hb1 c0 c1 HE1 HKq HB hlq
  go_upto_region 3 with fail
  have hb2 : Below w1.heap.size w1 (w1.alloc (.cells #[.int .i64 0, .int .i64 0, .int .i64 2] 81)) := by go_grown
  have ks := Blk.newAt w1 81 #[.int .i64 0, .int .i64 0, .int .i64 2] _ rfl
  have kq2 := kq1.under hb2
  have E3 := E2.under hb2
  have HB2 := Lib.hid (HB1.out.trans (hb2.mono HB1.out.size))
  have hlt1 := kq1.lt
  clear hb2 kq1 E2 HB1
  generalize w1.alloc (.cells #[.int .i64 0, .int .i64 0, .int .i64 2] 81) = W at *
  have hbl : b < w.heap.size := HE.out.blt
  have hne : w.heap.size ≠ b ∧ w1.heap.size ≠ b := ⟨by omega, by omega⟩
  have hkb : Off (fun k => k = b) W W := Off.refl
  obtain ⟨⟨c0, c1⟩, s0, s1, s2⟩ := keepQS kq2 ks hne hkb
  have hl0 := kq2.lt
  have hl1 := ks.lt
  have hA3 := E3.ar
  have hD3 := E3.deb
  have hbw0 : Below W.heap.size W W := Below.refl _ _
  have HKq := Lib.hid kq2
  have HKs := Lib.hid ks
  clear kq2 ks E3
  have HOW : Hid (Off (fun k => k = b) w W) := Lib.hid (Off.of_below HB2.out)
  go_region_held3 (fun w' => (w'.cell? ⟨w.heap.size, 0, none⟩ = some (Pt g) ∧ w'.cell? ⟨w.heap.size, 1, none⟩ = some (.map (some b))) ∧ w'.cell? ⟨w1.heap.size, 0, none⟩ = some (.int .i64 0) ∧ w'.cell? ⟨w1.heap.size, 1, none⟩ = some (.int .i64 0) ∧ w'.cell? ⟨w1.heap.size, 2, none⟩ = some (.int .i64 2)) (first | exact keepQS HKq.out HKs.out hne hkb | exact keepQS HKq.out HKs.out hne (offdr hkb _))
    (first
      | (go_at_call 50; refine (hbt _ (hA3.under (by go_grown))).mono ?_; rintro e w5 ⟨rfl, hb5⟩; have hbw0 : Below W.heap.size W w5 := Ba.below_call hb5 (by first | exact hbw0 | go_grown) (by first | exact hbw0.size | go_size); have hkb : Off (fun k => k = b) W w5 := Off.of_below hbw0; obtain ⟨⟨c0', c1'⟩, s0', s1', s2'⟩ := keepQS HKq.out HKs.out hne hkb)
      | (go_at_call 39; refine (hce _ (hD3.below (by first | exact hbw0 | go_grown))).mono ?_; rintro e w6 ⟨u, rfl, hu, hb6⟩; have hbw0 : Below W.heap.size W w6 := Ba.below_call hb6 (by first | exact hbw0 | go_grown) (by first | exact hbw0.size | go_size); have hkb : Off (fun k => k = b) W w6 := Off.of_below hbw0; obtain ⟨⟨c0', c1'⟩, s0', s1', s2'⟩ := keepQS HKq.out HKs.out hne hkb))
  all_goals go_wp2_with fail
  all_goals
    have hbE := HB2.out.trans (hbw0.mono HB2.out.size)
    exact bodyPost_ret (v := u) (by simp [results, Tryz.results72, go_sem]) rfl ⟨u, K, L, rfl, hu, by omega, HKb.out, HE.out.kb.under hbE, fun x hx => .inl hx, Off.of_below hbE⟩
end Go.Proofs.YtahlinekbllkaaaGreatDoor.Tr

/- Contracts of package tree: boxes.corners of a node above. -/
namespace Go.Proofs.YtahlinekbllkaaaGreatDoor.Tr
open Go.RowKit Go.Proofs.YtahlinekbllkaaaGreatDoor.Ba Go.Proofs.YtahlinekbllkaaaGreatDoor.Ar Go.Lib Go.Maps
open Go.Proofs.YtahlinekbllkaaaGreatDoor.Si (DebIs cAt cells_any)
open Go.Proofs.YtahlinekbllkaaaGreatDoor.Se (Q Bx boxL box_any SetAt ofL of_any set_of_own flat flat_len flat_app cell_info one_flat)

theorem off4p {P : Nat → Prop} {w W : World} {k : Nat} (h : Off P w W) (hk : P k) (x y z u : Value) : Off P w ((((W.setCell ⟨k, 0, none⟩ x).setCell ⟨k, 1, none⟩ y).setCell ⟨k, 2, none⟩ z).setCell ⟨k, 3, none⟩ u) :=
  (((h.setCell (p := ⟨k, 0, none⟩) (fun _ => hk) x).setCell (p := ⟨k, 1, none⟩) (fun _ => hk) y).setCell (p := ⟨k, 2, none⟩) (fun _ => hk) z).setCell (p := ⟨k, 3, none⟩) (fun _ => hk) u
theorem cnt_nil {S : Sta} (T : Tw S) {d i : Nat} (h : lvOk S.N d i) : (ndAt S.N i).1.count = 0 ↔ cellsL S.N d i 0 0 = [] :=
  ⟨no_cells T h, fun e => by rw [count_eq T (x := 0) (y := 0) h, e]; simp⟩
theorem bx_sm {N : List Nd} {d i : Nat} (hd : d ≤ 42) (h : cellsL N d i 0 0 ≠ []) : (sm (bx N d i).1 ∧ sm (bx N d i).2.1) ∧ sm (bx N d i).2.2.1 ∧ sm (bx N d i).2.2.2 := by
  have hb := bxs_box h
  have hs := sd_le d hd
  have hp := sd_pos d
  obtain ⟨c0, m0, e0⟩ := hb.t0
  obtain ⟨c1, m1, e1⟩ := hb.t1
  obtain ⟨c2, m2, e2⟩ := hb.t2
  obtain ⟨c3, m3, e3⟩ := hb.t3
  have i0 := cells_in m0
  have i1 := cells_in m1
  have i2 := cells_in m2
  have i3 := cells_in m3
  unfold inSq at i0 i1 i2 i3
  unfold sm bx
  refine ⟨⟨?_, ?_⟩, ?_, ?_⟩ <;> omega
theorem pxy_sm {d q : Nat} (hd : d ≤ 41) (hq : q < 4) : sm (px d 0 q) ∧ sm (py d 0 q) := by
  have hs := sd_le (d + 1) (by omega)
  rw [sd_succ] at hs
  have hp := sd_pos d
  unfold sm
  rcases pxy (d := d) (x := 0) (y := 0) hq with ⟨rfl, e2, e3⟩ | ⟨rfl, e2, e3⟩ | ⟨rfl, e2, e3⟩ | ⟨rfl, e2, e3⟩ <;> rw [e2, e3] <;> omega
theorem sq_low (x y l : Int) (w : World) : (Instr.field 81 (Sq x y l) 0).run Tryz.prog w = .ok (.agg #[.int .i64 x, .int .i64 y]) w := by kernel_rfl
def CoR (w3 : World) (b d i : Nat) (S : Sta) (L : List Nat) (v t : Value) (wr : World) : Prop :=
  ∃ (q : Nat) (L1 : List Nat), q ≤ 4 ∧ t = .int .i64 q ∧ wr.ownsRow w3.heap.size 53 3 v (crn S.N d i q).length (flat (crn S.N d i q)) ∧ KB wr b S.N L1 ∧ (∀ x ∈ L1, x ∈ L ∨ levelOf S.N x < (d : Int) + 3) ∧ Off (fun k => k = b) w3 wr
set_option maxRecDepth 100000 in
set_option maxHeartbeats 20000000 in
theorem cor_step (d : Nat) (ho : OfC d) : CrC (d + 1) := by
  intro i g b S L P w E hi hd h0
  obtain ⟨i0, hi0, hz0, hz1, hz2⟩ := info_parts cell_info
  have hN := E.ns
  have hiu := lv_okU hi hN
  have hlv : levelOf S.N i = (d : Int) + 3 := by have h : levelOf S.N i = ((d + 1 : Nat) : Int) + 2 := hi; omega
  have hle := fun W hW => Ar.level_any g i S (fun k => P k ∧ k < w.heap.size) W hW hiu hN
  rw [hlv] at hle
  have hkd := fun W hW => Ar.kids_any g i S (fun k => P k ∧ k < w.heap.size) W hW hiu hN
  have HKv := Lib.hid fun q (hq : q < 4) => kid_ok E.tw hi hq
  have HIx := Lib.hid fun q (hq : q < 4) W => kd_ix (ndAt S.N i).1.k hq W
  have HNe : Hid (cellsL S.N (d + 1) i 0 0 ≠ []) := Lib.hid fun e => h0 ((cnt_nil E.tw hi).2 e)
  have hne2 : ((d : Int) + 3 == 2) = false := by simp; omega
  have hbw : Below w.heap.size w (w.alloc (.cells (Bqc g b) 89)) := by go_grown
  have kq := Blk.newAt w 89 (Bqc g b) _ rfl
  have E1 := E.low.under hbw
  obtain ⟨c0, c1⟩ : _ ∧ _ := ⟨kq.cell 0, kq.cell 1⟩
  simp only [List.getElem?_toArray, List.getElem?_cons_zero, List.getElem?_cons_succ] at c0 c1
  have hlq := kq.lt
  have HE := Lib.hid E
  have HB := Lib.hid hbw
  have HKq := Lib.hid kq
  have hA1 := E1.ar
  have HE1 := Lib.hid E1
  clear E E1 hbw kq h0
  go_enter Tryz.func72, Tryz.ntmps72
  go_wp2_with fail
  refine (hle _ hA1).mono ?_
  rintro e w1 ⟨rfl, hb1⟩
  have HB1 := Lib.hid (HB.out.trans (hb1.mono HB.out.size))
  have E2 := HE1.out.under hb1
  have kq1 := HKq.out.under hb1
  clear hle hA1 hb1 c0 c1 HE1 HKq HB hlq
  go_upto_region 2 with fail
  have hb2 : Below w1.heap.size w1 (w1.alloc (.cells #[.int .i64 0, .int .i64 0, .int .i64 ((d : Int) + 3)] 81)) := by go_grown
  have ks := Blk.newAt w1 81 #[.int .i64 0, .int .i64 0, .int .i64 ((d : Int) + 3)] _ rfl
  have kq2 := kq1.under hb2
  have E3 := E2.under hb2
  have HB2 := Lib.hid (HB1.out.trans (hb2.mono HB1.out.size))
  have hlt1 := kq1.lt
  clear hb2 kq1 E2 HB1
  generalize w1.alloc (.cells #[.int .i64 0, .int .i64 0, .int .i64 ((d : Int) + 3)] 81) = W at *
  have hbl : b < w.heap.size := HE.out.blt
  have hne : w.heap.size ≠ b ∧ w1.heap.size ≠ b := ⟨by omega, by omega⟩
  obtain ⟨⟨c0, c1⟩, s0, s1, s2⟩ := keepQS kq2 ks hne (Off.refl (P := fun k => k = b))
  have hl0 := kq2.lt
  have hl1 := ks.lt
  have hA3 := E3.ar
  have HE3 := Lib.hid E3
  clear E3
  go_wp2_with fail
  refine (hkd _ hA3).mono ?_
  rintro e w3 ⟨rfl, hb3⟩
  have HB3 := Lib.hid (HB2.out.trans (hb3.mono HB2.out.size))
  have HE4 := Lib.hid (HE3.out.under hb3)
  have HKq3 := Lib.hid (kq2.under hb3)
  have HKs3 := Lib.hid (ks.under hb3)
  have hl3 := hb3.size
  have HR0 : Hid (CoR w3 b d i S L (.slice none 0 0) (.int .i64 0) w3) := Lib.hid ⟨0, L, by omega, rfl, World.ownsRow_nil _ _ _ _, HE4.out.kb, fun x hx => .inl hx, Off.refl⟩
  clear hkd hA3 hb3 kq2 ks c0 c1 s0 s1 s2 HE3 HB2
  go_wp2_with fail
  go_loopw [6, 29] (fun v t wr => CoR w3 b d i S L v t wr) (fun _ t _ => 4 - (intOf t).toNat)
  case atStart => exact HR0.out
  case round =>
    clear HR0
    obtain ⟨q, L1, hq, rfl, hown, hkb1, hnew, hoff⟩ := hrel
    have hEr := HE4.out.after hoff hkb1
    obtain ⟨⟨c0, c1⟩, s0, s1, s2⟩ := keepQS HKq3.out HKs3.out hne hoff
    have hlr := hoff.size
    have HOwn := Lib.hid hown
    have HNew := Lib.hid hnew
    have HOff := Lib.hid hoff
    have HKb1 := Lib.hid hkb1
    clear hown hnew hoff hkb1
    by_cases hlt : q < 4
    · have hq0 : (0 : Int) ≤ (q : Int) := by omega
      have hd1 : decide ((q : Int) < 4) = true := by simp; omega
      have hixq := HIx.out q hlt
      have hkvq := HKv.out q hlt
      have hcn := fun W hW => Ar.count_any g (kd (ndAt S.N i).1.k q) S (fun k => P k ∧ k < w.heap.size) W hW (lv_okU hkvq hN) hN
      have HCr := Lib.hid (crn_succ S.N d i q)
      have HC1 := Lib.hid (show crn1 S.N d i q = if (ndAt S.N (kd (ndAt S.N i).1.k q)).1.count = 0 then [] else cor (shQ (bx S.N d (kd (ndAt S.N i).1.k q)) (px d 0 q) (py d 0 q)) from rfl)
      have hAr := hEr.ar
      have HEr := Lib.hid hEr
      clear hEr
      by_cases hz : (ndAt S.N (kd (ndAt S.N i).1.k q)).1.count = 0
      · rw [hz] at hcn
        rw [if_pos hz] at HC1
        go_wp2_with fail
        refine (hcn _ hAr).mono ?_
        rintro e w5 ⟨rfl, hb5⟩
        have hR : CoR w3 b d i S L u6 (.int .i64 ((q + 1 : Nat) : Int)) w5 := ⟨q + 1, L1, by omega, rfl, by rw [HCr.out, HC1.out, List.append_nil]; exact own_below HOwn.out hb5, HKb1.out.under hb5, HNew.out, HOff.out.trans (Off.of_below hb5)⟩
        have HRr := Lib.hid hR
        clear hcn hAr hb5 hR
        go_wp2_with fail
        exact ⟨HRr.out, by simp [intOf]; omega⟩
      · rw [if_neg hz] at HC1
        have HPx := pxy_sm (d := d) (q := q) (by omega) hlt
        have HBx := bx_sm (N := S.N) (d := d) (i := kd (ndAt S.N i).1.k q) (by omega) (fun e => hz ((cnt_nil HE4.out.tw hkvq).2 e))
        have hofc := fun W hW => ho (kd (ndAt S.N i).1.k q) g b S L1 (fun k => P k ∧ k < w.heap.size) W hW hkvq (by omega) hz
        have hkiq := fun W => kid_zero d q W (by omega) hlt
        have hsh0 := fun W => shifted_any (bx S.N d (kd (ndAt S.N i).1.k q)) (px d 0 q) (py d 0 q) W HBx.1.1 HBx.1.2 HBx.2.1 HBx.2.2 HPx.1 HPx.2
        unfold OfPost at hofc
        generalize (ndAt S.N (kd (ndAt S.N i).1.k q)).1.count = n at *
        generalize kd (ndAt S.N i).1.k q = kk at *
        generalize bx S.N d kk = r0 at *
        obtain ⟨⟨ra, rb, rc, re⟩, hR⟩ : ∃ r, shQ r0 (px d 0 q) (py d 0 q) = r := ⟨_, rfl⟩
        rw [hR] at HC1 hsh0
        have hsh : ∀ W, Calls Tryz.prog 41 #[.agg (Bx r0), .agg #[.int .i64 (px d 0 q), .int .i64 (py d 0 q)]] W fun e w' => e = .returned (.agg #[.int .i64 ra, .int .i64 rb, .int .i64 rc, .int .i64 re]) ∧ Below W.heap.size W w' := hsh0
        generalize px d 0 q = x at *
        generalize py d 0 q = y at *
        have hfd := fun W => sq_low x y ((d : Int) + 2) W
        have hgt : decide ((0 : Int) < (n : Int)) = true := by simp; omega
        have hgt' : (0 : Int) < (n : Int) := by omega
        clear hR hsh0 HPx HBx hz
        go_wp2_with fail
        refine (hcn _ hAr).mono ?_
        rintro e w5 ⟨rfl, hb5⟩
        have HE5 := Lib.hid (HEr.out.under hb5)
        have HOff5 := Lib.hid (HOff.out.trans (Off.of_below hb5))
        have HKq := Lib.hid ((HOff.out.blk HKq3.out hne.1).under hb5)
        have HKs := Lib.hid ((HOff.out.blk HKs3.out hne.2).under hb5)
        have HOwn5 := Lib.hid (own_below HOwn.out hb5)
        have hl5 := hb5.size
        clear hcn hAr hb5 c0 c1 s0 s1 s2
        have hkb : Off (fun k => k = b) w5 w5 := Off.refl
        obtain ⟨⟨c0, c1⟩, s0, s1, s2⟩ := keepQS HKq.out HKs.out hne hkb
        have hbw0 : Below w5.heap.size w5 w5 := Below.refl _ _
        have hl0q := HKq.out.lt
        have hl1q := HKs.out.lt
        go_upto_region 9 with fail
        go_cut [9] (fun v wx => ∃ (Kb : Nat) (L7 : List Nat), v = .pointer (some ⟨Kb, 0, none⟩) ∧ Blk wx Kb 40 #[.int .i64 ra, .int .i64 rb, .int .i64 rc, .int .i64 re] ∧ KB wx b S.N L7 ∧ (∀ x ∈ L7, x ∈ L1 ∨ levelOf S.N x < (d : Int) + 3) ∧ Off (fun k => k = b) w5 wx ∧ w5.heap.size ≤ Kb)
        case first =>
          go_region_held3 (fun w' => (w'.cell? ⟨w.heap.size, 0, none⟩ = some (Pt g) ∧ w'.cell? ⟨w.heap.size, 1, none⟩ = some (.map (some b))) ∧ w'.cell? ⟨w1.heap.size, 0, none⟩ = some (.int .i64 0) ∧ w'.cell? ⟨w1.heap.size, 1, none⟩ = some (.int .i64 0) ∧ w'.cell? ⟨w1.heap.size, 2, none⟩ = some (.int .i64 ((d : Int) + 3)))
            (first | exact keepQS HKq.out HKs.out hne hkb | exact keepQS HKq.out HKs.out hne (offdr hkb _) | exact keepQS HKq.out HKs.out hne (offal hkb _) | exact keepQS HKq.out HKs.out hne (offal (offdr hkb _) _) | exact keepQS HKq.out HKs.out hne (offdr (offal hkb _) _) | exact keepQS HKq.out HKs.out hne (off4 hkb (by omega) _ _ _ _) | exact keepQS HKq.out HKs.out hne (off4 (offal hkb _) hkb.size _ _ _ _))
            (first
              | (go_at_call 42; refine (hofc _ (HE5.out.under (by first | (go_grown; done) | exact hbw0 | exact hbw0.alloc hbw0.size _))).mono ?_; rintro e w7 ⟨L7, rfl, hk7, hn7, ho7⟩; have hkb : Off (fun k => k = b) w5 w7 := (by first | exact hkb.trans ho7 | exact (offdr hkb _).trans ho7 | exact (offal hkb _).trans ho7 | exact (offdr (offal hkb _) _).trans ho7 | exact (offal (offdr hkb _) _).trans ho7); have hzk := hkb.size; have HK7 := Lib.hid hk7; have HN7 := Lib.hid hn7; have hka : Off (fun k => w5.heap.size ≤ k) w7 w7 := Off.refl; clear hk7 hn7; (first | (revert kN; intro kN; have kN := Off.blk ho7 kN (by intro e; omega); have fr0 := kN.frozen 0; have fr1 := kN.frozen 1; have fr2 := kN.frozen 2; have fr3 := kN.frozen 3; have kNl := kN.lt; have kn0 := kN.cell 0; have kn1 := kN.cell 1; have kn2 := kN.cell 2; have kn3 := kN.cell 3; simp only [List.getElem?_toArray, List.getElem?_cons_zero, List.getElem?_cons_succ] at kn0 kn1 kn2 kn3) | (change Off _ (World.drewN (World.alloc _ _) _) _ at ho7; have kN := Off.blk ho7 (Blk.drewN (Blk.newAt _ 40 #[.int .i64 0, .int .i64 0, .int .i64 0, .int .i64 0] _ rfl) _) (by intro e; omega); have fr0 := kN.frozen 0; have fr1 := kN.frozen 1; have fr2 := kN.frozen 2; have fr3 := kN.frozen 3; have kNl := kN.lt; have kn0 := kN.cell 0; have kn1 := kN.cell 1; have kn2 := kN.cell 2; have kn3 := kN.cell 3; simp only [List.getElem?_toArray, List.getElem?_cons_zero, List.getElem?_cons_succ] at kn0 kn1 kn2 kn3) | (change Off _ (World.alloc _ _) _ at ho7; have kN := Off.blk ho7 (Blk.newAt _ 40 #[.int .i64 0, .int .i64 0, .int .i64 0, .int .i64 0] _ rfl) (by intro e; omega); have fr0 := kN.frozen 0; have fr1 := kN.frozen 1; have fr2 := kN.frozen 2; have fr3 := kN.frozen 3; have kNl := kN.lt; have kn0 := kN.cell 0; have kn1 := kN.cell 1; have kn2 := kN.cell 2; have kn3 := kN.cell 3; simp only [List.getElem?_toArray, List.getElem?_cons_zero, List.getElem?_cons_succ] at kn0 kn1 kn2 kn3) | skip); obtain ⟨⟨c0', c1'⟩, s0', s1', s2'⟩ := keepQS HKq.out HKs.out hne hkb)
              | (go_at_call 49; refine (hkiq _).mono ?_; rintro e w7 ⟨rfl, hg7⟩; have hb7 := hg7.below; clear hg7; have ho7 := Off.of_below (P := fun k => k = b) hb7; have hkb : Off (fun k => k = b) w5 w7 := (by first | exact hkb.trans ho7 | exact (offdr hkb _).trans ho7 | exact (offal hkb _).trans ho7 | exact (offdr (offal hkb _) _).trans ho7 | exact (offal (offdr hkb _) _).trans ho7); have hzk := hkb.size; (try (have hbw0 : Below w5.heap.size w5 w7 := Ba.below_call hb7 (by first | (go_grown; done) | exact hbw0 | exact hbw0.alloc hbw0.size _) (by first | exact hbw0.size | (have hq9 := hbw0.size; simp; done) | (have hq9 := hbw0.size; simp; omega) | exact hbw0.size))); (try (first | have hka := Off.trans hka (Off.of_below hb7) | have hka := Off.trans (offal hka _) (Off.of_below hb7))); (first | (revert kN; intro kN; have kN := Off.blk ho7 kN (by intro e; omega); have fr0 := kN.frozen 0; have fr1 := kN.frozen 1; have fr2 := kN.frozen 2; have fr3 := kN.frozen 3; have kNl := kN.lt; have kn0 := kN.cell 0; have kn1 := kN.cell 1; have kn2 := kN.cell 2; have kn3 := kN.cell 3; simp only [List.getElem?_toArray, List.getElem?_cons_zero, List.getElem?_cons_succ] at kn0 kn1 kn2 kn3) | (change Off _ (World.drewN (World.alloc _ _) _) _ at ho7; have kN := Off.blk ho7 (Blk.drewN (Blk.newAt _ 40 #[.int .i64 0, .int .i64 0, .int .i64 0, .int .i64 0] _ rfl) _) (by intro e; omega); have fr0 := kN.frozen 0; have fr1 := kN.frozen 1; have fr2 := kN.frozen 2; have fr3 := kN.frozen 3; have kNl := kN.lt; have kn0 := kN.cell 0; have kn1 := kN.cell 1; have kn2 := kN.cell 2; have kn3 := kN.cell 3; simp only [List.getElem?_toArray, List.getElem?_cons_zero, List.getElem?_cons_succ] at kn0 kn1 kn2 kn3) | (change Off _ (World.alloc _ _) _ at ho7; have kN := Off.blk ho7 (Blk.newAt _ 40 #[.int .i64 0, .int .i64 0, .int .i64 0, .int .i64 0] _ rfl) (by intro e; omega); have fr0 := kN.frozen 0; have fr1 := kN.frozen 1; have fr2 := kN.frozen 2; have fr3 := kN.frozen 3; have kNl := kN.lt; have kn0 := kN.cell 0; have kn1 := kN.cell 1; have kn2 := kN.cell 2; have kn3 := kN.cell 3; simp only [List.getElem?_toArray, List.getElem?_cons_zero, List.getElem?_cons_succ] at kn0 kn1 kn2 kn3) | skip); obtain ⟨⟨c0', c1'⟩, s0', s1', s2'⟩ := keepQS HKq.out HKs.out hne hkb)
              | (go_at_call 41; refine (hsh _).mono ?_; rintro e w7 ⟨rfl, hb7⟩; have ho7 := Off.of_below (P := fun k => k = b) hb7; have hkb : Off (fun k => k = b) w5 w7 := (by first | exact hkb.trans ho7 | exact (offdr hkb _).trans ho7 | exact (offal hkb _).trans ho7 | exact (offdr (offal hkb _) _).trans ho7 | exact (offal (offdr hkb _) _).trans ho7); have hzk := hkb.size; (try (first | have hka := Off.trans hka (Off.of_below hb7) | have hka := Off.trans (offal hka _) (Off.of_below hb7))); (first | (revert kN; intro kN; have kN := Off.blk ho7 kN (by intro e; omega); have fr0 := kN.frozen 0; have fr1 := kN.frozen 1; have fr2 := kN.frozen 2; have fr3 := kN.frozen 3; have kNl := kN.lt; have kn0 := kN.cell 0; have kn1 := kN.cell 1; have kn2 := kN.cell 2; have kn3 := kN.cell 3; simp only [List.getElem?_toArray, List.getElem?_cons_zero, List.getElem?_cons_succ] at kn0 kn1 kn2 kn3) | (change Off _ (World.drewN (World.alloc _ _) _) _ at ho7; have kN := Off.blk ho7 (Blk.drewN (Blk.newAt _ 40 #[.int .i64 0, .int .i64 0, .int .i64 0, .int .i64 0] _ rfl) _) (by intro e; omega); have fr0 := kN.frozen 0; have fr1 := kN.frozen 1; have fr2 := kN.frozen 2; have fr3 := kN.frozen 3; have kNl := kN.lt; have kn0 := kN.cell 0; have kn1 := kN.cell 1; have kn2 := kN.cell 2; have kn3 := kN.cell 3; simp only [List.getElem?_toArray, List.getElem?_cons_zero, List.getElem?_cons_succ] at kn0 kn1 kn2 kn3) | (change Off _ (World.alloc _ _) _ at ho7; have kN := Off.blk ho7 (Blk.newAt _ 40 #[.int .i64 0, .int .i64 0, .int .i64 0, .int .i64 0] _ rfl) (by intro e; omega); have fr0 := kN.frozen 0; have fr1 := kN.frozen 1; have fr2 := kN.frozen 2; have fr3 := kN.frozen 3; have kNl := kN.lt; have kn0 := kN.cell 0; have kn1 := kN.cell 1; have kn2 := kN.cell 2; have kn3 := kN.cell 3; simp only [List.getElem?_toArray, List.getElem?_cons_zero, List.getElem?_cons_succ] at kn0 kn1 kn2 kn3) | skip); obtain ⟨⟨c0', c1'⟩, s0', s1', s2'⟩ := keepQS HKq.out HKs.out hne hkb))
          all_goals go_wp2_with fail
          all_goals go_meet
          all_goals first
            | (revert kN; intro kN; refine ⟨_, _, rfl, ks4 kN _ _ _ _, ?_, HN7.out, off4 hkb (by omega) _ _ _ _, by omega⟩; exact HK7.out.same ((off4p hka (by omega) _ _ _ _).block b HK7.out.lt (by omega)))
            | (refine ⟨_, _, rfl, Blk.newAt _ _ _ _ rfl, ?_, HN7.out, offal hkb _, hkb.size⟩; exact HK7.out.same ((offal hka _).block b HK7.out.lt (by omega)))
        case rest =>
          obtain ⟨Kb, L7, rfl, kK, hk7, hn7, ho7, hKs⟩ := hcut
          generalize wc = w6 at *
          have hown6 : w6.ownsRow w3.heap.size 53 3 u6 (crn S.N d i q).length (flat (crn S.N d i q)) := own_same HOwn5.out fun k hk => ho7.block k (HOwn5.out.lt k hk).2 fun e => by have := (HOwn5.out.lt k hk).1; omega
          have HK7 := Lib.hid hk7
          have HN7 := Lib.hid hn7
          have HO7 := Lib.hid ho7
          have k0 := kK.cell 0
          have k1 := kK.cell 1
          have k2 := kK.cell 2
          have k3 := kK.cell 3
          simp only [List.getElem?_toArray, List.getElem?_cons_zero, List.getElem?_cons_succ] at k0 k1 k2 k3
          have hKl := kK.lt
          have hl6 := ho7.size
          have hcl := crn_len S.N d i q
          have hownA := hown6.alloc (.cells #[.int .i64 ra, .int .i64 rb, .int .i64 0, .int .i64 rc, .int .i64 re, .int .i64 0] 53)
          have hnewA : ∀ (m : Nat) (u : Value), (flat (cor (ra, rb, rc, re)))[m]? = some u → (w6.alloc (.cells #[.int .i64 ra, .int .i64 rb, .int .i64 0, .int .i64 rc, .int .i64 re, .int .i64 0] 53)).cell? ((⟨w6.heap.size, 0, none⟩ : Addr).add m) = some u := fun m u hu => by
            rw [Addr.add_lit, Nat.zero_add, (Blk.newAt w6 _ _ _ rfl).cell m]
            simpa [flat, cor, Go.Proofs.YtahlinekbllkaaaGreatDoor.Se.encC] using hu
          have HbA : Hid (Below w6.heap.size w6 (w6.alloc (.cells #[.int .i64 ra, .int .i64 rb, .int .i64 0, .int .i64 rc, .int .i64 re, .int .i64 0] 53))) := Lib.hid (by go_grown)
          clear hown6 hk7 hn7 ho7 kK c0 c1 s0 s1 s2 hofc hkiq hsh hfd hkb hbw0
          go_wp2_with (at_builtin; refine wpList_append_own_at _ rfl _ _ 31 rfl w3.heap.size 53 i0 _ 3 24 Tryz.underlying31 hi0 hz0 hz1 hz2 rfl (by decide) _ _ _ rfl hownA ⟨w6.heap.size, 0, none⟩ 2 2 (flat (cor (ra, rb, rc, re))) rfl (flat_len (cor (ra, rb, rc, re))) hnewA (one_flat (cor (ra, rb, rc, re))) (by unfold maxLen; omega) (by omega) (by simp; omega) ?_)
          intro v' w' hown' hgr _ hblk
          have hbb : ∀ k, u6.ownBlock = some k → w3.heap.size ≤ k := fun k hk => (HOwn5.out.lt k hk).1
          have hR : CoR w3 b d i S L v' (.int .i64 ((q + 1 : Nat) : Int)) w' := by
            refine ⟨q + 1, L7, by omega, rfl, ?_, (HK7.out.under HbA.out).same (hgr.block b (Nat.lt_of_lt_of_le HK7.out.lt HbA.out.size) fun e => by have := hbb b e.symm; omega), fun x hx => ?_, ((HOff5.out.trans HO7.out).trans (Off.of_below HbA.out)).grown hgr fun k hk hlt => by have := hbb k hk; omega⟩
            · rw [HCr.out, HC1.out, flat_app, List.length_append]
              exact hown'
            · rcases HN7.out x hx with h | h
              · exact HNew.out x h
              · exact .inr h
          have HRr := Lib.hid hR
          clear hR hown' hgr hblk hbb hownA hnewA
          go_wp2_with fail
          exact ⟨HRr.out, by simp [intOf]; omega⟩
    · obtain rfl : q = 4 := by omega
      have HBk := Lib.hid (bx_kids HNe.out fun q hq => cnt_nil HE4.out.tw (HKv.out q hq))
      have hcl := crn_len S.N d i 4
      go_wp2_with fail
      exact bodyPost_ret (v := u6) (by simp [results, Tryz.results72, go_sem]) rfl ⟨u6, crn S.N d i 4, L1, rfl, set_of_own HOwn.out, by omega, HBk.out, HKb1.out, fun x hx => by rcases HNew.out x hx with h | h; exact .inl h; exact .inr (by omega), (Off.of_below HB3.out).trans HOff.out⟩
theorem of_cor : ∀ d, OfC d ∧ CrC d
  | 0 => ⟨of_step 0 cor_leaf, cor_leaf⟩
  | d + 1 => ⟨of_step (d + 1) (cor_step d (of_cor d).1), cor_step d (of_cor d).1⟩
end Go.Proofs.YtahlinekbllkaaaGreatDoor.Tr

/- An argument that is a list of cells; the laws' Own of it. -/
namespace Go.Proofs.YtahlinekbllkaaaGreatDoor.Se
open Go.RowKit Go.Proofs.YtahlinekbllkaaaGreatDoor.Ax Go.Proofs.YtahlinekbllkaaaGreatDoor.Ba Go.Lib

/-! An argument that is a list of cells. -/
/-- A list of the document's cells that came in, from any place of a block on. -/
def RawAt (w : World) (v : Value) (L : List C) : Prop :=
  (∃ p cap, v = .slice p 0 cap ∧ L = []) ∨ ∃ g o cap : Nat, v = .slice (some ⟨g, o, none⟩) L.length cap ∧ (∀ j u, (flat L)[j]? = some u → w.cell? ⟨g, o + j, none⟩ = some u) ∧ g < w.heap.size
theorem RawAt.below {w w' : World} {v : Value} {L : List C} (h : RawAt w v L) (hb : Below w.heap.size w w') : RawAt w' v L := by
  rcases h with h | ⟨g, o, cap, hv, hc, hg⟩
  · exact .inl h
  · exact .inr ⟨g, o, cap, hv, fun j u hu => (hb.cell (p := ⟨g, o + j, none⟩) hg).trans (hc j u hu), Nat.lt_of_lt_of_le hg hb.size⟩
section
open Go.ChangeShapes Go.WideShapes Go.Deep
theorem rawCells : Tryz.prog.cellsOf 24 = 3 := by kernel_rfl
set_option maxRecDepth 100000 in
theorem open_cells {H : Type} {enc : TypeId × Value → H} {w : World} {base : Nat} {spare : Nat → Bool} {held : Bool} {r : Reach} {b0 : Nat} {v : Value} {d : DataW H} {p : List MemPlace}
    (hv : Value.okWide Tryz.prog w r b0 22 v) (h : DataW.Trod enc Tryz.prog w base spare held 22 v d p) :
    ∃ L : List C, RawAt w v L ∧ L.length ≤ maxLen := by
  obtain ⟨a0, n0, c0, rfl⟩ := okWide_slice Tryz.underlying22 hv
  obtain ⟨fuel, hf⟩ := h
  rcases Go.Deep.open_slice Tryz.underlying22 hf with ⟨hcs, _⟩ | ⟨a, len, cap, m, n, D, Pl, hcs, _, hl, hm, hmm, _, hi⟩
  · simp [Value.cells] at hcs
    obtain ⟨rfl, rfl, rfl⟩ := hcs
    exact ⟨[], .inl ⟨none, 0, rfl, rfl⟩, by simp⟩
  · simp [Value.cells] at hcs
    obtain ⟨rfl, rfl, rfl⟩ := hcs
    have hle : n0 ≤ m := by rw [hmm]; split <;> omega
    have hget : ∀ i, i < n0 → ∃ c : C, w.cell? (a.add (i * 3)) = some (.int .i64 c.1) ∧ w.cell? ((a.add (i * 3)).add 1) = some (.int .i64 c.2.1) ∧ w.cell? ((a.add (i * 3)).add 2) = some (.int .i64 c.2.2) := by
      intro i hil
      obtain ⟨cs, hc, ht⟩ := hi i (by omega)
      rw [rawCells] at hc
      obtain ⟨_, hcl, hat⟩ := World.cells?_some hc
      match cs, hcl with
      | [x0, x1, x2], _ =>
        obtain ⟨y0, y1, y2, n', _, _, g0, g1, g2⟩ := trod_struct3 Tryz.underlying24 ht
        have cI : Tryz.prog.cellsOf 2 = 1 := by kernel_rfl
        have cN : Tryz.prog.cellsOf 3 = 1 := by kernel_rfl
        simp only [cI, cN] at g0 g1 g2
        obtain ⟨x, e0, _, _⟩ := DataW.trod_int Tryz.underlying2 g0
        obtain ⟨y, e1, _, _⟩ := DataW.trod_int Tryz.underlying2 g1
        obtain ⟨z, e2, _, _⟩ := DataW.trod_int Tryz.underlying3 g2
        simp at e0 e1 e2
        subst e0 e1 e2
        have h0 := hat 0 (by decide)
        rw [show (a.add (i * 3)).add 0 = a.add (i * 3) from rfl] at h0
        exact ⟨(x, y, z), h0, hat 1 (by decide), hat 2 (by decide)⟩
    have hn : n0 ≤ maxLen := by omega
    rcases Nat.eq_zero_or_pos n0 with h0 | h0
    · subst h0
      exact ⟨[], .inl ⟨_, _, rfl, rfl⟩, by simp⟩
    · obtain ⟨g, o, sp⟩ := a
      obtain rfl : sp = none := by
        obtain ⟨c, hc, _⟩ := hget 0 h0
        cases sp with
        | none => rfl
        | some s =>
          simp only [Nat.zero_mul, Addr.add, if_true, World.cell?] at hc
          split at hc <;> simp at hc
      have hg : g < w.heap.size := by
        obtain ⟨c, hc, _⟩ := hget 0 h0
        rcases Nat.lt_or_ge g w.heap.size with h' | h'
        · exact h'
        · simp [World.cell?, Addr.add_lit, Array.getElem?_eq_none h'] at hc
      let f : Nat → C := fun i => if h : i < n0 then Classical.choose (hget i h) else (0, 0, 0)
      have hfs : ∀ i, i < n0 → w.cell? ⟨g, o + i * 3, none⟩ = some (.int .i64 (f i).1) ∧ w.cell? ⟨g, o + (i * 3 + 1), none⟩ = some (.int .i64 (f i).2.1) ∧ w.cell? ⟨g, o + (i * 3 + 1 + 1), none⟩ = some (.int .i64 (f i).2.2) := by
        intro i hil
        have hs := Classical.choose_spec (hget i hil)
        have e : f i = Classical.choose (hget i hil) := dif_pos hil
        rw [e]
        generalize Classical.choose (hget i hil) = c at hs ⊢
        simp only [Addr.add_lit] at hs
        rw [show o + (i * 3 + 1) = o + i * 3 + 1 by omega, show o + (i * 3 + 1 + 1) = o + i * 3 + 2 by omega]
        exact hs
      have hlen : ((List.range n0).map f).length = n0 := by simp
      refine ⟨(List.range n0).map f, .inr ⟨g, o, c0, by rw [hlen], flat_cells o fun i x hx => ?_, hg⟩, by rw [hlen]; exact hn⟩
      have hil : i < n0 := by have := (List.getElem?_eq_some_iff.1 hx).1; simpa using this
      have e : f i = x := by rw [List.getElem?_map, List.getElem?_range hil] at hx; simpa using hx
      rw [← e]
      exact hfs i hil
end
def OwR (w : World) (L : List C) (s i : Value) (wr : World) : Prop :=
  ∃ k : Nat, k ≤ L.length ∧ k ≤ 40 ∧ i = .int .i64 k ∧ wr.ownsRow w.heap.size 53 3 s k (flat (L.take k)) ∧ Below w.heap.size w wr
set_option maxRecDepth 100000 in
set_option maxHeartbeats 4000000 in
theorem own4_any (v : Value) (L : List C) (w : World) (h : RawAt w v L) (hL : L.length ≤ maxLen) :
    Calls Tryz.prog 28 #[v] w fun e w' => ∃ v', e = .returned v' ∧ w'.ownsRow w.heap.size 53 3 v' (L.take 40).length (flat (L.take 40)) ∧ Below w.heap.size w w' := by
  obtain ⟨i0, hi0, hz0, hz1, hz2⟩ := info_parts cell_info
  unfold maxLen at hL
  have HR := Lib.hid h
  have key : ∃ p cap, v = .slice p L.length cap := by
    rcases h with ⟨p, cap, rfl, rfl⟩ | ⟨g, o, cap, rfl, _, _⟩
    · exact ⟨p, cap, rfl⟩
    · exact ⟨_, _, rfl⟩
  obtain ⟨p, cap, rfl⟩ := key
  clear h
  have hown0 := World.ownsRow_made (base := w.heap.size) (e := 53) (size := 3) w #[] 0 (Nat.le_refl _) (Nat.zero_le _) (by simp)
  have HO := Lib.hid hown0
  clear hown0
  go_enter Tryz.func28, Tryz.ntmps28
  go_wp2_with fail
  go_loopw [3, 4] (fun s i wr => OwR w L s i wr) (fun _ i _ => 40 - (intOf i).toNat)
  case atStart => exact ⟨0, Nat.zero_le _, by omega, rfl, by simpa [flat] using HO.out, by go_grown⟩
  case round =>
    obtain ⟨k, hk, hk40, rfl, hown, hb⟩ := hrel
    have hz := hb.size
    by_cases hlt : k < L.length
    · by_cases hl40 : k < 40
      · obtain ⟨x, hx⟩ : ∃ x, L[k]? = some x := ⟨_, List.getElem?_eq_getElem hlt⟩
        have hraw := HR.out.below hb
        rcases hraw with ⟨_, _, _, hnil⟩ | ⟨g, o, cap', hv, hcs, hg⟩
        · subst hnil; simp at hlt
        · injection hv with hv1 hv2 hv3
          subst hv1 hv3
          clear hv2
          obtain ⟨f0, f1, f2⟩ := flat_get L k x hx
          have c0 := hcs _ _ f0
          have c1 := hcs _ _ f1
          have c2 := hcs _ _ f2
          rw [show o + (k * 3 + 1) = o + k * 3 + 1 by omega] at c1
          rw [show o + (k * 3 + 1 + 1) = o + k * 3 + 1 + 1 by omega] at c2
          have HT := Lib.hid (show L.take (k + 1) = L.take k ++ [x] by rw [List.take_add_one, hx]; rfl)
          clear hcs f0 f1 f2 hx
          go_wp2_with fail
          refine (own3_any x _).mono ?_
          rintro e w1 ⟨rfl, hb1⟩
          have hown1 := own_below hown hb1
          have hb2 := hb.trans (hb1.mono hz)
          have hzz := hb2.size
          have hown2 := hown1.alloc (.cells #[.int .i64 x.1, .int .i64 x.2.1, .int .i64 x.2.2] 53)
          have hnew : ∀ j u, (flat [x])[j]? = some u → (w1.alloc (.cells #[.int .i64 x.1, .int .i64 x.2.1, .int .i64 x.2.2] 53)).cell? ((⟨w1.heap.size, 0, none⟩ : Addr).add j) = some u := fun j u hu => by
            rw [Addr.add_lit, Nat.zero_add, (Blk.newAt w1 _ _ _ rfl).cell j]
            simpa [flat, encC] using hu
          go_wp2_with (at_builtin; refine wpList_append_own _ rfl _ _ 31 rfl w.heap.size 53 i0 _ 3 24 Tryz.underlying31 hi0 hz0 hz1 hz2 rfl (by decide) _ _ _ rfl hown2 ⟨w1.heap.size, 0, none⟩ 1 1 (flat [x]) rfl (by simp [flat_len]) hnew (one_flat [x]) (by unfold maxLen; omega) (by omega) (by simp; omega) ?_)
          intro v' w' hown' hgr _
          have hb' : Below w.heap.size w w' := (hb2.alloc hzz _).grown hgr (by simp; omega) (fun q hq => (hown2.lt q hq).1)
          go_wp2_with fail
          go_roundw
          case rel => exact ⟨k + 1, by omega, by omega, by go_num, by rw [HT.out, flat_app]; exact hown', hb'⟩
          case measure => simp [intOf]; omega
      · obtain rfl : k = 40 := by omega
        have HT := Lib.hid (show (L.take 40).length = 40 by rw [List.length_take]; omega)
        go_wp2_with fail
        go_ret
        exact ⟨_, rfl, by rw [HT.out]; exact hown, hb⟩
    · obtain rfl : k = L.length := by omega
      have HT := Lib.hid (show L.take 40 = L by rw [List.take_of_length_le]; omega)
      go_wp2_with fail
      go_ret
      rw [HT.out]
      exact ⟨_, rfl, by simpa using hown, hb⟩
end Go.Proofs.YtahlinekbllkaaaGreatDoor.Se

/- The document's Half, Inside, Level. -/
namespace Go.Proofs.YtahlinekbllkaaaGreatDoor.Tr
open Go.RowKit Go.Proofs.YtahlinekbllkaaaGreatDoor.Ba Go.Lib
open Go.Proofs.YtahlinekbllkaaaGreatDoor.Se (RawAt flat flat_get)

def RhR (n : Nat) (w : World) (t3 t4 : Value) (wr : World) : Prop := ∃ m x : Nat, m ≤ n ∧ Hid (x = 2 ^ m) ∧ t3 = .int .i64 (x : Int) ∧ t4 = .int .i64 ((m : Int) + 1) ∧ w = wr
set_option maxRecDepth 100000 in
theorem refhalf_any (l : Int) (w : World) :
    Calls Tryz.prog 53 #[.int .i64 l] w fun e w' => e = .returned (.int .i64 (hf l)) ∧ w = w' := by
  have HF := Lib.hid (hf_nat l)
  have hb := hfN_le l
  have HN := Lib.hid (show hfN l = (min (max l 1) 44 - 1).toNat from rfl)
  generalize hf l = H at *
  generalize hfN l = n at *
  go_enter Tryz.func53, Tryz.ntmps53
  go_wp2_with fail
  go_loopw [3, 4] (fun t3 t4 wr => RhR n w t3 t4 wr) (fun _ t4 _ => 45 - (intOf t4).toNat)
  case atStart => exact ⟨0, 1, Nat.zero_le _, Lib.hid rfl, rfl, rfl, rfl⟩
  case round =>
    obtain ⟨m, x, hm, HX, rfl, rfl, rfl⟩ := hrel
    by_cases hlt : m < n
    · have hn := HN.out
      have h1 : decide ((m : Int) + 1 < l) = true := by simp; omega
      have h1' : (m : Int) + 1 < l := by omega
      have h2 : decide ((m : Int) + 1 < 44) = true := by simp; omega
      have h2' : (m : Int) + 1 < 44 := by omega
      have h3 : (2 : Nat) ^ 42 = 4398046511104 := by decide
      have h4 := Nat.pow_le_pow_right (n := 2) (by decide) (show m ≤ 42 by omega)
      have hx : x ≤ 4398046511104 := by rw [HX.out]; omega
      clear h3 h4
      clear hn
      go_wp2
      exact ⟨⟨m + 1, 2 * x, by omega, Lib.hid (by rw [HX.out, Nat.pow_succ]; omega), by go_num, by go_num, rfl⟩, by simp [intOf]; omega⟩
    · obtain rfl : m = n := by omega
      have HE := Lib.hid (show (x : Int) = H by rw [HF.out, HX.out])
      have hn := HN.out
      by_cases h1 : (m : Int) + 1 < l
      · have h1' : decide ((m : Int) + 1 < l) = true := by simpa using h1
        have h2' : decide ((m : Int) + 1 < 44) = false := by simp; omega
        have h2 : ¬ (m : Int) + 1 < 44 := by omega
        clear hn
        go_wp2
        go_ret
        exact ⟨by rw [HE.out]; rfl, rfl⟩
      · have h1' : decide ((m : Int) + 1 < l) = false := by simpa using h1
        clear hn
        go_wp2
        go_ret
        exact ⟨by rw [HE.out]; rfl, rfl⟩
def refB (l a b : Int) : Bool := decide ((a < hf l ∧ b < hf l) ∧ (wrap64 (-a) ≤ hf l ∧ wrap64 (-b) ≤ hf l))
theorem refB_ins {l a b : Int} (ha : -4611686018427387904 ≤ a ∧ a ≤ 4611686018427387904) (hb : -4611686018427387904 ≤ b ∧ b ≤ 4611686018427387904) : refB l a b = insB l a b := by
  unfold refB insB
  have e1 : wrap64 (-a) = -a := by unfold wrap64; omega
  have e2 : wrap64 (-b) = -b := by unfold wrap64; omega
  rw [e1, e2]
  refine decide_eq_decide.2 ?_
  omega
set_option maxRecDepth 100000 in
theorem refinside_any (l a b : Int) (w : World) :
    Calls Tryz.prog 22 #[.int .i64 l, .int .i64 a, .int .i64 b] w fun e w' => e = .returned (.bool (refB l a b)) ∧ w = w' := by
  have hc := fun W => refhalf_any l W
  have HI2 : refB l a b = decide ((a < hf l ∧ b < hf l) ∧ (wrap64 (-a) ≤ hf l ∧ wrap64 (-b) ≤ hf l)) := rfl
  generalize refB l a b = r at *
  generalize hf l = H at *
  have HR := Lib.hid HI2
  clear HI2
  by_cases h1 : a < H
  · by_cases h2 : b < H
    · by_cases h3 : wrap64 (-a) ≤ H
      · by_cases h4 : wrap64 (-b) ≤ H
        · ((obtain rfl : r = true := (by rw [HR.out]; simp; try omega)); clear HR; go_enter Tryz.func22, Tryz.ntmps22; go_wp2_with (first | (go_at_call 53; refine (hc _).mono ?_; rintro e w' ⟨rfl, rfl⟩)); (exact bodyPost_ret (v := .bool true) (by simp [results, Tryz.results22, go_sem, *]) rfl ⟨rfl, rfl⟩))
        · ((obtain rfl : r = false := (by rw [HR.out]; simp; try omega)); clear HR; go_enter Tryz.func22, Tryz.ntmps22; go_wp2_with (first | (go_at_call 53; refine (hc _).mono ?_; rintro e w' ⟨rfl, rfl⟩)); (exact bodyPost_ret (v := .bool false) (by simp [results, Tryz.results22, go_sem, *]) rfl ⟨rfl, rfl⟩))
      · ((obtain rfl : r = false := (by rw [HR.out]; simp; try omega)); clear HR; go_enter Tryz.func22, Tryz.ntmps22; go_wp2_with (first | (go_at_call 53; refine (hc _).mono ?_; rintro e w' ⟨rfl, rfl⟩)); (exact bodyPost_ret (v := .bool false) (by simp [results, Tryz.results22, go_sem, *]) rfl ⟨rfl, rfl⟩))
    · ((obtain rfl : r = false := (by rw [HR.out]; simp; try omega)); clear HR; go_enter Tryz.func22, Tryz.ntmps22; go_wp2_with (first | (go_at_call 53; refine (hc _).mono ?_; rintro e w' ⟨rfl, rfl⟩)); (exact bodyPost_ret (v := .bool false) (by simp [results, Tryz.results22, go_sem, *]) rfl ⟨rfl, rfl⟩))
  · ((obtain rfl : r = false := (by rw [HR.out]; simp; try omega)); clear HR; go_enter Tryz.func22, Tryz.ntmps22; go_wp2_with (first | (go_at_call 53; refine (hc _).mono ?_; rintro e w' ⟨rfl, rfl⟩)); (exact bodyPost_ret (v := .bool false) (by simp [results, Tryz.results22, go_sem, *]) rfl ⟨rfl, rfl⟩))
/-- The least level that has all cells. -/
structure Rlv (L : List C) (n : Nat) : Prop where
  lo : 3 ≤ n
  hi : n ≤ 44
  no : ∀ m : Nat, 3 ≤ m → m < n → ∃ c ∈ L, insB m c.1 c.2.1 = false
  yes : n < 44 → ∀ c ∈ L, insB n c.1 c.2.1 = true
def RmC (c : C) : Prop := (-4611686018427387904 ≤ c.1 ∧ c.1 ≤ 4611686018427387904) ∧ (-4611686018427387904 ≤ c.2.1 ∧ c.2.1 ≤ 4611686018427387904)
theorem rlv_nil : Rlv [] 3 := ⟨by omega, by omega, fun m h1 h2 => by omega, fun _ c hc => by simp at hc⟩
theorem rlv_next {L : List C} {c : C} {n m : Nat} (h : Rlv L n) (hnm : n ≤ m) (hm : m ≤ 44) (hno : ∀ k : Nat, n ≤ k → k < m → insB k c.1 c.2.1 = false) (hyes : m < 44 → insB m c.1 c.2.1 = true) : Rlv (L ++ [c]) m := by
  refine ⟨Nat.le_trans h.lo hnm, hm, fun k h1 h2 => ?_, fun h1 d hd => ?_⟩
  · rcases Nat.lt_or_ge k n with hk | hk
    · obtain ⟨d, hd, e⟩ := h.no k h1 hk
      exact ⟨d, by simp [hd], e⟩
    · exact ⟨c, by simp, hno k hk h2⟩
  · rcases List.mem_append.1 hd with hd | hd
    · exact ins_mono (h.yes (by omega) d hd) (by omega)
    · rw [List.mem_singleton] at hd
      subst hd
      exact hyes h1
/-- A list of the document's cells in memory. -/
structure RowR (w : World) (v : Value) (L : List C) : Prop where
  is : ∃ g o cap : Nat, v = .slice (some ⟨g, o, none⟩) L.length cap ∧ (∀ i (c : C), L[i]? = some c → w.cell? ⟨g, o + i * 3, none⟩ = some (.int .i64 c.1) ∧ w.cell? ⟨g, o + (i * 3 + 1), none⟩ = some (.int .i64 c.2.1) ∧ w.cell? ⟨g, o + (i * 3 + 1 + 1), none⟩ = some (.int .i64 c.2.2)) ∧ g < w.heap.size
theorem raw_row {w : World} {v : Value} {L : List C} (h : RawAt w v L) (hL : L ≠ []) : RowR w v L := by
  rcases h with ⟨_, _, _, rfl⟩ | ⟨g, o, cap, hv, hc, hg⟩
  · exact absurd rfl hL
  · exact ⟨⟨g, o, cap, hv, fun i c hi => by
      obtain ⟨h0, h1, h2⟩ := flat_get L i c hi
      exact ⟨hc _ _ h0, hc _ _ h1, hc _ _ h2⟩, hg⟩⟩
def RvR (w : World) (L : List C) (t3 t8 : Value) (wr : World) : Prop := ∃ k n : Nat, k ≤ L.length ∧ t8 = .int .i64 k ∧ t3 = .int .i64 n ∧ Rlv (L.take k) n ∧ Below w.heap.size w wr
def RvI (w0 : World) (B n0 : Nat) (c : C) (t3 : Value) (wr : World) : Prop := ∃ n : Nat, n0 ≤ n ∧ n ≤ 44 ∧ t3 = .int .i64 n ∧ (∀ k : Nat, n0 ≤ k → k < n → insB k c.1 c.2.1 = false) ∧ Blk wr B 24 #[.int .i64 c.1, .int .i64 c.2.1, .int .i64 c.2.2] ∧ Below w0.heap.size w0 wr
set_option maxRecDepth 100000 in
set_option maxHeartbeats 1000000 in
theorem reflevel_any (v : Value) (L : List C) (w : World) (h : RawAt w v L) (hL : L.length ≤ 1000) (hm : ∀ c ∈ L, RmC c) :
    Calls Tryz.prog 16 #[v] w fun e w' => ∃ n : Nat, e = .returned (.int .i64 n) ∧ Rlv L n ∧ Below w.heap.size w w' := by
  have key : ∃ p cap, v = .slice p L.length cap := by
    rcases h with ⟨p, cap, rfl, rfl⟩ | ⟨g, o, cap, rfl, _, _⟩
    · exact ⟨p, cap, rfl⟩
    · exact ⟨_, _, rfl⟩
  obtain ⟨p, cap, rfl⟩ := key
  have HR := Lib.hid h
  have HM := Lib.hid hm
  clear h hm
  go_enter Tryz.func16, Tryz.ntmps16
  go_wp2_with fail
  go_loopw [3, 8] (fun t3 t8 wr => RvR w L t3 t8 wr) (fun _ t8 _ => L.length - (intOf t8).toNat)
  case atStart => exact ⟨0, 3, Nat.zero_le _, rfl, rfl, by simpa using rlv_nil, Below.refl _ _⟩
  case round =>
    obtain ⟨k, n, hk, rfl, rfl, hl, hb⟩ := hrel
    have HL := Lib.hid hl
    have h3 := hl.lo
    have h44 := hl.hi
    clear hl
    have hz := hb.size
    by_cases hlt : k < L.length
    · obtain ⟨c, hc⟩ : ∃ c, L[k]? = some c := ⟨_, List.getElem?_eq_getElem hlt⟩
      have hne : L ≠ [] := fun e => by rw [e] at hlt; simp at hlt
      obtain ⟨⟨g, o, cp, hv, hcs, hg⟩⟩ := raw_row (HR.out.below hb) hne
      injection hv with hv1 hv2 hv3
      subst hv1 hv3
      clear hv2
      obtain ⟨c0, c1, c2⟩ := hcs k c hc
      rw [← Nat.add_assoc] at c1 c2
      rw [← Nat.add_assoc] at c2
      have hrm := HM.out c (List.mem_of_getElem? hc)
      have hins := fun (m : Nat) W => refinside_any m c.1 c.2.1 W
      have hins' : ∀ (m : Nat) W, Calls Tryz.prog 22 #[.int .i64 m, .int .i64 c.1, .int .i64 c.2.1] W fun e w' => e = .returned (.bool (insB m c.1 c.2.1)) ∧ W = w' := fun m W => by
        have := hins m W
        rwa [refB_ins hrm.1 hrm.2] at this
      have HT := Lib.hid (show L.take (k + 1) = L.take k ++ [c] by rw [List.take_add_one, hc]; rfl)
      clear hins hrm hc hcs
      have kN := Blk.newAt wr 24 #[.int .i64 c.1, .int .i64 c.2.1, .int .i64 c.2.2] _ rfl
      have hb2 := hb.alloc hz (.cells #[.int .i64 c.1, .int .i64 c.2.1, .int .i64 c.2.2] 24)
      go_wp2_with fail
      go_loopw [3] (fun t3 wr' => RvI w wr.heap.size n c t3 wr') (fun t3 _ => 45 - (intOf t3).toNat)
      case atStart => exact ⟨n, Nat.le_refl _, h44, rfl, fun k h1 h2 => by omega, kN, hb2⟩
      case round =>
        clear kN hb2
        obtain ⟨m, hnm, hm, rfl, hno, kN, hb2⟩ := hrel
        have HNo := Lib.hid hno
        have n0 := kN.cell 0
        have n1 := kN.cell 1
        simp only [List.getElem?_toArray, List.getElem?_cons_zero, List.getElem?_cons_succ] at n0 n1
        have hnl := kN.lt
        have hi := hins' m
        clear hno
        by_cases hm4 : m < 44
        · have hd1 : decide ((m : Int) < 44) = true := by simp; omega
          rcases hs : insB m c.1 c.2.1 with _ | _
          · rw [hs] at hi
            have HS := Lib.hid hs
            have HNx := Lib.hid (show ∀ k : Nat, n ≤ k → k < m + 1 → insB k c.1 c.2.1 = false from fun k h1 h2 => by
              rcases Nat.lt_or_ge k m with h | h
              · exact HNo.out k h1 h
              · obtain rfl : k = m := by omega
                exact hs)
            clear hs
            go_wp2_with (first | (go_at_call 22; refine (hi _).mono ?_; rintro e w' ⟨rfl, rfl⟩))
            exact ⟨⟨m + 1, by omega, by omega, by go_num, HNx.out, kN, hb2⟩, by simp [intOf]; omega⟩
          · rw [hs] at hi
            have HS := Lib.hid hs
            clear hs
            have HN := Lib.hid (rlv_next HL.out hnm hm HNo.out (fun _ => HS.out))
            go_wp2_with (first | (go_at_call 22; refine (hi _).mono ?_; rintro e w' ⟨rfl, rfl⟩))
            exact ⟨⟨k + 1, m, by omega, by go_num, rfl, by rw [HT.out]; exact HN.out, hb2⟩, by simp [intOf]; omega⟩
        · obtain rfl : m = 44 := by omega
          have HN := Lib.hid (rlv_next HL.out hnm hm HNo.out (fun h => absurd h hm4))
          go_wp2_with (first | (go_at_call 22; refine (hi _).mono ?_; rintro e w' ⟨rfl, rfl⟩))
          exact ⟨⟨k + 1, 44, by omega, by go_num, rfl, by rw [HT.out]; exact HN.out, hb2⟩, by simp [intOf]; omega⟩
    · obtain rfl : k = L.length := by omega
      go_wp2
      go_ret
      exact ⟨n, rfl, by have := HL.out; rwa [List.take_length] at this, hb⟩
end Go.Proofs.YtahlinekbllkaaaGreatDoor.Tr

/- Contracts of package tree: Get, Put and Box of what is no root. -/
namespace Go.Proofs.YtahlinekbllkaaaGreatDoor.Tr
open Go.RowKit Go.Proofs.YtahlinekbllkaaaGreatDoor.Ba Go.Proofs.YtahlinekbllkaaaGreatDoor.Ar Go.Lib

set_option maxRecDepth 100000 in
set_option maxHeartbeats 1000000 in
theorem get_none (g i : Nat) (c : C) (S : Sta) (P : Nat → Prop) (w : World) (h : ArAt w g S P) (hi : okU i) (hN : S.N.length ≤ 1000000) (hno : levelOf S.N i < 3) :
    Calls Tryz.prog 18 #[Pt g, .int .u32 i, CeV c] w fun e w' => e = .returned (.bool false) ∧ Below w.heap.size w w' := by
  have hr := fun W hW => isroot_any g i S P W hW hi hN
  rw [show decide (3 ≤ levelOf S.N i) = false by simp; omega] at hr
  have kc := Blk.newAt w 53 #[.int .i64 c.1, .int .i64 c.2.1, .int .i64 c.2.2] _ rfl
  have hbw : Below w.heap.size w (w.alloc (.cells #[.int .i64 c.1, .int .i64 c.2.1, .int .i64 c.2.2] 53)) := by go_grown
  have hA := h.under hbw
  have HB := Lib.hid hbw
  clear h hbw
  dsimp only [CeV]
  go_enter Tryz.func18, Tryz.ntmps18
  go_wp2_with fail
  generalize w.alloc (.cells #[.int .i64 c.1, .int .i64 c.2.1, .int .i64 c.2.2] 53) = W at *
  go_cut [29] (fun t29 wx => t29 = .bool true ∧ Below W.heap.size W wx)
  case first =>
    have hkb : Below W.heap.size W W := Below.refl _ _
    refine wp_region_held_drew (S := fun w' => w'.cell? ⟨w.heap.size, 0, none⟩ = some (.int .i64 c.1) ∧ w'.cell? ⟨w.heap.size, 1, none⟩ = some (.int .i64 c.2.1) ∧ w'.cell? ⟨w.heap.size, 2, none⟩ = some (.int .i64 c.2.2)) (by kernel_rfl) (Go.Proofs.YtahlinekbllkaaaGreatDoor.Se.keepB kc (by go_grown)) (fun hHeld => ?_)
    (refine wpAnyH_take (i := 0) (v := ?_) rfl (by kernel_rfl) (by kernel_rfl) (by kernel_rfl) (fun _ _ _ h => h) (Or.inl ⟨by kernel_rfl, ?_⟩) (by assumption) ?_; rotate_left; (focus (intro wq hSw; (try dsimp only at hSw); go_simp; (try with_reducible rfl))); (try simp only [Act.put]))
    (refine wpAnyH_take (i := 1) (v := ?_) rfl (by kernel_rfl) (by kernel_rfl) (by kernel_rfl) (fun _ _ _ h => h) (Or.inl ⟨by kernel_rfl, ?_⟩) (by assumption) ?_; rotate_left; (focus (intro wq hSw; (try dsimp only at hSw); go_simp; (try with_reducible rfl))); (try simp only [Act.put]))
    (refine wpAnyH_ready (rs := [2]) (by kernel_rfl) (by simp) ?_; refine AllReadyH.cons rfl (fun K hK => ?_) AllReadyH.nil; go_simp; (with_reducible refine Calls.mono (hr _ (hA.under ?_)) ?_); (focus (go_grown; done)); rintro e w7 ⟨rfl, hbn⟩; have hkb : Below W.heap.size W w7 := Ba.below_call hbn (by go_grown) (by first | exact hkb.size | (simp; done) | (simp; omega)); clear hbn; dsimp only; refine hK.out _ _ ?_ (fun hHeld => ?_); (focus (exact Go.Proofs.YtahlinekbllkaaaGreatDoor.Se.keepB kc hkb)); clear hK K; (try simp only [Act.put, List.setIfInBounds_toArray, List.set_cons_zero, List.set_cons_succ]))
    (refine wpAnyH_take (i := 3) (v := ?_) rfl (by kernel_rfl) (by kernel_rfl) (by kernel_rfl) (fun _ _ _ h => h) (Or.inl ⟨by kernel_rfl, ?_⟩) (by assumption) ?_; rotate_left; (focus (intro wq hSw; (try dsimp only at hSw); go_simp; (try with_reducible rfl))); (try simp only [Act.put]))
    (refine wpAnyH_take (i := 4) (v := ?_) rfl (by kernel_rfl) (by kernel_rfl) (by kernel_rfl) (fun _ _ _ h => h) (Or.inl ⟨by kernel_rfl, ?_⟩) (by assumption) ?_; rotate_left; (focus (intro wq hSw; (try dsimp only at hSw); go_simp; (try with_reducible rfl))); (try simp only [Act.put]))
    (refine wpAnyH_take (i := 5) (v := undef) rfl (by kernel_rfl) (by kernel_rfl) (by kernel_rfl) (fun _ _ _ h => h) (Or.inr ⟨by kernel_rfl, rfl⟩) (by assumption) ?_; (try simp only [Act.put]))
    (refine wpAnyH_take (i := 6) (v := undef) rfl (by kernel_rfl) (by kernel_rfl) (by kernel_rfl) (fun _ _ _ h => h) (Or.inr ⟨by kernel_rfl, rfl⟩) (by assumption) ?_; (try simp only [Act.put]))
    (refine wpAnyH_take (i := 7) (v := undef) rfl (by kernel_rfl) (by kernel_rfl) (by kernel_rfl) (fun _ _ _ h => h) (Or.inr ⟨by kernel_rfl, rfl⟩) (by assumption) ?_; (try simp only [Act.put]))
    (refine wpAnyH_take (i := 8) (v := undef) rfl (by kernel_rfl) (by kernel_rfl) (by kernel_rfl) (fun _ _ _ h => h) (Or.inr ⟨by kernel_rfl, rfl⟩) (by assumption) ?_; (try simp only [Act.put]))
    (refine wpAnyH_take (i := 9) (v := ?_) rfl (by kernel_rfl) (by kernel_rfl) (by kernel_rfl) (fun _ _ _ h => h) (Or.inl ⟨by kernel_rfl, ?_⟩) (by assumption) ?_; rotate_left; (focus (intro wq hSw; (try dsimp only at hSw); go_simp; (try with_reducible rfl))); (try simp only [Act.put]))
    (refine wpAnyH_take (i := 10) (v := ?_) rfl (by kernel_rfl) (by kernel_rfl) (by kernel_rfl) (fun _ _ _ h => h) (Or.inl ⟨by kernel_rfl, ?_⟩) (by assumption) ?_; rotate_left; (focus (intro wq hSw; (try dsimp only at hSw); go_simp; (try with_reducible rfl))); (try simp only [Act.put]))
    (refine wpAnyH_take (i := 11) (v := undef) rfl (by kernel_rfl) (by kernel_rfl) (by kernel_rfl) (fun _ _ _ h => h) (Or.inr ⟨by kernel_rfl, rfl⟩) (by assumption) ?_; (try simp only [Act.put]))
    (refine wpAnyH_take (i := 12) (v := undef) rfl (by kernel_rfl) (by kernel_rfl) (by kernel_rfl) (fun _ _ _ h => h) (Or.inr ⟨by kernel_rfl, rfl⟩) (by assumption) ?_; (try simp only [Act.put]))
    (refine wpAnyH_take (i := 13) (v := undef) rfl (by kernel_rfl) (by kernel_rfl) (by kernel_rfl) (fun _ _ _ h => h) (Or.inr ⟨by kernel_rfl, rfl⟩) (by assumption) ?_; (try simp only [Act.put]))
    (refine wpAnyH_take (i := 14) (v := undef) rfl (by kernel_rfl) (by kernel_rfl) (by kernel_rfl) (fun _ _ _ h => h) (Or.inr ⟨by kernel_rfl, rfl⟩) (by assumption) ?_; (try simp only [Act.put]))
    (refine wpAnyH_take (i := 15) (v := undef) rfl (by kernel_rfl) (by kernel_rfl) (by kernel_rfl) (fun _ _ _ h => h) (Or.inr ⟨by kernel_rfl, rfl⟩) (by assumption) ?_; (try simp only [Act.put]))
    (refine wpAnyH_take (i := 16) (v := undef) rfl (by kernel_rfl) (by kernel_rfl) (by kernel_rfl) (fun _ _ _ h => h) (Or.inr ⟨by kernel_rfl, rfl⟩) (by assumption) ?_; (try simp only [Act.put]))
    (refine wpAnyH_take (i := 17) (v := undef) rfl (by kernel_rfl) (by kernel_rfl) (by kernel_rfl) (fun _ _ _ h => h) (Or.inr ⟨by kernel_rfl, rfl⟩) (by assumption) ?_; (try simp only [Act.put]))
    (refine wpAnyH_take (i := 18) (v := ?_) rfl (by kernel_rfl) (by kernel_rfl) (by kernel_rfl) (fun _ _ _ h => h) (Or.inl ⟨by kernel_rfl, ?_⟩) (by assumption) ?_; rotate_left; (focus (intro wq hSw; (try dsimp only at hSw); go_simp; (try with_reducible rfl))); (try simp only [Act.put]))
    refine wpAnyH_done (by kernel_rfl) ?_ _
    (try simp)
    (try simp only [Act.put, List.setIfInBounds_toArray, List.set_cons_zero, List.set_cons_succ])
    go_wp2_with fail
    all_goals go_meet
    all_goals exact ⟨rfl, hkb⟩
  case rest =>
    obtain ⟨rfl, hbc⟩ := hcut
    go_wp2_with fail
    exact bodyPost_ret (v := .bool false) (by simp [results, Tryz.results18, go_sem]) rfl ⟨rfl, HB.out.trans (hbc.mono HB.out.size)⟩
set_option maxRecDepth 100000 in
theorem put_none (g i : Nat) (c : C) (live : Bool) (S : Sta) (P : Nat → Prop) (w : World) (h : ArAt w g S P) (hi : okU i) (hN : S.N.length ≤ 1000000) (hno : levelOf S.N i < 3) :
    Calls Tryz.prog 21 #[Pt g, .int .u32 i, CeV c, .bool live] w fun e w' => e = .returned (.tuple #[.int .u32 0, errV (some 4)]) ∧ Below w.heap.size w w' := by
  have hr := fun W hW => isroot_any g i S P W hW hi hN
  rw [show decide (3 ≤ levelOf S.N i) = false by simp; omega] at hr
  have hbw : Below w.heap.size w (w.alloc (.cells #[.int .i64 c.1, .int .i64 c.2.1, .int .i64 c.2.2] 53)) := by go_grown
  have hA := h.under hbw
  have HB := Lib.hid hbw
  clear h hbw
  dsimp only [CeV]
  go_enter Tryz.func21, Tryz.ntmps21
  go_wp2_with fail
  refine (hr _ hA).mono ?_
  rintro e w1 ⟨rfl, hb1⟩
  have HB1 := Lib.hid (HB.out.trans (hb1.mono HB.out.size))
  clear hr hb1 hA
  go_wp2_with fail
  exact bodyPost_ret (v := .tuple #[.int .u32 0, errV (some 4)]) (by simp [results, Tryz.results21, go_sem, errV]) rfl ⟨rfl, HB1.out⟩
set_option maxRecDepth 100000 in
theorem box_none (g i : Nat) (S : Sta) (P : Nat → Prop) (w : World) (h : ArAt w g S P) (hi : okU i) (hN : S.N.length ≤ 1000000) (hno : levelOf S.N i < 3) :
    Calls Tryz.prog 11 #[Pt g, .int .u32 i] w fun e w' => e = .returned (.tuple #[.agg #[.int .i64 0, .int .i64 0, .int .i64 0, .int .i64 0], .bool false]) ∧ Below w.heap.size w w' := by
  have hr := fun W hW => isroot_any g i S P W hW hi hN
  rw [show decide (3 ≤ levelOf S.N i) = false by simp; omega] at hr
  have kb := Blk.newAt w 40 #[.int .i64 0, .int .i64 0, .int .i64 0, .int .i64 0] _ rfl
  have hbw : Below w.heap.size w (w.alloc (.cells #[.int .i64 0, .int .i64 0, .int .i64 0, .int .i64 0] 40)) := by go_grown
  have hA := h.under hbw
  have HB := Lib.hid hbw
  clear h hbw
  go_enter Tryz.func11, Tryz.ntmps11
  go_wp2_with fail
  refine (hr _ hA).mono ?_
  rintro e w1 ⟨rfl, hb1⟩
  have hb2 := HB.out.trans (hb1.mono HB.out.size)
  have k1 := kb.under hb1
  have c0 := k1.cell 0
  have c1 := k1.cell 1
  have c2 := k1.cell 2
  have c3 := k1.cell 3
  simp only [List.getElem?_toArray, List.getElem?_cons_zero, List.getElem?_cons_succ] at c0 c1 c2 c3
  have f0 := k1.frozen 0
  have f1 := k1.frozen 1
  have f2 := k1.frozen 2
  have f3 := k1.frozen 3
  have hl := k1.lt
  clear hr hb1 hA kb k1
  go_wp2_with fail
  exact bodyPost_ret (v := .tuple #[.agg #[.int .i64 0, .int .i64 0, .int .i64 0, .int .i64 0], .bool false]) (by simp [results, Tryz.results11, go_sem, *]) rfl ⟨rfl, by go_grown⟩
end Go.Proofs.YtahlinekbllkaaaGreatDoor.Tr

/- Contracts of package tree: Get of a root, of what isn't in it. -/
namespace Go.Proofs.YtahlinekbllkaaaGreatDoor.Tr
open Go.RowKit Go.Proofs.YtahlinekbllkaaaGreatDoor.Ba Go.Proofs.YtahlinekbllkaaaGreatDoor.Ar Go.Lib

set_option maxRecDepth 100000 in
set_option maxHeartbeats 1000000 in
theorem get_half (g i d : Nat) (c : C) (S : Sta) (P : Nat → Prop) (w : World) (h : ArAt w g S P) (hv : lvOk S.N d i) (hd : 1 ≤ d) (hN : S.N.length ≤ 1000000) (hh : ¬ (c.2.2 = 0 ∨ c.2.2 = 1)) :
    Calls Tryz.prog 18 #[Pt g, .int .u32 i, CeV c] w fun e w' => e = .returned (.bool false) ∧ Below w.heap.size w w' := by
  have hi : okU i := by have := lv_le hv; show _ < _; omega
  have hr := fun W hW => isroot_any g i S P W hW hi hN
  rw [show decide (3 ≤ levelOf S.N i) = true by have : levelOf S.N i = (d : Int) + 2 := hv; simp; omega] at hr
  have hha : ∀ W, Calls Tryz.prog 45 #[.int .i64 c.2.2] W fun e w' => e = .returned (.bool false) ∧ Below W.heap.size W w' := fun W => (ishalf_any c.2.2 W).mono fun e w' ⟨he, hw⟩ => ⟨by rw [he, show decide (c.2.2 = 0 ∨ c.2.2 = 1) = false by simpa using hh], by rw [hw]; exact Below.refl _ _⟩
  have kc := Blk.newAt w 53 #[.int .i64 c.1, .int .i64 c.2.1, .int .i64 c.2.2] _ rfl
  have hbw : Below w.heap.size w (w.alloc (.cells #[.int .i64 c.1, .int .i64 c.2.1, .int .i64 c.2.2] 53)) := by go_grown
  have hA := h.under hbw
  have HB := Lib.hid hbw
  clear h hbw hv hh
  dsimp only [CeV]
  go_enter Tryz.func18, Tryz.ntmps18
  go_wp2_with fail
  generalize w.alloc (.cells #[.int .i64 c.1, .int .i64 c.2.1, .int .i64 c.2.2] 53) = W at *
  go_cut [29] (fun t29 wx => t29 = .bool true ∧ Below W.heap.size W wx)
  case first =>
    have hkb : Below W.heap.size W W := Below.refl _ _
    refine wp_region_held_drew (S := fun w' => w'.cell? ⟨w.heap.size, 0, none⟩ = some (.int .i64 c.1) ∧ w'.cell? ⟨w.heap.size, 1, none⟩ = some (.int .i64 c.2.1) ∧ w'.cell? ⟨w.heap.size, 2, none⟩ = some (.int .i64 c.2.2)) (by kernel_rfl) (Go.Proofs.YtahlinekbllkaaaGreatDoor.Se.keepB kc (by go_grown)) (fun hHeld => ?_)
    (refine wpAnyH_take (i := 0) (v := ?_) rfl (by kernel_rfl) (by kernel_rfl) (by kernel_rfl) (fun _ _ _ h => h) (Or.inl ⟨by kernel_rfl, ?_⟩) (by assumption) ?_; rotate_left; (focus (intro wq hSw; (try dsimp only at hSw); go_simp; (try with_reducible rfl))); (try simp only [Act.put]))
    (refine wpAnyH_take (i := 1) (v := ?_) rfl (by kernel_rfl) (by kernel_rfl) (by kernel_rfl) (fun _ _ _ h => h) (Or.inl ⟨by kernel_rfl, ?_⟩) (by assumption) ?_; rotate_left; (focus (intro wq hSw; (try dsimp only at hSw); go_simp; (try with_reducible rfl))); (try simp only [Act.put]))
    (refine wpAnyH_ready (rs := [2]) (by kernel_rfl) (by simp) ?_; refine AllReadyH.cons rfl (fun K hK => ?_) AllReadyH.nil; go_simp; (with_reducible refine Calls.mono (hr _ (hA.under ?_)) ?_); (focus (go_grown; done)); rintro e w7 ⟨rfl, hbn⟩; have hkb : Below W.heap.size W w7 := Ba.below_call hbn (by go_grown) (by first | exact hkb.size | (simp; done) | (simp; omega)); clear hbn; dsimp only; refine hK.out _ _ ?_ (fun hHeld => ?_); (focus (exact Go.Proofs.YtahlinekbllkaaaGreatDoor.Se.keepB kc hkb)); clear hK K; (try simp only [Act.put, List.setIfInBounds_toArray, List.set_cons_zero, List.set_cons_succ]))
    (refine wpAnyH_take (i := 3) (v := ?_) rfl (by kernel_rfl) (by kernel_rfl) (by kernel_rfl) (fun _ _ _ h => h) (Or.inl ⟨by kernel_rfl, ?_⟩) (by assumption) ?_; rotate_left; (focus (intro wq hSw; (try dsimp only at hSw); go_simp; (try with_reducible rfl))); (try simp only [Act.put]))
    (refine wpAnyH_take (i := 4) (v := ?_) rfl (by kernel_rfl) (by kernel_rfl) (by kernel_rfl) (fun _ _ _ h => h) (Or.inl ⟨by kernel_rfl, ?_⟩) (by assumption) ?_; rotate_left; (focus (intro wq hSw; (try dsimp only at hSw); go_simp; (try with_reducible rfl))); (try simp only [Act.put]))
    (refine wpAnyH_take (i := 5) (v := ?_) rfl (by kernel_rfl) (by kernel_rfl) (by kernel_rfl) (fun _ _ _ h => h) (Or.inl ⟨by kernel_rfl, ?_⟩) (by assumption) ?_; rotate_left; (focus (intro wq hSw; (try dsimp only at hSw); go_simp; (try with_reducible rfl))); (try simp only [Act.put]))
    (refine wpAnyH_take (i := 6) (v := ?_) rfl (by kernel_rfl) (by kernel_rfl) (by kernel_rfl) (fun _ _ _ h => h) (Or.inl ⟨by kernel_rfl, ?_⟩) (by assumption) ?_; rotate_left; (focus (intro wq hSw; (try dsimp only at hSw); go_simp; (try with_reducible rfl))); (try simp only [Act.put]))
    (refine wpAnyH_ready (rs := [7]) (by kernel_rfl) (by simp) ?_; refine AllReadyH.cons rfl (fun K hK => ?_) AllReadyH.nil; go_simp; (with_reducible refine Calls.mono (hha _) ?_); rintro e w7 ⟨rfl, hbn⟩; have hkb : Below W.heap.size W w7 := Ba.below_call hbn (by go_grown) (by first | exact hkb.size | (simp; done) | (simp; omega)); clear hbn; dsimp only; refine hK.out _ _ ?_ (fun hHeld => ?_); (focus (exact Go.Proofs.YtahlinekbllkaaaGreatDoor.Se.keepB kc hkb)); clear hK K; (try simp only [Act.put, List.setIfInBounds_toArray, List.set_cons_zero, List.set_cons_succ]))
    (refine wpAnyH_take (i := 8) (v := ?_) rfl (by kernel_rfl) (by kernel_rfl) (by kernel_rfl) (fun _ _ _ h => h) (Or.inl ⟨by kernel_rfl, ?_⟩) (by assumption) ?_; rotate_left; (focus (intro wq hSw; (try dsimp only at hSw); go_simp; (try with_reducible rfl))); (try simp only [Act.put]))
    (refine wpAnyH_take (i := 9) (v := ?_) rfl (by kernel_rfl) (by kernel_rfl) (by kernel_rfl) (fun _ _ _ h => h) (Or.inl ⟨by kernel_rfl, ?_⟩) (by assumption) ?_; rotate_left; (focus (intro wq hSw; (try dsimp only at hSw); go_simp; (try with_reducible rfl))); (try simp only [Act.put]))
    (refine wpAnyH_take (i := 10) (v := ?_) rfl (by kernel_rfl) (by kernel_rfl) (by kernel_rfl) (fun _ _ _ h => h) (Or.inl ⟨by kernel_rfl, ?_⟩) (by assumption) ?_; rotate_left; (focus (intro wq hSw; (try dsimp only at hSw); go_simp; (try with_reducible rfl))); (try simp only [Act.put]))
    (refine wpAnyH_take (i := 11) (v := undef) rfl (by kernel_rfl) (by kernel_rfl) (by kernel_rfl) (fun _ _ _ h => h) (Or.inr ⟨by kernel_rfl, rfl⟩) (by assumption) ?_; (try simp only [Act.put]))
    (refine wpAnyH_take (i := 12) (v := undef) rfl (by kernel_rfl) (by kernel_rfl) (by kernel_rfl) (fun _ _ _ h => h) (Or.inr ⟨by kernel_rfl, rfl⟩) (by assumption) ?_; (try simp only [Act.put]))
    (refine wpAnyH_take (i := 13) (v := undef) rfl (by kernel_rfl) (by kernel_rfl) (by kernel_rfl) (fun _ _ _ h => h) (Or.inr ⟨by kernel_rfl, rfl⟩) (by assumption) ?_; (try simp only [Act.put]))
    (refine wpAnyH_take (i := 14) (v := undef) rfl (by kernel_rfl) (by kernel_rfl) (by kernel_rfl) (fun _ _ _ h => h) (Or.inr ⟨by kernel_rfl, rfl⟩) (by assumption) ?_; (try simp only [Act.put]))
    (refine wpAnyH_take (i := 15) (v := undef) rfl (by kernel_rfl) (by kernel_rfl) (by kernel_rfl) (fun _ _ _ h => h) (Or.inr ⟨by kernel_rfl, rfl⟩) (by assumption) ?_; (try simp only [Act.put]))
    (refine wpAnyH_take (i := 16) (v := undef) rfl (by kernel_rfl) (by kernel_rfl) (by kernel_rfl) (fun _ _ _ h => h) (Or.inr ⟨by kernel_rfl, rfl⟩) (by assumption) ?_; (try simp only [Act.put]))
    (refine wpAnyH_take (i := 17) (v := undef) rfl (by kernel_rfl) (by kernel_rfl) (by kernel_rfl) (fun _ _ _ h => h) (Or.inr ⟨by kernel_rfl, rfl⟩) (by assumption) ?_; (try simp only [Act.put]))
    (refine wpAnyH_take (i := 18) (v := ?_) rfl (by kernel_rfl) (by kernel_rfl) (by kernel_rfl) (fun _ _ _ h => h) (Or.inl ⟨by kernel_rfl, ?_⟩) (by assumption) ?_; rotate_left; (focus (intro wq hSw; (try dsimp only at hSw); go_simp; (try with_reducible rfl))); (try simp only [Act.put]))
    refine wpAnyH_done (by kernel_rfl) ?_ _
    (try simp)
    (try simp only [Act.put, List.setIfInBounds_toArray, List.set_cons_zero, List.set_cons_succ])
    go_wp2_with fail
    all_goals go_meet
    all_goals exact ⟨rfl, hkb⟩
  case rest =>
    obtain ⟨rfl, hbc⟩ := hcut
    go_wp2_with fail
    exact bodyPost_ret (v := .bool false) (by simp [results, Tryz.results18, go_sem]) rfl ⟨rfl, HB.out.trans (hbc.mono HB.out.size)⟩
set_option maxRecDepth 100000 in
set_option maxHeartbeats 1000000 in
theorem get_out (g i d : Nat) (c : C) (S : Sta) (P : Nat → Prop) (w : World) (h : ArAt w g S P) (hv : lvOk S.N d i) (hd : 1 ≤ d) (hN : S.N.length ≤ 1000000) (hcc : c.2.2 = 0 ∨ c.2.2 = 1) (hi2 : insB ((d : Int) + 2) c.1 c.2.1 = false) :
    Calls Tryz.prog 18 #[Pt g, .int .u32 i, CeV c] w fun e w' => e = .returned (.bool false) ∧ Below w.heap.size w w' := by
  have hi : okU i := by have := lv_le hv; show _ < _; omega
  have hlv : levelOf S.N i = (d : Int) + 2 := hv
  have hr := fun W hW => isroot_any g i S P W hW hi hN
  have hl := fun W hW => Ar.level_any g i S P W hW hi hN
  rw [hlv] at hr hl
  rw [show decide (3 ≤ (d : Int) + 2) = true by simp; omega] at hr
  have hh := fun W => ishalf_any c.2.2 W
  rw [show decide (c.2.2 = 0 ∨ c.2.2 = 1) = true by simpa using hcc] at hh
  have hin := fun W => inside_any ((d : Int) + 2) c.1 c.2.1 W
  rw [hi2] at hin
  have kc := Blk.newAt w 53 #[.int .i64 c.1, .int .i64 c.2.1, .int .i64 c.2.2] _ rfl
  have hbw : Below w.heap.size w (w.alloc (.cells #[.int .i64 c.1, .int .i64 c.2.1, .int .i64 c.2.2] 53)) := by go_grown
  have hA := h.under hbw
  have HB := Lib.hid hbw
  clear h hbw hv hcc hlv hi2
  dsimp only [CeV]
  obtain ⟨c0, c1, c2⟩ := Go.Proofs.YtahlinekbllkaaaGreatDoor.Se.keepB kc (Below.refl _ _)
  have hcl := kc.lt
  go_enter Tryz.func18, Tryz.ntmps18
  go_wp2_with fail
  generalize w.alloc (.cells #[.int .i64 c.1, .int .i64 c.2.1, .int .i64 c.2.2] 53) = W at *
  have hkb : Below W.heap.size W W := Below.refl _ _
  go_cut [29] (fun t29 wx => t29 = .bool true ∧ Below W.heap.size W wx)
  case first =>
    go_region_held3 (fun w' => w'.cell? ⟨w.heap.size, 0, none⟩ = some (.int .i64 c.1) ∧ w'.cell? ⟨w.heap.size, 1, none⟩ = some (.int .i64 c.2.1) ∧ w'.cell? ⟨w.heap.size, 2, none⟩ = some (.int .i64 c.2.2)) (first | (refine Go.Proofs.YtahlinekbllkaaaGreatDoor.Se.keepB kc ?_; go_grown; done)) ((first | (go_at_call 35; refine (hr _ (hA.under (by go_grown))).mono ?_; rintro e w5 ⟨rfl, hb5⟩; have hkb : Below W.heap.size W w5 := Ba.below_call hb5 (by go_grown) (by first | exact hkb.size | go_size); clear hb5) | (go_at_call 15; refine (hl _ (hA.under (by go_grown))).mono ?_; rintro e w5 ⟨rfl, hb5⟩; have hkb : Below W.heap.size W w5 := Ba.below_call hb5 (by go_grown) (by first | exact hkb.size | go_size); clear hb5) | (go_at_call 45; refine (hh _).mono ?_; rintro e w5 ⟨rfl, rfl⟩) | (go_at_call 46; refine (hin _).mono ?_; rintro e w5 ⟨rfl, hb5⟩; have hkb : Below W.heap.size W w5 := Ba.below_call hb5 (by go_grown) (by first | exact hkb.size | go_size); clear hb5)))
    all_goals go_wp2_with fail
    all_goals go_meet
    all_goals exact ⟨rfl, by go_grown⟩
  case rest =>
    obtain ⟨rfl, hbc⟩ := hcut
    clear c0 c1 c2
    go_wp2_with fail
    exact bodyPost_ret (v := .bool false) (by simp [results, Tryz.results18, go_sem]) rfl ⟨rfl, HB.out.trans (hbc.mono HB.out.size)⟩
end Go.Proofs.YtahlinekbllkaaaGreatDoor.Tr

/- Contracts of package tree: Box of a root. -/
namespace Go.Proofs.YtahlinekbllkaaaGreatDoor.Tr
open Go.RowKit Go.Proofs.YtahlinekbllkaaaGreatDoor.Ba Go.Proofs.YtahlinekbllkaaaGreatDoor.Ar Go.Lib Go.Maps
open Go.Proofs.YtahlinekbllkaaaGreatDoor.Si (DebIs)
open Go.Proofs.YtahlinekbllkaaaGreatDoor.Se (Q Bx boxL)

set_option maxRecDepth 100000 in
set_option maxHeartbeats 1000000 in
theorem boxr_none (g i d : Nat) (S : Sta) (P : Nat → Prop) (w : World) (hA : ArAt w g S P) (hv : lvOk S.N d i) (hd : 1 ≤ d) (hN : S.N.length ≤ 1000000) (h0 : (ndAt S.N i).1.count = 0) :
    Calls Tryz.prog 11 #[Pt g, .int .u32 i] w fun e w' => e = .returned (.tuple #[.agg (Bx (0, 0, 0, 0)), .bool false]) ∧ Below w.heap.size w w' := by
  have hr := fun W hW => isroot_any g i S P W hW (lv_okU hv hN) hN
  rw [show decide (3 ≤ levelOf S.N i) = true by have : levelOf S.N i = (d : Int) + 2 := hv; simp; omega] at hr
  have hc := fun W hW => Ar.count_any g i S P W hW (lv_okU hv hN) hN
  rw [h0] at hc
  have hbw : Below w.heap.size w (w.alloc (.cells (Bx (0, 0, 0, 0)) 40)) := by go_grown
  have kr := Blk.newAt w 40 (Bx (0, 0, 0, 0)) _ rfl
  have hA1 := hA.under hbw
  have HB := Lib.hid hbw
  have hl := kr.lt
  clear hbw hA
  go_enter Tryz.func11, Tryz.ntmps11
  go_wp2_with fail
  refine (hr _ hA1).mono ?_
  rintro e w1 ⟨rfl, hb1⟩
  have HB1 := Lib.hid (HB.out.trans (hb1.mono HB.out.size))
  have hA2 := hA1.under hb1
  have kr1 := kr.under hb1
  clear hr hb1 hA1 kr hl HB
  go_wp2_with fail
  refine (hc _ hA2).mono ?_
  rintro e w2 ⟨rfl, hb2⟩
  have HB2 := Lib.hid (HB1.out.trans (hb2.mono HB1.out.size))
  have kr2 := kr1.under hb2
  have z0 := kr2.cell 0
  have z1 := kr2.cell 1
  have z2 := kr2.cell 2
  have z3 := kr2.cell 3
  simp only [List.getElem?_toArray, List.getElem?_cons_zero, List.getElem?_cons_succ] at z0 z1 z2 z3
  have fr0 := kr2.frozen 0
  have fr1 := kr2.frozen 1
  have fr2 := kr2.frozen 2
  have fr3 := kr2.frozen 3
  have hl2 := kr2.lt
  clear hc hb2 hA2 kr1 kr2
  go_wp2_with fail
  exact bodyPost_ret (v := .tuple #[.agg (Bx (0, 0, 0, 0)), .bool false]) (by simp [results, Tryz.results11, go_sem, *]) rfl ⟨rfl, by have := HB2.out; go_grown⟩
set_option maxRecDepth 100000 in
set_option maxHeartbeats 4000000 in
theorem box_root (g i d : Nat) (S : Sta) (P : Nat → Prop) (w : World) (hA : ArAt w g S P) (hv : lvOk S.N d i) (hd : 1 ≤ d) (hd2 : d ≤ 42) (T : Tw S) (hN : S.N.length ≤ 1000000) (hD : DebIs w) (h0 : (ndAt S.N i).1.count ≠ 0) :
    Calls Tryz.prog 11 #[Pt g, .int .u32 i] w fun e w' => e = .returned (.tuple #[.agg (Bx (boxL (cellsL S.N d i (-hf ((d : Int) + 2)) (-hf ((d : Int) + 2))))), .bool true]) ∧ Below w.heap.size w w' := by
  have hlv : levelOf S.N i = (d : Int) + 2 := hv
  have hne : cellsL S.N d i 0 0 ≠ [] := fun e => h0 ((cnt_nil T hv).2 e)
  have hbx := bx_sm hd2 hne
  rw [bx_root hne]
  have hr := fun W hW => isroot_any g i S (fun k => P k ∧ k < w.heap.size) W hW (lv_okU hv hN) hN
  rw [show decide (3 ≤ levelOf S.N i) = true by simp; omega] at hr
  have hc := fun W hW => Ar.count_any g i S (fun k => P k ∧ k < w.heap.size) W hW (lv_okU hv hN) hN
  have hle := fun W hW => Ar.level_any g i S (fun k => P k ∧ k < w.heap.size) W hW (lv_okU hv hN) hN
  rw [hlv] at hle
  have hwh := fun W => whole_any ((d : Int) + 2) W
  have hhf := hf_bd ((d : Int) + 2)
  have hof := fun b W hW => (of_cor d).1 i g b S [] (fun k => P k ∧ k < w.heap.size) W hW hv hd2 h0
  unfold OfPost at hof
  have hfd := fun W => sq_low (-hf ((d : Int) + 2)) (-hf ((d : Int) + 2)) ((d : Int) + 2) W
  have hsh0 := fun W => shifted_any (bx S.N d i) (-hf ((d : Int) + 2)) (-hf ((d : Int) + 2)) W hbx.1.1 hbx.1.2 hbx.2.1 hbx.2.2 (by unfold sm; omega) (by unfold sm; omega)
  generalize bx S.N d i = r0 at *
  obtain ⟨⟨ra, rb, rc, re⟩, hR⟩ : ∃ r, shQ r0 (-hf ((d : Int) + 2)) (-hf ((d : Int) + 2)) = r := ⟨_, rfl⟩
  rw [hR] at hsh0 ⊢
  generalize -hf ((d : Int) + 2) = x at *
  have hsh : ∀ W, Calls Tryz.prog 41 #[.agg (Bx r0), .agg #[.int .i64 x, .int .i64 x]] W fun e w' => e = .returned (.agg #[.int .i64 ra, .int .i64 rb, .int .i64 rc, .int .i64 re]) ∧ Below W.heap.size W w' := hsh0
  have hbw : Below w.heap.size w (w.alloc (.cells (Bx (0, 0, 0, 0)) 40)) := by go_grown
  have kr := Blk.newAt w 40 (Bx (0, 0, 0, 0)) _ rfl
  have hA1 := (hA.weak (P' := fun k => P k ∧ k < w.heap.size) fun k hk hlt => ⟨hk, hlt⟩).under hbw
  have HB := Lib.hid hbw
  have HD := Lib.hid hD
  have HN := Lib.hid (show (0 : Int) < ((ndAt S.N i).1.count : Int) by omega)
  have hl := kr.lt
  have HT := Lib.hid T
  have hnz : (((ndAt S.N i).1.count : Int) == 0) = false := by simp; omega
  generalize (ndAt S.N i).1.count = n at *
  clear hbw hA hsh0 hbx hne h0 hR hhf hD T
  go_enter Tryz.func11, Tryz.ntmps11
  go_wp2_with fail
  refine (hr _ hA1).mono ?_
  rintro e w1 ⟨rfl, hb1⟩
  have HB1 := Lib.hid (HB.out.trans (hb1.mono HB.out.size))
  have hA2 := hA1.under hb1
  have kr1 := kr.under hb1
  clear hr hb1 hA1 kr hl HB
  go_wp2_with fail
  refine (hc _ hA2).mono ?_
  rintro e w2 ⟨rfl, hb2⟩
  have HB2 := Lib.hid (HB1.out.trans (hb2.mono HB1.out.size))
  have hA3 := hA2.under hb2
  have kr2 := kr1.under hb2
  have hl2 := kr2.lt
  have hz2 := HB2.out.size
  have hb3 : Below w2.heap.size w2 ((w2.alloc (.map #[] 0)).alloc (.cells (Bqc g w2.heap.size) 89)) := by go_grown
  have kq : Blk ((w2.alloc (.map #[] 0)).alloc (.cells (Bqc g w2.heap.size) 89)) (w2.heap.size + 1) 89 (Bqc g w2.heap.size) := Blk.newAt _ _ _ _ (by simp)
  have hkb := (KB.made w2 S.N).under (show Below _ _ ((w2.alloc (.map #[] 0)).alloc (.cells (Bqc g w2.heap.size) 89)) by go_grown)
  have HE : Hid (BE ((w2.alloc (.map #[] 0)).alloc (.cells (Bqc g w2.heap.size) 89)) g w2.heap.size S [] (fun k => P k ∧ k < w.heap.size)) := Lib.hid ⟨hA3.under hb3, hkb, fun h => by have := h.2; omega, (HD.out.below HB2.out).below hb3, by have := HD.out.2; omega, HT.out, hN⟩
  have HKr := Lib.hid (kr2.under hb3)
  have HKq := Lib.hid kq
  have HB3 := Lib.hid (HB2.out.trans (hb3.mono HB2.out.size))
  have hmm := @run_makeMap Tryz.prog
  clear hc hb2 hA2 kr1 hA3 hb3 hkb kq kr2
  go_upto_region 4 with fail
  clear hmm
  generalize (w2.alloc (.map #[] 0)).alloc (.cells (Bqc g w2.heap.size) 89) = W at *
  obtain ⟨c0, c1⟩ : _ ∧ _ := ⟨HKq.out.cell 0, HKq.out.cell 1⟩
  simp only [List.getElem?_toArray, List.getElem?_cons_zero, List.getElem?_cons_succ] at c0 c1
  have hlq := HKq.out.lt
  have hofc := hof w2.heap.size W HE.out
  go_wp2_with fail
  refine hofc.mono ?_
  rintro e w5 ⟨L5, rfl, hk5, _, ho5⟩
  have E5 := HE.out.after ho5 hk5
  have hA5 := E5.ar
  have HB5 := Lib.hid (HB3.out.trans ((ho5.below (B := w2.heap.size) (Nat.le_of_lt HE.out.blt) fun k hk => by omega).mono hz2))
  have HKr5 := Lib.hid (ho5.blk HKr.out (by omega))
  clear hofc hof ho5 hk5 E5 c0 c1 hlq HKr HKq
  go_wp2_with fail
  refine (hle _ hA5).mono ?_
  rintro e w6 ⟨rfl, hb6⟩
  have HB6 := Lib.hid (HB5.out.trans (hb6.mono HB5.out.size))
  have HKr6 := Lib.hid (HKr5.out.under hb6)
  clear hle hA5 hb6
  go_wp2_with fail
  refine (hwh _).mono ?_
  rintro e w7 ⟨rfl, hg7⟩
  have HB7 := Lib.hid (HB6.out.trans (hg7.below.mono HB6.out.size))
  have HKr7 := Lib.hid (HKr6.out.under hg7.below)
  clear hwh hg7
  go_wp2_with fail
  refine (hsh _).mono ?_
  rintro e w8 ⟨rfl, hb8⟩
  have HB8 := Lib.hid (HB7.out.trans (hb8.mono HB7.out.size))
  have kr8 := HKr7.out.under hb8
  have z0 := kr8.cell 0
  have z1 := kr8.cell 1
  have z2 := kr8.cell 2
  have z3 := kr8.cell 3
  simp only [List.getElem?_toArray, List.getElem?_cons_zero, List.getElem?_cons_succ] at z0 z1 z2 z3
  have fr0 := kr8.frozen 0
  have fr1 := kr8.frozen 1
  have fr2 := kr8.frozen 2
  have fr3 := kr8.frozen 3
  have hl8 := kr8.lt
  clear hsh hb8 kr8
  go_wp2_with fail
  exact bodyPost_ret (v := .tuple #[.agg (Bx (ra, rb, rc, re)), .bool true]) (by simp [results, Tryz.results11, go_sem, *]) rfl ⟨rfl, st4 HB8.out (Nat.le_refl _) _ _ _ _⟩
end Go.Proofs.YtahlinekbllkaaaGreatDoor.Tr

/- The document's Box. -/
namespace Go.Proofs.YtahlinekbllkaaaGreatDoor.Tr
open Go.RowKit Go.Proofs.YtahlinekbllkaaaGreatDoor.Ba Go.Lib
open Go.Proofs.YtahlinekbllkaaaGreatDoor.Se (RawAt Q Bx boxL boxN boxN_succ bstep flat flat_get)

/-- The list of four, and the cell at hand. -/
def RB (w : World) (B Cb : Nat) (q : Q) (c : C) (wx : World) : Prop := Blk wx B 2 (Bx q) ∧ Blk wx Cb 24 #[.int .i64 c.1, .int .i64 c.2.1, .int .i64 c.2.2] ∧ Below w.heap.size w wx ∧ w.heap.size ≤ B ∧ B ≠ Cb
theorem rb_get {w wx : World} {B Cb : Nat} {q : Q} {c : C} (h : RB w B Cb q c wx) : (wx.cell? ⟨B, 0, none⟩ = some (.int .i64 q.1) ∧ wx.cell? ⟨B, 1, none⟩ = some (.int .i64 q.2.1) ∧ wx.cell? ⟨B, 2, none⟩ = some (.int .i64 q.2.2.1) ∧ wx.cell? ⟨B, 3, none⟩ = some (.int .i64 q.2.2.2)) ∧ (wx.cell? ⟨Cb, 0, none⟩ = some (.int .i64 c.1) ∧ wx.cell? ⟨Cb, 1, none⟩ = some (.int .i64 c.2.1) ∧ wx.cell? ⟨Cb, 2, none⟩ = some (.int .i64 c.2.2)) ∧ B < wx.heap.size ∧ Cb < wx.heap.size :=
  ⟨⟨h.1.cell 0, h.1.cell 1, h.1.cell 2, h.1.cell 3⟩, ⟨h.2.1.cell 0, h.2.1.cell 1, h.2.1.cell 2⟩, h.1.lt, h.2.1.lt⟩
theorem rb_0 {w wx : World} {B Cb : Nat} {x0 x1 x2 x3 y : Int} {c : C} (h : RB w B Cb (x0, x1, x2, x3) c wx) : RB w B Cb (y, x1, x2, x3) c (wx.setCell ⟨B, 0, none⟩ (.int .i64 y)) :=
  ⟨h.1.set_ 0 _, h.2.1.far (Ne.symm h.2.2.2.2) _, h.2.2.1.setCell h.2.2.2.1 _, h.2.2.2⟩
theorem rb_1 {w wx : World} {B Cb : Nat} {x0 x1 x2 x3 y : Int} {c : C} (h : RB w B Cb (x0, x1, x2, x3) c wx) : RB w B Cb (x0, y, x2, x3) c (wx.setCell ⟨B, 1, none⟩ (.int .i64 y)) :=
  ⟨h.1.set_ 1 _, h.2.1.far (Ne.symm h.2.2.2.2) _, h.2.2.1.setCell h.2.2.2.1 _, h.2.2.2⟩
theorem rb_2 {w wx : World} {B Cb : Nat} {x0 x1 x2 x3 y : Int} {c : C} (h : RB w B Cb (x0, x1, x2, x3) c wx) : RB w B Cb (x0, x1, y, x3) c (wx.setCell ⟨B, 2, none⟩ (.int .i64 y)) :=
  ⟨h.1.set_ 2 _, h.2.1.far (Ne.symm h.2.2.2.2) _, h.2.2.1.setCell h.2.2.2.1 _, h.2.2.2⟩
theorem rb_3 {w wx : World} {B Cb : Nat} {x0 x1 x2 x3 y : Int} {c : C} (h : RB w B Cb (x0, x1, x2, x3) c wx) : RB w B Cb (x0, x1, x2, y) c (wx.setCell ⟨B, 3, none⟩ (.int .i64 y)) :=
  ⟨h.1.set_ 3 _, h.2.1.far (Ne.symm h.2.2.2.2) _, h.2.2.1.setCell h.2.2.2.1 _, h.2.2.2⟩
theorem rb_dr {w wx : World} {B Cb : Nat} {q : Q} {c : C} (h : RB w B Cb q c wx) (n : Nat) : RB w B Cb q c (wx.drewN n) :=
  ⟨h.1, h.2.1, ⟨h.2.2.1.os, h.2.2.1.tape, h.2.2.1.output, h.2.2.1.size, h.2.2.1.block⟩, h.2.2.2⟩
def RbR (w : World) (B : Nat) (L : List C) (x : C) (i : Value) (wr : World) : Prop :=
  ∃ k : Nat, k ≤ L.length ∧ i = .int .i64 k ∧ Blk wr B 2 (Bx (boxN L x k)) ∧ Below w.heap.size w wr ∧ w.heap.size ≤ B
set_option maxRecDepth 100000 in
theorem refbox_nil (p : Option Addr) (cap : Nat) (w : World) :
    Calls Tryz.prog 14 #[.slice p 0 cap] w fun e w' => e = .returned (.slice none 0 0) ∧ Below w.heap.size w w' := by
  go_enter Tryz.func14, Tryz.ntmps14
  go_wp2_with fail
  exact bodyPost_ret (v := .slice none 0 0) (by simp [results, Tryz.results14, go_sem, *]) rfl ⟨rfl, by go_grown⟩
set_option maxRecDepth 100000 in
set_option maxHeartbeats 4000000 in
theorem refbox_row (v : Value) (L : List C) (x : C) (w : World) (h : RowR w v L) (hx : L[0]? = some x) (hL : L.length ≤ 1000) :
    Calls Tryz.prog 14 #[v] w fun e w' => ∃ B, e = .returned (.slice (some ⟨B, 0, none⟩) 4 4) ∧ Blk w' B 2 (Bx (boxN L x L.length)) ∧ Below w.heap.size w w' := by
  obtain ⟨⟨g, o, cap, rfl, hcs, hg⟩⟩ := h
  have hl : 0 < L.length := (List.getElem?_eq_some_iff.1 hx).1
  have hl' : ((L.length : Int) == 0) = false := beq_eq_false_iff_ne.2 (by omega)
  have hi0 : (0 : Int) < (L.length : Int) := by omega
  have HCs := Lib.hid hcs
  obtain ⟨c0, c1, c2⟩ := hcs 0 x hx
  simp only [Nat.zero_mul, Nat.zero_add, Nat.add_zero] at c0 c1 c2
  clear hcs
  go_enter Tryz.func14, Tryz.ntmps14
  go_upto_region 3 with fail
  go_cut [3] (fun v wx => ∃ B, v = .slice (some ⟨B, 0, none⟩) 4 4 ∧ Blk wx B 2 (Bx (x.1, x.2.1, x.1, x.2.1)) ∧ Below w.heap.size w wx ∧ w.heap.size ≤ B)
  case first =>
    go_region
    all_goals go_wp2_with fail
    all_goals go_meet
    all_goals exact ⟨w.heap.size, rfl, by first | exact Blk.newAt w _ _ _ rfl | simp [Blk, go_sem], by go_grown, Nat.le_refl _⟩
  case rest =>
    obtain ⟨B, rfl, kB, hbB, hB⟩ := hcut
    clear c0 c1 c2
    go_wp2_with fail
    go_loopw [28] (fun i wr => RbR w B L x i wr) (fun i _ => L.length - (intOf i).toNat)
    case atStart => exact ⟨0, Nat.zero_le _, rfl, kB, hbB, hB⟩
    case round =>
      clear kB hbB hB
      obtain ⟨k, hk, rfl, kB, hb, hB⟩ := hrel
      by_cases hlt : k < L.length
      · obtain ⟨y, hy⟩ : ∃ y, L[k]? = some y := ⟨_, List.getElem?_eq_getElem hlt⟩
        obtain ⟨c0, c1, c2⟩ := HCs.out k y hy
        rw [← (hb.cell (p := ⟨g, o + k * 3, none⟩) hg)] at c0
        rw [← (hb.cell (p := ⟨g, o + (k * 3 + 1), none⟩) hg)] at c1
        rw [← (hb.cell (p := ⟨g, o + (k * 3 + 1 + 1), none⟩) hg)] at c2
        rw [← Nat.add_assoc] at c1 c2
        rw [← Nat.add_assoc] at c2
        have HS := Lib.hid (boxN_succ (x := x) hy)
        have hgw : g < wr.heap.size := Nat.lt_of_lt_of_le hg hb.size
        have hBl := kB.lt
        obtain ⟨⟨x0, x1, x2, x3⟩, hq⟩ : ∃ q, boxN L x k = q := ⟨_, rfl⟩
        rw [hq] at kB HS
        clear hq hy
        obtain ⟨ya, yb, yh⟩ := y
        dsimp only at c0 c1 c2
        have HRB : Hid (RB w B wr.heap.size (x0, x1, x2, x3) (ya, yb, yh) (wr.alloc (.cells #[.int .i64 ya, .int .i64 yb, .int .i64 yh] 24))) := Lib.hid ⟨kB.alloc _, Blk.newAt _ _ _ _ rfl, hb.alloc hb.size _, hB, by omega⟩
        clear kB
        go_upto_region 7 with fail
        generalize wr.alloc (.cells #[.int .i64 ya, .int .i64 yb, .int .i64 yh] 24) = W at *
        obtain ⟨⟨b0, b1, b2, b3⟩, ⟨d0, d1, d2⟩, hBl, hCl⟩ := rb_get HRB.out
        have f0 := HRB.out.1.frozen 0
        have f1 := HRB.out.1.frozen 1
        have f2 := HRB.out.1.frozen 2
        have f3 := HRB.out.1.frozen 3
        go_cut [3] (fun v wx => v = .slice (some ⟨B, 0, none⟩) 4 4 ∧ RB w B wr.heap.size (min x0 ya, x1, x2, x3) (ya, yb, yh) wx)
        case first =>
          by_cases hc : ya < x0
          · have he := Lib.hid (show min x0 ya = ya by omega)
            go_region
            all_goals go_wp2_with fail
            all_goals go_meet
            all_goals exact ⟨rfl, by rw [he.out]; exact rb_0 (rb_dr HRB.out _)⟩
          · have he := Lib.hid (show min x0 ya = x0 by omega)
            go_region
            all_goals go_wp2_with fail
            all_goals go_meet
            all_goals exact ⟨rfl, by rw [he.out]; exact rb_0 (rb_dr HRB.out _)⟩
        case rest =>
        obtain ⟨rfl, hRB⟩ := hcut
        clear b0 b1 b2 b3 d0 d1 d2 hBl hCl f0 f1 f2 f3 HRB
        generalize wc = W0 at *
        have HRB := Lib.hid hRB
        clear hRB
        go_upto_region 8 with fail
        obtain ⟨⟨b0, b1, b2, b3⟩, ⟨d0, d1, d2⟩, hBl, hCl⟩ := rb_get HRB.out
        have f0 := HRB.out.1.frozen 0
        have f1 := HRB.out.1.frozen 1
        have f2 := HRB.out.1.frozen 2
        have f3 := HRB.out.1.frozen 3
        go_cut [3] (fun v wx => v = .slice (some ⟨B, 0, none⟩) 4 4 ∧ RB w B wr.heap.size (min x0 ya, min x1 yb, x2, x3) (ya, yb, yh) wx)
        case first =>
          by_cases hc : yb < x1
          · have he := Lib.hid (show min x1 yb = yb by omega)
            go_region
            all_goals go_wp2_with fail
            all_goals go_meet
            all_goals exact ⟨rfl, by rw [he.out]; exact rb_1 (rb_dr HRB.out _)⟩
          · have he := Lib.hid (show min x1 yb = x1 by omega)
            go_region
            all_goals go_wp2_with fail
            all_goals go_meet
            all_goals exact ⟨rfl, by rw [he.out]; exact rb_1 (rb_dr HRB.out _)⟩
        case rest =>
        obtain ⟨rfl, hRB⟩ := hcut
        clear b0 b1 b2 b3 d0 d1 d2 hBl hCl f0 f1 f2 f3 HRB
        generalize wc = W1 at *
        have HRB := Lib.hid hRB
        clear hRB
        go_upto_region 9 with fail
        obtain ⟨⟨b0, b1, b2, b3⟩, ⟨d0, d1, d2⟩, hBl, hCl⟩ := rb_get HRB.out
        have f0 := HRB.out.1.frozen 0
        have f1 := HRB.out.1.frozen 1
        have f2 := HRB.out.1.frozen 2
        have f3 := HRB.out.1.frozen 3
        go_cut [3] (fun v wx => v = .slice (some ⟨B, 0, none⟩) 4 4 ∧ RB w B wr.heap.size (min x0 ya, min x1 yb, max x2 ya, x3) (ya, yb, yh) wx)
        case first =>
          by_cases hc : x2 < ya
          · have he := Lib.hid (show max x2 ya = ya by omega)
            go_region
            all_goals go_wp2_with fail
            all_goals go_meet
            all_goals exact ⟨rfl, by rw [he.out]; exact rb_2 (rb_dr HRB.out _)⟩
          · have he := Lib.hid (show max x2 ya = x2 by omega)
            go_region
            all_goals go_wp2_with fail
            all_goals go_meet
            all_goals exact ⟨rfl, by rw [he.out]; exact rb_2 (rb_dr HRB.out _)⟩
        case rest =>
        obtain ⟨rfl, hRB⟩ := hcut
        clear b0 b1 b2 b3 d0 d1 d2 hBl hCl f0 f1 f2 f3 HRB
        generalize wc = W2 at *
        have HRB := Lib.hid hRB
        clear hRB
        go_upto_region 10 with fail
        obtain ⟨⟨b0, b1, b2, b3⟩, ⟨d0, d1, d2⟩, hBl, hCl⟩ := rb_get HRB.out
        have f0 := HRB.out.1.frozen 0
        have f1 := HRB.out.1.frozen 1
        have f2 := HRB.out.1.frozen 2
        have f3 := HRB.out.1.frozen 3
        clear c0 c1 c2
        by_cases hc : x3 < yb
        · have he := Lib.hid (show max x3 yb = yb by omega)
          go_region_with fail
          all_goals
            go_wp2_with fail
            go_roundw
            case rel => exact ⟨k + 1, by omega, by go_num, by rw [HS.out]; unfold bstep; rw [show max x3 yb = yb from he.out]; exact (rb_3 (rb_dr HRB.out _)).1, (rb_3 (rb_dr HRB.out _)).2.2.1, hB⟩
            case measure => simp [intOf]; omega
        · have he := Lib.hid (show max x3 yb = x3 by omega)
          go_region_with fail
          all_goals
            go_wp2_with fail
            go_roundw
            case rel => exact ⟨k + 1, by omega, by go_num, by rw [HS.out]; unfold bstep; rw [show max x3 yb = x3 from he.out]; exact (rb_3 (rb_dr HRB.out _)).1, (rb_3 (rb_dr HRB.out _)).2.2.1, hB⟩
            case measure => simp [intOf]; omega
      · obtain rfl : k = L.length := by omega
        have HK := Lib.hid kB
        clear kB
        go_wp2_with fail
        exact bodyPost_ret (v := .slice (some ⟨B, 0, none⟩) 4 4) (by simp [results, Tryz.results14, go_sem, *]) rfl ⟨B, rfl, HK.out, hb⟩
end Go.Proofs.YtahlinekbllkaaaGreatDoor.Tr

/- Low bits of an int. -/
namespace Go.Proofs.YtahlinekbllkaaaGreatDoor.Ax
theorem i64_and255 (n : Int) : bits .and .i64 n 255 = n % 256 := by
  have h127 : (BitVec.ofInt 64 255).toNat = 2 ^ 8 - 1 := by decide
  have key : (BitVec.ofInt 64 n &&& BitVec.ofInt 64 255).toNat = (n % ((2 ^ 64 : Nat) : Int)).toNat % 2 ^ 8 := by
    rw [BitVec.toNat_and, BitVec.toNat_ofInt, h127, Nat.and_two_pow_sub_one_eq_mod]
  show IntKind.i64.wrap ((BitVec.ofInt 64 n &&& BitVec.ofInt 64 255).toNat : Nat) = n % 256
  rw [key, IntKind.wrap_i64]
  omega
theorem i64_and1 (n : Int) : bits .and .i64 n 1 = n % 2 := by
  have h127 : (BitVec.ofInt 64 1).toNat = 2 ^ 1 - 1 := by decide
  have key : (BitVec.ofInt 64 n &&& BitVec.ofInt 64 1).toNat = (n % ((2 ^ 64 : Nat) : Int)).toNat % 2 ^ 1 := by
    rw [BitVec.toNat_and, BitVec.toNat_ofInt, h127, Nat.and_two_pow_sub_one_eq_mod]
  show IntKind.i64.wrap ((BitVec.ofInt 64 n &&& BitVec.ofInt 64 1).toNat : Nat) = n % 2
  rw [key, IntKind.wrap_i64]
  omega
theorem tmod_bd (a m : Int) (h : 0 < m) : -m < a.tmod m ∧ a.tmod m < m := by
  have h1 := Int.tmod_lt_of_pos a h
  have h2 := Int.tmod_lt_of_pos (-a) h
  rw [Int.neg_tmod] at h2
  omega
end Go.Proofs.YtahlinekbllkaaaGreatDoor.Ax

/- Wide: which sets are tried. -/
namespace Go.Proofs.YtahlinekbllkaaaGreatDoor.Tr
open Go.RowKit Go.Proofs.YtahlinekbllkaaaGreatDoor.Ba Go.Lib
open Go.Proofs.YtahlinekbllkaaaGreatDoor.Se (RawAt SetAt ofL flat flat_get flat_len flat_app raw_info news1 one_flat refof_any set_own mem_ofL rising_ofL Rising)

def wideC (c : C) : C := (c.1.tmod 2199023255552, c.2.1.tmod 2199023255552, c.2.2 % 2)
def wideL (L : List C) : List C := (L.take 30).map wideC
def wideS (L : List C) : List C := ofL (wideL L)
theorem wide_in {L : List C} {c : C} (h : c ∈ wideS L) : (-2199023255552 < c.1 ∧ c.1 < 2199023255552) ∧ (-2199023255552 < c.2.1 ∧ c.2.1 < 2199023255552) ∧ (c.2.2 = 0 ∨ c.2.2 = 1) := by
  have h := (mem_ofL _ _).1 h
  obtain ⟨d, _, rfl⟩ := List.mem_map.1 h
  unfold wideC
  have h1 := Ax.tmod_bd d.1 2199023255552 (by decide)
  have h2 := Ax.tmod_bd d.2.1 2199023255552 (by decide)
  exact ⟨h1, h2, by dsimp only; omega⟩
theorem wide_len (L : List C) : (wideS L).length ≤ 30 := by
  have h1 := Se.ofL_len (wideL L)
  have h2 : (wideL L).length ≤ 30 := by unfold wideL; rw [List.length_map, List.length_take]; omega
  unfold wideS
  omega
def WiR (w : World) (L : List C) (s i : Value) (wr : World) : Prop :=
  ∃ k : Nat, k ≤ L.length ∧ k ≤ 30 ∧ i = .int .i64 k ∧ wr.ownsRow w.heap.size 24 3 s k (flat ((L.take k).map wideC)) ∧ Below w.heap.size w wr
set_option maxRecDepth 100000 in
set_option maxHeartbeats 4000000 in
theorem wide_any (v : Value) (L : List C) (w : World) (h : RawAt w v L) (hL : L.length ≤ maxLen) :
    Calls Tryz.prog 8 #[v] w fun e w' => ∃ v', e = .returned v' ∧ SetAt w' v' (wideS L) ∧ Below w.heap.size w w' := by
  obtain ⟨i0, hi0, hz0, hz1, hz2⟩ := info_parts raw_info
  unfold maxLen at hL
  have HR := Lib.hid h
  have key : ∃ p cap, v = .slice p L.length cap := by
    rcases h with ⟨p, cap, rfl, rfl⟩ | ⟨g, o, cap, rfl, _, _⟩
    · exact ⟨p, cap, rfl⟩
    · exact ⟨_, _, rfl⟩
  obtain ⟨p, cap, rfl⟩ := key
  clear h
  have hown0 := World.ownsRow_made (base := w.heap.size) (e := 24) (size := 3) w #[] 0 (Nat.le_refl _) (Nat.zero_le _) (by simp)
  have HO := Lib.hid hown0
  clear hown0
  go_enter Tryz.func8, Tryz.ntmps8
  go_wp2_with fail
  go_loopw [3, 4] (fun s i wr => WiR w L s i wr) (fun _ i _ => 30 - (intOf i).toNat)
  case atStart => exact ⟨0, Nat.zero_le _, by omega, rfl, by simpa [flat] using HO.out, by go_grown⟩
  case round =>
    obtain ⟨k, hk, hk30, rfl, hown, hb⟩ := hrel
    have hz := hb.size
    have hfin : ∀ u, wr.ownsRow w.heap.size 24 3 u k (flat ((L.take k).map wideC)) → (L.take k).map wideC = wideL L → SetAt wr u (wideL L) ∧ (wideL L).length ≤ 1000 := fun u hu he => by
      have hlk : ((L.take k).map wideC).length = k := by rw [List.length_map, List.length_take]; omega
      rw [he] at hu hlk
      exact ⟨set_own (by rw [hlk]; exact hu), by omega⟩
    have HFin := Lib.hid hfin
    clear hfin
    by_cases hlt : k < L.length
    · by_cases hl30 : k < 30
      · obtain ⟨x, hx⟩ : ∃ x, L[k]? = some x := ⟨_, List.getElem?_eq_getElem hlt⟩
        have hraw := HR.out.below hb
        rcases hraw with ⟨_, _, _, hnil⟩ | ⟨g, o, cap', hv, hcs, hg⟩
        · subst hnil; simp at hlt
        · injection hv with hv1 hv2 hv3
          subst hv1 hv3
          clear hv2
          obtain ⟨f0, f1, f2⟩ := flat_get L k x hx
          have c0 := hcs _ _ f0
          have c1 := hcs _ _ f1
          have c2 := hcs _ _ f2
          rw [show o + (k * 3 + 1) = o + k * 3 + 1 by omega] at c1
          rw [show o + (k * 3 + 1 + 1) = o + k * 3 + 1 + 1 by omega] at c2
          have HT := Lib.hid (show (L.take (k + 1)).map wideC = (L.take k).map wideC ++ [wideC x] by rw [List.take_add_one, hx]; simp)
          obtain ⟨y, hyy⟩ : ∃ y, wideC x = y := ⟨_, rfl⟩
          have HY := Lib.hid hyy
          have e0 : x.1.tmod 2199023255552 = y.1 := by rw [← hyy]; rfl
          have e1 : x.2.1.tmod 2199023255552 = y.2.1 := by rw [← hyy]; rfl
          have e2 : bits .and .i64 x.2.2 1 = y.2.2 := by rw [← hyy, Ax.i64_and1]; rfl
          clear hcs f0 f1 f2 hx hyy
          have hown2 := (hown.alloc (.cells #[.int .i64 x.1, .int .i64 x.2.1, .int .i64 x.2.2] 24)).alloc (.cells #[.int .i64 y.1, .int .i64 y.2.1, .int .i64 y.2.2] 24)
          have hnew := news1 (wr.alloc (.cells #[.int .i64 x.1, .int .i64 x.2.1, .int .i64 x.2.2] 24)) 24 y
          have hba := (hb.alloc hz (.cells #[.int .i64 x.1, .int .i64 x.2.1, .int .i64 x.2.2] 24)).alloc (by simp; omega) (.cells #[.int .i64 y.1, .int .i64 y.2.1, .int .i64 y.2.2] 24)
          have hd1 : decide ((k : Int) < 30) = true := by simp; omega
          have hd2 : (k : Int) < 30 := by omega
          have hnew' : ∀ j u, (flat [y])[j]? = some u → ((wr.alloc (.cells #[.int .i64 x.1, .int .i64 x.2.1, .int .i64 x.2.2] 24)).alloc (.cells #[.int .i64 y.1, .int .i64 y.2.1, .int .i64 y.2.2] 24)).cell? ((⟨wr.heap.size + 1, 0, none⟩ : Addr).add j) = some u := fun j u hu => by
            have := hnew j u hu
            rwa [show (wr.alloc (.cells #[.int .i64 x.1, .int .i64 x.2.1, .int .i64 x.2.2] 24)).heap.size = wr.heap.size + 1 by simp] at this
          clear hnew
          go_wp2_with (at_builtin; refine wpList_append_own _ rfl _ _ 22 rfl w.heap.size 24 i0 _ 3 24 Tryz.underlying22 hi0 hz0 hz1 hz2 rfl (by decide) _ _ _ rfl hown2 ⟨wr.heap.size + 1, 0, none⟩ 1 1 (flat [y]) rfl (by simp [flat_len]) hnew' (one_flat _) (by unfold maxLen; omega) (by omega) (by simp; omega) ?_)
          intro v' w' hown' hgr _
          have HOw : Hid (w'.ownsRow w.heap.size 24 3 v' (k + 1) (flat ((L.take (k + 1)).map wideC))) := Lib.hid (by rw [HT.out, HY.out, flat_app, List.map_take]; exact hown')
          have HB' := Lib.hid (hba.grown hgr hba.size (fun q hq => (hown2.lt q hq).1))
          clear hown2 hnew' hba hown' hgr hown c0 c1 c2
          go_wp2_with fail
          exact ⟨⟨k + 1, by omega, by omega, by go_num, HOw.out, HB'.out⟩, by simp [intOf]; omega⟩
      · obtain rfl : k = 30 := by omega
        obtain ⟨hs, hl⟩ := HFin.out _ hown rfl
        have hof := fun (u : Value) (W : World) hW => refof_any u (wideL L) W hW hl
        have hd0 : decide (((30 : Nat) : Int) < (L.length : Int)) = true := by simp; omega
        go_wp2_with fail
        refine (hof _ _ hs).mono ?_
        rintro e w3 ⟨v3, rfl, hs3, hb3⟩
        have HB3 := Lib.hid (hb.trans (hb3.mono hz))
        have HS3 := Lib.hid hs3
        clear hs hs3 hof hb3
        go_wp2_with fail
        go_ret
        exact ⟨v3, rfl, HS3.out, HB3.out⟩
    · obtain rfl : k = L.length := by omega
      obtain ⟨hs, hl⟩ := HFin.out _ hown (by unfold wideL; rw [List.take_length, List.take_of_length_le (by omega)])
      have hof := fun (u : Value) (W : World) hW => refof_any u (wideL L) W hW hl
      go_wp2_with fail
      refine (hof _ _ hs).mono ?_
      rintro e w3 ⟨v3, rfl, hs3, hb3⟩
      have HB3 := Lib.hid (hb.trans (hb3.mono hz))
      have HS3 := Lib.hid hs3
      clear hs hs3 hof hb3
      go_wp2_with fail
      go_ret
      exact ⟨v3, rfl, HS3.out, HB3.out⟩
end Go.Proofs.YtahlinekbllkaaaGreatDoor.Tr

/- Make: an arena, and the root of a set in it. -/
namespace Go.Proofs.YtahlinekbllkaaaGreatDoor.Tr
open Go.RowKit Go.Proofs.YtahlinekbllkaaaGreatDoor.Ba Go.Proofs.YtahlinekbllkaaaGreatDoor.Ar Go.Lib
open Go.Proofs.YtahlinekbllkaaaGreatDoor.Se (RawAt own4_any set_of_own SetAt flat)

/-- There is room. -/
theorem bt_room {S S' : Sta} {L : List (Int × Int × Int)} {d i : Nat} {er : Option Nat} (h : Bt S L d i er S') (hN : ne S.N + L.length * 43 ≤ 700000) (hm : 800000 ≤ S.more) : er = none := by
  rcases h.ok with ⟨e, _⟩ | ⟨_, _, hf⟩
  · exact e
  · exfalso
    have h1 := h.len
    have h2 := em_le h.ext.tw
    have h3 := h.ext.more
    unfold full at hf
    rw [h3] at hf
    omega
theorem bt_le {S S' : Sta} {L : List (Int × Int × Int)} {d i : Nat} {er : Option Nat} (h : Bt S L d i er S') : S'.N.length ≤ ne S.N + L.length * 43 + 42 := by
  have h1 := h.len
  have h2 := em_le h.ext.tw
  omega
theorem bt_lv {S S' : Sta} {L : List (Int × Int × Int)} {d i : Nat} (h : Bt S L d i none S') : lvOk S'.N d i ∧ ∀ c, c ∈ cellsL S'.N d i (-hf ((d : Int) + 2)) (-hf ((d : Int) + 2)) ↔ c ∈ L := by
  rcases h.ok with ⟨_, h1, h2⟩ | ⟨h1, _⟩
  · exact ⟨h1, h2⟩
  · cases h1
set_option maxRecDepth 100000 in
theorem make_any (v : Value) (L : List (Int × Int × Int)) (w : World) (h : RawAt w v L) (hin : ∀ c ∈ L, insB 44 c.1 c.2.1 = true) (hh : ∀ c ∈ L, c.2.2 = 0 ∨ c.2.2 = 1) (hL : L.length ≤ 40) :
    Calls Tryz.prog 9 #[v] w fun e w' => ∃ (i d : Nat) (S : Sta), e = .returned (.tuple #[Pt w.heap.size, .int .u32 i, .bool true]) ∧ Bt (newS 1048576) L d i none S ∧ ArAt w' w.heap.size S (fun k => w.heap.size ≤ k) ∧ Below w.heap.size w w' := by
  have hn := new_any 1048576 (by omega) w
  have ho := fun W hW => own4_any v L W hW (by unfold maxLen; omega)
  rw [List.take_of_length_le hL] at ho
  have hbt := fun u (W : World) P hs hA hP => build_top u L w.heap.size (newS 1048576) P W hs hin hh (by omega) hA hP (tw_new _) (by decide)
  clear hin hh
  go_enter Tryz.func9, Tryz.ntmps9
  go_wp2_with fail
  refine hn.mono ?_
  rintro e w1 ⟨rfl, hA, hb1⟩
  clear hn
  have HA := Lib.hid hA
  have HB1 := Lib.hid hb1
  have hU := h.below hb1
  clear hA hb1 h
  go_wp2_with fail
  refine (ho _ hU).mono ?_
  rintro e w2 ⟨u, rfl, hu, hb2⟩
  have hA2 := (HA.out.under hb2).weak (P' := fun k => k = w.heap.size ∨ w2.heap.size ≤ k) (fun b hb _ => .inl hb)
  have hB2 := HB1.out.trans (hb2.mono HB1.out.size)
  have hs := set_of_own hu
  have hlt := HA.out.lt
  have hz2 := hb2.size
  have HB2 := Lib.hid hB2
  have hbc := hbt u w2 _ hs hA2 (fun k hk => .inr hk)
  clear ho hU hu hb2 hB2 hA2 hs hbt
  go_wp2_with fail
  refine hbc.mono ?_
  rintro e w3 ⟨i, er, S', d, rfl, hB, hA3, ho3⟩
  have hN0 : ne (newS 1048576).N = 0 := by decide
  obtain rfl := bt_room hB (by rw [hN0]; omega) (by decide)
  have HB3 := Lib.hid (HB2.out.trans (ho3.below HB2.out.size (fun b hb => by have := HB2.out.size; rcases hb with h | h <;> omega)))
  have HA3 := Lib.hid (hA3.weak (P' := fun k => w.heap.size ≤ k) (fun b hb _ => by have := HB2.out.size; rcases hb with h | h <;> omega))
  have HBt := Lib.hid hB
  unfold errV
  clear hbc hB hA3 ho3 hN0
  go_wp2_with fail
  go_quiet (fail)
  go_wp2_with fail
  all_goals exact bodyPost_ret (v := .tuple #[Pt w.heap.size, .int .u32 i, .bool true]) (by simp [results, Tryz.results9, go_sem]) rfl ⟨i, d, S', rfl, HBt.out, HA3.out, Ba.below_dr _ HB3.out⟩
end Go.Proofs.YtahlinekbllkaaaGreatDoor.Tr

/- What the document fixes of trees. -/
namespace Go.Proofs.YtahlinekbllkaaaGreatDoor.Tr
open Go.RowKit Go.Proofs.YtahlinekbllkaaaGreatDoor.Ba Go.Proofs.YtahlinekbllkaaaGreatDoor.Ar Go.Lib
open Go.Proofs.YtahlinekbllkaaaGreatDoor.Se (RawAt flat own3_any boxL)

theorem ins44 {a b : Int} (ha : -8796093022208 ≤ a ∧ a < 8796093022208) (hb : -8796093022208 ≤ b ∧ b < 8796093022208) : insB 44 a b = true := by
  unfold insB
  rw [hf_high (by omega), decide_eq_true_eq]
  exact ⟨ha, hb⟩
def LA : List (Int × Int × Int) := [(3, 0, 0), (-4, 3, 0)]
def LB : List (Int × Int × Int) := [(4, 0, 0)]
theorem la_has3 : hasB 3 (boxL LA) = true := by
  unfold hasB insB
  rw [hf_mid (by omega) (by omega)]
  decide
theorem lb_has3 : hasB 3 (boxL LB) = false := by
  unfold hasB insB
  rw [hf_mid (by omega) (by omega)]
  decide
theorem lb_has4 : hasB 4 (boxL LB) = true := by
  unfold hasB insB
  rw [hf_mid (by omega) (by omega)]
  decide
theorem la_lv {l : Nat} (h : Lst (boxL LA) l) : l = 3 := h.uniq ⟨by omega, by omega, fun m h1 h2 => by omega, fun _ => la_has3⟩
theorem lb_lv {l : Nat} (h : Lst (boxL LB) l) : l = 4 := h.uniq ⟨by omega, by omega, fun m h1 h2 => by obtain rfl : m = 3 := (by omega); exact lb_has3, fun _ => lb_has4⟩
theorem raw_two {w : World} {T : TypeId} {n : Nat} {a b h c e k : Int} (kb : Blk w n T #[.int .i64 a, .int .i64 b, .int .i64 h, .int .i64 c, .int .i64 e, .int .i64 k]) : RawAt w (.slice (some ⟨n, 0, none⟩) 2 2) [(a, b, h), (c, e, k)] :=
  .inr ⟨n, 0, 2, rfl, fun j u hu => by
    rw [Nat.zero_add, kb.cell j, ← hu]
    simp [flat, Go.Proofs.YtahlinekbllkaaaGreatDoor.Se.encC], kb.lt⟩
theorem raw_one {w : World} {T : TypeId} {n : Nat} {a b h : Int} (kb : Blk w n T #[.int .i64 a, .int .i64 b, .int .i64 h]) : RawAt w (.slice (some ⟨n, 0, none⟩) 1 1) [(a, b, h)] :=
  .inr ⟨n, 0, 1, rfl, fun j u hu => by
    rw [Nat.zero_add, kb.cell j, ← hu]
    simp [flat, Go.Proofs.YtahlinekbllkaaaGreatDoor.Se.encC], kb.lt⟩
set_option maxRecDepth 100000 in
theorem awake_any (w : World) : Calls Tryz.prog 7 #[] w fun e w' => e = .returned (.bool true) ∧ Below w.heap.size w w' := by
  have hm1 := fun v W h => make_any v LA W h (by intro c hc; simp only [LA, List.mem_cons, List.not_mem_nil, or_false] at hc; rcases hc with rfl | rfl <;> exact ins44 (by decide) (by decide)) (by intro c hc; simp only [LA, List.mem_cons, List.not_mem_nil, or_false] at hc; rcases hc with rfl | rfl <;> decide) (by decide)
  have hm2 := fun v W h => make_any v LB W h (by intro c hc; simp only [LB, List.mem_cons, List.not_mem_nil, or_false] at hc; rcases hc with rfl; exact ins44 (by decide) (by decide)) (by intro c hc; simp only [LB, List.mem_cons, List.not_mem_nil, or_false] at hc; rcases hc with rfl; decide) (by decide)
  go_enter Tryz.func7, Tryz.ntmps7
  go_wp2_with fail
  have hr1 : RawAt (w.alloc (.cells #[.int .i64 3, .int .i64 0, .int .i64 0, .int .i64 (-4), .int .i64 3, .int .i64 0] 24)) (.slice (some ⟨w.heap.size, 0, none⟩) 2 2) LA := raw_two (Blk.newAt w _ _ _ rfl)
  have hb1 : Below w.heap.size w (w.alloc (.cells #[.int .i64 3, .int .i64 0, .int .i64 0, .int .i64 (-4), .int .i64 3, .int .i64 0] 24)) := by go_grown
  generalize w.alloc (.cells #[.int .i64 3, .int .i64 0, .int .i64 0, .int .i64 (-4), .int .i64 3, .int .i64 0] 24) = W1 at *
  refine (hm1 _ _ hr1).mono ?_
  rintro e w2 ⟨i1, d1, S1, rfl, hB1, hA1, hb2⟩
  obtain rfl : d1 = 1 := by have := la_lv hB1.lv; omega
  have HB2 := Lib.hid (hb1.trans (hb2.mono hb1.size))
  have HBt := Lib.hid hB1
  clear hm1 hr1 hb1 hb2 hB1
  go_wp2_with fail
  have hr2 : RawAt (w2.alloc (.cells #[.int .i64 4, .int .i64 0, .int .i64 0] 24)) (.slice (some ⟨w2.heap.size, 0, none⟩) 1 1) LB := raw_one (Blk.newAt w2 _ _ _ rfl)
  have hb3 : Below w2.heap.size w2 (w2.alloc (.cells #[.int .i64 4, .int .i64 0, .int .i64 0] 24)) := by go_grown
  generalize w2.alloc (.cells #[.int .i64 4, .int .i64 0, .int .i64 0] 24) = W3 at *
  refine (hm2 _ _ hr2).mono ?_
  rintro e w4 ⟨i2, d2, S2, rfl, hB2, hA2, hb4⟩
  obtain rfl : d2 = 2 := by have := lb_lv hB2.lv; omega
  have HB4 := Lib.hid (HB2.out.trans ((hb3.trans (hb4.mono hb3.size)).mono HB2.out.size))
  have hA1' := (hA1.under hb3).under hb4
  have hn1 := bt_le HBt.out
  have hn2 := bt_le hB2
  have hlv1 := (bt_lv HBt.out).1
  have hlv2 := (bt_lv hB2).1
  have hz : ne (newS 1048576).N = 0 := by decide
  have hla : LA.length = 2 := rfl
  have hlb : LB.length = 1 := rfl
  rw [hz, hla] at hn1
  rw [hz, hlb] at hn2
  have hl1 := fun W hW => Ar.level_any W1.heap.size i1 S1 (fun k => W1.heap.size ≤ k) W hW (by have := lv_le hlv1; show _ < _; omega) (by omega)
  have hl2 := fun W hW => Ar.level_any W3.heap.size i2 S2 (fun k => W3.heap.size ≤ k) W hW (by have := lv_le hlv2; show _ < _; omega) (by omega)
  rw [show levelOf S1.N i1 = 3 from hlv1] at hl1
  rw [show levelOf S2.N i2 = 4 from hlv2] at hl2
  have hgt := fun W hW => get_yes W1.heap.size i1 1 (3, 0, 0) S1 (fun k => W1.heap.size ≤ k) W hW (by omega) HBt.out.ext.tw hlv1 (by omega) (by omega) (.inl rfl) (ins_mono (l := 3) (by unfold insB; rw [hf_mid (by omega) (by omega)]; decide) (by omega))
  have hmem : ((3, 0, 0) : Int × Int × Int) ∈ cellsL S1.N 1 i1 (-hf (((1 : Nat) : Int) + 2)) (-hf (((1 : Nat) : Int) + 2)) := ((bt_lv HBt.out).2 _).2 (by decide)
  rw [decide_eq_true hmem] at hgt
  have hha := fun W => half_any 44 W
  rw [hf_high (by omega)] at hha
  have hon := fun W => own3_any (3, 0, 0) W
  clear hm2 hr2 hb3 hb4 hB2 hn1 hn2 hlv1 hlv2 hz hla hlb hmem hA1
  go_wp2_with fail
  refine (hl1 _ hA1').mono ?_
  rintro e w5 ⟨rfl, hb5⟩
  have HB5 := Lib.hid (HB4.out.trans (hb5.mono HB4.out.size))
  have hA1 := hA1'.under hb5
  have hA2' := hA2.under hb5
  clear hb5 hA1' hA2 hl1
  go_wp2_with fail
  refine (hl2 _ hA2').mono ?_
  rintro e w6 ⟨rfl, hb6⟩
  have HB6 := Lib.hid (HB5.out.trans (hb6.mono HB5.out.size))
  have hA1' := hA1.under hb6
  clear hb6 hA1 hA2' hl2
  go_wp2_with fail
  refine (hon _).mono ?_
  rintro e w7 ⟨rfl, hb7⟩
  have HB7 := Lib.hid (HB6.out.trans (hb7.mono HB6.out.size))
  have hA1 := hA1'.under hb7
  clear hb7 hA1' hon
  go_wp2_with fail
  refine (hgt _ hA1).mono ?_
  rintro e w8 ⟨rfl, hb8⟩
  have HB8 := Lib.hid (HB7.out.trans (hb8.mono HB7.out.size))
  clear hb8 hA1 hgt
  go_wp2_with fail
  refine (hha _).mono ?_
  rintro e w' ⟨rfl, rfl⟩
  go_wp2_with fail
  go_ret
  exact ⟨rfl, HB8.out⟩
end Go.Proofs.YtahlinekbllkaaaGreatDoor.Tr

/- A root, and the list of its cells; what a Put, and building anew, make of it. -/
namespace Go.Proofs.YtahlinekbllkaaaGreatDoor.Tr
open Go.Proofs.YtahlinekbllkaaaGreatDoor.Ar
open Go.Proofs.YtahlinekbllkaaaGreatDoor.Se (Rising ins del mem_ins mem_del rising_ins rising_del ins_len del_len del_filter ofL ofL_eq)

/-- A root of that level has just a list's cells. -/
structure Rt (S : Sta) (d i : Nat) (K : List C) : Prop where
  tw : Tw S
  lv : lvOk S.N d i
  mem : ∀ c, c ∈ cellsL S.N d i (-hf ((d : Int) + 2)) (-hf ((d : Int) + 2)) ↔ c ∈ K
  ris : Rising K
section
variable {S S' : Sta} {d i j d2 : Nat} {K : List C} {c : C} {live : Bool} {er : Option Nat}
theorem Rt.of (h : Bt S K d i none S') (hr : Rising K) : Rt S' d i K := ⟨h.ext.tw, (bt_lv h).1, (bt_lv h).2, hr⟩
theorem Rt.ofL (h : Rt S d i K) : ofL (cellsL S.N d i (-hf ((d : Int) + 2)) (-hf ((d : Int) + 2))) = K := ofL_eq h.ris fun c => (h.mem c).symm
theorem Rt.len (h : Rt S d i K) : (cellsL S.N d i (-hf ((d : Int) + 2)) (-hf ((d : Int) + 2))).length ≤ K.length := nodup_le (cells_nodup S.N d i _ _) fun c hc => (h.mem c).1 hc
theorem Rt.count (h : Rt S d i K) : (ndAt S.N i).1.count ≤ K.length := by
  have h1 := count_eq h.tw h.lv (x := -hf ((d : Int) + 2)) (y := -hf ((d : Int) + 2))
  have := h.len
  omega
theorem Rt.ext (h : Rt S d i K) (k : Ext S S') : Rt S' d i K := ⟨k.tw, k.lv h.lv, fun c => by rw [k.cells h.tw h.lv]; exact h.mem c, h.ris⟩
def putK (live : Bool) (K : List C) (c : C) : List C := if live then ins K c else K.filter fun x => !decide (x = c)
theorem putK_mem (b : C) : b ∈ putK live K c ↔ putM live (fun b => b ∈ K) c b := by
  unfold putK putM
  cases live
  · simp only [Bool.false_eq_true, if_false, false_and, false_or, List.mem_filter, Bool.not_eq_true', decide_eq_false_iff_not]
  · simp only [if_true, true_and, mem_ins]
    constructor
    · rintro (h | h)
      · exact .inl h
      · by_cases e : b = c
        · exact .inl e
        · exact .inr ⟨h, e⟩
    · rintro (h | h)
      · exact .inl h
      · exact .inr h.1
theorem putK_ris (h : Rising K) : Rising (putK live K c) := by
  unfold putK
  split
  · exact rising_ins h c
  · rw [del_filter h]; exact rising_del h c
theorem putK_len (h : Rising K) : (putK live K c).length ≤ K.length + 1 := by
  unfold putK
  split
  · exact ins_len h c
  · have := List.length_filter_le (fun x => !decide (x = c)) K
    omega
theorem putK_in {Q : C → Prop} (hK : ∀ b ∈ K, Q b) (hc : Q c) : ∀ b ∈ putK live K c, Q b := fun b hb => by
  rcases (putK_mem b).1 hb with ⟨_, rfl⟩ | ⟨h, _⟩
  · exact hc
  · exact hK b h
/-- Behind a Put. -/
theorem Rt.put (h : Rt S d i K) (hp : Pd S d (-hf ((d : Int) + 2)) (-hf ((d : Int) + 2)) i c live j er S') (hN : ne S.N + (d + 1) ≤ 700000) (hm : 800000 ≤ S.more) : er = none ∧ Rt S' d j (putK live K c) := by
  rcases hp.ok with ⟨e, h1, h2⟩ | ⟨_, _, hf⟩
  · refine ⟨e, hp.ext.tw, h1, fun b => ?_, putK_ris h.ris⟩
    rw [h2 b, putK_mem]
    unfold putM
    dsimp only
    rw [h.mem b]
  · exfalso
    have h1 := hp.len
    have h2 := em_le hp.ext.tw
    have h3 := hp.ext.more
    unfold full at hf
    rw [h3] at hf
    omega
/-- Built anew: at the same level the same node. -/
theorem Rt.again {i2 : Nat} (h : Rt S d i K) (hb : Bt S K d i2 none S') : i2 = i := (hb.old i h.lv h.mem).1
end
end Go.Proofs.YtahlinekbllkaaaGreatDoor.Tr

/- The law's own boxed. -/
namespace Go.Proofs.YtahlinekbllkaaaGreatDoor.Tr
open Go.RowKit Go.Proofs.YtahlinekbllkaaaGreatDoor.Ba Go.Lib
open Go.Proofs.YtahlinekbllkaaaGreatDoor.Se (Q Bx boxL)

theorem eq_box0 (w : World) : (binOp .eql 40 (.agg (Bx (0, 0, 0, 0))) (.agg (Bx (0, 0, 0, 0)))).run Tryz.prog w = .ok (.bool true) w := by kernel_rfl
set_option maxRecDepth 100000 in
set_option maxHeartbeats 1000000 in
theorem boxed_none (w : World) : Calls Tryz.prog 13 #[.agg (Bx (0, 0, 0, 0)), .bool false, .slice none 0 0] w fun e w' => e = .returned (.bool true) ∧ Below w.heap.size w w' := by
  have he := eq_box0
  have kb := Blk.newAt w 40 (Bx (0, 0, 0, 0)) _ rfl
  have b0 := kb.cell 0
  have b1 := kb.cell 1
  have b2 := kb.cell 2
  have b3 := kb.cell 3
  simp only [List.getElem?_toArray, List.getElem?_cons_zero, List.getElem?_cons_succ] at b0 b1 b2 b3
  have hl := kb.lt
  clear kb
  go_enter Tryz.func13, Tryz.ntmps13
  go_wp2_with fail
  exact bodyPost_ret (v := .bool true) (by simp [results, Tryz.results13, go_sem, *]) rfl ⟨rfl, by go_grown⟩
set_option maxRecDepth 100000 in
set_option maxHeartbeats 4000000 in
theorem boxed_some (q : Q) (B : Nat) (w : World) (hk : Blk w B 2 (Bx q)) : Calls Tryz.prog 13 #[.agg (Bx q), .bool true, .slice (some ⟨B, 0, none⟩) 4 4] w fun e w' => e = .returned (.bool true) ∧ Below w.heap.size w w' := by
  obtain ⟨qa, qb, qc, qe⟩ := q
  have hbw : Below w.heap.size w (w.alloc (.cells #[.int .i64 qa, .int .i64 qb, .int .i64 qc, .int .i64 qe] 40)) := by go_grown
  have kb := Blk.newAt w 40 #[.int .i64 qa, .int .i64 qb, .int .i64 qc, .int .i64 qe] _ rfl
  have hk1 := hk.under hbw
  have hlB := hk.lt
  have HB := Lib.hid hbw
  clear hk hbw
  go_enter Tryz.func13, Tryz.ntmps13
  go_upto_region 3 with fail
  generalize w.alloc (.cells #[.int .i64 qa, .int .i64 qb, .int .i64 qc, .int .i64 qe] 40) = W at *
  have b0 := kb.cell 0
  have b1 := kb.cell 1
  have b2 := kb.cell 2
  have b3 := kb.cell 3
  have d0 := hk1.cell 0
  have d1 := hk1.cell 1
  have d2 := hk1.cell 2
  have d3 := hk1.cell 3
  simp only [List.getElem?_toArray, List.getElem?_cons_zero, List.getElem?_cons_succ] at b0 b1 b2 b3 d0 d1 d2 d3
  have hl := kb.lt
  have hl1 := hk1.lt
  have e0 : (qa == qa) = true := by simp
  have e1 : (qb == qb) = true := by simp
  have e2 : (qc == qc) = true := by simp
  have e3 : (qe == qe) = true := by simp
  clear kb hk1
  go_quiet (fail)
  go_wp2_with fail
  exact bodyPost_ret (v := .bool true) (by simp [results, Tryz.results13, go_sem, *]) rfl ⟨rfl, HB.out.os, HB.out.tape, HB.out.output, HB.out.size, HB.out.block⟩
end Go.Proofs.YtahlinekbllkaaaGreatDoor.Tr

/- What the row's list gives: the table by which the lowest bit is found. -/
namespace Go.Proofs.YtahlinekbllkaaaGreatDoor.Si
open Go.RowKit Go.WideShapes Go.ChangeShapes Go.Proofs.YtahlinekbllkaaaGreatDoor.Ba

/-- A WORLD FOR THE WITNESS: the settled one, the table's block holding its numbers. -/
noncomputable def laidWorldT (os : Os) : World :=
  { World.holding Tryz.prog os ⟨#[], #[], []⟩ with heap := (World.holding Tryz.prog os ⟨#[], #[], []⟩).heap.modify 0 fun
      | .cells _ t frozen => .cells (deb.map fun z => Value.int .u8 z).toArray t frozen
      | o => o }
theorem gDeb : Tryz.prog.globalNamed "math/bits.deBruijn32tab" = some 0 := by kernel_rfl
theorem gDebType : (Tryz.prog.globals[0]?).map (·.type) = some 148 := by kernel_rfl
theorem cellsDeb : Tryz.prog.cellsOf 148 = 32 := by kernel_rfl
theorem cellsU8 : Tryz.prog.cellsOf 5 = 1 := by kernel_rfl
theorem cellsPt : Tryz.prog.cellsOf 38 = 2 := by kernel_rfl
theorem deb_of_laid {W : World} (h : laidMet Tryz.prog [("math/bits.deBruijn32tab", Rows.laid_math_bits_deBruijn32tab)] W) : DebIs W := by
  have ht : Lib.TabIs Tryz.prog W "math/bits.deBruijn32tab" .u8 deb := Lib.tabIs_of_head gDeb gDebType Tryz.underlying148 Tryz.underlying5 cellsU8 cellsDeb h
  refine ⟨fun i hi => ht.cell gDeb i hi, ?_⟩
  have := ht.cell gDeb 0 (by decide)
  rcases Nat.lt_or_ge 0 W.heap.size with h' | h'
  · exact h'
  · simp [World.cell?, Array.getElem?_eq_none h'] at this
end Go.Proofs.YtahlinekbllkaaaGreatDoor.Si

/- Roots of lists in one arena: the mathematics that several laws want. -/
namespace Go.Proofs.YtahlinekbllkaaaGreatDoor.Tr
open Go.RowKit Go.Proofs.YtahlinekbllkaaaGreatDoor.Ba Go.Proofs.YtahlinekbllkaaaGreatDoor.Ar
open Go.Proofs.YtahlinekbllkaaaGreatDoor.Se (RawAt SetAt Rising rising_ext boxL)

theorem set_raw {w : World} {v : Value} {L : List C} (h : SetAt w v L) : RawAt w v L := by
  rcases h with ⟨rfl, rfl⟩ | ⟨g, cap, rfl, _, hr⟩
  · exact .inl ⟨none, 0, rfl, rfl⟩
  · exact .inr ⟨g, 0, cap, rfl, hr.flat, hr.2⟩
/-- Built where it is already: nothing turns. -/
theorem bt_same {S S' : Sta} {K : List C} {d i d3 z : Nat} {er : Option Nat} (h : Rt S d i K) (hl : Lst (boxL K) (d + 2)) (hb : Bt S K d3 z er S') : d = d3 ∧ i = z ∧ none = er ∧ S = S' := by
  have := hb.lv.uniq hl
  obtain rfl : d = d3 := by omega
  obtain ⟨a, b, c⟩ := hb.old i h.lv h.mem
  exact ⟨rfl, a.symm, b.symm, c.symm⟩
/-- Two roots in one arena are one just where their lists are. -/
theorem rt_eq {S : Sta} {K M : List C} {d i e j : Nat} (h : Rt S d i K) (k : Rt S e j M) (hl : Lst (boxL K) (d + 2)) (kl : Lst (boxL M) (e + 2)) : i = j ↔ K = M := by
  constructor
  · rintro rfl
    have a : levelOf S.N i = (d : Int) + 2 := h.lv
    have b : levelOf S.N i = (e : Int) + 2 := k.lv
    obtain rfl : d = e := by omega
    exact rising_ext h.ris k.ris fun c => (h.mem c).symm.trans (k.mem c)
  · rintro rfl
    have := hl.uniq kl
    obtain rfl : d = e := by omega
    exact uniq h.tw h.lv k.lv fun c => (h.mem c).trans (k.mem c).symm
end Go.Proofs.YtahlinekbllkaaaGreatDoor.Tr

/-
  TreeBuilds: for any list of cells, any cell and any number it answers true: of the root that Build makes, its level, its cells, its box, how many live, whether one lives; and Cells of at most so many.
  Conditions: the listed variables (math/bits.deBruijn32tab) read as the card says.
-/
namespace Go.Proofs.YtahlinekbllkaaaGreatDoor.Tr
open Go.RowKit Go.Proofs.YtahlinekbllkaaaGreatDoor.Ba Go.Proofs.YtahlinekbllkaaaGreatDoor.Ar Go.Lib
open Go.Proofs.YtahlinekbllkaaaGreatDoor.Si (DebIs)
open Go.Proofs.YtahlinekbllkaaaGreatDoor.Se (RawAt SetAt Q Bx boxL boxN ofL own3_any set_of_own are_any rising_ofL mem_ofL ofL_eq Rising refhas_any)

theorem eql_e33 (w : World) : (binOp .eql 34 (.iface 56 (.int .i64 3)) (.iface 56 (.int .i64 3))).run Tryz.prog w = .ok (.bool true) w := by kernel_rfl
theorem rlv_lst {L : List C} {n : Nat} (h : Rlv L n) : Lst (boxL L) n := by
  refine ⟨h.lo, h.hi, fun m h1 h2 => ?_, fun hn => box_has (h.yes hn)⟩
  obtain ⟨c, hc, hf⟩ := h.no m h1 h2
  cases e : hasB m (boxL L) with
  | false => rfl
  | true => rw [box_all e c hc] at hf; cases hf
theorem rt_count {S : Sta} {d i : Nat} {K : List C} (h : Rt S d i K) (hl : K.length ≤ 1000) : (ndAt S.N i).1.count = K.length := by
  have h1 := count_eq h.tw h.lv (x := -hf ((d : Int) + 2)) (y := -hf ((d : Int) + 2))
  have h2 := h.len
  have h3 := Go.Proofs.YtahlinekbllkaaaGreatDoor.Se.ofL_len (cellsL S.N d i (-hf ((d : Int) + 2)) (-hf ((d : Int) + 2)))
  rw [h.ofL] at h3
  unfold mxC at h1
  omega
/-- The document's box of a list, in memory. -/
def BxAt (w : World) (v : Value) (K : List C) : Prop := (K = [] ∧ v = .slice none 0 0) ∨ (K ≠ [] ∧ ∃ B, v = .slice (some ⟨B, 0, none⟩) 4 4 ∧ Blk w B 2 (Bx (boxL K)))
theorem BxAt.dr {w : World} {v : Value} {K : List C} (h : BxAt w v K) (n : Nat) : BxAt (w.drewN n) v K := h
theorem refbox_any (v : Value) (K : List C) (w : World) (h : SetAt w v K) (hL : K.length ≤ 1000) :
    Calls Tryz.prog 14 #[v] w fun e w' => ∃ bv, e = .returned bv ∧ BxAt w' bv K ∧ Below w.heap.size w w' := by
  by_cases h0 : K = []
  · subst h0
    have key : ∃ p cap, v = .slice p 0 cap := by
      rcases h with ⟨rfl, _⟩ | ⟨g, cap, rfl, _⟩
      · exact ⟨_, _, rfl⟩
      · exact ⟨_, _, rfl⟩
    obtain ⟨p, cap, rfl⟩ := key
    refine (refbox_nil p cap w).mono ?_
    rintro e w' ⟨rfl, hb⟩
    exact ⟨_, rfl, .inl ⟨rfl, rfl⟩, hb⟩
  · obtain ⟨x, hx⟩ : ∃ x, K[0]? = some x := ⟨_, List.getElem?_eq_getElem (Nat.pos_of_ne_zero fun e => h0 (List.eq_nil_of_length_eq_zero e))⟩
    refine (refbox_row v K x w (raw_row (set_raw h) h0) hx hL).mono ?_
    rintro e w' ⟨B, rfl, hk, hb⟩
    refine ⟨_, rfl, .inr ⟨h0, B, rfl, ?_⟩, hb⟩
    cases K with
    | nil => exact absurd rfl h0
    | cons y M =>
      simp only [List.getElem?_cons_zero, Option.some.injEq] at hx
      subst hx
      exact hk
theorem boxed_any (K : List C) (v : Value) (w : World) (h : BxAt w v K) :
    Calls Tryz.prog 13 #[.agg (Bx (boxL K)), .bool (decide (K ≠ [])), v] w fun e w' => e = .returned (.bool true) ∧ Below w.heap.size w w' := by
  rcases h with ⟨rfl, rfl⟩ | ⟨h0, B, rfl, hk⟩
  · exact boxed_none w
  · rw [show decide (K ≠ []) = true by simpa using h0]
    exact boxed_some (boxL K) B w hk
theorem box_any13 (g i d : Nat) (S : Sta) (K : List C) (P : Nat → Prop) (w : World) (hA : ArAt w g S P) (hR : Rt S d i K) (hd : 1 ≤ d) (hd2 : d ≤ 42) (hN : S.N.length ≤ 1000000) (hD : DebIs w) :
    Calls Tryz.prog 11 #[Pt g, .int .u32 i] w fun e w' => e = .returned (.tuple #[.agg (Bx (boxL K)), .bool (decide (K ≠ []))]) ∧ Below w.heap.size w w' := by
  have hbx : boxL (cellsL S.N d i (-hf ((d : Int) + 2)) (-hf ((d : Int) + 2))) = boxL K := box_same hR.mem
  by_cases h0 : (ndAt S.N i).1.count = 0
  · have hk : K = [] := by
      have he := no_cells hR.tw hR.lv h0 (x := -hf ((d : Int) + 2)) (y := -hf ((d : Int) + 2))
      have hm := hR.mem
      rw [he] at hm
      cases K with
      | nil => rfl
      | cons y M => have := (hm y).2 (by simp); simp at this
    rw [hk]
    exact boxr_none g i d S P w hA hR.lv hd hN h0
  · have hk : K ≠ [] := fun e => h0 ((cnt_nil hR.tw hR.lv).2 (by
      have hm := hR.mem
      rw [e] at hm
      refine cells_shift_nil (x := -hf ((d : Int) + 2)) (y := -hf ((d : Int) + 2)) ?_
      exact List.eq_nil_iff_forall_not_mem.2 fun c hc => by have := (hm c).1 hc; simp at this))
    rw [show decide (K ≠ []) = true by simpa using hk, ← hbx]
    exact box_root g i d S P w hA hR.lv hd hd2 hR.tw hN hD h0
theorem get_any13 (g i d : Nat) (c : C) (S : Sta) (K : List C) (P : Nat → Prop) (w : World) (hA : ArAt w g S P) (hR : Rt S d i K) (hd : 1 ≤ d) (hd2 : d ≤ 42) (hN : S.N.length ≤ 1000000) (hK : ∀ c ∈ K, c.2.2 = 0 ∨ c.2.2 = 1) :
    Calls Tryz.prog 18 #[Pt g, .int .u32 i, CeV c] w fun e w' => e = .returned (.bool (decide (c ∈ K))) ∧ Below w.heap.size w w' := by
  by_cases hh : c.2.2 = 0 ∨ c.2.2 = 1
  · cases hi : insB ((d : Int) + 2) c.1 c.2.1 with
    | true =>
      have h := get_yes g i d c S P w hA hN hR.tw hR.lv hd hd2 hh hi
      rwa [show decide (c ∈ cellsL S.N d i (-hf ((d : Int) + 2)) (-hf ((d : Int) + 2))) = decide (c ∈ K) from decide_eq_decide.2 (hR.mem c)] at h
    | false =>
      have hn : c ∉ K := fun hc => by
        have hs := cells_in ((hR.mem c).2 hc)
        unfold inSq at hs
        have e := hf_sd d hd2
        have e2 : sd d = 2 * 2 ^ (d + 1) := by unfold sd; rw [show d + 2 = d + 1 + 1 by omega, Int.pow_succ]; omega
        unfold insB at hi
        rw [decide_eq_false_iff_not] at hi
        rw [e] at hs hi
        omega
      rw [show decide (c ∈ K) = false by simpa using hn]
      exact get_out g i d c S P w hA hR.lv hd hN hh hi
  · rw [show decide (c ∈ K) = false by simpa using fun hc => hh (hK c hc)]
    exact get_half g i d c S P w hA hR.lv hd hN hh
theorem keepBC {W w' : World} {A B : Nat} {q : Q} {c : C} (kb : Blk W A 40 (Bx q)) (kc : Blk W B 24 #[.int .i64 c.1, .int .i64 c.2.1, .int .i64 c.2.2]) (hb : Below W.heap.size W w') :
    (w'.cell? ⟨A, 0, none⟩ = some (.int .i64 q.1) ∧ w'.cell? ⟨A, 1, none⟩ = some (.int .i64 q.2.1) ∧ w'.cell? ⟨A, 2, none⟩ = some (.int .i64 q.2.2.1) ∧ w'.cell? ⟨A, 3, none⟩ = some (.int .i64 q.2.2.2)) ∧ w'.cell? ⟨B, 0, none⟩ = some (.int .i64 c.1) ∧ w'.cell? ⟨B, 1, none⟩ = some (.int .i64 c.2.1) ∧ w'.cell? ⟨B, 2, none⟩ = some (.int .i64 c.2.2) :=
  ⟨⟨(kb.under hb).cell 0, (kb.under hb).cell 1, (kb.under hb).cell 2, (kb.under hb).cell 3⟩, (kc.under hb).cell 0, (kc.under hb).cell 1, (kc.under hb).cell 2⟩
set_option maxRecDepth 100000 in
set_option maxHeartbeats 20000000 in
theorem treeBuilds_walk (v0 : Value) (L0 : List C) (cA : Int) (_wa : (Lit.int .i64 cA).wf = true) (cB : Int) (_wb : (Lit.int .i64 cB).wf = true) (cH : Int) (_wh : (Lit.int .i64 cH).wf = true) (most : Int) (wm : (Lit.int .i64 most).wf = true) (w : World) (hD : DebIs w) (h0 : RawAt w v0 L0) (hL0 : L0.length ≤ maxLen) :
    Calls Tryz.prog 3 #[v0, .agg #[.int .i64 cA, .int .i64 cB, .int .i64 cH], .int .i64 most] w fun e w' => e = .returned (.bool true) ∧ Below w.heap.size w w' := by
  obtain ⟨c, hc⟩ : ∃ c : C, c = (cA, cB, cH) := ⟨_, rfl⟩
  have hmost : most ≤ 9223372036854775807 := by simp [Lit.wf] at wm; omega
  have e33 := eql_e33
  have hbw : Below w.heap.size w (w.alloc (.cells #[.int .i64 cA, .int .i64 cB, .int .i64 cH] 24)) := by go_grown
  have kc := Blk.newAt w 24 #[.int .i64 cA, .int .i64 cB, .int .i64 cH] _ rfl
  have HD := Lib.hid (hD.below hbw)
  have HR0 := Lib.hid (h0.below hbw)
  have HL0 := Lib.hid hL0
  have HB0 := Lib.hid hbw
  have HKc0 := Lib.hid (show Blk _ w.heap.size 24 #[.int .i64 c.1, .int .i64 c.2.1, .int .i64 c.2.2] by rw [hc]; exact kc)
  have hlc := kc.lt
  have HC := Lib.hid hc
  clear hD h0 hL0 hbw kc _wa _wb _wh wm hc
  go_enter Tryz.func3, Tryz.ntmps3
  go_upto_region 1 with fail
  generalize w.alloc (.cells #[.int .i64 cA, .int .i64 cB, .int .i64 cH] 24) = w0 at *
  go_wp2_with fail
  refine (awake_any _).mono ?_
  rintro e w1 ⟨rfl, hb1⟩
  have HB1 := Lib.hid hb1
  have hwi := wide_any v0 L0 w1 (HR0.out.below hb1) HL0.out
  clear hb1
  go_wp2_with fail
  refine hwi.mono ?_
  rintro e w3 ⟨vs, rfl, hs3, hb3⟩
  have HB3 := Lib.hid (HB1.out.trans (hb3.mono HB1.out.size))
  have HS := Lib.hid hs3
  have HKi : Hid (∀ c ∈ wideS L0, (-2199023255552 < c.1 ∧ c.1 < 2199023255552) ∧ (-2199023255552 < c.2.1 ∧ c.2.1 < 2199023255552) ∧ (c.2.2 = 0 ∨ c.2.2 = 1)) := Lib.hid fun c hc => wide_in hc
  have hKl := wide_len L0
  have HKr : Hid (Rising (wideS L0)) := Lib.hid (rising_ofL _)
  clear hwi hb3 hs3
  generalize wideS L0 = K at *
  have hmk := make_any vs K w3 (set_raw HS.out) (fun c hc => ins44 (by have := HKi.out c hc; omega) (by have := HKi.out c hc; omega)) (fun c hc => (HKi.out c hc).2.2) (by omega)
  go_wp2_with fail
  refine hmk.mono ?_
  rintro e w4 ⟨x, d, S1, rfl, hB1, hA4, hb4⟩
  obtain ⟨h, hh⟩ : ∃ h, w3.heap.size = h := ⟨_, rfl⟩
  have HB4 := Lib.hid (HB3.out.trans (hb4.mono HB3.out.size))
  have HS4 := Lib.hid (HS.out.below hb4)
  rw [hh] at hA4 ⊢
  have hz0 : ne (newS 1048576).N = 0 := by decide
  have hn1 := hB1.len
  rw [hz0] at hn1
  have HRt := Lib.hid (Rt.of hB1 HKr.out)
  have HLv := Lib.hid hB1.lv
  have hd1 := hB1.pos
  have hd2 : d ≤ 42 := by have := hB1.lv.hi; omega
  have hN1 := bt_le hB1
  rw [hz0] at hN1
  have hN : S1.N.length ≤ 1000000 := by omega
  have HA4 := Lib.hid hA4
  have hce := cells_root h x d 100 S1 (fun b => h ≤ b) w4 HA4.out HRt.out.lv hd1 hd2 HRt.out.tw hN (HD.out.below HB4.out) (by decide) (by decide) (by have := HRt.out.count; omega) (by have := HRt.out.len; omega)
  rw [HRt.out.ofL] at hce
  clear hmk hB1 hb4 hz0 hA4 HS
  go_wp2_with fail
  refine hce.mono ?_
  rintro e w5 ⟨got, rfl, hs5, hb5⟩
  have HB5 := Lib.hid (HB4.out.trans (hb5.mono HB4.out.size))
  have HA5 := Lib.hid (HA4.out.under hb5)
  have HS5 := Lib.hid (HS4.out.below hb5)
  have HG5 := Lib.hid hs5
  have hbx := box_any13 h x d S1 K _ w5 HA5.out HRt.out hd1 hd2 hN (HD.out.below HB5.out)
  obtain ⟨⟨qa, qb, qc, qe⟩, hq⟩ : ∃ q, boxL K = q := ⟨_, rfl⟩
  have HQ := Lib.hid hq
  rw [hq] at hbx
  obtain ⟨nB, hnB⟩ : ∃ b, decide (K ≠ []) = b := ⟨_, rfl⟩
  rw [hnB] at hbx
  have HNB := Lib.hid hnB
  clear hnB
  have hbx' : Calls Tryz.prog 11 #[Pt h, .int .u32 x] w5 fun e w' => e = .returned (.tuple #[.agg #[.int .i64 qa, .int .i64 qb, .int .i64 qc, .int .i64 qe], .bool nB]) ∧ Below w5.heap.size w5 w' := hbx
  clear hce hs5 hb5 HA4 HS4 hbx hq
  go_wp2_with fail
  refine hbx'.mono ?_
  rintro e w6 ⟨rfl, hb6⟩
  have hb7 : Below w6.heap.size w6 (w6.alloc (.cells #[.int .i64 qa, .int .i64 qb, .int .i64 qc, .int .i64 qe] 40)) := by go_grown
  have kb := Blk.newAt w6 40 #[.int .i64 qa, .int .i64 qb, .int .i64 qc, .int .i64 qe] _ rfl
  have hb57 : Below w5.heap.size w5 (w6.alloc (.cells #[.int .i64 qa, .int .i64 qb, .int .i64 qc, .int .i64 qe] 40)) := hb6.trans (hb7.mono hb6.size)
  have HB7 := Lib.hid (HB5.out.trans (hb57.mono HB5.out.size))
  have HA7 := Lib.hid (HA5.out.under hb57)
  have HS7 := Lib.hid (HS5.out.below hb57)
  have HG7 := Lib.hid (HG5.out.below hb57)
  have HKc7 := Lib.hid (HKc0.out.under HB7.out)
  clear hbx' hb6 hb7 hb57 HA5 HS5 HG5 HKc0
  go_upto_region 9 with fail
  generalize w6.alloc (.cells #[.int .i64 qa, .int .i64 qb, .int .i64 qc, .int .i64 qe] 40) = W at *
  have HKb : Hid (Blk W w6.heap.size 40 (Bx (qa, qb, qc, qe))) := Lib.hid kb
  have HKc := HKc7
  clear kb HKc7
  have hare : ∀ W', Below W.heap.size W W' → Calls Tryz.prog 12 #[got, vs] W' fun e w' => e = .returned (.int .i64 0) ∧ Below W'.heap.size W' w' := fun W' hb => are_any got vs K W' (HG7.out.below hb) (HS7.out.below hb) (by omega)
  have hrb : ∀ W', Below W.heap.size W W' → Calls Tryz.prog 14 #[vs] W' fun e w' => ∃ bv, e = .returned bv ∧ BxAt w' bv K ∧ Below W'.heap.size W' w' := fun W' hb => refbox_any vs K W' (HS7.out.below hb) (by omega)
  have hbd : ∀ bv W', BxAt W' bv K → Calls Tryz.prog 13 #[.agg #[.int .i64 qa, .int .i64 qb, .int .i64 qc, .int .i64 qe], .bool nB, bv] W' fun e w' => e = .returned (.bool true) ∧ Below W'.heap.size W' w' := fun bv W' hb => by
    have := boxed_any K bv W' hb
    rw [HQ.out, HNB.out] at this
    exact this
  have hle : ∀ W', Below W.heap.size W W' → Calls Tryz.prog 15 #[Pt h, .int .u32 x] W' fun e w' => e = .returned (.int .i64 ((d : Int) + 2)) ∧ Below W'.heap.size W' w' := fun W' hb => by
    have := Ar.level_any h x S1 _ W' (HA7.out.under hb) (by have := lv_le HRt.out.lv; show _ < _; omega) hN
    rwa [show levelOf S1.N x = (d : Int) + 2 from HRt.out.lv] at this
  have hrl : ∀ W', Below W.heap.size W W' → Calls Tryz.prog 16 #[vs] W' fun e w' => e = .returned (.int .i64 ((d : Int) + 2)) ∧ Below W'.heap.size W' w' := fun W' hb => by
    refine (reflevel_any vs K W' (set_raw (HS7.out.below hb)) (by omega) (fun c hc => by have := HKi.out c hc; unfold RmC; omega)).mono ?_
    rintro e w' ⟨n, rfl, hr, hb'⟩
    refine ⟨?_, hb'⟩
    rw [(rlv_lst hr).uniq HLv.out]
    rw [show ((d + 2 : Nat) : Int) = (d : Int) + 2 by omega]
  have hcn : ∀ W', Below W.heap.size W W' → Calls Tryz.prog 17 #[Pt h, .int .u32 x] W' fun e w' => e = .returned (.int .u64 (K.length : Int)) ∧ Below W'.heap.size W' w' := fun W' hb => by
    have := Ar.count_any h x S1 _ W' (HA7.out.under hb) (by have := lv_le HRt.out.lv; show _ < _; omega) hN
    rwa [rt_count HRt.out (by omega)] at this
  have hown := fun W' => own3_any c W'
  have hget : ∀ W', Below W.heap.size W W' → Calls Tryz.prog 18 #[Pt h, .int .u32 x, CeV c] W' fun e w' => e = .returned (.bool (decide (c ∈ K))) ∧ Below W'.heap.size W' w' := fun W' hb => get_any13 h x d c S1 K _ W' (HA7.out.under hb) HRt.out hd1 hd2 hN (fun c hc => (HKi.out c hc).2.2)
  have hhas : ∀ W', Below W.heap.size W W' → Calls Tryz.prog 20 #[vs, CeV c] W' fun e w' => e = .returned (.bool (decide (c ∈ K))) ∧ Below W'.heap.size W' w' := fun W' hb => refhas_any vs K c W' (HS7.out.below hb) (by omega)
  have klen : ∃ p cap, vs = .slice p K.length cap := by
    rcases HS7.out with ⟨rfl, rfl⟩ | ⟨g, cap, rfl, _⟩
    · exact ⟨_, _, rfl⟩
    · exact ⟨_, _, rfl⟩
  obtain ⟨pv, cv, rfl⟩ := klen
  have hwu : IntKind.u64.wrap (K.length : Int) = (K.length : Int) := by rw [IntKind.wrap_u64]; omega
  have hkb : Below W.heap.size W W := Below.refl _ _
  obtain ⟨⟨k0, k1, k2, k3⟩, j0, j1, j2⟩ := keepBC HKb.out HKc.out hkb
  have hlb := HKb.out.lt
  have hlc7 := HKc.out.lt
  generalize hm : decide (c ∈ K) = mB at *
  have hcm : ∀ W', Below W.heap.size W W' → Calls Tryz.prog 10 #[Pt h, .int .u32 x, .int .i64 most] W' fun e w' => ∃ (p : Option Addr) (n cp : Nat) (er : Option Nat), e = .returned (.tuple #[.slice p n cp, errV er]) ∧ ((most < (K.length : Int) ∧ er = some 3 ∧ n = 0) ∨ (¬ most < (K.length : Int) ∧ er = none ∧ n = K.length)) ∧ Below W'.heap.size W' w' := fun W' hb => by
    by_cases hmo : most < (K.length : Int)
    · refine (cells_big h x d most S1 _ W' (HA7.out.under hb) HRt.out.lv hd1 hN hmost (by rw [rt_count HRt.out (by omega)]; exact hmo)).mono ?_
      rintro e w' ⟨rfl, hb'⟩
      exact ⟨none, 0, 0, some 3, rfl, .inl ⟨hmo, rfl, rfl⟩, hb'⟩
    · have hc2 := cells_root h x d most S1 _ W' (HA7.out.under hb) HRt.out.lv hd1 hd2 HRt.out.tw hN (HD.out.below (HB7.out.trans (hb.mono HB7.out.size))) hmost (by omega) (by rw [rt_count HRt.out (by omega)]; omega) (by have := HRt.out.len; omega)
      rw [HRt.out.ofL] at hc2
      refine hc2.mono ?_
      rintro e w' ⟨u, rfl, hs, hb'⟩
      have key : ∃ p cap, u = .slice p K.length cap := by
        rcases hs with ⟨rfl, rfl⟩ | ⟨g, cap, rfl, _⟩
        · exact ⟨_, _, rfl⟩
        · exact ⟨_, _, rfl⟩
      obtain ⟨p, cap, rfl⟩ := key
      exact ⟨p, K.length, cap, none, rfl, .inr ⟨hmo, rfl, rfl⟩, hb'⟩
  clear hKl hn1 hN1 hN
  go_region_held3 (fun w' => (w'.cell? ⟨w6.heap.size, 0, none⟩ = some (.int .i64 qa) ∧ w'.cell? ⟨w6.heap.size, 1, none⟩ = some (.int .i64 qb) ∧ w'.cell? ⟨w6.heap.size, 2, none⟩ = some (.int .i64 qc) ∧ w'.cell? ⟨w6.heap.size, 3, none⟩ = some (.int .i64 qe)) ∧ w'.cell? ⟨w.heap.size, 0, none⟩ = some (.int .i64 c.1) ∧ w'.cell? ⟨w.heap.size, 1, none⟩ = some (.int .i64 c.2.1) ∧ w'.cell? ⟨w.heap.size, 2, none⟩ = some (.int .i64 c.2.2)) (first | exact keepBC HKb.out HKc.out hkb | (refine keepBC HKb.out HKc.out ?_; go_grown; done))
      (first
        | (go_at_call 12; refine (hare _ (by first | exact hkb | go_grown)).mono ?_; rintro e wZ ⟨rfl, hbZ⟩; have hkb : Below W.heap.size W wZ := Ba.below_call hbZ (by first | exact hkb | go_grown) (by first | exact hkb.size | go_size); clear hbZ; obtain ⟨⟨k0, k1, k2, k3⟩, j0, j1, j2⟩ := keepBC HKb.out HKc.out hkb)
        | (go_at_call 14; refine (hrb _ (by first | exact hkb | go_grown)).mono ?_; rintro e wZ ⟨bv, rfl, hbv, hbZ⟩; have hkb : Below W.heap.size W wZ := Ba.below_call hbZ (by first | exact hkb | go_grown) (by first | exact hkb.size | go_size); clear hbZ; obtain ⟨⟨k0, k1, k2, k3⟩, j0, j1, j2⟩ := keepBC HKb.out HKc.out hkb)
        | (go_at_call 13; refine (hbd _ _ (by first | exact hbv | exact hbv.dr _)).mono ?_; rintro e wZ ⟨rfl, hbZ⟩; have hkb : Below W.heap.size W wZ := Ba.below_call hbZ (by first | exact hkb | go_grown) (by first | exact hkb.size | go_size); clear hbZ; obtain ⟨⟨k0, k1, k2, k3⟩, j0, j1, j2⟩ := keepBC HKb.out HKc.out hkb)
        | (go_at_call 15; refine (hle _ (by first | exact hkb | go_grown)).mono ?_; rintro e wZ ⟨rfl, hbZ⟩; have hkb : Below W.heap.size W wZ := Ba.below_call hbZ (by first | exact hkb | go_grown) (by first | exact hkb.size | go_size); clear hbZ; obtain ⟨⟨k0, k1, k2, k3⟩, j0, j1, j2⟩ := keepBC HKb.out HKc.out hkb)
        | (go_at_call 16; refine (hrl _ (by first | exact hkb | go_grown)).mono ?_; rintro e wZ ⟨rfl, hbZ⟩; have hkb : Below W.heap.size W wZ := Ba.below_call hbZ (by first | exact hkb | go_grown) (by first | exact hkb.size | go_size); clear hbZ; obtain ⟨⟨k0, k1, k2, k3⟩, j0, j1, j2⟩ := keepBC HKb.out HKc.out hkb)
        | (go_at_call 17; refine (hcn _ (by first | exact hkb | go_grown)).mono ?_; rintro e wZ ⟨rfl, hbZ⟩; have hkb : Below W.heap.size W wZ := Ba.below_call hbZ (by first | exact hkb | go_grown) (by first | exact hkb.size | go_size); clear hbZ; obtain ⟨⟨k0, k1, k2, k3⟩, j0, j1, j2⟩ := keepBC HKb.out HKc.out hkb)
        | (go_at_call 19; refine (hown _).mono ?_; rintro e wZ ⟨rfl, hbZ⟩; have hkb : Below W.heap.size W wZ := Ba.below_call hbZ (by first | exact hkb | go_grown) (by first | exact hkb.size | go_size); clear hbZ; obtain ⟨⟨k0, k1, k2, k3⟩, j0, j1, j2⟩ := keepBC HKb.out HKc.out hkb)
        | (go_at_call 18; refine (hget _ (by first | exact hkb | go_grown)).mono ?_; rintro e wZ ⟨rfl, hbZ⟩; have hkb : Below W.heap.size W wZ := Ba.below_call hbZ (by first | exact hkb | go_grown) (by first | exact hkb.size | go_size); clear hbZ; obtain ⟨⟨k0, k1, k2, k3⟩, j0, j1, j2⟩ := keepBC HKb.out HKc.out hkb)
        | (go_at_call 20; refine (hhas _ (by first | exact hkb | go_grown)).mono ?_; rintro e wZ ⟨rfl, hbZ⟩; have hkb : Below W.heap.size W wZ := Ba.below_call hbZ (by first | exact hkb | go_grown) (by first | exact hkb.size | go_size); clear hbZ; obtain ⟨⟨k0, k1, k2, k3⟩, j0, j1, j2⟩ := keepBC HKb.out HKc.out hkb))
  all_goals
    clear hare hrb hbd hle hrl hcn hown hget hhas k0 k1 k2 k3 j0 j1 j2
    go_wp2_with fail
    refine (hcm _ (by first | exact hkb | go_grown)).mono ?_
    rintro e wY ⟨p, n, cp, er, rfl, hcs, hbY⟩
    have hkY : Below W.heap.size W wY := Ba.below_call hbY (by first | exact hkb | go_grown) (by first | exact hkb.size | go_size)
    have HF := Lib.hid (HB0.out.trans ((HB7.out.trans (hkY.mono HB7.out.size)).mono HB0.out.size))
    clear hbY hkY hcm hkb
    rcases hcs with ⟨h1, rfl, rfl⟩ | ⟨h1, rfl, rfl⟩
    · have hdm : decide (most < (K.length : Int)) = true := by simpa using h1
      unfold errV
      go_wp2_with fail
      go_ret
      exact ⟨rfl, HF.out⟩
    · have hdm : decide (most < (K.length : Int)) = false := by simpa using h1
      unfold errV
      go_wp2_with fail
      go_ret
      exact ⟨rfl, HF.out⟩
open Go.Proofs.YtahlinekbllkaaaGreatDoor.Si Go.Proofs.YtahlinekbllkaaaGreatDoor.Se
section treeBuildsFrame
open Go.ChangeShapes Go.WideShapes Go.ChangeAt Go.RowKit Go.Joins
set_option maxRecDepth 100000 in
theorem treeBuilds_contract (H : Type) (enc : TypeId × Value → H) (W : World) (base : Nat) (args : Array Value) (ds gs : List (DataW H)) (before : List MemPlace)
    (hval : ∀ (j : Nat) t v, Tryz.f3.params[j]? = some t → args[j]? = some v → Value.okWide Tryz.prog W .any base t v)
    (hW : DataW.Whole enc Tryz.prog Tryz.f3.params.toList Rows.treeBuildsSpec.vars false W args.toList ds gs before) (hL : laidMetH Tryz.prog Rows.treeBuildsRow.laid W) :
    Calls Tryz.prog 3 args W fun e W' => ∃ v, e = .returned v ∧ Rows.treeBuildsSpec.post enc Tryz.prog Tryz.f3 false true false false W args v W' := by
  have hW' := hW
  obtain ⟨p, q, hA0, hV, rfl, hfz, hnd⟩ := hW
  have hA : DataW.TrodAll enc Tryz.prog W 0 (fun _ => true) true Tryz.f3.params.toList args.toList ds p := hA0
  rw [Tryz.params3] at hA hval
  obtain ⟨v0, vs0, d0, ds0, p0, q0, hargs, rfl, rfl, h0, r0⟩ := trodAll_cons hA
  obtain ⟨v1, vs1, d1, ds1, p1, q1, rfl, rfl, rfl, h1, r1⟩ := trodAll_cons r0
  obtain ⟨v2, vs2, d2, ds2, p2, q2, rfl, rfl, rfl, h2, r2⟩ := trodAll_cons r1
  obtain ⟨rfl, rfl, rfl⟩ := trodAll_nil r2
  obtain rfl : args = #[v0, v1, v2] := by cases args; simp_all
  obtain ⟨rfl, rfl⟩ := trodVars_none hV
  obtain ⟨L0, hraw0, hlen0⟩ := open_cells (hval 0 22 v0 rfl rfl) h0
  obtain ⟨c10, c11, c12, y10, y11, y12, m1, rfl, rfl, rfl, hy10, hy11, hy12⟩ := open_agg3 Tryz.underlying24 (by kernel_rfl) (by kernel_rfl) (hval 1 24 v1 rfl rfl) h1
  obtain ⟨cA, e10, rfl, w_cA⟩ := DataW.trod_int Tryz.underlying2 hy10
  simp at e10; subst e10
  obtain ⟨cB, e11, rfl, w_cB⟩ := DataW.trod_int Tryz.underlying2 hy11
  simp at e11; subst e11
  obtain ⟨cH, e12, rfl, w_cH⟩ := DataW.trod_int Tryz.underlying3 hy12
  simp at e12; subst e12
  obtain ⟨most, rfl, rfl, rfl, w_most⟩ := open_int Tryz.underlying3 (hval 2 3 v2 rfl rfl) h2
  refine (treeBuilds_walk v0 L0 cA w_cA cB w_cB cH w_cH most w_most W (deb_of_laid hL) hraw0 hlen0).mono fun e W' ⟨he, hb⟩ => ?_
  exact ⟨_, he, law_post laidOut rfl rfl Tryz.underlying4 (by kernel_rfl) hW' hb ⟨rfl, rfl, rfl⟩⟩
theorem treeBuilds_met (os : Os) : laidMet Tryz.prog Rows.treeBuildsRow.laid ((laidWorldT os).forCall (fun _ _ => 0) ⟨#[], #[.slice none 0 0, .agg #[.int .i64 0, .int .i64 0, .int .i64 0], .int .i64 0], []⟩).memory :=
  laidMet_of_run' 8 (by kernel_rfl) (by kernel_rfl)
theorem treeBuilds_reads (os : Os) {H : Type} (enc : TypeId × Value → H) : ∃ places, DataW.whole enc Tryz.prog ((laidWorldT os).forCall (fun _ _ => 0) ⟨#[], #[.slice none 0 0, .agg #[.int .i64 0, .int .i64 0, .int .i64 0], .int .i64 0], []⟩).memory Tryz.f3.params.toList Rows.treeBuildsSpec.vars false #[(.slice none 0 0 : Value), (.agg #[.int .i64 0, .int .i64 0, .int .i64 0] : Value), (.int .i64 0 : Value)].toList 8 = some ([.nil, .agg [.lit (.int .i64 0), .lit (.int .i64 0), .lit (.int .i64 0)], .lit (.int .i64 0)], [], places) :=
  ⟨[], by kernel_rfl⟩
set_option maxRecDepth 100000 in
theorem treeBuilds_lifted (os : Os) (started : os.Started) (H : Type) (enc : TypeId × Value → H) (F : Stop.Interp) :
    ReturnsInHanded {} Tryz.checked os 3 .any ((OpenSpec.ofChange Rows.treeBuildsSpec).preRow enc Tryz.prog Tryz.f3 Rows.treeBuildsRow.domain false Rows.treeBuildsRow.laid) (((OpenSpec.ofChange Rows.treeBuildsSpec).at F).post enc Tryz.prog Tryz.f3 false true false false) := by
  obtain ⟨places, hx⟩ := treeBuilds_reads os enc
  refine returnsInHanded_of_row (C := Tryz.checked) (s := OpenSpec.ofChange Rows.treeBuildsSpec) own started (by kernel_rfl) Tryz.func3
    (witness_row_at (enc := enc) (C := Tryz.checked) false (laidWorldT os) #[.slice none 0 0, .agg #[.int .i64 0, .int .i64 0, .int .i64 0], .int .i64 0] rfl (by kernel_rfl) (by kernel_rfl) (by kernel_rfl)
      (OpenSpec.preRow_of_cond 8 hx (by kernel_rfl) (fun k hk => by cases hk) (by kernel_rfl) (treeBuilds_met os))) ?_
  intro W base args ds gs before hval hW _ _ _ hL _ _
  exact treeBuilds_contract H enc W base args ds gs before hval hW hL
theorem treeBuilds_said : Rows.TreeBuildsSaid :=
  OpenClaim.holds_of_cond 3 Tryz.f3 rfl rfl rfl rfl rfl rfl rfl ⟨rfl, rfl, rfl, rfl, rfl⟩ rfl rfl rfl rfl rfl (by kernel_rfl) Tryz.func3 (by kernel_rfl)
    (of_decide_eq_true (by kernel_rfl)) (by unfold Func.isWrapper; first | (rw [if_pos (by decide +kernel)]; kernel_rfl) | (rw [if_neg (by decide +kernel)]; exact ⟨rfl, rfl⟩))
    (fun os started H enc _ F => by rw [OpenClaim.pre_eq_preRow]; exact treeBuilds_lifted os started H enc F)
theorem treeBuilds_plain (f : FuncId) (fn : Func) (hf : Tryz.pinned.checked.prog.funcNamed "honeycomb/honeycomblaw13.TreeBuilds" = some f) (hfn : Tryz.pinned.checked.prog.funcs[f]? = some fn) :
    true = Tryz.pinned.checked.prog.looks [] ∧ ∀ (j : Nat) t, fn.params[j]? = some t → Tryz.pinned.checked.prog.wantsStandIn t = false := by
  obtain rfl : f = 3 := Option.some.inj ((show Tryz.prog.funcNamed "honeycomb/honeycomblaw13.TreeBuilds" = some 3 by kernel_rfl).symm.trans hf) |>.symm
  obtain rfl : fn = Tryz.f3 := (Option.some.inj (Tryz.func3.symm.trans hfn)).symm
  refine ⟨by kernel_rfl, fun j t ht => ?_⟩
  have hall : (Tryz.f3.params.toList.all fun t => !Tryz.prog.wantsStandIn t) = true := by kernel_rfl
  have hm : t ∈ Tryz.f3.params.toList := by simpa using Array.mem_of_getElem? ht
  have := List.all_eq_true.1 hall t hm
  exact (show Tryz.prog.wantsStandIn t = false by simpa using this)
end treeBuildsFrame
/-- TreeBuilds: the card: for every input the law answers true. -/
theorem treeBuilds_card : Rows.TreeBuildsCardSaid :=
  Claim7.holds_tied_plain_at .later [] _ _ _ _ treeBuilds_said (fun _ h => by cases h) (by kernel_rfl) (fun _ h => by cases h) treeBuilds_row_tie rfl ⟨rfl, rfl⟩ (by kernel_rfl) rfl treeBuilds_plain (by kernel_rfl)
end Go.Proofs.YtahlinekbllkaaaGreatDoor.Tr
namespace Go.Proofs.YtahlinekbllkaaaGreatDoor
theorem treeBuilds_proved : Rows.TreeBuildsCardSaid := Tr.treeBuilds_card
#print axioms treeBuilds_proved
end Go.Proofs.YtahlinekbllkaaaGreatDoor
