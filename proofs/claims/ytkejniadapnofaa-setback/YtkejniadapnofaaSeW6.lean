/- slices.Grow of nil, slices.Concat at sets. -/
import Derived.Test.YtkejniadapnofaaSeW5
import Derived.Lib.AppendZerosOnto
import Derived.Laws.AppendOwnNone
import Derived.Lib.Walk
namespace Go.Proofs.Ytkejniadapnofaa.Se
open Go.RowKit Go.Proofs.Ytkejniadapnofaa.Ax Go.Proofs.Ytkejniadapnofaa.Ba Go.Shelf Go.Lib Go.Sort

theorem grow_none (w : World) :
    Calls Try.prog 53 #[.slice none 0 0, .int .i64 0] w fun e w' => e = .returned (.slice none 0 0) ∧ w' = w := by
  go_enter Try.func53, Try.ntmps53
  go_wp2
  go_ret
  exact ⟨rfl, rfl⟩
set_option maxRecDepth 100000 in
set_option maxHeartbeats 4000000 in
theorem grow_some (n : Nat) (w : World) (h0 : 0 < n) (hn : n ≤ 4000000) :
    Calls Try.prog 53 #[.slice none 0 0, .int .i64 n] w fun e w' => ∃ v', e = .returned v' ∧ w'.ownsRow w.heap.size 37 3 v' 0 [] ∧ Below w.heap.size w w' := by
  obtain ⟨i0, hi0, hz0, hz1, hz2⟩ := info_parts cell_info
  have hrz := fun ty => Lib.run_append_grow_zeros w 28 3 ty 37 i0 _ .i64 .i64 Try.underlying28 Try.underlying3 hi0 hz0 none 0 0 [] (run_firstCells_none w.drew i0.size 0 0 0) n h0 (by rw [hz1]; decide) (by omega) (by omega) (by rw [hz2]; omega) (by rw [hz2]; exact growslice_fits (by omega) (by omega))
  simp only [Nat.zero_add] at hrz
  have hGn : n ≤ grownCap w n 0 37 := grownCap_ge w _ _ _
  have hGm := grownCap_le_maxLen w n 0 37 (by unfold maxLen; omega)
  generalize grownCap w n 0 37 = G at *
  have hsz : (([] : List Value).toArray ++ Builtin.zeroCells (Value.agg #[.int .i64 0, .int .i64 0, .int .i64 0]).cells n ++ Builtin.zeroCells (Value.agg #[.int .i64 0, .int .i64 0, .int .i64 0]).cells (G - n)).size = G * 3 := by
    simp [size_zeroCells, Value.cells]; omega
  generalize ([] : List Value).toArray ++ Builtin.zeroCells (Value.agg #[.int .i64 0, .int .i64 0, .int .i64 0]).cells n ++ Builtin.zeroCells (Value.agg #[.int .i64 0, .int .i64 0, .int .i64 0]).cells (G - n) = cur at hrz hsz
  have hown := World.ownsRow_made (base := w.heap.size) (e := 37) (size := 3) w cur G (Nat.le_refl _) hGm hsz
  have hG63 : G ≤ 9223372036854775807 := by unfold maxLen at hGm; omega
  have HO := Lib.hid hown
  clear hown
  go_enter Try.func53, Try.ntmps53
  go_wp2_with (at_builtin; refine Lib.wpList_append_run _ rfl _ _ _ _ rfl _ _ rfl rfl _ _ (hrz _) ?_)
  go_ret
  exact ⟨.slice (some ⟨w.heap.size, 0, none⟩) 0 G, rfl, HO.out, by go_grown⟩
/-- A value is a list of cells, from any place of a block on. -/
def PartAt (w : World) (v : Value) (L : List C) : Prop :=
  (v = .slice none 0 0 ∧ L = []) ∨ ∃ g o cap : Nat, v = .slice (some ⟨g, o, none⟩) L.length cap ∧ (∀ j u, (flat L)[j]? = some u → w.cell? ⟨g, o + j, none⟩ = some u) ∧ g < w.heap.size
theorem PartAt.below {w w' : World} {v : Value} {L : List C} (h : PartAt w v L) (hb : Below w.heap.size w w') : PartAt w' v L := by
  rcases h with h | ⟨g, o, cap, hv, hc, hg⟩
  · exact .inl h
  · exact .inr ⟨g, o, cap, hv, fun j u hu => (hb.cell (p := ⟨g, o + j, none⟩) hg).trans (hc j u hu), Nat.lt_of_lt_of_le hg hb.size⟩
theorem SetAt.part {w : World} {v : Value} {L : List C} (h : SetAt w v L) : PartAt w v L := by
  rcases h with h | ⟨g, cap, hv, hc, hr⟩
  · exact .inl h
  · exact .inr ⟨g, 0, cap, hv, hr.flat, hr.2⟩
/-- Lists of cells, one behind the other, in a block of their values. -/
def Parts (w : World) (S : Nat) (Ps : List (Value × List C)) : Prop := Blk w S 28 (Ps.map (·.1)).toArray ∧ ∀ p ∈ Ps, PartAt w p.1 p.2
theorem Parts.below {w w' : World} {S : Nat} {Ps : List (Value × List C)} (h : Parts w S Ps) (hb : Below w.heap.size w w') : Parts w' S Ps := ⟨h.1.under hb, fun p hp => (h.2 p hp).below hb⟩
def cat (Ps : List (Value × List C)) (k : Nat) : List C := (Ps.take k).flatMap (·.2)
theorem cat_succ {Ps : List (Value × List C)} {k : Nat} {p : Value × List C} (h : Ps[k]? = some p) : cat Ps (k + 1) = cat Ps k ++ p.2 := by
  unfold cat
  rw [List.take_add_one, h]
  simp
theorem cat_le (Ps : List (Value × List C)) (k : Nat) : (cat Ps k).length ≤ (cat Ps Ps.length).length := by
  unfold cat
  rw [List.take_length]
  have h : (Ps.flatMap (·.2)).length = ((Ps.take k).flatMap (·.2)).length + ((Ps.drop k).flatMap (·.2)).length := by
    rw [← List.length_append, ← List.flatMap_append, List.take_append_drop]
  omega
def Ca1 (w : World) (Ps : List (Value × List C)) (s i : Value) (wr : World) : Prop := ∃ k : Nat, k ≤ Ps.length ∧ i = .int .i64 k ∧ s = .int .i64 (cat Ps k).length ∧ w = wr
def Ca2 (w : World) (Ps : List (Value × List C)) (s i : Value) (wr : World) : Prop :=
  ∃ k : Nat, k ≤ Ps.length ∧ i = .int .i64 k ∧ wr.ownsRow w.heap.size 37 3 s (cat Ps k).length (flat (cat Ps k)) ∧ Below w.heap.size w wr
set_option maxRecDepth 100000 in
set_option maxHeartbeats 4000000 in
theorem concat_any (S cap : Nat) (Ps : List (Value × List C)) (w : World) (hP : Parts w S Ps) (hm : Ps.length ≤ 1000) (hlen : (cat Ps Ps.length).length ≤ 3000000) :
    Calls Try.prog 33 #[.slice (some ⟨S, 0, none⟩) Ps.length cap] w fun e w' => ∃ v', e = .returned v' ∧ w'.ownsRow w.heap.size 37 3 v' (cat Ps Ps.length).length (flat (cat Ps Ps.length)) ∧ Below w.heap.size w w' := by
  obtain ⟨i0, hi0, hz0, hz1, hz2⟩ := info_parts cell_info
  have hle := fun k => cat_le Ps k
  have HLE := Lib.hid hle
  clear hle
  have hSl := hP.1.lt
  go_enter Try.func33, Try.ntmps33
  go_wp2_with fail
  go_loopw [3, 11] (fun s i wr => Ca1 w Ps s i wr) (fun _ i _ => Ps.length - (intOf i).toNat)
  case atStart => exact ⟨0, Nat.zero_le _, rfl, rfl, rfl⟩
  case round =>
    obtain ⟨k, hk, rfl, rfl, rfl⟩ := hrel
    by_cases hlt : k < Ps.length
    · obtain ⟨p, hp⟩ : ∃ p, Ps[k]? = some p := ⟨_, List.getElem?_eq_getElem hlt⟩
      have hc : w.cell? ⟨S, k, none⟩ = some p.1 := by rw [hP.1.cell k, List.getElem?_toArray, List.getElem?_map, hp]; rfl
      have hpa := hP.2 p (List.mem_of_getElem? hp)
      have HS := Lib.hid (cat_succ hp)
      have h1 := HLE.out k
      have h2 := HLE.out (k + 1)
      rw [HS.out, List.length_append] at h2
      obtain ⟨v, M⟩ := p
      dsimp only at hc hpa h2 HS
      clear hp
      rcases hpa with ⟨rfl, rfl⟩ | ⟨g, o, cp, rfl, _, _⟩
      · have HN := Lib.hid (show (cat Ps (k + 1)).length = (cat Ps k).length by rw [HS.out, List.append_nil])
        generalize (cat Ps k).length = n at *
        go_wp2_with fail
        go_roundw
        case rel => exact ⟨k + 1, by omega, by go_num, by rw [HN.out], rfl⟩
        case measure => simp [intOf]; omega
      · have HN := Lib.hid (show (cat Ps (k + 1)).length = (cat Ps k).length + M.length by rw [HS.out, List.length_append])
        generalize (cat Ps k).length = n at *
        generalize M.length = m at *
        go_wp2_with fail
        go_roundw
        case rel => exact ⟨k + 1, by omega, by go_num, by rw [HN.out]; go_num, rfl⟩
        case measure => simp [intOf]; omega
    · obtain rfl : k = Ps.length := by omega
      have hmid : ∀ (w1 : World) (v1 : Value), w1.ownsRow w.heap.size 37 3 v1 0 [] → Below w.heap.size w w1 → Ca2 w Ps v1 (.int .i64 0) w1 := fun w1 v1 h1 h2 => ⟨0, Nat.zero_le _, rfl, by simpa [cat, flat] using h1, h2⟩
      have HMID := Lib.hid hmid
      clear hmid
      have hgrow : Calls Try.prog 53 #[.slice none 0 0, .int .i64 (cat Ps Ps.length).length] w fun e w' => ∃ v', e = .returned v' ∧ w'.ownsRow w.heap.size 37 3 v' 0 [] ∧ Below w.heap.size w w' := by
        rcases Nat.eq_zero_or_pos (cat Ps Ps.length).length with h | h
        · rw [h]
          refine (grow_none w).mono ?_
          rintro e w' ⟨rfl, rfl⟩
          exact ⟨_, rfl, World.ownsRow_nil _ _ _ _, Below.refl _ _⟩
        · exact grow_some _ w h (by omega)
      have HPP := Lib.hid hP
      clear hP
      go_wp2_with fail
      refine hgrow.mono ?_
      rintro e w1 ⟨v1, rfl, hown, hb1⟩
      have hst := HMID.out w1 v1 hown hb1
      clear hown hb1 hgrow HMID
      go_wp2_with fail
      go_loopw [6, 27] (fun s i wq => Ca2 w Ps s i wq) (fun _ i _ => Ps.length - (intOf i).toNat)
      case atStart => exact hst
      case round =>
        clear hst
        obtain ⟨k, hk, rfl, hown, hb⟩ := hrel
        have hP := HPP.out.below hb
        by_cases hlt : k < Ps.length
        · obtain ⟨p, hp⟩ : ∃ p, Ps[k]? = some p := ⟨_, List.getElem?_eq_getElem hlt⟩
          have hc : wr.cell? ⟨S, k, none⟩ = some p.1 := by rw [hP.1.cell k, List.getElem?_toArray, List.getElem?_map, hp]; rfl
          have hpa := hP.2 p (List.mem_of_getElem? hp)
          have HS := Lib.hid (cat_succ hp)
          have h1 := HLE.out k
          have h2 := HLE.out (k + 1)
          rw [HS.out, List.length_append] at h2
          have hSl' := hP.1.lt
          have hz := hb.size
          obtain ⟨v, M⟩ := p
          dsimp only at hc hpa h2 HS
          clear hp
          rcases hpa with ⟨rfl, rfl⟩ | ⟨g, o, cp, rfl, hcs, hgl⟩
          · go_wp2_with (at_builtin; refine wpList_append_own_none rfl _ _ 28 rfl w.heap.size 37 i0 3 Try.underlying28 hi0 _ _ _ rfl hown rfl ?_)
            go_roundw
            case rel => exact ⟨k + 1, by omega, by go_num, by rw [HS.out, List.append_nil]; exact hown, hb⟩
            case measure => simp [intOf]; omega
          · have hcs' : ∀ j u, (flat M)[j]? = some u → wr.cell? ((⟨g, o, none⟩ : Addr).add j) = some u := fun j u hu => by rw [Addr.add_lit]; exact hcs j u hu
            go_wp2_with (at_builtin; refine wpList_append_own _ rfl _ _ 28 rfl w.heap.size 37 i0 _ 3 24 Try.underlying28 hi0 hz0 hz1 hz2 rfl (by decide) _ _ _ rfl hown ⟨g, o, none⟩ M.length cp (flat M) rfl (flat_len M) hcs' (one_flat M) (by unfold maxLen; omega) (by omega) hz ?_)
            intro v' w' hown' hgr _
            have hb' : Below w.heap.size w w' := hb.grown hgr hz (fun q hq => (hown.lt q hq).1)
            go_wp2_with fail
            go_roundw
            case rel => exact ⟨k + 1, by omega, by go_num, by rw [HS.out, List.length_append, flat_app]; exact hown', hb'⟩
            case measure => simp [intOf]; omega
        · obtain rfl : k = Ps.length := by omega
          go_wp2_with fail
          go_ret
          exact ⟨_, rfl, hown, hb⟩
end Go.Proofs.Ytkejniadapnofaa.Se
