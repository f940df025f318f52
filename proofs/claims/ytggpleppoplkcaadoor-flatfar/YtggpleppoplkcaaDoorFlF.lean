/- The laws' own Few. -/
import Derived.Test.YtggpleppoplkcaaDoorSeSome
import Derived.Test.YtggpleppoplkcaaDoorStA
import Derived.BigRegion
namespace Go.Proofs.YtggpleppoplkcaaDoor.Se
open Go.RowKit Go.Proofs.YtggpleppoplkcaaDoor.Ax Go.Proofs.YtggpleppoplkcaaDoor.Ba Go.Shelf Go.Lib Go.Sort
open Go.Proofs.YtggpleppoplkcaaDoor.Ce (someH)

def fewC (c : C) : C := (c.1.tmod 7, c.2.1.tmod 7, c.2.2)
def fewL (L : List C) : List C := (L.take 16).map fewC
theorem raw_of_set {w : World} {v : Value} {L : List C} (h : SetAt w v L) : RawAt w v L := by
  rcases h with ⟨rfl, rfl⟩ | ⟨g, cap, rfl, _, hr⟩
  · exact .inl ⟨none, 0, rfl, rfl⟩
  · exact .inr ⟨g, 0, cap, rfl, hr.flat, hr.2⟩
def FeR (w : World) (L : List C) (s i : Value) (wr : World) : Prop :=
  ∃ k : Nat, k ≤ L.length ∧ k ≤ 16 ∧ i = .int .i64 k ∧ wr.ownsRow w.heap.size 57 3 s k (flat ((L.take k).map fewC)) ∧ Below w.heap.size w wr
set_option maxRecDepth 100000 in
set_option maxHeartbeats 4000000 in
theorem few_any (l : Int) (v : Value) (L : List C) (w : World) (h : RawAt w v L) (hL : L.length ≤ maxLen) :
    Calls Tryd.prog 9 #[.int .i64 l, v] w fun e w' => ∃ v', e = .returned v' ∧ SetAt w' v' (ofL ((fewL L).map (someC l))) ∧ Below w.heap.size w w' := by
  obtain ⟨i0, hi0, hz0, hz1, hz2⟩ := info_parts raw_info
  unfold maxLen at hL
  have HR := Lib.hid h
  have key : ∃ p cap, v = .slice p L.length cap := by
    rcases h with ⟨p, cap, rfl, rfl⟩ | ⟨g, o, cap, rfl, _, _⟩
    · exact ⟨p, cap, rfl⟩
    · exact ⟨_, _, rfl⟩
  obtain ⟨p, cap, rfl⟩ := key
  clear h
  have hown0 := World.ownsRow_made (base := w.heap.size) (e := 57) (size := 3) w #[] 0 (Nat.le_refl _) (Nat.zero_le _) (by simp)
  have HO := Lib.hid hown0
  clear hown0
  go_enter Tryd.func9, Tryd.ntmps9
  go_wp2_with fail
  go_loopw [5, 6] (fun s i wr => FeR w L s i wr) (fun _ i _ => 16 - (intOf i).toNat)
  case atStart => exact ⟨0, Nat.zero_le _, by omega, rfl, by simpa [flat] using HO.out, by go_grown⟩
  case round =>
    obtain ⟨k, hk, hk16, rfl, hown, hb⟩ := hrel
    have hz := hb.size
    by_cases hlt : k < L.length
    · by_cases hl16 : k < 16
      · obtain ⟨x, hx⟩ : ∃ x, L[k]? = some x := ⟨_, List.getElem?_eq_getElem hlt⟩
        have hraw := HR.out.below hb
        rcases hraw with ⟨_, _, _, hnil⟩ | ⟨g, o, cap', hv, hcs, hg⟩
        · subst hnil; simp at hlt
        · injection hv with hv1 hv2 hv3
          subst hv1 hv3
          clear hv2
          obtain ⟨f0, f1, f2⟩ := flat_get L k x hx
          have c0 := hcs _ _ f0
          have c1 := hcs _ _ f1
          have c2 := hcs _ _ f2
          rw [show o + (k * 3 + 1) = o + k * 3 + 1 by omega] at c1
          rw [show o + (k * 3 + 1 + 1) = o + k * 3 + 1 + 1 by omega] at c2
          have HT := Lib.hid (show (L.take (k + 1)).map fewC = (L.take k).map fewC ++ [fewC x] by rw [List.take_add_one, hx]; simp)
          obtain ⟨y, hyy⟩ : ∃ y, fewC x = y := ⟨_, rfl⟩
          have HY := Lib.hid hyy
          have e0 : x.1.tmod 7 = y.1 := by rw [← hyy]; rfl
          have e1 : x.2.1.tmod 7 = y.2.1 := by rw [← hyy]; rfl
          have e2 : x.2.2 = y.2.2 := by rw [← hyy]; rfl
          rw [e2] at c2
          clear hcs f0 f1 f2 hx hyy e2
          go_upto_region 5 with fail
          have hown2 : (wr.drew.alloc (.cells #[.int .i64 y.1, .int .i64 y.2.1, .int .i64 y.2.2] 57)).ownsRow w.heap.size 57 3 u5 k (flat ((L.take k).map fewC)) := hown.alloc _
          have hnew : ∀ j u, (flat [y])[j]? = some u → (wr.drew.alloc (.cells #[.int .i64 y.1, .int .i64 y.2.1, .int .i64 y.2.2] 57)).cell? ((⟨wr.heap.size, 0, none⟩ : Addr).add j) = some u := news1 wr.drew _ y
          have hba : Below w.heap.size w (wr.drew.alloc (.cells #[.int .i64 y.1, .int .i64 y.2.1, .int .i64 y.2.2] 57)) := hb.drew.alloc hz _
          go_region_law (refine step_append_at rfl (.tmp 18) (.tmp 37) 26 rfl w.heap.size 57 i0 _ 3 24 Tryd.underlying26 hi0 hz0 hz1 hz2 rfl (by decide) _ _ _ (by simp [Act.eval]) hown2 ⟨wr.heap.size, 0, none⟩ 1 1 (flat [y]) (by simp [Act.eval]) (by simp [flat_len]) hnew (one_flat [y]) (by unfold maxLen; omega) (by omega) (by first | exact hba.size | (simp; omega)) ?_; intro v' w' hown' hgr _)
          all_goals
            have hb' : Below w.heap.size w w' := hba.grown hgr hba.size (fun q hq => (hown2.lt q hq).1)
            go_wp2_with fail
            go_roundw
            case rel => exact ⟨k + 1, by omega, by omega, by go_num, by rw [HT.out, HY.out, flat_app]; exact hown', hb'⟩
            case measure => simp [intOf]; omega
      · obtain rfl : k = 16 := by omega
        have hlm : ((L.take 16).map fewC).length = 16 := by rw [List.length_map, List.length_take]; omega
        have hof := some4_any l u5 (fewL L) wr (raw_of_set (set_own (by rw [fewL, hlm]; exact hown))) (by rw [fewL, hlm]; unfold maxLen; omega)
        rw [show (fewL L).take 40 = fewL L from List.take_of_length_le (by rw [fewL, hlm]; omega)] at hof
        go_wp2_with fail
        refine hof.mono ?_
        rintro e w3 ⟨v3, rfl, hs3, hb3⟩
        go_wp2_with fail
        go_ret
        exact ⟨_, rfl, hs3, hb.trans (hb3.mono hz)⟩
    · obtain rfl : k = L.length := by omega
      have HT : L.take 16 = L.take L.length := by rw [List.take_of_length_le (by omega), List.take_length]
      have hlm : ((L.take 16).map fewC).length = L.length := by rw [HT, List.length_map, List.take_length]
      have hof := some4_any l u5 (fewL L) wr (raw_of_set (set_own (by rw [fewL, hlm, HT]; exact hown))) (by rw [fewL, hlm]; unfold maxLen; omega)
      rw [show (fewL L).take 40 = fewL L from List.take_of_length_le (by rw [fewL, hlm]; omega)] at hof
      clear HT hlm
      go_wp2_with fail
      refine hof.mono ?_
      rintro e w3 ⟨v3, rfl, hs3, hb3⟩
      go_wp2_with fail
      go_ret
      exact ⟨_, rfl, hs3, hb.trans (hb3.mono hz)⟩
end Go.Proofs.YtggpleppoplkcaaDoor.Se
