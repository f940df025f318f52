/- Several texts, joined. -/
import Derived.Test.YtggpleppoplkcaaDoorSeSome
import Derived.Test.YtggpleppoplkcaaDoorStA
import Derived.BigRegion
/- The laws' own Few. -/
namespace Go.Proofs.YtggpleppoplkcaaDoor.Se
open Go.RowKit Go.Proofs.YtggpleppoplkcaaDoor.Ax Go.Proofs.YtggpleppoplkcaaDoor.Ba Go.Shelf Go.Lib Go.Sort
open Go.Proofs.YtggpleppoplkcaaDoor.Ce (someH)

def fewC (c : C) : C := (c.1.tmod 7, c.2.1.tmod 7, c.2.2)
def fewL (L : List C) : List C := (L.take 16).map fewC
theorem raw_of_set {w : World} {v : Value} {L : List C} (h : SetAt w v L) : RawAt w v L := by
  rcases h with ⟨rfl, rfl⟩ | ⟨g, cap, rfl, _, hr⟩
  · exact .inl ⟨none, 0, rfl, rfl⟩
  · exact .inr ⟨g, 0, cap, rfl, hr.flat, hr.2⟩
def FeR (w : World) (L : List C) (s i : Value) (wr : World) : Prop :=
  ∃ k : Nat, k ≤ L.length ∧ k ≤ 16 ∧ i = .int .i64 k ∧ wr.ownsRow w.heap.size 57 3 s k (flat ((L.take k).map fewC)) ∧ Below w.heap.size w wr
set_option maxRecDepth 100000 in
set_option maxHeartbeats 4000000 in
theorem few_any (l : Int) (v : Value) (L : List C) (w : World) (h : RawAt w v L) (hL : L.length ≤ maxLen) :
    Calls Tryd.prog 9 #[.int .i64 l, v] w fun e w' => ∃ v', e = .returned v' ∧ SetAt w' v' (ofL ((fewL L).map (someC l))) ∧ Below w.heap.size w w' := by
  obtain ⟨i0, hi0, hz0, hz1, hz2⟩ := info_parts raw_info
  unfold maxLen at hL
  have HR := Lib.hid h
  have key : ∃ p cap, v = .slice p L.length cap := by
    rcases h with ⟨p, cap, rfl, rfl⟩ | ⟨g, o, cap, rfl, _, _⟩
    · exact ⟨p, cap, rfl⟩
    · exact ⟨_, _, rfl⟩
  obtain ⟨p, cap, rfl⟩ := key
  clear h
  have hown0 := World.ownsRow_made (base := w.heap.size) (e := 57) (size := 3) w #[] 0 (Nat.le_refl _) (Nat.zero_le _) (by simp)
  have HO := Lib.hid hown0
  clear hown0
  go_enter Tryd.func9, Tryd.ntmps9
  go_wp2_with fail
  go_loopw [5, 6] (fun s i wr => FeR w L s i wr) (fun _ i _ => 16 - (intOf i).toNat)
  case atStart => exact ⟨0, Nat.zero_le _, by omega, rfl, by simpa [flat] using HO.out, by go_grown⟩
  case round =>
    obtain ⟨k, hk, hk16, rfl, hown, hb⟩ := hrel
    have hz := hb.size
    by_cases hlt : k < L.length
    · by_cases hl16 : k < 16
      · obtain ⟨x, hx⟩ : ∃ x, L[k]? = some x := ⟨_, List.getElem?_eq_getElem hlt⟩
        have hraw := HR.out.below hb
        rcases hraw with ⟨_, _, _, hnil⟩ | ⟨g, o, cap', hv, hcs, hg⟩
        · subst hnil; simp at hlt
        · injection hv with hv1 hv2 hv3
          subst hv1 hv3
          clear hv2
          obtain ⟨f0, f1, f2⟩ := flat_get L k x hx
          have c0 := hcs _ _ f0
          have c1 := hcs _ _ f1
          have c2 := hcs _ _ f2
          rw [show o + (k * 3 + 1) = o + k * 3 + 1 by omega] at c1
          rw [show o + (k * 3 + 1 + 1) = o + k * 3 + 1 + 1 by omega] at c2
          have HT := Lib.hid (show (L.take (k + 1)).map fewC = (L.take k).map fewC ++ [fewC x] by rw [List.take_add_one, hx]; simp)
          obtain ⟨y, hyy⟩ : ∃ y, fewC x = y := ⟨_, rfl⟩
          have HY := Lib.hid hyy
          have e0 : x.1.tmod 7 = y.1 := by rw [← hyy]; rfl
          have e1 : x.2.1.tmod 7 = y.2.1 := by rw [← hyy]; rfl
          have e2 : x.2.2 = y.2.2 := by rw [← hyy]; rfl
          rw [e2] at c2
          clear hcs f0 f1 f2 hx hyy e2
          go_upto_region 5 with fail
          have hown2 : (wr.drew.alloc (.cells #[.int .i64 y.1, .int .i64 y.2.1, .int .i64 y.2.2] 57)).ownsRow w.heap.size 57 3 u5 k (flat ((L.take k).map fewC)) := hown.alloc _
          have hnew : ∀ j u, (flat [y])[j]? = some u → (wr.drew.alloc (.cells #[.int .i64 y.1, .int .i64 y.2.1, .int .i64 y.2.2] 57)).cell? ((⟨wr.heap.size, 0, none⟩ : Addr).add j) = some u := news1 wr.drew _ y
          have hba : Below w.heap.size w (wr.drew.alloc (.cells #[.int .i64 y.1, .int .i64 y.2.1, .int .i64 y.2.2] 57)) := hb.drew.alloc hz _
          go_region_law (refine step_append_at rfl (.tmp 18) (.tmp 37) 26 rfl w.heap.size 57 i0 _ 3 24 Tryd.underlying26 hi0 hz0 hz1 hz2 rfl (by decide) _ _ _ (by simp [Act.eval]) hown2 ⟨wr.heap.size, 0, none⟩ 1 1 (flat [y]) (by simp [Act.eval]) (by simp [flat_len]) hnew (one_flat [y]) (by unfold maxLen; omega) (by omega) (by first | exact hba.size | (simp; omega)) ?_; intro v' w' hown' hgr _)
          all_goals
            have hb' : Below w.heap.size w w' := hba.grown hgr hba.size (fun q hq => (hown2.lt q hq).1)
            go_wp2_with fail
            go_roundw
            case rel => exact ⟨k + 1, by omega, by omega, by go_num, by rw [HT.out, HY.out, flat_app]; exact hown', hb'⟩
            case measure => simp [intOf]; omega
      · obtain rfl : k = 16 := by omega
        have hlm : ((L.take 16).map fewC).length = 16 := by rw [List.length_map, List.length_take]; omega
        have hof := some4_any l u5 (fewL L) wr (raw_of_set (set_own (by rw [fewL, hlm]; exact hown))) (by rw [fewL, hlm]; unfold maxLen; omega)
        rw [show (fewL L).take 40 = fewL L from List.take_of_length_le (by rw [fewL, hlm]; omega)] at hof
        go_wp2_with fail
        refine hof.mono ?_
        rintro e w3 ⟨v3, rfl, hs3, hb3⟩
        go_wp2_with fail
        go_ret
        exact ⟨_, rfl, hs3, hb.trans (hb3.mono hz)⟩
    · obtain rfl : k = L.length := by omega
      have HT : L.take 16 = L.take L.length := by rw [List.take_of_length_le (by omega), List.take_length]
      have hlm : ((L.take 16).map fewC).length = L.length := by rw [HT, List.length_map, List.take_length]
      have hof := some4_any l u5 (fewL L) wr (raw_of_set (set_own (by rw [fewL, hlm, HT]; exact hown))) (by rw [fewL, hlm]; unfold maxLen; omega)
      rw [show (fewL L).take 40 = fewL L from List.take_of_length_le (by rw [fewL, hlm]; omega)] at hof
      clear HT hlm
      go_wp2_with fail
      refine hof.mono ?_
      rintro e w3 ⟨v3, rfl, hs3, hb3⟩
      go_wp2_with fail
      go_ret
      exact ⟨_, rfl, hs3, hb.trans (hb3.mono hz)⟩
end Go.Proofs.YtggpleppoplkcaaDoor.Se

/- set.Of, Some and Few again: their lists lie in new memory. -/
namespace Go.Proofs.YtggpleppoplkcaaDoor.Se
open Go.RowKit Go.Proofs.YtggpleppoplkcaaDoor.Ax Go.Proofs.YtggpleppoplkcaaDoor.Ba Go.Shelf Go.Lib Go.Sort
open Go.Proofs.YtggpleppoplkcaaDoor.Ce (someH)

set_option maxRecDepth 100000 in
theorem of_new (v : Value) (L : List C) (w : World) (h : SetAt w v L) (hL : L.length ≤ 1000000) :
    Calls Tryd.prog 18 #[v] w fun e w' => ∃ v', e = .returned v' ∧ SetAt w' v' (ofL L) ∧ (∀ b, v'.ownBlock = some b → w.heap.size ≤ b) ∧ Below w.heap.size w w' := by
  have hcl := clone_any v L w h hL
  go_enter Tryd.func18, Tryd.ntmps18
  go_wp2_with fail
  refine hcl.mono ?_
  rintro e w1 ⟨v1, rfl, hown, hb1⟩
  have hso := sort_any v1 L _ w1 hown hL
  go_wp2_with fail
  refine hso.mono ?_
  rintro e w2 ⟨rfl, ⟨rfl, rfl, rfl⟩ | ⟨g, cap, d, rfl, hcap, hB, hlen, hperm, hsd, hHR, hgr⟩⟩
  · go_wp2_with fail
    refine (compact_nil _).mono ?_
    rintro e w3 ⟨rfl, rfl⟩
    go_wp2_with fail
    go_ret
    exact ⟨_, rfl, .inl ⟨rfl, rfl⟩, (fun b hb => by simp [Value.ownBlock] at hb), hb1⟩
  · have hb2 : Below w.heap.size w w2 := hb1.grown hgr hb1.size (fun q hq => by injection hq with hq; omega)
    have hco := compact_any g cap d w2 hHR (by omega) (by omega)
    rw [hlen] at hco
    go_wp2_with fail
    refine hco.mono ?_
    rintro e w3 ⟨rfl, hrow, hgr3⟩
    have hb3 : Below w.heap.size w w3 := hb2.grown hgr3 hb2.size (fun q hq => by injection hq with hq; omega)
    go_wp2_with fail
    go_ret
    refine ⟨_, rfl, ?_, (fun b hb => by simp [Value.ownBlock] at hb; omega), hb3⟩
    rw [← compact_of hsd hperm]
    refine .inr ⟨g, cap, rfl, ?_, hrow⟩
    have : (compact d).length ≤ d.length := by
      have h1 : (compact d).length ≤ (List.range d.length).length := by
        unfold compact compactUpTo
        rw [List.length_map]
        exact List.length_filter_le _ _
      simpa using h1
    omega
set_option maxRecDepth 100000 in
set_option maxHeartbeats 4000000 in
theorem some4_new (l : Int) (v : Value) (L : List C) (w : World) (h : RawAt w v L) (hL : L.length ≤ maxLen) :
    Calls Tryd.prog 29 #[.int .i64 l, v] w fun e w' => ∃ v', e = .returned v' ∧ SetAt w' v' (ofL ((L.take 40).map (someC l))) ∧ (∀ b, v'.ownBlock = some b → w.heap.size ≤ b) ∧ Below w.heap.size w w' := by
  obtain ⟨i0, hi0, hz0, hz1, hz2⟩ := info_parts cell_info
  unfold maxLen at hL
  have HR := Lib.hid h
  have key : ∃ p cap, v = .slice p L.length cap := by
    rcases h with ⟨p, cap, rfl, rfl⟩ | ⟨g, o, cap, rfl, _, _⟩
    · exact ⟨p, cap, rfl⟩
    · exact ⟨_, _, rfl⟩
  obtain ⟨p, cap, rfl⟩ := key
  clear h
  have hown0 := World.ownsRow_made (base := w.heap.size) (e := 60) (size := 3) w #[] 0 (Nat.le_refl _) (Nat.zero_le _) (by simp)
  have HO := Lib.hid hown0
  clear hown0
  go_enter Tryd.func29, Tryd.ntmps29
  go_wp2_with fail
  go_loopw [5, 6] (fun s i wr => SoR w l L s i wr) (fun _ i _ => 40 - (intOf i).toNat)
  case atStart => exact ⟨0, Nat.zero_le _, by omega, rfl, by simpa [flat] using HO.out, by go_grown⟩
  case round =>
    obtain ⟨k, hk, hk40, rfl, hown, hb⟩ := hrel
    have hz := hb.size
    by_cases hlt : k < L.length
    · by_cases hl40 : k < 40
      · obtain ⟨x, hx⟩ : ∃ x, L[k]? = some x := ⟨_, List.getElem?_eq_getElem hlt⟩
        have hraw := HR.out.below hb
        rcases hraw with ⟨_, _, _, hnil⟩ | ⟨g, o, cap', hv, hcs, hg⟩
        · subst hnil; simp at hlt
        · injection hv with hv1 hv2 hv3
          subst hv1 hv3
          clear hv2
          obtain ⟨f0, f1, f2⟩ := flat_get L k x hx
          have c0 := hcs _ _ f0
          have c1 := hcs _ _ f1
          have c2 := hcs _ _ f2
          rw [show o + (k * 3 + 1) = o + k * 3 + 1 by omega] at c1
          rw [show o + (k * 3 + 1 + 1) = o + k * 3 + 1 + 1 by omega] at c2
          have HT := Lib.hid (show (L.take (k + 1)).map (someC l) = (L.take k).map (someC l) ++ [someC l x] by rw [List.take_add_one, hx]; simp)
          obtain ⟨y, hyy⟩ : ∃ y, someC l x = y := ⟨_, rfl⟩
          have HY := Lib.hid hyy
          clear hcs f0 f1 f2 hx
          go_wp2_with fail
          refine (Go.Proofs.YtggpleppoplkcaaDoor.Ce.some_any l x.1 x.2.1 x.2.2 _).mono ?_
          rw [show x.1.tmod 100 = y.1 by rw [← hyy]; rfl, show x.2.1.tmod 100 = y.2.1 by rw [← hyy]; rfl, show someH l x.2.2 = y.2.2 by rw [← hyy]; rfl]
          clear hyy
          rintro e w1 ⟨rfl, hb1⟩
          have hown1 := own_below hown hb1
          have hb2 := hb.trans (hb1.mono hz)
          have hzz := hb2.size
          have hown2 := hown1.alloc (.cells #[.int .i64 y.1, .int .i64 y.2.1, .int .i64 y.2.2] 60)
          have hnew : ∀ j u, (flat [y])[j]? = some u → (w1.alloc (.cells #[.int .i64 y.1, .int .i64 y.2.1, .int .i64 y.2.2] 60)).cell? ((⟨w1.heap.size, 0, none⟩ : Addr).add j) = some u := fun j u hu => by
            rw [Addr.add_lit, Nat.zero_add, (Blk.newAt w1 _ _ _ rfl).cell j]
            simpa [flat, encC] using hu
          go_wp2_with (at_builtin; refine wpList_append_own _ rfl _ _ 32 rfl w.heap.size 60 i0 _ 3 24 Tryd.underlying32 hi0 hz0 hz1 hz2 rfl (by decide) _ _ _ rfl hown2 ⟨w1.heap.size, 0, none⟩ 1 1 (flat [y]) rfl (by simp [flat_len]) hnew (one_flat [y]) (by unfold maxLen; omega) (by omega) (by simp; omega) ?_)
          intro v' w' hown' hgr _
          have hb' : Below w.heap.size w w' := (hb2.alloc hzz _).grown hgr (by simp; omega) (fun q hq => (hown2.lt q hq).1)
          go_wp2_with fail
          go_roundw
          case rel => exact ⟨k + 1, by omega, by omega, by go_num, by rw [HT.out, HY.out, flat_app, List.map_take]; exact hown', hb'⟩
          case measure => simp [intOf]; omega
      · obtain rfl : k = 40 := by omega
        have hlm : ((L.take 40).map (someC l)).length = 40 := by rw [List.length_map, List.length_take]; omega
        have hof := of_new _ _ wr (set_of_own (by rw [hlm]; exact hown)) (by omega)
        go_wp2_with fail
        refine hof.mono ?_
        rintro e w3 ⟨v3, rfl, hs3, hf3, hb3⟩
        go_wp2_with fail
        go_ret
        exact ⟨_, rfl, hs3, (fun b hq => Nat.le_trans hz (hf3 b hq)), hb.trans (hb3.mono hz)⟩
    · obtain rfl : k = L.length := by omega
      have HT := Lib.hid (show L.take 40 = L.take L.length by rw [List.take_of_length_le (by omega), List.take_length])
      have hlm : ((L.take L.length).map (someC l)).length = L.length := by rw [List.length_map, List.take_length]
      have hof := of_new _ _ wr (set_of_own (by rw [hlm]; exact hown)) (by omega)
      go_wp2_with fail
      refine hof.mono ?_
      rintro e w3 ⟨v3, rfl, hs3, hf3, hb3⟩
      go_wp2_with fail
      go_ret
      rw [HT.out]
      exact ⟨_, rfl, hs3, (fun b hq => Nat.le_trans hz (hf3 b hq)), hb.trans (hb3.mono hz)⟩
set_option maxRecDepth 100000 in
set_option maxHeartbeats 4000000 in
theorem few_new (l : Int) (v : Value) (L : List C) (w : World) (h : RawAt w v L) (hL : L.length ≤ maxLen) :
    Calls Tryd.prog 9 #[.int .i64 l, v] w fun e w' => ∃ v', e = .returned v' ∧ SetAt w' v' (ofL ((fewL L).map (someC l))) ∧ (∀ b, v'.ownBlock = some b → w.heap.size ≤ b) ∧ Below w.heap.size w w' := by
  obtain ⟨i0, hi0, hz0, hz1, hz2⟩ := info_parts raw_info
  unfold maxLen at hL
  have HR := Lib.hid h
  have key : ∃ p cap, v = .slice p L.length cap := by
    rcases h with ⟨p, cap, rfl, rfl⟩ | ⟨g, o, cap, rfl, _, _⟩
    · exact ⟨p, cap, rfl⟩
    · exact ⟨_, _, rfl⟩
  obtain ⟨p, cap, rfl⟩ := key
  clear h
  have hown0 := World.ownsRow_made (base := w.heap.size) (e := 57) (size := 3) w #[] 0 (Nat.le_refl _) (Nat.zero_le _) (by simp)
  have HO := Lib.hid hown0
  clear hown0
  go_enter Tryd.func9, Tryd.ntmps9
  go_wp2_with fail
  go_loopw [5, 6] (fun s i wr => FeR w L s i wr) (fun _ i _ => 16 - (intOf i).toNat)
  case atStart => exact ⟨0, Nat.zero_le _, by omega, rfl, by simpa [flat] using HO.out, by go_grown⟩
  case round =>
    obtain ⟨k, hk, hk16, rfl, hown, hb⟩ := hrel
    have hz := hb.size
    by_cases hlt : k < L.length
    · by_cases hl16 : k < 16
      · obtain ⟨x, hx⟩ : ∃ x, L[k]? = some x := ⟨_, List.getElem?_eq_getElem hlt⟩
        have hraw := HR.out.below hb
        rcases hraw with ⟨_, _, _, hnil⟩ | ⟨g, o, cap', hv, hcs, hg⟩
        · subst hnil; simp at hlt
        · injection hv with hv1 hv2 hv3
          subst hv1 hv3
          clear hv2
          obtain ⟨f0, f1, f2⟩ := flat_get L k x hx
          have c0 := hcs _ _ f0
          have c1 := hcs _ _ f1
          have c2 := hcs _ _ f2
          rw [show o + (k * 3 + 1) = o + k * 3 + 1 by omega] at c1
          rw [show o + (k * 3 + 1 + 1) = o + k * 3 + 1 + 1 by omega] at c2
          have HT := Lib.hid (show (L.take (k + 1)).map fewC = (L.take k).map fewC ++ [fewC x] by rw [List.take_add_one, hx]; simp)
          obtain ⟨y, hyy⟩ : ∃ y, fewC x = y := ⟨_, rfl⟩
          have HY := Lib.hid hyy
          have e0 : x.1.tmod 7 = y.1 := by rw [← hyy]; rfl
          have e1 : x.2.1.tmod 7 = y.2.1 := by rw [← hyy]; rfl
          have e2 : x.2.2 = y.2.2 := by rw [← hyy]; rfl
          rw [e2] at c2
          clear hcs f0 f1 f2 hx hyy e2
          go_upto_region 5 with fail
          have hown2 : (wr.drew.alloc (.cells #[.int .i64 y.1, .int .i64 y.2.1, .int .i64 y.2.2] 57)).ownsRow w.heap.size 57 3 u5 k (flat ((L.take k).map fewC)) := hown.alloc _
          have hnew : ∀ j u, (flat [y])[j]? = some u → (wr.drew.alloc (.cells #[.int .i64 y.1, .int .i64 y.2.1, .int .i64 y.2.2] 57)).cell? ((⟨wr.heap.size, 0, none⟩ : Addr).add j) = some u := news1 wr.drew _ y
          have hba : Below w.heap.size w (wr.drew.alloc (.cells #[.int .i64 y.1, .int .i64 y.2.1, .int .i64 y.2.2] 57)) := hb.drew.alloc hz _
          go_region_law (refine step_append_at rfl (.tmp 18) (.tmp 37) 26 rfl w.heap.size 57 i0 _ 3 24 Tryd.underlying26 hi0 hz0 hz1 hz2 rfl (by decide) _ _ _ (by simp [Act.eval]) hown2 ⟨wr.heap.size, 0, none⟩ 1 1 (flat [y]) (by simp [Act.eval]) (by simp [flat_len]) hnew (one_flat [y]) (by unfold maxLen; omega) (by omega) (by first | exact hba.size | (simp; omega)) ?_; intro v' w' hown' hgr _)
          all_goals
            have hb' : Below w.heap.size w w' := hba.grown hgr hba.size (fun q hq => (hown2.lt q hq).1)
            go_wp2_with fail
            go_roundw
            case rel => exact ⟨k + 1, by omega, by omega, by go_num, by rw [HT.out, HY.out, flat_app]; exact hown', hb'⟩
            case measure => simp [intOf]; omega
      · obtain rfl : k = 16 := by omega
        have hlm : ((L.take 16).map fewC).length = 16 := by rw [List.length_map, List.length_take]; omega
        have hof := some4_new l u5 (fewL L) wr (raw_of_set (set_own (by rw [fewL, hlm]; exact hown))) (by rw [fewL, hlm]; unfold maxLen; omega)
        rw [show (fewL L).take 40 = fewL L from List.take_of_length_le (by rw [fewL, hlm]; omega)] at hof
        go_wp2_with fail
        refine hof.mono ?_
        rintro e w3 ⟨v3, rfl, hs3, hf3, hb3⟩
        go_wp2_with fail
        go_ret
        exact ⟨_, rfl, hs3, (fun b hq => Nat.le_trans hz (hf3 b hq)), hb.trans (hb3.mono hz)⟩
    · obtain rfl : k = L.length := by omega
      have HT : L.take 16 = L.take L.length := by rw [List.take_of_length_le (by omega), List.take_length]
      have hlm : ((L.take 16).map fewC).length = L.length := by rw [HT, List.length_map, List.take_length]
      have hof := some4_new l u5 (fewL L) wr (raw_of_set (set_own (by rw [fewL, hlm, HT]; exact hown))) (by rw [fewL, hlm]; unfold maxLen; omega)
      rw [show (fewL L).take 40 = fewL L from List.take_of_length_le (by rw [fewL, hlm]; omega)] at hof
      clear HT hlm
      go_wp2_with fail
      refine hof.mono ?_
      rintro e w3 ⟨v3, rfl, hs3, hf3, hb3⟩
      go_wp2_with fail
      go_ret
      exact ⟨_, rfl, hs3, (fun b hq => Nat.le_trans hz (hf3 b hq)), hb.trans (hb3.mono hz)⟩
end Go.Proofs.YtggpleppoplkcaaDoor.Se
