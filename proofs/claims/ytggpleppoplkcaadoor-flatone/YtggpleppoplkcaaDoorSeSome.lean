/- The laws' own Some of a list: a set of at most forty cells of small coordinates. -/
import Derived.Test.YtggpleppoplkcaaDoorSeW4
import Derived.Test.YtggpleppoplkcaaDoorSeO
import Derived.Test.YtggpleppoplkcaaDoorCeLat
namespace Go.Proofs.YtggpleppoplkcaaDoor.Se
open Go.RowKit Go.Proofs.YtggpleppoplkcaaDoor.Ax Go.Proofs.YtggpleppoplkcaaDoor.Ba Go.Shelf Go.Lib Go.Sort
open Go.Proofs.YtggpleppoplkcaaDoor.Ce (someH)

def someC (l : Int) (c : C) : C := (c.1.tmod 100, c.2.1.tmod 100, someH l c.2.2)
def SoR (w : World) (l : Int) (L : List C) (s i : Value) (wr : World) : Prop :=
  ∃ k : Nat, k ≤ L.length ∧ k ≤ 40 ∧ i = .int .i64 k ∧ wr.ownsRow w.heap.size 60 3 s k (flat ((L.take k).map (someC l))) ∧ Below w.heap.size w wr
set_option maxRecDepth 100000 in
set_option maxHeartbeats 4000000 in
theorem some4_any (l : Int) (v : Value) (L : List C) (w : World) (h : RawAt w v L) (hL : L.length ≤ maxLen) :
    Calls Tryd.prog 29 #[.int .i64 l, v] w fun e w' => ∃ v', e = .returned v' ∧ SetAt w' v' (ofL ((L.take 40).map (someC l))) ∧ Below w.heap.size w w' := by
  obtain ⟨i0, hi0, hz0, hz1, hz2⟩ := info_parts cell_info
  unfold maxLen at hL
  have HR := Lib.hid h
  have key : ∃ p cap, v = .slice p L.length cap := by
    rcases h with ⟨p, cap, rfl, rfl⟩ | ⟨g, o, cap, rfl, _, _⟩
    · exact ⟨p, cap, rfl⟩
    · exact ⟨_, _, rfl⟩
  obtain ⟨p, cap, rfl⟩ := key
  clear h
  have hown0 := World.ownsRow_made (base := w.heap.size) (e := 60) (size := 3) w #[] 0 (Nat.le_refl _) (Nat.zero_le _) (by simp)
  have HO := Lib.hid hown0
  clear hown0
  go_enter Tryd.func29, Tryd.ntmps29
  go_wp2_with fail
  go_loopw [5, 6] (fun s i wr => SoR w l L s i wr) (fun _ i _ => 40 - (intOf i).toNat)
  case atStart => exact ⟨0, Nat.zero_le _, by omega, rfl, by simpa [flat] using HO.out, by go_grown⟩
  case round =>
    obtain ⟨k, hk, hk40, rfl, hown, hb⟩ := hrel
    have hz := hb.size
    by_cases hlt : k < L.length
    · by_cases hl40 : k < 40
      · obtain ⟨x, hx⟩ : ∃ x, L[k]? = some x := ⟨_, List.getElem?_eq_getElem hlt⟩
        have hraw := HR.out.below hb
        rcases hraw with ⟨_, _, _, hnil⟩ | ⟨g, o, cap', hv, hcs, hg⟩
        · subst hnil; simp at hlt
        · injection hv with hv1 hv2 hv3
          subst hv1 hv3
          clear hv2
          obtain ⟨f0, f1, f2⟩ := flat_get L k x hx
          have c0 := hcs _ _ f0
          have c1 := hcs _ _ f1
          have c2 := hcs _ _ f2
          rw [show o + (k * 3 + 1) = o + k * 3 + 1 by omega] at c1
          rw [show o + (k * 3 + 1 + 1) = o + k * 3 + 1 + 1 by omega] at c2
          have HT := Lib.hid (show (L.take (k + 1)).map (someC l) = (L.take k).map (someC l) ++ [someC l x] by rw [List.take_add_one, hx]; simp)
          obtain ⟨y, hyy⟩ : ∃ y, someC l x = y := ⟨_, rfl⟩
          have HY := Lib.hid hyy
          clear hcs f0 f1 f2 hx
          go_wp2_with fail
          refine (Go.Proofs.YtggpleppoplkcaaDoor.Ce.some_any l x.1 x.2.1 x.2.2 _).mono ?_
          rw [show x.1.tmod 100 = y.1 by rw [← hyy]; rfl, show x.2.1.tmod 100 = y.2.1 by rw [← hyy]; rfl, show someH l x.2.2 = y.2.2 by rw [← hyy]; rfl]
          clear hyy
          rintro e w1 ⟨rfl, hb1⟩
          have hown1 := own_below hown hb1
          have hb2 := hb.trans (hb1.mono hz)
          have hzz := hb2.size
          have hown2 := hown1.alloc (.cells #[.int .i64 y.1, .int .i64 y.2.1, .int .i64 y.2.2] 60)
          have hnew : ∀ j u, (flat [y])[j]? = some u → (w1.alloc (.cells #[.int .i64 y.1, .int .i64 y.2.1, .int .i64 y.2.2] 60)).cell? ((⟨w1.heap.size, 0, none⟩ : Addr).add j) = some u := fun j u hu => by
            rw [Addr.add_lit, Nat.zero_add, (Blk.newAt w1 _ _ _ rfl).cell j]
            simpa [flat, encC] using hu
          go_wp2_with (at_builtin; refine wpList_append_own _ rfl _ _ 32 rfl w.heap.size 60 i0 _ 3 24 Tryd.underlying32 hi0 hz0 hz1 hz2 rfl (by decide) _ _ _ rfl hown2 ⟨w1.heap.size, 0, none⟩ 1 1 (flat [y]) rfl (by simp [flat_len]) hnew (one_flat [y]) (by unfold maxLen; omega) (by omega) (by simp; omega) ?_)
          intro v' w' hown' hgr _
          have hb' : Below w.heap.size w w' := (hb2.alloc hzz _).grown hgr (by simp; omega) (fun q hq => (hown2.lt q hq).1)
          go_wp2_with fail
          go_roundw
          case rel => exact ⟨k + 1, by omega, by omega, by go_num, by rw [HT.out, HY.out, flat_app, List.map_take]; exact hown', hb'⟩
          case measure => simp [intOf]; omega
      · obtain rfl : k = 40 := by omega
        have hlm : ((L.take 40).map (someC l)).length = 40 := by rw [List.length_map, List.length_take]; omega
        have hof := of_any _ _ wr (set_of_own (by rw [hlm]; exact hown)) (by omega)
        go_wp2_with fail
        refine hof.mono ?_
        rintro e w3 ⟨v3, rfl, hs3, hb3⟩
        go_wp2_with fail
        go_ret
        exact ⟨_, rfl, hs3, hb.trans (hb3.mono hz)⟩
    · obtain rfl : k = L.length := by omega
      have HT := Lib.hid (show L.take 40 = L.take L.length by rw [List.take_of_length_le (by omega), List.take_length])
      have hlm : ((L.take L.length).map (someC l)).length = L.length := by rw [List.length_map, List.take_length]
      have hof := of_any _ _ wr (set_of_own (by rw [hlm]; exact hown)) (by omega)
      go_wp2_with fail
      refine hof.mono ?_
      rintro e w3 ⟨v3, rfl, hs3, hb3⟩
      go_wp2_with fail
      go_ret
      rw [HT.out]
      exact ⟨_, rfl, hs3, hb.trans (hb3.mono hz)⟩
end Go.Proofs.YtggpleppoplkcaaDoor.Se
