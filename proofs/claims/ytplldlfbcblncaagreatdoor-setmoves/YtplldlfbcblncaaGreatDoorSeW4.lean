/- set.Of: the set of a list of cells. -/
import Derived.Test.YtplldlfbcblncaaGreatDoorSeW3
import Derived.Shelf.SlSortCmp.NoneTotal
namespace Go.Proofs.YtplldlfbcblncaaGreatDoor.Se
open Go.RowKit Go.Proofs.YtplldlfbcblncaaGreatDoor.Ax Go.Proofs.YtplldlfbcblncaaGreatDoor.Ba Go.Shelf Go.Lib Go.Sort

/-- slices.SortFunc(s, cell.Compare), over memory of one's own. -/
theorem sort_any (v : Value) (L : List C) (B : Nat) (w : World) (h : w.ownsRow B 45 3 v L.length (flat L)) (hL : L.length ≤ 1000000) :
    Calls Tryz.prog 18 #[v, .func (.func 19) #[] #[]] w fun e w' => e = .returned (.tuple #[]) ∧
      ((v = .slice none 0 0 ∧ L = [] ∧ w' = w) ∨ ∃ (g cap : Nat) (d : List C), v = .slice (some ⟨g, 0, none⟩) L.length cap ∧ L.length ≤ cap ∧ B ≤ g ∧ d.length = L.length ∧ d.Perm L ∧ Sorted d ∧ HR w' g d ∧ w.grownBy w' (some g)) := by
  rcases h.2 with ⟨rfl, hn⟩ | ⟨g, cap, cur, rfl, hB, hh, hc, hrest⟩
  · have hL0 : L = [] := by simp_all
    have hcon := AnyF.slices_SortFunc_none Tryz.laySort none 0 (.func (.func 19) #[] #[]) w
    change Calls Tryz.prog 18 _ _ _ at hcon
    refine hcon.mono ?_
    rintro e w' ⟨rfl, rfl⟩
    exact ⟨rfl, .inl ⟨rfl, hL0, rfl⟩⟩
  · have hg : g < w.heap.size := by
      rcases Nat.lt_or_ge g w.heap.size with h' | h'
      · exact h'
      · rw [Array.getElem?_eq_none h'] at hh; cases hh
    have hH := holds_of_own h hg
    have eg : ∀ args w, (callFunc 19 args).run Tryz.prog w = .ok (.enter 19 args) w := enters_of Tryz.func19 (by kernel_rfl) rfl
    have hcon := AnyQ.slices_SortFunc Tryz.laySort 3 Tryz.isAgg45 Tryz.sizeOf45 encC (fun _ => rfl) (fun x v hv => by simp [encC] at hv; rcases hv with rfl | rfl | rfl <;> rfl) cf swo 19 #[] g 0 cap L.toArray w eg (cmpLays g 0 _ w) hH hg (by simp; omega)
    change Calls Tryz.prog 18 _ _ _ at hcon
    rw [show L.toArray.size = L.length by simp] at hcon
    refine hcon.mono ?_
    rintro e w' ⟨rfl, d, n, os, hp, hs, rfl⟩
    have hsz : d.size = L.length := by simpa using hp.1
    refine ⟨rfl, .inr ⟨g, cap, d.toList, rfl, hc, hB, by simpa using hsz, ?_, ?_, ?_, ?_⟩⟩
    · have := hp.2.2
      rw [show d.extract 0 L.length = d by rw [← hsz]; simp, show L.toArray.extract 0 L.length = L.toArray by simp] at this
      simpa using this
    · unfold Sorted
      rw [List.pairwise_iff_getElem]
      intro i j hi hj hij
      have hi' : i < d.size := by simpa using hi
      have hj' : j < d.size := by simpa using hj
      have h1 := hs i j (Nat.zero_le _) hij (by omega)
      rw [ltOf_cf, getElem!_pos d j hj', getElem!_pos d i hi'] at h1
      simpa using h1
    · exact hr_of_holds (holdsK_sortWorldK_c encC 3 w g 0 L.toArray d n os hH hg (by simpa using hp.1)) (Nat.lt_of_lt_of_le hg (size_sortWorldK_c encC 3 w g 0 n d os))
    · refine ⟨rfl, rfl, rfl, size_sortWorldK_c encC 3 w g 0 n d os, fun i hi hne => ?_⟩
      have hne' : g ≠ i := fun e => hne (by rw [e])
      show ((w.heap.modify g _) ++ os)[i]? = w.heap[i]?
      rw [Array.getElem?_append, if_pos (by simpa using hi), Array.getElem?_modify, if_neg hne']
theorem compact_nil (w : World) :
    Calls Tryz.prog 20 #[.slice none 0 0] w fun e w' => e = .returned (.slice none 0 0) ∧ w' = w := by
  go_enter Tryz.func20, Tryz.ntmps20
  go_wp2
  go_ret
  exact ⟨rfl, rfl⟩
set_option maxRecDepth 100000 in
theorem of_any (v : Value) (L : List C) (w : World) (h : SetAt w v L) (hL : L.length ≤ 1000000) :
    Calls Tryz.prog 5 #[v] w fun e w' => ∃ v', e = .returned v' ∧ SetAt w' v' (ofL L) ∧ Below w.heap.size w w' := by
  have hcl := clone_any v L w h hL
  go_enter Tryz.func5, Tryz.ntmps5
  go_wp2_with fail
  refine hcl.mono ?_
  rintro e w1 ⟨v1, rfl, hown, hb1⟩
  have hso := sort_any v1 L _ w1 hown hL
  go_wp2_with fail
  refine hso.mono ?_
  rintro e w2 ⟨rfl, ⟨rfl, rfl, rfl⟩ | ⟨g, cap, d, rfl, hcap, hB, hlen, hperm, hsd, hHR, hgr⟩⟩
  · go_wp2_with fail
    refine (compact_nil _).mono ?_
    rintro e w3 ⟨rfl, rfl⟩
    go_wp2_with fail
    go_ret
    exact ⟨_, rfl, .inl ⟨rfl, rfl⟩, hb1⟩
  · have hb2 : Below w.heap.size w w2 := hb1.grown hgr hb1.size (fun q hq => by injection hq with hq; omega)
    have hco := compact_any g cap d w2 hHR (by omega) (by omega)
    rw [hlen] at hco
    go_wp2_with fail
    refine hco.mono ?_
    rintro e w3 ⟨rfl, hrow, hgr3⟩
    have hb3 : Below w.heap.size w w3 := hb2.grown hgr3 hb2.size (fun q hq => by injection hq with hq; omega)
    go_wp2_with fail
    go_ret
    refine ⟨_, rfl, ?_, hb3⟩
    rw [← compact_of hsd hperm]
    refine .inr ⟨g, cap, rfl, ?_, hrow⟩
    have : (compact d).length ≤ d.length := by
      have h1 : (compact d).length ≤ (List.range d.length).length := by
        unfold compact compactUpTo
        rw [List.length_map]
        exact List.length_filter_le _ _
      simpa using h1
    omega
end Go.Proofs.YtplldlfbcblncaaGreatDoor.Se
