/- Several texts, joined. -/
import Derived.Test.YtcgkaghabgjjlaaGreatDoorSeL
import Derived.Test.YtcgkaghabgjjlaaGreatDoorBsR
import Derived.Deep.Slices
import Derived.Test.YtcgkaghabgjjlaaGreatDoorSeW3
import Derived.Shelf.SlSortCmp.NoneTotal
import Derived.Test.YtcgkaghabgjjlaaGreatDoorTrW13
import Derived.Test.YtcgkaghabgjjlaaGreatDoorArW2
import Derived.Laws.BitsLemmas
import Derived.Test.YtcgkaghabgjjlaaGreatDoorTrW9
import Derived.Test.YtcgkaghabgjjlaaGreatDoorSeR2
import Derived.Maps.AppendAt
import Derived.Test.YtcgkaghabgjjlaaGreatDoorTrW10
import Derived.BigQuiet
import Derived.Test.YtcgkaghabgjjlaaGreatDoorTrW11
import Derived.Test.YtcgkaghabgjjlaaGreatDoorCards
import Derived.Test.YtcgkaghabgjjlaaGreatDoorTie
import Derived.Test.YtcgkaghabgjjlaaGreatDoorSiW4
import Derived.ProofKit
import Derived.OpenShut
import Derived.Lib.LaidTab
import Derived.Test.YtcgkaghabgjjlaaGreatDoorTrG1
import Derived.Test.YtcgkaghabgjjlaaGreatDoorSeA
import Derived.Deep.DeepHandedRow
import Derived.Lib.SmallJoins
/- An argument that is a list of cells; the laws' Own of it. -/
namespace Go.Proofs.YtcgkaghabgjjlaaGreatDoor.Se
open Go.RowKit Go.Proofs.YtcgkaghabgjjlaaGreatDoor.Ax Go.Proofs.YtcgkaghabgjjlaaGreatDoor.Ba Go.Lib

/-! An argument that is a list of cells. -/
/-- A list of the document's cells that came in, from any place of a block on. -/
def RawAt (w : World) (v : Value) (L : List C) : Prop :=
  (∃ p cap, v = .slice p 0 cap ∧ L = []) ∨ ∃ g o cap : Nat, v = .slice (some ⟨g, o, none⟩) L.length cap ∧ (∀ j u, (flat L)[j]? = some u → w.cell? ⟨g, o + j, none⟩ = some u) ∧ g < w.heap.size
theorem RawAt.below {w w' : World} {v : Value} {L : List C} (h : RawAt w v L) (hb : Below w.heap.size w w') : RawAt w' v L := by
  rcases h with h | ⟨g, o, cap, hv, hc, hg⟩
  · exact .inl h
  · exact .inr ⟨g, o, cap, hv, fun j u hu => (hb.cell (p := ⟨g, o + j, none⟩) hg).trans (hc j u hu), Nat.lt_of_lt_of_le hg hb.size⟩
section
open Go.ChangeShapes Go.WideShapes Go.Deep
theorem rawCells : Tryz.prog.cellsOf 24 = 3 := by kernel_rfl
set_option maxRecDepth 100000 in
theorem open_cells {H : Type} {enc : TypeId × Value → H} {w : World} {base : Nat} {spare : Nat → Bool} {held : Bool} {r : Reach} {b0 : Nat} {v : Value} {d : DataW H} {p : List MemPlace}
    (hv : Value.okWide Tryz.prog w r b0 22 v) (h : DataW.Trod enc Tryz.prog w base spare held 22 v d p) :
    ∃ L : List C, RawAt w v L ∧ L.length ≤ maxLen := by
  obtain ⟨a0, n0, c0, rfl⟩ := okWide_slice Tryz.underlying22 hv
  obtain ⟨fuel, hf⟩ := h
  rcases Go.Deep.open_slice Tryz.underlying22 hf with ⟨hcs, _⟩ | ⟨a, len, cap, m, n, D, Pl, hcs, _, hl, hm, hmm, _, hi⟩
  · simp [Value.cells] at hcs
    obtain ⟨rfl, rfl, rfl⟩ := hcs
    exact ⟨[], .inl ⟨none, 0, rfl, rfl⟩, by simp⟩
  · simp [Value.cells] at hcs
    obtain ⟨rfl, rfl, rfl⟩ := hcs
    have hle : n0 ≤ m := by rw [hmm]; split <;> omega
    have hget : ∀ i, i < n0 → ∃ c : C, w.cell? (a.add (i * 3)) = some (.int .i64 c.1) ∧ w.cell? ((a.add (i * 3)).add 1) = some (.int .i64 c.2.1) ∧ w.cell? ((a.add (i * 3)).add 2) = some (.int .i64 c.2.2) := by
      intro i hil
      obtain ⟨cs, hc, ht⟩ := hi i (by omega)
      rw [rawCells] at hc
      obtain ⟨_, hcl, hat⟩ := World.cells?_some hc
      match cs, hcl with
      | [x0, x1, x2], _ =>
        obtain ⟨y0, y1, y2, n', _, _, g0, g1, g2⟩ := trod_struct3 Tryz.underlying24 ht
        have cI : Tryz.prog.cellsOf 2 = 1 := by kernel_rfl
        have cN : Tryz.prog.cellsOf 3 = 1 := by kernel_rfl
        simp only [cI, cN] at g0 g1 g2
        obtain ⟨x, e0, _, _⟩ := DataW.trod_int Tryz.underlying2 g0
        obtain ⟨y, e1, _, _⟩ := DataW.trod_int Tryz.underlying2 g1
        obtain ⟨z, e2, _, _⟩ := DataW.trod_int Tryz.underlying3 g2
        simp at e0 e1 e2
        subst e0 e1 e2
        have h0 := hat 0 (by decide)
        rw [show (a.add (i * 3)).add 0 = a.add (i * 3) from rfl] at h0
        exact ⟨(x, y, z), h0, hat 1 (by decide), hat 2 (by decide)⟩
    have hn : n0 ≤ maxLen := by omega
    rcases Nat.eq_zero_or_pos n0 with h0 | h0
    · subst h0
      exact ⟨[], .inl ⟨_, _, rfl, rfl⟩, by simp⟩
    · obtain ⟨g, o, sp⟩ := a
      obtain rfl : sp = none := by
        obtain ⟨c, hc, _⟩ := hget 0 h0
        cases sp with
        | none => rfl
        | some s =>
          simp only [Nat.zero_mul, Addr.add, if_true, World.cell?] at hc
          split at hc <;> simp at hc
      have hg : g < w.heap.size := by
        obtain ⟨c, hc, _⟩ := hget 0 h0
        rcases Nat.lt_or_ge g w.heap.size with h' | h'
        · exact h'
        · simp [World.cell?, Addr.add_lit, Array.getElem?_eq_none h'] at hc
      let f : Nat → C := fun i => if h : i < n0 then Classical.choose (hget i h) else (0, 0, 0)
      have hfs : ∀ i, i < n0 → w.cell? ⟨g, o + i * 3, none⟩ = some (.int .i64 (f i).1) ∧ w.cell? ⟨g, o + (i * 3 + 1), none⟩ = some (.int .i64 (f i).2.1) ∧ w.cell? ⟨g, o + (i * 3 + 1 + 1), none⟩ = some (.int .i64 (f i).2.2) := by
        intro i hil
        have hs := Classical.choose_spec (hget i hil)
        have e : f i = Classical.choose (hget i hil) := dif_pos hil
        rw [e]
        generalize Classical.choose (hget i hil) = c at hs ⊢
        simp only [Addr.add_lit] at hs
        rw [show o + (i * 3 + 1) = o + i * 3 + 1 by omega, show o + (i * 3 + 1 + 1) = o + i * 3 + 2 by omega]
        exact hs
      have hlen : ((List.range n0).map f).length = n0 := by simp
      refine ⟨(List.range n0).map f, .inr ⟨g, o, c0, by rw [hlen], flat_cells o fun i x hx => ?_, hg⟩, by rw [hlen]; exact hn⟩
      have hil : i < n0 := by have := (List.getElem?_eq_some_iff.1 hx).1; simpa using this
      have e : f i = x := by rw [List.getElem?_map, List.getElem?_range hil] at hx; simpa using hx
      rw [← e]
      exact hfs i hil
end
def OwR (w : World) (L : List C) (s i : Value) (wr : World) : Prop :=
  ∃ k : Nat, k ≤ L.length ∧ k ≤ 40 ∧ i = .int .i64 k ∧ wr.ownsRow w.heap.size 53 3 s k (flat (L.take k)) ∧ Below w.heap.size w wr
set_option maxRecDepth 100000 in
set_option maxHeartbeats 4000000 in
theorem own4_any (v : Value) (L : List C) (w : World) (h : RawAt w v L) (hL : L.length ≤ maxLen) :
    Calls Tryz.prog 26 #[v] w fun e w' => ∃ v', e = .returned v' ∧ w'.ownsRow w.heap.size 53 3 v' (L.take 40).length (flat (L.take 40)) ∧ Below w.heap.size w w' := by
  obtain ⟨i0, hi0, hz0, hz1, hz2⟩ := info_parts cell_info
  unfold maxLen at hL
  have HR := Lib.hid h
  have key : ∃ p cap, v = .slice p L.length cap := by
    rcases h with ⟨p, cap, rfl, rfl⟩ | ⟨g, o, cap, rfl, _, _⟩
    · exact ⟨p, cap, rfl⟩
    · exact ⟨_, _, rfl⟩
  obtain ⟨p, cap, rfl⟩ := key
  clear h
  have hown0 := World.ownsRow_made (base := w.heap.size) (e := 53) (size := 3) w #[] 0 (Nat.le_refl _) (Nat.zero_le _) (by simp)
  have HO := Lib.hid hown0
  clear hown0
  go_enter Tryz.func26, Tryz.ntmps26
  go_wp2_with fail
  go_loopw [3, 4] (fun s i wr => OwR w L s i wr) (fun _ i _ => 40 - (intOf i).toNat)
  case atStart => exact ⟨0, Nat.zero_le _, by omega, rfl, by simpa [flat] using HO.out, by go_grown⟩
  case round =>
    obtain ⟨k, hk, hk40, rfl, hown, hb⟩ := hrel
    have hz := hb.size
    by_cases hlt : k < L.length
    · by_cases hl40 : k < 40
      · obtain ⟨x, hx⟩ : ∃ x, L[k]? = some x := ⟨_, List.getElem?_eq_getElem hlt⟩
        have hraw := HR.out.below hb
        rcases hraw with ⟨_, _, _, hnil⟩ | ⟨g, o, cap', hv, hcs, hg⟩
        · subst hnil; simp at hlt
        · injection hv with hv1 hv2 hv3
          subst hv1 hv3
          clear hv2
          obtain ⟨f0, f1, f2⟩ := flat_get L k x hx
          have c0 := hcs _ _ f0
          have c1 := hcs _ _ f1
          have c2 := hcs _ _ f2
          rw [show o + (k * 3 + 1) = o + k * 3 + 1 by omega] at c1
          rw [show o + (k * 3 + 1 + 1) = o + k * 3 + 1 + 1 by omega] at c2
          have HT := Lib.hid (show L.take (k + 1) = L.take k ++ [x] by rw [List.take_add_one, hx]; rfl)
          clear hcs f0 f1 f2 hx
          go_wp2_with fail
          refine (own3_any x _).mono ?_
          rintro e w1 ⟨rfl, hb1⟩
          have hown1 := own_below hown hb1
          have hb2 := hb.trans (hb1.mono hz)
          have hzz := hb2.size
          have hown2 := hown1.alloc (.cells #[.int .i64 x.1, .int .i64 x.2.1, .int .i64 x.2.2] 53)
          have hnew : ∀ j u, (flat [x])[j]? = some u → (w1.alloc (.cells #[.int .i64 x.1, .int .i64 x.2.1, .int .i64 x.2.2] 53)).cell? ((⟨w1.heap.size, 0, none⟩ : Addr).add j) = some u := fun j u hu => by
            rw [Addr.add_lit, Nat.zero_add, (Blk.newAt w1 _ _ _ rfl).cell j]
            simpa [flat, encC] using hu
          go_wp2_with (at_builtin; refine wpList_append_own _ rfl _ _ 31 rfl w.heap.size 53 i0 _ 3 24 Tryz.underlying31 hi0 hz0 hz1 hz2 rfl (by decide) _ _ _ rfl hown2 ⟨w1.heap.size, 0, none⟩ 1 1 (flat [x]) rfl (by simp [flat_len]) hnew (one_flat [x]) (by unfold maxLen; omega) (by omega) (by simp; omega) ?_)
          intro v' w' hown' hgr _
          have hb' : Below w.heap.size w w' := (hb2.alloc hzz _).grown hgr (by simp; omega) (fun q hq => (hown2.lt q hq).1)
          go_wp2_with fail
          go_roundw
          case rel => exact ⟨k + 1, by omega, by omega, by go_num, by rw [HT.out, flat_app]; exact hown', hb'⟩
          case measure => simp [intOf]; omega
      · obtain rfl : k = 40 := by omega
        have HT := Lib.hid (show (L.take 40).length = 40 by rw [List.length_take]; omega)
        go_wp2_with fail
        go_ret
        exact ⟨_, rfl, by rw [HT.out]; exact hown, hb⟩
    · obtain rfl : k = L.length := by omega
      have HT := Lib.hid (show L.take 40 = L by rw [List.take_of_length_le]; omega)
      go_wp2_with fail
      go_ret
      rw [HT.out]
      exact ⟨_, rfl, by simpa using hown, hb⟩
end Go.Proofs.YtcgkaghabgjjlaaGreatDoor.Se

/- set.Of: the set of a list of cells. -/
namespace Go.Proofs.YtcgkaghabgjjlaaGreatDoor.Se
open Go.RowKit Go.Proofs.YtcgkaghabgjjlaaGreatDoor.Ax Go.Proofs.YtcgkaghabgjjlaaGreatDoor.Ba Go.Shelf Go.Lib Go.Sort

/-- slices.SortFunc(s, cell.Compare), over memory of one's own. -/
theorem sort_any (v : Value) (L : List C) (B : Nat) (w : World) (h : w.ownsRow B 53 3 v L.length (flat L)) (hL : L.length ≤ 1000000) :
    Calls Tryz.prog 58 #[v, .func (.func 59) #[] #[]] w fun e w' => e = .returned (.tuple #[]) ∧
      ((v = .slice none 0 0 ∧ L = [] ∧ w' = w) ∨ ∃ (g cap : Nat) (d : List C), v = .slice (some ⟨g, 0, none⟩) L.length cap ∧ L.length ≤ cap ∧ B ≤ g ∧ d.length = L.length ∧ d.Perm L ∧ Sorted d ∧ HR w' g d ∧ w.grownBy w' (some g)) := by
  rcases h.2 with ⟨rfl, hn⟩ | ⟨g, cap, cur, rfl, hB, hh, hc, hrest⟩
  · have hL0 : L = [] := by simp_all
    have hcon := AnyF.slices_SortFunc_none Tryz.laySort none 0 (.func (.func 59) #[] #[]) w
    change Calls Tryz.prog 58 _ _ _ at hcon
    refine hcon.mono ?_
    rintro e w' ⟨rfl, rfl⟩
    exact ⟨rfl, .inl ⟨rfl, hL0, rfl⟩⟩
  · have hg : g < w.heap.size := by
      rcases Nat.lt_or_ge g w.heap.size with h' | h'
      · exact h'
      · rw [Array.getElem?_eq_none h'] at hh; cases hh
    have hH := holds_of_own h hg
    have eg : ∀ args w, (callFunc 59 args).run Tryz.prog w = .ok (.enter 59 args) w := enters_of Tryz.func59 (by kernel_rfl) rfl
    have hcon := AnyQ.slices_SortFunc Tryz.laySort 3 Tryz.isAgg53 Tryz.sizeOf53 encC (fun _ => rfl) (fun x v hv => by simp [encC] at hv; rcases hv with rfl | rfl | rfl <;> rfl) cf swo 59 #[] g 0 cap L.toArray w eg (cmpLays g 0 _ w) hH hg (by simp; omega)
    change Calls Tryz.prog 58 _ _ _ at hcon
    rw [show L.toArray.size = L.length by simp] at hcon
    refine hcon.mono ?_
    rintro e w' ⟨rfl, d, n, os, hp, hs, rfl⟩
    have hsz : d.size = L.length := by simpa using hp.1
    refine ⟨rfl, .inr ⟨g, cap, d.toList, rfl, hc, hB, by simpa using hsz, ?_, ?_, ?_, ?_⟩⟩
    · have := hp.2.2
      rw [show d.extract 0 L.length = d by rw [← hsz]; simp, show L.toArray.extract 0 L.length = L.toArray by simp] at this
      simpa using this
    · unfold Sorted
      rw [List.pairwise_iff_getElem]
      intro i j hi hj hij
      have hi' : i < d.size := by simpa using hi
      have hj' : j < d.size := by simpa using hj
      have h1 := hs i j (Nat.zero_le _) hij (by omega)
      rw [ltOf_cf, getElem!_pos d j hj', getElem!_pos d i hi'] at h1
      simpa using h1
    · exact hr_of_holds (holdsK_sortWorldK_c encC 3 w g 0 L.toArray d n os hH hg (by simpa using hp.1)) (Nat.lt_of_lt_of_le hg (size_sortWorldK_c encC 3 w g 0 n d os))
    · refine ⟨rfl, rfl, rfl, size_sortWorldK_c encC 3 w g 0 n d os, fun i hi hne => ?_⟩
      have hne' : g ≠ i := fun e => hne (by rw [e])
      show ((w.heap.modify g _) ++ os)[i]? = w.heap[i]?
      rw [Array.getElem?_append, if_pos (by simpa using hi), Array.getElem?_modify, if_neg hne']
theorem compact_nil (w : World) :
    Calls Tryz.prog 60 #[.slice none 0 0] w fun e w' => e = .returned (.slice none 0 0) ∧ w' = w := by
  go_enter Tryz.func60, Tryz.ntmps60
  go_wp2
  go_ret
  exact ⟨rfl, rfl⟩
set_option maxRecDepth 100000 in
theorem of_any (v : Value) (L : List C) (w : World) (h : SetAt w v L) (hL : L.length ≤ 1000000) :
    Calls Tryz.prog 35 #[v] w fun e w' => ∃ v', e = .returned v' ∧ SetAt w' v' (ofL L) ∧ Below w.heap.size w w' := by
  have hcl := clone_any v L w h hL
  go_enter Tryz.func35, Tryz.ntmps35
  go_wp2_with fail
  refine hcl.mono ?_
  rintro e w1 ⟨v1, rfl, hown, hb1⟩
  have hso := sort_any v1 L _ w1 hown hL
  go_wp2_with fail
  refine hso.mono ?_
  rintro e w2 ⟨rfl, ⟨rfl, rfl, rfl⟩ | ⟨g, cap, d, rfl, hcap, hB, hlen, hperm, hsd, hHR, hgr⟩⟩
  · go_wp2_with fail
    refine (compact_nil _).mono ?_
    rintro e w3 ⟨rfl, rfl⟩
    go_wp2_with fail
    go_ret
    exact ⟨_, rfl, .inl ⟨rfl, rfl⟩, hb1⟩
  · have hb2 : Below w.heap.size w w2 := hb1.grown hgr hb1.size (fun q hq => by injection hq with hq; omega)
    have hco := compact_any g cap d w2 hHR (by omega) (by omega)
    rw [hlen] at hco
    go_wp2_with fail
    refine hco.mono ?_
    rintro e w3 ⟨rfl, hrow, hgr3⟩
    have hb3 : Below w.heap.size w w3 := hb2.grown hgr3 hb2.size (fun q hq => by injection hq with hq; omega)
    go_wp2_with fail
    go_ret
    refine ⟨_, rfl, ?_, hb3⟩
    rw [← compact_of hsd hperm]
    refine .inr ⟨g, cap, rfl, ?_, hrow⟩
    have : (compact d).length ≤ d.length := by
      have h1 : (compact d).length ≤ (List.range d.length).length := by
        unfold compact compactUpTo
        rw [List.length_map]
        exact List.length_filter_le _ _
      simpa using h1
    omega
end Go.Proofs.YtcgkaghabgjjlaaGreatDoor.Se

/- Contracts of package tree: Cells. -/
namespace Go.Proofs.YtcgkaghabgjjlaaGreatDoor.Tr
open Go.RowKit Go.Proofs.YtcgkaghabgjjlaaGreatDoor.Ba Go.Proofs.YtcgkaghabgjjlaaGreatDoor.Ar Go.Lib
open Go.Proofs.YtcgkaghabgjjlaaGreatDoor.Si (DebIs)
open Go.Proofs.YtcgkaghabgjjlaaGreatDoor.Se (SetAt ofL of_any set_of_own)

set_option maxRecDepth 100000 in
set_option maxHeartbeats 1000000 in
theorem cells_none (g i : Nat) (most : Int) (S : Sta) (P : Nat → Prop) (w : World) (hA : ArAt w g S P) (hi : okU i) (hN : S.N.length ≤ 1000000) (hno : levelOf S.N i < 3) :
    Calls Tryz.prog 9 #[Pt g, .int .u32 i, .int .i64 most] w fun e w' => e = .returned (.tuple #[.slice none 0 0, errV (some 4)]) ∧ Below w.heap.size w w' := by
  have hr := fun W hW => isroot_any g i S P W hW hi hN
  rw [show decide (3 ≤ levelOf S.N i) = false by simp; omega] at hr
  go_enter Tryz.func9, Tryz.ntmps9
  go_wp2_with fail
  refine (hr _ hA).mono ?_
  rintro e w1 ⟨rfl, hb1⟩
  go_wp2_with fail
  exact bodyPost_ret (v := .tuple #[.slice none 0 0, errV (some 4)]) (by simp [results, Tryz.results9, go_sem, errV]) rfl ⟨rfl, hb1⟩
set_option maxRecDepth 100000 in
set_option maxHeartbeats 1000000 in
theorem cells_big (g i d : Nat) (most : Int) (S : Sta) (P : Nat → Prop) (w : World) (hA : ArAt w g S P) (hv : lvOk S.N d i) (hd : 1 ≤ d) (hN : S.N.length ≤ 1000000) (hm : most ≤ 9223372036854775807) (hb : most < (ndAt S.N i).1.count) :
    Calls Tryz.prog 9 #[Pt g, .int .u32 i, .int .i64 most] w fun e w' => e = .returned (.tuple #[.slice none 0 0, errV (some 3)]) ∧ Below w.heap.size w w' := by
  have hr := fun W hW => isroot_any g i S P W hW (lv_okU hv hN) hN
  rw [show decide (3 ≤ levelOf S.N i) = true by have : levelOf S.N i = (d : Int) + 2 := hv; simp; omega] at hr
  have hc := fun W hW => Ar.count_any g i S P W hW (lv_okU hv hN) hN
  generalize (ndAt S.N i).1.count = n at *
  by_cases h0 : most < 0
  · have h0' : decide (most < 0) = true := by simpa using h0
    go_enter Tryz.func9, Tryz.ntmps9
    go_wp2_with fail
    refine (hr _ hA).mono ?_
    rintro e w1 ⟨rfl, hb1⟩
    go_wp2_with fail
    exact bodyPost_ret (v := .tuple #[.slice none 0 0, errV (some 3)]) (by simp [results, Tryz.results9, go_sem, errV]) rfl ⟨rfl, hb1⟩
  · have h0' : decide (most < 0) = false := by simpa using h0
    have ew : IntKind.u64.wrap most = most := by rw [IntKind.wrap_u64]; omega
    have h1 : decide (most < (n : Int)) = true := by simpa using hb
    go_enter Tryz.func9, Tryz.ntmps9
    go_wp2_with fail
    refine (hr _ hA).mono ?_
    rintro e w1 ⟨rfl, hb1⟩
    have hA1 := hA.under hb1
    go_wp2_with fail
    refine (hc _ hA1).mono ?_
    rintro e w2 ⟨rfl, hb2⟩
    have hb3 := hb1.trans (hb2.mono hb1.size)
    go_wp2_with fail
    exact bodyPost_ret (v := .tuple #[.slice none 0 0, errV (some 3)]) (by simp [results, Tryz.results9, go_sem, errV]) rfl ⟨rfl, hb3⟩
set_option maxRecDepth 100000 in
set_option maxHeartbeats 1000000 in
theorem cells_root (g i d : Nat) (most : Int) (S : Sta) (P : Nat → Prop) (w : World) (hA : ArAt w g S P) (hv : lvOk S.N d i) (hd : 1 ≤ d) (hd2 : d ≤ 42) (T : Tw S) (hN : S.N.length ≤ 1000000) (hD : DebIs w) (hm : most ≤ 9223372036854775807) (h0 : 0 ≤ most) (hb : ((ndAt S.N i).1.count : Int) ≤ most) (hl : (cellsL S.N d i (-hf ((d : Int) + 2)) (-hf ((d : Int) + 2))).length ≤ 1000000) :
    Calls Tryz.prog 9 #[Pt g, .int .u32 i, .int .i64 most] w fun e w' => ∃ v, e = .returned (.tuple #[v, .nilIface]) ∧ SetAt w' v (ofL (cellsL S.N d i (-hf ((d : Int) + 2)) (-hf ((d : Int) + 2)))) ∧ Below w.heap.size w w' := by
  have hlv : levelOf S.N i = (d : Int) + 2 := hv
  have hr := fun W hW => isroot_any g i S (fun b => P b ∧ b < w.heap.size) W hW (lv_okU hv hN) hN
  rw [show decide (3 ≤ levelOf S.N i) = true by simp; omega] at hr
  have hc := fun W hW => Ar.count_any g i S (fun b => P b ∧ b < w.heap.size) W hW (lv_okU hv hN) hN
  have hle := fun W hW => Ar.level_any g i S (fun b => P b ∧ b < w.heap.size) W hW (lv_okU hv hN) hN
  rw [hlv] at hle
  have hwh := fun W => whole_any ((d : Int) + 2) W
  have hwk := fun l v W hW hP hF hDW hG => walk_any d (-hf ((d : Int) + 2)) (-hf ((d : Int) + 2)) i g l v [] S (fun b => P b ∧ b < w.heap.size) W (SqOk.whole hd2 hd) hv hW hP hF hDW hG T hN (by simpa using hl)
  have hA0 := hA.weak (P' := fun b => P b ∧ b < w.heap.size) fun b hb hlt => ⟨hb, hlt⟩
  generalize (ndAt S.N i).1.count = n at *
  generalize cellsL S.N d i (-hf ((d : Int) + 2)) (-hf ((d : Int) + 2)) = K at *
  have HX := Lib.hid (rfl : -hf ((d : Int) + 2) = -hf ((d : Int) + 2))
  have h0' : decide (most < 0) = false := by simpa using h0
  have ew : IntKind.u64.wrap most = most := by rw [IntKind.wrap_u64]; omega
  have h1 : decide (most < (n : Int)) = false := by simpa using hb
  have HD := Lib.hid hD
  clear hA hv hlv T hD hb
  go_enter Tryz.func9, Tryz.ntmps9
  go_wp2_with fail
  refine (hr _ hA0).mono ?_
  rintro e w1 ⟨rfl, hb1⟩
  have HB1 := Lib.hid hb1
  have hA1 := hA0.under hb1
  clear hr hb1 hA0
  go_wp2_with fail
  refine (hc _ hA1).mono ?_
  rintro e w2 ⟨rfl, hb2⟩
  have HB2 := Lib.hid (HB1.out.trans (hb2.mono HB1.out.size))
  have hA2 := hA1.under hb2
  have hb3 : Below w2.heap.size w2 (w2.alloc (.cells #[.slice none 0 0] 31)) := by go_grown
  have kl := Blk.newAt w2 31 #[.slice none 0 0] _ rfl
  have HB3 := Lib.hid (HB2.out.trans (hb3.mono HB2.out.size))
  have hA3 := hA2.under hb3
  clear hc hb2 hA1 hA2 hb3
  go_upto_region 6 with fail
  have hz3 : w2.heap.size + 1 ≤ (w2.alloc (.cells #[.slice none 0 0] 31)).heap.size := by simp
  have HZ := Lib.hid hz3
  clear hz3
  generalize w2.alloc (.cells #[.slice none 0 0] 31) = w3 at *
  go_wp2_with fail
  refine (hle _ hA3).mono ?_
  rintro e w4 ⟨rfl, hb4⟩
  have HB4 := Lib.hid (HB3.out.trans (hb4.mono HB3.out.size))
  have hA4 := hA3.under hb4
  have kl4 := kl.under hb4
  clear hle hb4 hA3 kl
  go_wp2_with fail
  refine (hwh _).mono ?_
  rintro e w5 ⟨rfl, hg5⟩
  have HB5 := Lib.hid (HB4.out.trans (hg5.below.mono HB4.out.size))
  have hA5 := hA4.under hg5.below
  have kl5 := kl4.under hg5.below
  have hD5 := HD.out.below HB5.out
  have hz2 : w.heap.size ≤ w2.heap.size := HB2.out.size
  have hF : Fill w5 w2.heap.size (.slice none 0 0) [] := ⟨kl5, World.ownsRow_nil _ _ _ _⟩
  have hwc := hwk w2.heap.size _ w5 hA5 (fun b hb => by have := hb.2; omega) hF hD5 (by have := HD.out.2; omega)
  have HF := Lib.hid hF
  clear hwh hg5 hA4 kl4 hwk hA5 kl5 hD5 hF
  go_wp2_with fail
  refine hwc.mono ?_
  rintro e w6 ⟨v6, rfl, hfd⟩
  rw [List.nil_append] at hfd
  have HB6 := Lib.hid (HB5.out.trans (hfd.off.below HB5.out.size (fun b hb => by have := wk_ge HF.out b hb; omega)))
  have k6 := hfd.fill.blk
  have hs6 := set_of_own hfd.fill.own
  have v0 : w6.cell? ⟨w2.heap.size, 0, none⟩ = some v6 := k6.cell 0
  have hl6 := k6.lt
  have hof := of_any v6 K w6 hs6 (by omega)
  obtain ⟨p6, c6, rfl⟩ := own_slice hfd.fill.own
  clear hwc hfd k6 hs6
  go_wp2_with fail
  refine hof.mono ?_
  rintro e w7 ⟨v7, rfl, hs7, hb7⟩
  have HB7 := Lib.hid (HB6.out.trans (hb7.mono HB6.out.size))
  have HS7 := Lib.hid hs7
  clear hof hb7 hs7
  go_wp2_with fail
  exact bodyPost_ret (v := .tuple #[v7, .nilIface]) (by simp [results, Tryz.results9, go_sem]) rfl ⟨v7, rfl, HS7.out, HB7.out⟩
end Go.Proofs.YtcgkaghabgjjlaaGreatDoor.Tr

/- Low bits of an int. -/
namespace Go.Proofs.YtcgkaghabgjjlaaGreatDoor.Ax
theorem i64_and255 (n : Int) : bits .and .i64 n 255 = n % 256 := by
  have h127 : (BitVec.ofInt 64 255).toNat = 2 ^ 8 - 1 := by decide
  have key : (BitVec.ofInt 64 n &&& BitVec.ofInt 64 255).toNat = (n % ((2 ^ 64 : Nat) : Int)).toNat % 2 ^ 8 := by
    rw [BitVec.toNat_and, BitVec.toNat_ofInt, h127, Nat.and_two_pow_sub_one_eq_mod]
  show IntKind.i64.wrap ((BitVec.ofInt 64 n &&& BitVec.ofInt 64 255).toNat : Nat) = n % 256
  rw [key, IntKind.wrap_i64]
  omega
theorem i64_and1 (n : Int) : bits .and .i64 n 1 = n % 2 := by
  have h127 : (BitVec.ofInt 64 1).toNat = 2 ^ 1 - 1 := by decide
  have key : (BitVec.ofInt 64 n &&& BitVec.ofInt 64 1).toNat = (n % ((2 ^ 64 : Nat) : Int)).toNat % 2 ^ 1 := by
    rw [BitVec.toNat_and, BitVec.toNat_ofInt, h127, Nat.and_two_pow_sub_one_eq_mod]
  show IntKind.i64.wrap ((BitVec.ofInt 64 n &&& BitVec.ofInt 64 1).toNat : Nat) = n % 2
  rw [key, IntKind.wrap_i64]
  omega
theorem tmod_bd (a m : Int) (h : 0 < m) : -m < a.tmod m ∧ a.tmod m < m := by
  have h1 := Int.tmod_lt_of_pos a h
  have h2 := Int.tmod_lt_of_pos (-a) h
  rw [Int.neg_tmod] at h2
  omega
end Go.Proofs.YtcgkaghabgjjlaaGreatDoor.Ax

/- Wide: which sets are tried. -/
namespace Go.Proofs.YtcgkaghabgjjlaaGreatDoor.Tr
open Go.RowKit Go.Proofs.YtcgkaghabgjjlaaGreatDoor.Ba Go.Lib
open Go.Proofs.YtcgkaghabgjjlaaGreatDoor.Se (RawAt SetAt ofL flat flat_get flat_len flat_app raw_info news1 one_flat refof_any set_own mem_ofL rising_ofL Rising)

def wideC (c : C) : C := (c.1.tmod 2199023255552, c.2.1.tmod 2199023255552, c.2.2 % 2)
def wideL (L : List C) : List C := (L.take 30).map wideC
def wideS (L : List C) : List C := ofL (wideL L)
theorem wide_in {L : List C} {c : C} (h : c ∈ wideS L) : (-2199023255552 < c.1 ∧ c.1 < 2199023255552) ∧ (-2199023255552 < c.2.1 ∧ c.2.1 < 2199023255552) ∧ (c.2.2 = 0 ∨ c.2.2 = 1) := by
  have h := (mem_ofL _ _).1 h
  obtain ⟨d, _, rfl⟩ := List.mem_map.1 h
  unfold wideC
  have h1 := Ax.tmod_bd d.1 2199023255552 (by decide)
  have h2 := Ax.tmod_bd d.2.1 2199023255552 (by decide)
  exact ⟨h1, h2, by dsimp only; omega⟩
theorem wide_len (L : List C) : (wideS L).length ≤ 30 := by
  have h1 := Se.ofL_len (wideL L)
  have h2 : (wideL L).length ≤ 30 := by unfold wideL; rw [List.length_map, List.length_take]; omega
  unfold wideS
  omega
def WiR (w : World) (L : List C) (s i : Value) (wr : World) : Prop :=
  ∃ k : Nat, k ≤ L.length ∧ k ≤ 30 ∧ i = .int .i64 k ∧ wr.ownsRow w.heap.size 24 3 s k (flat ((L.take k).map wideC)) ∧ Below w.heap.size w wr
set_option maxRecDepth 100000 in
set_option maxHeartbeats 4000000 in
theorem wide_any (v : Value) (L : List C) (w : World) (h : RawAt w v L) (hL : L.length ≤ maxLen) :
    Calls Tryz.prog 7 #[v] w fun e w' => ∃ v', e = .returned v' ∧ SetAt w' v' (wideS L) ∧ Below w.heap.size w w' := by
  obtain ⟨i0, hi0, hz0, hz1, hz2⟩ := info_parts raw_info
  unfold maxLen at hL
  have HR := Lib.hid h
  have key : ∃ p cap, v = .slice p L.length cap := by
    rcases h with ⟨p, cap, rfl, rfl⟩ | ⟨g, o, cap, rfl, _, _⟩
    · exact ⟨p, cap, rfl⟩
    · exact ⟨_, _, rfl⟩
  obtain ⟨p, cap, rfl⟩ := key
  clear h
  have hown0 := World.ownsRow_made (base := w.heap.size) (e := 24) (size := 3) w #[] 0 (Nat.le_refl _) (Nat.zero_le _) (by simp)
  have HO := Lib.hid hown0
  clear hown0
  go_enter Tryz.func7, Tryz.ntmps7
  go_wp2_with fail
  go_loopw [3, 4] (fun s i wr => WiR w L s i wr) (fun _ i _ => 30 - (intOf i).toNat)
  case atStart => exact ⟨0, Nat.zero_le _, by omega, rfl, by simpa [flat] using HO.out, by go_grown⟩
  case round =>
    obtain ⟨k, hk, hk30, rfl, hown, hb⟩ := hrel
    have hz := hb.size
    have hfin : ∀ u, wr.ownsRow w.heap.size 24 3 u k (flat ((L.take k).map wideC)) → (L.take k).map wideC = wideL L → SetAt wr u (wideL L) ∧ (wideL L).length ≤ 1000 := fun u hu he => by
      have hlk : ((L.take k).map wideC).length = k := by rw [List.length_map, List.length_take]; omega
      rw [he] at hu hlk
      exact ⟨set_own (by rw [hlk]; exact hu), by omega⟩
    have HFin := Lib.hid hfin
    clear hfin
    by_cases hlt : k < L.length
    · by_cases hl30 : k < 30
      · obtain ⟨x, hx⟩ : ∃ x, L[k]? = some x := ⟨_, List.getElem?_eq_getElem hlt⟩
        have hraw := HR.out.below hb
        rcases hraw with ⟨_, _, _, hnil⟩ | ⟨g, o, cap', hv, hcs, hg⟩
        · subst hnil; simp at hlt
        · injection hv with hv1 hv2 hv3
          subst hv1 hv3
          clear hv2
          obtain ⟨f0, f1, f2⟩ := flat_get L k x hx
          have c0 := hcs _ _ f0
          have c1 := hcs _ _ f1
          have c2 := hcs _ _ f2
          rw [show o + (k * 3 + 1) = o + k * 3 + 1 by omega] at c1
          rw [show o + (k * 3 + 1 + 1) = o + k * 3 + 1 + 1 by omega] at c2
          have HT := Lib.hid (show (L.take (k + 1)).map wideC = (L.take k).map wideC ++ [wideC x] by rw [List.take_add_one, hx]; simp)
          obtain ⟨y, hyy⟩ : ∃ y, wideC x = y := ⟨_, rfl⟩
          have HY := Lib.hid hyy
          have e0 : x.1.tmod 2199023255552 = y.1 := by rw [← hyy]; rfl
          have e1 : x.2.1.tmod 2199023255552 = y.2.1 := by rw [← hyy]; rfl
          have e2 : bits .and .i64 x.2.2 1 = y.2.2 := by rw [← hyy, Ax.i64_and1]; rfl
          clear hcs f0 f1 f2 hx hyy
          have hown2 := (hown.alloc (.cells #[.int .i64 x.1, .int .i64 x.2.1, .int .i64 x.2.2] 24)).alloc (.cells #[.int .i64 y.1, .int .i64 y.2.1, .int .i64 y.2.2] 24)
          have hnew := news1 (wr.alloc (.cells #[.int .i64 x.1, .int .i64 x.2.1, .int .i64 x.2.2] 24)) 24 y
          have hba := (hb.alloc hz (.cells #[.int .i64 x.1, .int .i64 x.2.1, .int .i64 x.2.2] 24)).alloc (by simp; omega) (.cells #[.int .i64 y.1, .int .i64 y.2.1, .int .i64 y.2.2] 24)
          have hd1 : decide ((k : Int) < 30) = true := by simp; omega
          have hd2 : (k : Int) < 30 := by omega
          have hnew' : ∀ j u, (flat [y])[j]? = some u → ((wr.alloc (.cells #[.int .i64 x.1, .int .i64 x.2.1, .int .i64 x.2.2] 24)).alloc (.cells #[.int .i64 y.1, .int .i64 y.2.1, .int .i64 y.2.2] 24)).cell? ((⟨wr.heap.size + 1, 0, none⟩ : Addr).add j) = some u := fun j u hu => by
            have := hnew j u hu
            rwa [show (wr.alloc (.cells #[.int .i64 x.1, .int .i64 x.2.1, .int .i64 x.2.2] 24)).heap.size = wr.heap.size + 1 by simp] at this
          clear hnew
          go_wp2_with (at_builtin; refine wpList_append_own _ rfl _ _ 22 rfl w.heap.size 24 i0 _ 3 24 Tryz.underlying22 hi0 hz0 hz1 hz2 rfl (by decide) _ _ _ rfl hown2 ⟨wr.heap.size + 1, 0, none⟩ 1 1 (flat [y]) rfl (by simp [flat_len]) hnew' (one_flat _) (by unfold maxLen; omega) (by omega) (by simp; omega) ?_)
          intro v' w' hown' hgr _
          have HOw : Hid (w'.ownsRow w.heap.size 24 3 v' (k + 1) (flat ((L.take (k + 1)).map wideC))) := Lib.hid (by rw [HT.out, HY.out, flat_app, List.map_take]; exact hown')
          have HB' := Lib.hid (hba.grown hgr hba.size (fun q hq => (hown2.lt q hq).1))
          clear hown2 hnew' hba hown' hgr hown c0 c1 c2
          go_wp2_with fail
          exact ⟨⟨k + 1, by omega, by omega, by go_num, HOw.out, HB'.out⟩, by simp [intOf]; omega⟩
      · obtain rfl : k = 30 := by omega
        obtain ⟨hs, hl⟩ := HFin.out _ hown rfl
        have hof := fun (u : Value) (W : World) hW => refof_any u (wideL L) W hW hl
        have hd0 : decide (((30 : Nat) : Int) < (L.length : Int)) = true := by simp; omega
        go_wp2_with fail
        refine (hof _ _ hs).mono ?_
        rintro e w3 ⟨v3, rfl, hs3, hb3⟩
        have HB3 := Lib.hid (hb.trans (hb3.mono hz))
        have HS3 := Lib.hid hs3
        clear hs hs3 hof hb3
        go_wp2_with fail
        go_ret
        exact ⟨v3, rfl, HS3.out, HB3.out⟩
    · obtain rfl : k = L.length := by omega
      obtain ⟨hs, hl⟩ := HFin.out _ hown (by unfold wideL; rw [List.take_length, List.take_of_length_le (by omega)])
      have hof := fun (u : Value) (W : World) hW => refof_any u (wideL L) W hW hl
      go_wp2_with fail
      refine (hof _ _ hs).mono ?_
      rintro e w3 ⟨v3, rfl, hs3, hb3⟩
      have HB3 := Lib.hid (hb.trans (hb3.mono hz))
      have HS3 := Lib.hid hs3
      clear hs hs3 hof hb3
      go_wp2_with fail
      go_ret
      exact ⟨v3, rfl, HS3.out, HB3.out⟩
end Go.Proofs.YtcgkaghabgjjlaaGreatDoor.Tr

/- Make: an arena, and the root of a set in it. -/
namespace Go.Proofs.YtcgkaghabgjjlaaGreatDoor.Tr
open Go.RowKit Go.Proofs.YtcgkaghabgjjlaaGreatDoor.Ba Go.Proofs.YtcgkaghabgjjlaaGreatDoor.Ar Go.Lib
open Go.Proofs.YtcgkaghabgjjlaaGreatDoor.Se (RawAt own4_any set_of_own SetAt flat)

/-- There is room. -/
theorem bt_room {S S' : Sta} {L : List (Int × Int × Int)} {d i : Nat} {er : Option Nat} (h : Bt S L d i er S') (hN : ne S.N + L.length * 43 ≤ 700000) (hm : 800000 ≤ S.more) : er = none := by
  rcases h.ok with ⟨e, _⟩ | ⟨_, _, hf⟩
  · exact e
  · exfalso
    have h1 := h.len
    have h2 := em_le h.ext.tw
    have h3 := h.ext.more
    unfold full at hf
    rw [h3] at hf
    omega
theorem bt_le {S S' : Sta} {L : List (Int × Int × Int)} {d i : Nat} {er : Option Nat} (h : Bt S L d i er S') : S'.N.length ≤ ne S.N + L.length * 43 + 42 := by
  have h1 := h.len
  have h2 := em_le h.ext.tw
  omega
theorem bt_lv {S S' : Sta} {L : List (Int × Int × Int)} {d i : Nat} (h : Bt S L d i none S') : lvOk S'.N d i ∧ ∀ c, c ∈ cellsL S'.N d i (-hf ((d : Int) + 2)) (-hf ((d : Int) + 2)) ↔ c ∈ L := by
  rcases h.ok with ⟨_, h1, h2⟩ | ⟨h1, _⟩
  · exact ⟨h1, h2⟩
  · cases h1
set_option maxRecDepth 100000 in
theorem make_any (v : Value) (L : List (Int × Int × Int)) (w : World) (h : RawAt w v L) (hin : ∀ c ∈ L, insB 44 c.1 c.2.1 = true) (hh : ∀ c ∈ L, c.2.2 = 0 ∨ c.2.2 = 1) (hL : L.length ≤ 40) :
    Calls Tryz.prog 8 #[v] w fun e w' => ∃ (i d : Nat) (S : Sta), e = .returned (.tuple #[Pt w.heap.size, .int .u32 i, .bool true]) ∧ Bt (newS 1048576) L d i none S ∧ ArAt w' w.heap.size S (fun k => w.heap.size ≤ k) ∧ Below w.heap.size w w' := by
  have hn := new_any 1048576 (by omega) w
  have ho := fun W hW => own4_any v L W hW (by unfold maxLen; omega)
  rw [List.take_of_length_le hL] at ho
  have hbt := fun u (W : World) P hs hA hP => build_top u L w.heap.size (newS 1048576) P W hs hin hh (by omega) hA hP (tw_new _) (by decide)
  clear hin hh
  go_enter Tryz.func8, Tryz.ntmps8
  go_wp2_with fail
  refine hn.mono ?_
  rintro e w1 ⟨rfl, hA, hb1⟩
  clear hn
  have HA := Lib.hid hA
  have HB1 := Lib.hid hb1
  have hU := h.below hb1
  clear hA hb1 h
  go_wp2_with fail
  refine (ho _ hU).mono ?_
  rintro e w2 ⟨u, rfl, hu, hb2⟩
  have hA2 := (HA.out.under hb2).weak (P' := fun k => k = w.heap.size ∨ w2.heap.size ≤ k) (fun b hb _ => .inl hb)
  have hB2 := HB1.out.trans (hb2.mono HB1.out.size)
  have hs := set_of_own hu
  have hlt := HA.out.lt
  have hz2 := hb2.size
  have HB2 := Lib.hid hB2
  have hbc := hbt u w2 _ hs hA2 (fun k hk => .inr hk)
  clear ho hU hu hb2 hB2 hA2 hs hbt
  go_wp2_with fail
  refine hbc.mono ?_
  rintro e w3 ⟨i, er, S', d, rfl, hB, hA3, ho3⟩
  have hN0 : ne (newS 1048576).N = 0 := by decide
  obtain rfl := bt_room hB (by rw [hN0]; omega) (by decide)
  have HB3 := Lib.hid (HB2.out.trans (ho3.below HB2.out.size (fun b hb => by have := HB2.out.size; rcases hb with h | h <;> omega)))
  have HA3 := Lib.hid (hA3.weak (P' := fun k => w.heap.size ≤ k) (fun b hb _ => by have := HB2.out.size; rcases hb with h | h <;> omega))
  have HBt := Lib.hid hB
  unfold errV
  clear hbc hB hA3 ho3 hN0
  go_wp2_with fail
  go_quiet (fail)
  go_wp2_with fail
  all_goals exact bodyPost_ret (v := .tuple #[Pt w.heap.size, .int .u32 i, .bool true]) (by simp [results, Tryz.results8, go_sem]) rfl ⟨i, d, S', rfl, HBt.out, HA3.out, Ba.below_dr _ HB3.out⟩
end Go.Proofs.YtcgkaghabgjjlaaGreatDoor.Tr

/- What the document fixes of trees. -/
namespace Go.Proofs.YtcgkaghabgjjlaaGreatDoor.Tr
open Go.RowKit Go.Proofs.YtcgkaghabgjjlaaGreatDoor.Ba Go.Proofs.YtcgkaghabgjjlaaGreatDoor.Ar Go.Lib
open Go.Proofs.YtcgkaghabgjjlaaGreatDoor.Se (RawAt flat own3_any boxL)

theorem ins44 {a b : Int} (ha : -8796093022208 ≤ a ∧ a < 8796093022208) (hb : -8796093022208 ≤ b ∧ b < 8796093022208) : insB 44 a b = true := by
  unfold insB
  rw [hf_high (by omega), decide_eq_true_eq]
  exact ⟨ha, hb⟩
def LA : List (Int × Int × Int) := [(3, 0, 0), (-4, 3, 0)]
def LB : List (Int × Int × Int) := [(4, 0, 0)]
theorem la_has3 : hasB 3 (boxL LA) = true := by
  unfold hasB insB
  rw [hf_mid (by omega) (by omega)]
  decide
theorem lb_has3 : hasB 3 (boxL LB) = false := by
  unfold hasB insB
  rw [hf_mid (by omega) (by omega)]
  decide
theorem lb_has4 : hasB 4 (boxL LB) = true := by
  unfold hasB insB
  rw [hf_mid (by omega) (by omega)]
  decide
theorem la_lv {l : Nat} (h : Lst (boxL LA) l) : l = 3 := h.uniq ⟨by omega, by omega, fun m h1 h2 => by omega, fun _ => la_has3⟩
theorem lb_lv {l : Nat} (h : Lst (boxL LB) l) : l = 4 := h.uniq ⟨by omega, by omega, fun m h1 h2 => by obtain rfl : m = 3 := (by omega); exact lb_has3, fun _ => lb_has4⟩
theorem raw_two {w : World} {T : TypeId} {n : Nat} {a b h c e k : Int} (kb : Blk w n T #[.int .i64 a, .int .i64 b, .int .i64 h, .int .i64 c, .int .i64 e, .int .i64 k]) : RawAt w (.slice (some ⟨n, 0, none⟩) 2 2) [(a, b, h), (c, e, k)] :=
  .inr ⟨n, 0, 2, rfl, fun j u hu => by
    rw [Nat.zero_add, kb.cell j, ← hu]
    simp [flat, Go.Proofs.YtcgkaghabgjjlaaGreatDoor.Se.encC], kb.lt⟩
theorem raw_one {w : World} {T : TypeId} {n : Nat} {a b h : Int} (kb : Blk w n T #[.int .i64 a, .int .i64 b, .int .i64 h]) : RawAt w (.slice (some ⟨n, 0, none⟩) 1 1) [(a, b, h)] :=
  .inr ⟨n, 0, 1, rfl, fun j u hu => by
    rw [Nat.zero_add, kb.cell j, ← hu]
    simp [flat, Go.Proofs.YtcgkaghabgjjlaaGreatDoor.Se.encC], kb.lt⟩
set_option maxRecDepth 100000 in
theorem awake_any (w : World) : Calls Tryz.prog 6 #[] w fun e w' => e = .returned (.bool true) ∧ Below w.heap.size w w' := by
  have hm1 := fun v W h => make_any v LA W h (by intro c hc; simp only [LA, List.mem_cons, List.not_mem_nil, or_false] at hc; rcases hc with rfl | rfl <;> exact ins44 (by decide) (by decide)) (by intro c hc; simp only [LA, List.mem_cons, List.not_mem_nil, or_false] at hc; rcases hc with rfl | rfl <;> decide) (by decide)
  have hm2 := fun v W h => make_any v LB W h (by intro c hc; simp only [LB, List.mem_cons, List.not_mem_nil, or_false] at hc; rcases hc with rfl; exact ins44 (by decide) (by decide)) (by intro c hc; simp only [LB, List.mem_cons, List.not_mem_nil, or_false] at hc; rcases hc with rfl; decide) (by decide)
  go_enter Tryz.func6, Tryz.ntmps6
  go_wp2_with fail
  have hr1 : RawAt (w.alloc (.cells #[.int .i64 3, .int .i64 0, .int .i64 0, .int .i64 (-4), .int .i64 3, .int .i64 0] 24)) (.slice (some ⟨w.heap.size, 0, none⟩) 2 2) LA := raw_two (Blk.newAt w _ _ _ rfl)
  have hb1 : Below w.heap.size w (w.alloc (.cells #[.int .i64 3, .int .i64 0, .int .i64 0, .int .i64 (-4), .int .i64 3, .int .i64 0] 24)) := by go_grown
  generalize w.alloc (.cells #[.int .i64 3, .int .i64 0, .int .i64 0, .int .i64 (-4), .int .i64 3, .int .i64 0] 24) = W1 at *
  refine (hm1 _ _ hr1).mono ?_
  rintro e w2 ⟨i1, d1, S1, rfl, hB1, hA1, hb2⟩
  obtain rfl : d1 = 1 := by have := la_lv hB1.lv; omega
  have HB2 := Lib.hid (hb1.trans (hb2.mono hb1.size))
  have HBt := Lib.hid hB1
  clear hm1 hr1 hb1 hb2 hB1
  go_wp2_with fail
  have hr2 : RawAt (w2.alloc (.cells #[.int .i64 4, .int .i64 0, .int .i64 0] 24)) (.slice (some ⟨w2.heap.size, 0, none⟩) 1 1) LB := raw_one (Blk.newAt w2 _ _ _ rfl)
  have hb3 : Below w2.heap.size w2 (w2.alloc (.cells #[.int .i64 4, .int .i64 0, .int .i64 0] 24)) := by go_grown
  generalize w2.alloc (.cells #[.int .i64 4, .int .i64 0, .int .i64 0] 24) = W3 at *
  refine (hm2 _ _ hr2).mono ?_
  rintro e w4 ⟨i2, d2, S2, rfl, hB2, hA2, hb4⟩
  obtain rfl : d2 = 2 := by have := lb_lv hB2.lv; omega
  have HB4 := Lib.hid (HB2.out.trans ((hb3.trans (hb4.mono hb3.size)).mono HB2.out.size))
  have hA1' := (hA1.under hb3).under hb4
  have hn1 := bt_le HBt.out
  have hn2 := bt_le hB2
  have hlv1 := (bt_lv HBt.out).1
  have hlv2 := (bt_lv hB2).1
  have hz : ne (newS 1048576).N = 0 := by decide
  have hla : LA.length = 2 := rfl
  have hlb : LB.length = 1 := rfl
  rw [hz, hla] at hn1
  rw [hz, hlb] at hn2
  have hl1 := fun W hW => Ar.level_any W1.heap.size i1 S1 (fun k => W1.heap.size ≤ k) W hW (by have := lv_le hlv1; show _ < _; omega) (by omega)
  have hl2 := fun W hW => Ar.level_any W3.heap.size i2 S2 (fun k => W3.heap.size ≤ k) W hW (by have := lv_le hlv2; show _ < _; omega) (by omega)
  rw [show levelOf S1.N i1 = 3 from hlv1] at hl1
  rw [show levelOf S2.N i2 = 4 from hlv2] at hl2
  have hgt := fun W hW => get_yes W1.heap.size i1 1 (3, 0, 0) S1 (fun k => W1.heap.size ≤ k) W hW (by omega) HBt.out.ext.tw hlv1 (by omega) (by omega) (.inl rfl) (ins_mono (l := 3) (by unfold insB; rw [hf_mid (by omega) (by omega)]; decide) (by omega))
  have hmem : ((3, 0, 0) : Int × Int × Int) ∈ cellsL S1.N 1 i1 (-hf (((1 : Nat) : Int) + 2)) (-hf (((1 : Nat) : Int) + 2)) := ((bt_lv HBt.out).2 _).2 (by decide)
  rw [decide_eq_true hmem] at hgt
  have hha := fun W => half_any 44 W
  rw [hf_high (by omega)] at hha
  have hon := fun W => own3_any (3, 0, 0) W
  clear hm2 hr2 hb3 hb4 hB2 hn1 hn2 hlv1 hlv2 hz hla hlb hmem hA1
  go_wp2_with fail
  refine (hl1 _ hA1').mono ?_
  rintro e w5 ⟨rfl, hb5⟩
  have HB5 := Lib.hid (HB4.out.trans (hb5.mono HB4.out.size))
  have hA1 := hA1'.under hb5
  have hA2' := hA2.under hb5
  clear hb5 hA1' hA2 hl1
  go_wp2_with fail
  refine (hl2 _ hA2').mono ?_
  rintro e w6 ⟨rfl, hb6⟩
  have HB6 := Lib.hid (HB5.out.trans (hb6.mono HB5.out.size))
  have hA1' := hA1.under hb6
  clear hb6 hA1 hA2' hl2
  go_wp2_with fail
  refine (hon _).mono ?_
  rintro e w7 ⟨rfl, hb7⟩
  have HB7 := Lib.hid (HB6.out.trans (hb7.mono HB6.out.size))
  have hA1 := hA1'.under hb7
  clear hb7 hA1' hon
  go_wp2_with fail
  refine (hgt _ hA1).mono ?_
  rintro e w8 ⟨rfl, hb8⟩
  have HB8 := Lib.hid (HB7.out.trans (hb8.mono HB7.out.size))
  clear hb8 hA1 hgt
  go_wp2_with fail
  refine (hha _).mono ?_
  rintro e w' ⟨rfl, rfl⟩
  go_wp2_with fail
  go_ret
  exact ⟨rfl, HB8.out⟩
end Go.Proofs.YtcgkaghabgjjlaaGreatDoor.Tr

/- What the row's list gives: the table by which the lowest bit is found. -/
namespace Go.Proofs.YtcgkaghabgjjlaaGreatDoor.Si
open Go.RowKit Go.WideShapes Go.ChangeShapes Go.Proofs.YtcgkaghabgjjlaaGreatDoor.Ba

/-- A WORLD FOR THE WITNESS: the settled one, the table's block holding its numbers. -/
noncomputable def laidWorldT (os : Os) : World :=
  { World.holding Tryz.prog os ⟨#[], #[], []⟩ with heap := (World.holding Tryz.prog os ⟨#[], #[], []⟩).heap.modify 0 fun
      | .cells _ t frozen => .cells (deb.map fun z => Value.int .u8 z).toArray t frozen
      | o => o }
theorem gDeb : Tryz.prog.globalNamed "math/bits.deBruijn32tab" = some 0 := by kernel_rfl
theorem gDebType : (Tryz.prog.globals[0]?).map (·.type) = some 130 := by kernel_rfl
theorem cellsDeb : Tryz.prog.cellsOf 130 = 32 := by kernel_rfl
theorem cellsU8 : Tryz.prog.cellsOf 5 = 1 := by kernel_rfl
theorem cellsPt : Tryz.prog.cellsOf 38 = 2 := by kernel_rfl
theorem deb_of_laid {W : World} (h : laidMet Tryz.prog [("math/bits.deBruijn32tab", Rows.laid_math_bits_deBruijn32tab)] W) : DebIs W := by
  have ht : Lib.TabIs Tryz.prog W "math/bits.deBruijn32tab" .u8 deb := Lib.tabIs_of_head gDeb gDebType Tryz.underlying130 Tryz.underlying5 cellsU8 cellsDeb h
  refine ⟨fun i hi => ht.cell gDeb i hi, ?_⟩
  have := ht.cell gDeb 0 (by decide)
  rcases Nat.lt_or_ge 0 W.heap.size with h' | h'
  · exact h'
  · simp [World.cell?, Array.getElem?_eq_none h'] at this
end Go.Proofs.YtcgkaghabgjjlaaGreatDoor.Si

/-
  TreeFew: for every number and every list of cells it answers true: what is no root is refused by Cells and Put, has no box and no cell; and in an arena of 64 nodes a set of the list's cells is built, and read again, or there is no room for it.
  Conditions: the listed table (math/bits.deBruijn32tab) reads as the card says.
-/
namespace Go.Proofs.YtcgkaghabgjjlaaGreatDoor.Tr
open Go.RowKit Go.Proofs.YtcgkaghabgjjlaaGreatDoor.Ba Go.Proofs.YtcgkaghabgjjlaaGreatDoor.Ar Go.Lib
open Go.Proofs.YtcgkaghabgjjlaaGreatDoor.Si (DebIs)
open Go.Proofs.YtcgkaghabgjjlaaGreatDoor.Se (RawAt SetAt ofL own4_any set_of_own are_any rising_ofL mem_ofL ofL_eq)

theorem u32_nat {i : Int} (h : (Lit.int .u32 i).wf = true) : ∃ n : Nat, i = n ∧ okU n := by
  simp [Lit.wf, IntKind.min, IntKind.max, IntKind.signed, IntKind.bits] at h
  exact ⟨i.toNat, by omega, by show _ < _; omega⟩
theorem raw_of {w : World} {v : Value} {L : List C} (h : SetAt w v L) : RawAt w v L := by
  rcases h with ⟨rfl, rfl⟩ | ⟨g, cap, rfl, _, hr⟩
  · exact .inl ⟨none, 0, rfl, rfl⟩
  · exact .inr ⟨g, 0, cap, rfl, hr.flat, hr.2⟩
theorem set_off {w w' : World} {v : Value} {K : List C} {g : Nat} {S : Sta} {P : Nat → Prop} (h : SetAt w v K) (hA : ArAt w g S P) (ho : Off (fun k => k = g ∨ w.heap.size ≤ k) w w') : SetAt w' v K := by
  rcases h with h | ⟨q, cap, hv, hc, hr⟩
  · exact .inl h
  · refine .inr ⟨q, cap, hv, hc, ?_⟩
    by_cases hq : q = g
    · subst hq
      obtain ⟨p, c, lv, jn, ⟨-, c1, -, -⟩, -⟩ := hA.cells
      cases K with
      | nil => exact ⟨fun i d hd => by simp at hd, Nat.lt_of_lt_of_le hr.2 ho.size⟩
      | cons x K =>
        have := (hr.1 0 x rfl).2.1
        simp only [Nat.zero_mul, Nat.zero_add] at this
        rw [c1] at this
        simp at this
    · have e : w'.heap[q]? = w.heap[q]? := ho.block q hr.2 (fun h => by rcases h with h | h; exact hq h; have := hr.2; omega)
      exact ⟨fun i d hd => by
        obtain ⟨a, b, k⟩ := hr.1 i d hd
        exact ⟨(World.cell?_of_block (a := ⟨q, _, none⟩) e).trans a, (World.cell?_of_block (a := ⟨q, _, none⟩) e).trans b, (World.cell?_of_block (a := ⟨q, _, none⟩) e).trans k⟩, Nat.lt_of_lt_of_le hr.2 ho.size⟩
theorem lv_empty {n : Nat} : levelOf (newS 64).N n < 3 := by
  unfold levelOf ndAt newS
  by_cases h0 : n = 0
  · simp [h0, leaf0]
  · simp [h0]
theorem lv_neg {n : Nat} (h : n ≠ 0) : levelOf (newS 64).N n = -1 := by
  unfold levelOf ndAt newS
  simp [h]
theorem neq_e4 (w : World) : (binOp .neq 34 (.iface 56 (.int .i64 4)) (.iface 56 (.int .i64 4))).run Tryz.prog w = .ok (.bool false) w := by kernel_rfl
theorem eql_e8 (w : World) : (binOp .eql 34 (.iface 56 (.int .i64 8)) (.iface 56 (.int .i64 8))).run Tryz.prog w = .ok (.bool true) w := by kernel_rfl
set_option maxRecDepth 100000 in
set_option maxHeartbeats 2000000 in
theorem treeFew_walk (i : Int) (w_i : (Lit.int .u32 i).wf = true) (v : Value) (L : List C) (w : World) (hD : DebIs w) (h : RawAt w v L) (hL : L.length ≤ maxLen) :
    Calls Tryz.prog 5 #[.int .u32 i, v] w fun e w' => e = .returned (.bool true) ∧ Below w.heap.size w w' := by
  obtain ⟨n, rfl, hn⟩ := u32_nat w_i
  clear w_i
  have hl3 := lv_empty (n := n)
  have hN0 : (newS 64).N.length ≤ 1000000 := by decide
  have HD := Lib.hid hD
  have HR := Lib.hid h
  have HL := Lib.hid hL
  have e4 := neq_e4
  have e8 := eql_e8
  clear hD h hL
  go_enter Tryz.func5, Tryz.ntmps5
  go_wp2_with fail
  refine (awake_any _).mono ?_
  rintro e w1 ⟨rfl, hb1⟩
  have HB1 := Lib.hid hb1
  clear hb1
  go_wp2_with fail
  refine (new_any 64 (by decide) _).mono ?_
  rintro e w2 ⟨rfl, hA2, hb2⟩
  have HB2 := Lib.hid (HB1.out.trans (hb2.mono HB1.out.size))
  have hz1 : w.heap.size ≤ w1.heap.size := HB1.out.size
  clear hb2
  go_upto_region 5 with fail
  go_cut [30] (fun t30 wx => t30 = .bool false ∧ Below w2.heap.size w2 wx)
  case first =>
    by_cases h0 : n = 0
    · subst h0
      go_wp2_with fail
      go_meet
      exact ⟨rfl, Below.refl _ _⟩
    · have hlv := fun W hW => Ar.level_any w1.heap.size n (newS 64) (fun b => b = w1.heap.size) W hW hn hN0
      rw [lv_neg h0] at hlv
      have hd : decide ((0 : Int) < (n : Int)) = true := by simp; omega
      go_wp2_with fail
      refine (hlv _ hA2).mono ?_
      rintro e w3 ⟨rfl, hb3⟩
      go_wp2_with fail
      go_meet
      exact ⟨rfl, hb3⟩
  case rest =>
    obtain ⟨rfl, hbc⟩ := hcut
    generalize wc = w3 at *
    have HB3 := Lib.hid (HB2.out.trans (hbc.mono HB2.out.size))
    have hA3 := hA2.under hbc
    clear hbc hA2
    have hce := fun W hW => cells_none w1.heap.size n 9 (newS 64) (fun b => b = w1.heap.size) W hW hn hN0 hl3
    have hpu := fun W hW => put_none w1.heap.size n (0, 0, 0) true (newS 64) (fun b => b = w1.heap.size) W hW hn hN0 hl3
    have hbo := fun W hW => box_none w1.heap.size n (newS 64) (fun b => b = w1.heap.size) W hW hn hN0 hl3
    have hge := fun W hW => get_none w1.heap.size n (0, 0, 0) (newS 64) (fun b => b = w1.heap.size) W hW hn hN0 hl3
    unfold errV at hce hpu
    go_wp2_with fail
    refine (hce _ hA3).mono ?_
    rintro e w4 ⟨rfl, hb4⟩
    have HB4 := Lib.hid (HB3.out.trans (hb4.mono HB3.out.size))
    have hA4 := hA3.under hb4
    clear hce hb4 hA3
    go_wp2_with fail
    refine (hpu _ hA4).mono ?_
    rintro e w5 ⟨rfl, hb5⟩
    have HB5 := Lib.hid (HB4.out.trans (hb5.mono HB4.out.size))
    have hA5 := hA4.under hb5
    clear hpu hb5 hA4
    go_wp2_with fail
    refine (hbo _ hA5).mono ?_
    rintro e w6 ⟨rfl, hb6⟩
    have HB6 := Lib.hid (HB5.out.trans (hb6.mono HB5.out.size))
    have hA6 := hA5.under hb6
    clear hbo hb6 hA5
    go_wp2_with fail
    have hbx : Below w6.heap.size w6 (w6.alloc (.cells #[.int .i64 0, .int .i64 0, .int .i64 0, .int .i64 0] 40)) := by go_grown
    have hA6x := hA6.under hbx
    have HB6x := Lib.hid (HB6.out.trans (hbx.mono HB6.out.size))
    generalize w6.alloc (.cells #[.int .i64 0, .int .i64 0, .int .i64 0, .int .i64 0] 40) = w6x at *
    refine (hge _ hA6x).mono ?_
    rintro e w7 ⟨rfl, hb7⟩
    have HB7 := Lib.hid (HB6x.out.trans (hb7.mono HB6x.out.size))
    have hA7 := hA6x.under hb7
    have hwi := wide_any v L w7 (HR.out.below HB7.out) HL.out
    clear hge hb7 hA6
    go_wp2_with fail
    refine hwi.mono ?_
    rintro e w8 ⟨vs, rfl, hs8, hb8⟩
    have HB8 := Lib.hid (HB7.out.trans (hb8.mono HB7.out.size))
    have hA8 := hA7.under hb8
    have hsi : ∀ c ∈ wideS L, (-2199023255552 < c.1 ∧ c.1 < 2199023255552) ∧ (-2199023255552 < c.2.1 ∧ c.2.1 < 2199023255552) ∧ (c.2.2 = 0 ∨ c.2.2 = 1) := fun c hc => wide_in hc
    have hsl := wide_len L
    have HRs : Hid (Go.Proofs.YtcgkaghabgjjlaaGreatDoor.Se.Rising (wideS L)) := Lib.hid (rising_ofL _)
    clear hwi hb8 hA7
    generalize wideS L = K at *
    have hso := own4_any vs K w8 (raw_of hs8) (by unfold maxLen; omega)
    rw [List.take_of_length_le (by omega)] at hso
    go_wp2_with fail
    refine hso.mono ?_
    rintro e w9 ⟨u, rfl, hu, hb9⟩
    have HB9 := Lib.hid (HB8.out.trans (hb9.mono HB8.out.size))
    have hA9 := (hA8.under hb9).weak (P' := fun k => k = w1.heap.size ∨ w9.heap.size ≤ k) (fun b hb _ => .inl hb)
    have hs9 := hs8.below hb9
    have HA9 := Lib.hid hA9
    have hbu := build_top u K w1.heap.size (newS 64) (fun k => k = w1.heap.size ∨ w9.heap.size ≤ k) w9 (set_of_own hu) (fun c hc => ins44 (by have := hsi c hc; omega) (by have := hsi c hc; omega)) (fun c hc => (hsi c hc).2.2) (by omega) hA9 (fun k hk => .inr hk) (tw_new _) (by decide)
    have HSi := Lib.hid hsi
    clear hso hu hb9 hA8 hs8 hA9 hsi
    go_wp2_with fail
    refine hbu.mono ?_
    rintro e wA ⟨j, er, S', d, rfl, hB, hAA, hoA⟩
    have HBA := Lib.hid (HB9.out.trans (hoA.below HB9.out.size (fun b hb => by have := HB9.out.size; rcases hb with h | h <;> omega)))
    have hsA : SetAt wA vs K := set_off hs9 HA9.out hoA
    have hB' := Lib.hid hB
    clear hbu hs9
    have hN9 := bt_le hB'.out
    have hz64 : ne (newS 64).N = 0 := by decide
    rw [hz64] at hN9
    rcases er with _ | c0
    · obtain ⟨hlv, hmem⟩ := bt_lv hB'.out
      have hd1 := hB'.out.pos
      have hd2 : d ≤ 42 := by have := hB'.out.lv.hi; omega
      have hnd := cells_nodup S'.N d j (-hf ((d : Int) + 2)) (-hf ((d : Int) + 2))
      have hcl : (cellsL S'.N d j (-hf ((d : Int) + 2)) (-hf ((d : Int) + 2))).length ≤ K.length := nodup_le hnd fun c hc => (hmem c).1 hc
      have hcn := count_eq hB'.out.ext.tw hlv (x := -hf ((d : Int) + 2)) (y := -hf ((d : Int) + 2))
      have hKe : ofL (cellsL S'.N d j (-hf ((d : Int) + 2)) (-hf ((d : Int) + 2))) = K := ofL_eq HRs.out fun c => (hmem c).symm
      have hcr := cells_root w1.heap.size j d 100 S' _ wA hAA hlv hd1 hd2 hB'.out.ext.tw (by omega) (HD.out.below HBA.out) (by decide) (by decide) (by omega) (by omega)
      rw [hKe] at hcr
      unfold errV
      clear hlv hmem hnd hcl hcn hKe hAA hB hoA
      go_wp2_with fail
      refine hcr.mono ?_
      rintro e wB ⟨vb, rfl, hsB, hbB⟩
      have HBB := Lib.hid (HBA.out.trans (hbB.mono HBA.out.size))
      have har := are_any vb vs K wB hsB (hsA.below hbB) (by omega)
      clear hcr hsB hbB hsA
      go_wp2_with fail
      refine har.mono ?_
      rintro e wC ⟨rfl, hbC⟩
      have HBC := Lib.hid (HBB.out.trans (hbC.mono HBB.out.size))
      clear har hbC
      go_wp2_with fail
      go_ret
      exact ⟨rfl, HBC.out⟩
    · obtain ⟨rfl, rfl, hfull, hcap⟩ : c0 = 8 ∧ j = 0 ∧ full S' ∧ ((S'.N.length + 1 : Nat) : Int) ≤ 64 + S'.more := by
        rcases hB'.out.ok with ⟨h1, _⟩ | ⟨h1, h2, h3⟩
        · cases h1
        · injection h1 with h1
          exact ⟨h1, h2, h3, hB'.out.ext.cap (by decide)⟩
      have hm : S'.more = 0 := hB'.out.ext.more
      unfold full at hfull
      have hle := Ar.len_any w1.heap.size S' _ wA hAA (by omega)
      rw [show ((S'.N.length + 1 : Nat) : Int) = 64 by omega] at hle
      unfold errV
      clear hfull hcap hB hoA hsA
      go_wp2_with fail
      refine hle.mono ?_
      rintro e w' ⟨rfl, rfl⟩
      go_wp2_with fail
      go_ret
      exact ⟨rfl, HBA.out⟩
open Go.Proofs.YtcgkaghabgjjlaaGreatDoor.Si Go.Proofs.YtcgkaghabgjjlaaGreatDoor.Se
section treeFewFrame
open Go.ChangeShapes Go.WideShapes Go.ChangeAt Go.RowKit Go.Joins
set_option maxRecDepth 100000 in
theorem treeFew_contract (H : Type) (enc : TypeId × Value → H) (W : World) (base : Nat) (args : Array Value) (ds gs : List (DataW H)) (before : List MemPlace)
    (hval : ∀ (j : Nat) t v, Tryz.f5.params[j]? = some t → args[j]? = some v → Value.okWide Tryz.prog W .any base t v)
    (hW : DataW.Whole enc Tryz.prog Tryz.f5.params.toList Rows.treeFewSpec.vars false W args.toList ds gs before) (hL : laidMetH Tryz.prog Rows.treeFewRow.laid W) :
    Calls Tryz.prog 5 args W fun e W' => ∃ v, e = .returned v ∧ Rows.treeFewSpec.post enc Tryz.prog Tryz.f5 false true false false W args v W' := by
  have hW' := hW
  obtain ⟨p, q, hA0, hV, rfl, hfz, hnd⟩ := hW
  have hA : DataW.TrodAll enc Tryz.prog W 0 (fun _ => true) true Tryz.f5.params.toList args.toList ds p := hA0
  rw [Tryz.params5] at hA hval
  obtain ⟨v0, vs0, d0, ds0, p0, q0, hargs, rfl, rfl, h0, r0⟩ := trodAll_cons hA
  obtain ⟨v1, vs1, d1, ds1, p1, q1, rfl, rfl, rfl, h1, r1⟩ := trodAll_cons r0
  obtain ⟨rfl, rfl, rfl⟩ := trodAll_nil r1
  obtain rfl : args = #[v0, v1] := by cases args; simp_all
  obtain ⟨rfl, rfl⟩ := trodVars_none hV
  obtain ⟨i, rfl, rfl, rfl, w_i⟩ := open_int Tryz.underlying28 (hval 0 28 v0 rfl rfl) h0
  obtain ⟨L1, hraw1, hlen1⟩ := open_cells (hval 1 22 v1 rfl rfl) h1
  refine (treeFew_walk i w_i v1 L1 W (deb_of_laid hL) hraw1 hlen1).mono fun e W' ⟨he, hb⟩ => ?_
  exact ⟨_, he, law_post laidOut rfl rfl Tryz.underlying4 (by kernel_rfl) hW' hb ⟨rfl, rfl, rfl⟩⟩
theorem treeFew_met (os : Os) : laidMet Tryz.prog Rows.treeFewRow.laid ((laidWorldT os).forCall (fun _ _ => 0) ⟨#[], #[.int .u32 0, .slice none 0 0], []⟩).memory :=
  laidMet_of_run' 8 (by kernel_rfl) (by kernel_rfl)
theorem treeFew_reads (os : Os) {H : Type} (enc : TypeId × Value → H) : ∃ places, DataW.whole enc Tryz.prog ((laidWorldT os).forCall (fun _ _ => 0) ⟨#[], #[.int .u32 0, .slice none 0 0], []⟩).memory Tryz.f5.params.toList Rows.treeFewSpec.vars false #[(.int .u32 0 : Value), (.slice none 0 0 : Value)].toList 8 = some ([.lit (.int .u32 0), .nil], [], places) :=
  ⟨[], by kernel_rfl⟩
set_option maxRecDepth 100000 in
theorem treeFew_lifted (os : Os) (started : os.Started) (H : Type) (enc : TypeId × Value → H) (F : Stop.Interp) :
    ReturnsInHanded {} Tryz.checked os 5 .any ((OpenSpec.ofChange Rows.treeFewSpec).preRow enc Tryz.prog Tryz.f5 Rows.treeFewRow.domain false Rows.treeFewRow.laid) (((OpenSpec.ofChange Rows.treeFewSpec).at F).post enc Tryz.prog Tryz.f5 false true false false) := by
  obtain ⟨places, hx⟩ := treeFew_reads os enc
  refine returnsInHanded_of_row (C := Tryz.checked) (s := OpenSpec.ofChange Rows.treeFewSpec) own started (by kernel_rfl) Tryz.func5
    (witness_row_at (enc := enc) (C := Tryz.checked) false (laidWorldT os) #[.int .u32 0, .slice none 0 0] rfl (by kernel_rfl) (by kernel_rfl) (by kernel_rfl)
      (OpenSpec.preRow_of_cond 8 hx (by kernel_rfl) (fun k hk => by cases hk) (by kernel_rfl) (treeFew_met os))) ?_
  intro W base args ds gs before hval hW _ _ _ hL _ _
  exact treeFew_contract H enc W base args ds gs before hval hW hL
theorem treeFew_said : Rows.TreeFewSaid :=
  OpenClaim.holds_of_cond 5 Tryz.f5 rfl rfl rfl rfl rfl rfl rfl ⟨rfl, rfl, rfl, rfl, rfl⟩ rfl rfl rfl rfl rfl (by kernel_rfl) Tryz.func5 (by kernel_rfl)
    (of_decide_eq_true (by kernel_rfl)) (by unfold Func.isWrapper; first | (rw [if_pos (by decide +kernel)]; kernel_rfl) | (rw [if_neg (by decide +kernel)]; exact ⟨rfl, rfl⟩))
    (fun os started H enc _ F => by rw [OpenClaim.pre_eq_preRow]; exact treeFew_lifted os started H enc F)
theorem treeFew_plain (f : FuncId) (fn : Func) (hf : Tryz.pinned.checked.prog.funcNamed "honeycomb/honeycomblaw13.TreeFew" = some f) (hfn : Tryz.pinned.checked.prog.funcs[f]? = some fn) :
    true = Tryz.pinned.checked.prog.looks [] ∧ ∀ (j : Nat) t, fn.params[j]? = some t → Tryz.pinned.checked.prog.wantsStandIn t = false := by
  obtain rfl : f = 5 := Option.some.inj ((show Tryz.prog.funcNamed "honeycomb/honeycomblaw13.TreeFew" = some 5 by kernel_rfl).symm.trans hf) |>.symm
  obtain rfl : fn = Tryz.f5 := (Option.some.inj (Tryz.func5.symm.trans hfn)).symm
  refine ⟨by kernel_rfl, fun j t ht => ?_⟩
  have hall : (Tryz.f5.params.toList.all fun t => !Tryz.prog.wantsStandIn t) = true := by kernel_rfl
  have hm : t ∈ Tryz.f5.params.toList := by simpa using Array.mem_of_getElem? ht
  have := List.all_eq_true.1 hall t hm
  exact (show Tryz.prog.wantsStandIn t = false by simpa using this)
end treeFewFrame
/-- TreeFew: the card: for every input the law answers true. -/
theorem treeFew_card : Rows.TreeFewCardSaid :=
  Claim7.holds_tied_plain_at .later [] _ _ _ _ treeFew_said (fun _ h => by cases h) (by kernel_rfl) (fun _ h => by cases h) treeFew_row_tie rfl ⟨rfl, rfl⟩ (by kernel_rfl) rfl treeFew_plain (by kernel_rfl)
end Go.Proofs.YtcgkaghabgjjlaaGreatDoor.Tr
namespace Go.Proofs.YtcgkaghabgjjlaaGreatDoor
theorem treeFew_proved : Rows.TreeFewCardSaid := Tr.treeFew_card
#print axioms treeFew_proved
end Go.Proofs.YtcgkaghabgjjlaaGreatDoor
