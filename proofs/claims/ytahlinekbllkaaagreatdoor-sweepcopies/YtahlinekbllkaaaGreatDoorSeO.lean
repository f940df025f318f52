/- An argument that is a list of cells; the laws' Own of it. -/
import Derived.Test.YtahlinekbllkaaaGreatDoorSeL
import Derived.Test.YtahlinekbllkaaaGreatDoorBsR
import Derived.Deep.Slices
namespace Go.Proofs.YtahlinekbllkaaaGreatDoor.Se
open Go.RowKit Go.Proofs.YtahlinekbllkaaaGreatDoor.Ax Go.Proofs.YtahlinekbllkaaaGreatDoor.Ba Go.Lib

/-! An argument that is a list of cells. -/
/-- A list of the document's cells that came in, from any place of a block on. -/
def RawAt (w : World) (v : Value) (L : List C) : Prop :=
  (∃ p cap, v = .slice p 0 cap ∧ L = []) ∨ ∃ g o cap : Nat, v = .slice (some ⟨g, o, none⟩) L.length cap ∧ (∀ j u, (flat L)[j]? = some u → w.cell? ⟨g, o + j, none⟩ = some u) ∧ g < w.heap.size
theorem RawAt.below {w w' : World} {v : Value} {L : List C} (h : RawAt w v L) (hb : Below w.heap.size w w') : RawAt w' v L := by
  rcases h with h | ⟨g, o, cap, hv, hc, hg⟩
  · exact .inl h
  · exact .inr ⟨g, o, cap, hv, fun j u hu => (hb.cell (p := ⟨g, o + j, none⟩) hg).trans (hc j u hu), Nat.lt_of_lt_of_le hg hb.size⟩
section
open Go.ChangeShapes Go.WideShapes Go.Deep
theorem rawCells : Tryz.prog.cellsOf 24 = 3 := by kernel_rfl
set_option maxRecDepth 100000 in
theorem open_cells {H : Type} {enc : TypeId × Value → H} {w : World} {base : Nat} {spare : Nat → Bool} {held : Bool} {r : Reach} {b0 : Nat} {v : Value} {d : DataW H} {p : List MemPlace}
    (hv : Value.okWide Tryz.prog w r b0 22 v) (h : DataW.Trod enc Tryz.prog w base spare held 22 v d p) :
    ∃ L : List C, RawAt w v L ∧ L.length ≤ maxLen := by
  obtain ⟨a0, n0, c0, rfl⟩ := okWide_slice Tryz.underlying22 hv
  obtain ⟨fuel, hf⟩ := h
  rcases Go.Deep.open_slice Tryz.underlying22 hf with ⟨hcs, _⟩ | ⟨a, len, cap, m, n, D, Pl, hcs, _, hl, hm, hmm, _, hi⟩
  · simp [Value.cells] at hcs
    obtain ⟨rfl, rfl, rfl⟩ := hcs
    exact ⟨[], .inl ⟨none, 0, rfl, rfl⟩, by simp⟩
  · simp [Value.cells] at hcs
    obtain ⟨rfl, rfl, rfl⟩ := hcs
    have hle : n0 ≤ m := by rw [hmm]; split <;> omega
    have hget : ∀ i, i < n0 → ∃ c : C, w.cell? (a.add (i * 3)) = some (.int .i64 c.1) ∧ w.cell? ((a.add (i * 3)).add 1) = some (.int .i64 c.2.1) ∧ w.cell? ((a.add (i * 3)).add 2) = some (.int .i64 c.2.2) := by
      intro i hil
      obtain ⟨cs, hc, ht⟩ := hi i (by omega)
      rw [rawCells] at hc
      obtain ⟨_, hcl, hat⟩ := World.cells?_some hc
      match cs, hcl with
      | [x0, x1, x2], _ =>
        obtain ⟨y0, y1, y2, n', _, _, g0, g1, g2⟩ := trod_struct3 Tryz.underlying24 ht
        have cI : Tryz.prog.cellsOf 2 = 1 := by kernel_rfl
        have cN : Tryz.prog.cellsOf 3 = 1 := by kernel_rfl
        simp only [cI, cN] at g0 g1 g2
        obtain ⟨x, e0, _, _⟩ := DataW.trod_int Tryz.underlying2 g0
        obtain ⟨y, e1, _, _⟩ := DataW.trod_int Tryz.underlying2 g1
        obtain ⟨z, e2, _, _⟩ := DataW.trod_int Tryz.underlying3 g2
        simp at e0 e1 e2
        subst e0 e1 e2
        have h0 := hat 0 (by decide)
        rw [show (a.add (i * 3)).add 0 = a.add (i * 3) from rfl] at h0
        exact ⟨(x, y, z), h0, hat 1 (by decide), hat 2 (by decide)⟩
    have hn : n0 ≤ maxLen := by omega
    rcases Nat.eq_zero_or_pos n0 with h0 | h0
    · subst h0
      exact ⟨[], .inl ⟨_, _, rfl, rfl⟩, by simp⟩
    · obtain ⟨g, o, sp⟩ := a
      obtain rfl : sp = none := by
        obtain ⟨c, hc, _⟩ := hget 0 h0
        cases sp with
        | none => rfl
        | some s =>
          simp only [Nat.zero_mul, Addr.add, if_true, World.cell?] at hc
          split at hc <;> simp at hc
      have hg : g < w.heap.size := by
        obtain ⟨c, hc, _⟩ := hget 0 h0
        rcases Nat.lt_or_ge g w.heap.size with h' | h'
        · exact h'
        · simp [World.cell?, Addr.add_lit, Array.getElem?_eq_none h'] at hc
      let f : Nat → C := fun i => if h : i < n0 then Classical.choose (hget i h) else (0, 0, 0)
      have hfs : ∀ i, i < n0 → w.cell? ⟨g, o + i * 3, none⟩ = some (.int .i64 (f i).1) ∧ w.cell? ⟨g, o + (i * 3 + 1), none⟩ = some (.int .i64 (f i).2.1) ∧ w.cell? ⟨g, o + (i * 3 + 1 + 1), none⟩ = some (.int .i64 (f i).2.2) := by
        intro i hil
        have hs := Classical.choose_spec (hget i hil)
        have e : f i = Classical.choose (hget i hil) := dif_pos hil
        rw [e]
        generalize Classical.choose (hget i hil) = c at hs ⊢
        simp only [Addr.add_lit] at hs
        rw [show o + (i * 3 + 1) = o + i * 3 + 1 by omega, show o + (i * 3 + 1 + 1) = o + i * 3 + 2 by omega]
        exact hs
      have hlen : ((List.range n0).map f).length = n0 := by simp
      refine ⟨(List.range n0).map f, .inr ⟨g, o, c0, by rw [hlen], flat_cells o fun i x hx => ?_, hg⟩, by rw [hlen]; exact hn⟩
      have hil : i < n0 := by have := (List.getElem?_eq_some_iff.1 hx).1; simpa using this
      have e : f i = x := by rw [List.getElem?_map, List.getElem?_range hil] at hx; simpa using hx
      rw [← e]
      exact hfs i hil
end
def OwR (w : World) (L : List C) (s i : Value) (wr : World) : Prop :=
  ∃ k : Nat, k ≤ L.length ∧ k ≤ 40 ∧ i = .int .i64 k ∧ wr.ownsRow w.heap.size 53 3 s k (flat (L.take k)) ∧ Below w.heap.size w wr
set_option maxRecDepth 100000 in
set_option maxHeartbeats 4000000 in
theorem own4_any (v : Value) (L : List C) (w : World) (h : RawAt w v L) (hL : L.length ≤ maxLen) :
    Calls Tryz.prog 28 #[v] w fun e w' => ∃ v', e = .returned v' ∧ w'.ownsRow w.heap.size 53 3 v' (L.take 40).length (flat (L.take 40)) ∧ Below w.heap.size w w' := by
  obtain ⟨i0, hi0, hz0, hz1, hz2⟩ := info_parts cell_info
  unfold maxLen at hL
  have HR := Lib.hid h
  have key : ∃ p cap, v = .slice p L.length cap := by
    rcases h with ⟨p, cap, rfl, rfl⟩ | ⟨g, o, cap, rfl, _, _⟩
    · exact ⟨p, cap, rfl⟩
    · exact ⟨_, _, rfl⟩
  obtain ⟨p, cap, rfl⟩ := key
  clear h
  have hown0 := World.ownsRow_made (base := w.heap.size) (e := 53) (size := 3) w #[] 0 (Nat.le_refl _) (Nat.zero_le _) (by simp)
  have HO := Lib.hid hown0
  clear hown0
  go_enter Tryz.func28, Tryz.ntmps28
  go_wp2_with fail
  go_loopw [3, 4] (fun s i wr => OwR w L s i wr) (fun _ i _ => 40 - (intOf i).toNat)
  case atStart => exact ⟨0, Nat.zero_le _, by omega, rfl, by simpa [flat] using HO.out, by go_grown⟩
  case round =>
    obtain ⟨k, hk, hk40, rfl, hown, hb⟩ := hrel
    have hz := hb.size
    by_cases hlt : k < L.length
    · by_cases hl40 : k < 40
      · obtain ⟨x, hx⟩ : ∃ x, L[k]? = some x := ⟨_, List.getElem?_eq_getElem hlt⟩
        have hraw := HR.out.below hb
        rcases hraw with ⟨_, _, _, hnil⟩ | ⟨g, o, cap', hv, hcs, hg⟩
        · subst hnil; simp at hlt
        · injection hv with hv1 hv2 hv3
          subst hv1 hv3
          clear hv2
          obtain ⟨f0, f1, f2⟩ := flat_get L k x hx
          have c0 := hcs _ _ f0
          have c1 := hcs _ _ f1
          have c2 := hcs _ _ f2
          rw [show o + (k * 3 + 1) = o + k * 3 + 1 by omega] at c1
          rw [show o + (k * 3 + 1 + 1) = o + k * 3 + 1 + 1 by omega] at c2
          have HT := Lib.hid (show L.take (k + 1) = L.take k ++ [x] by rw [List.take_add_one, hx]; rfl)
          clear hcs f0 f1 f2 hx
          go_wp2_with fail
          refine (own3_any x _).mono ?_
          rintro e w1 ⟨rfl, hb1⟩
          have hown1 := own_below hown hb1
          have hb2 := hb.trans (hb1.mono hz)
          have hzz := hb2.size
          have hown2 := hown1.alloc (.cells #[.int .i64 x.1, .int .i64 x.2.1, .int .i64 x.2.2] 53)
          have hnew : ∀ j u, (flat [x])[j]? = some u → (w1.alloc (.cells #[.int .i64 x.1, .int .i64 x.2.1, .int .i64 x.2.2] 53)).cell? ((⟨w1.heap.size, 0, none⟩ : Addr).add j) = some u := fun j u hu => by
            rw [Addr.add_lit, Nat.zero_add, (Blk.newAt w1 _ _ _ rfl).cell j]
            simpa [flat, encC] using hu
          go_wp2_with (at_builtin; refine wpList_append_own _ rfl _ _ 31 rfl w.heap.size 53 i0 _ 3 24 Tryz.underlying31 hi0 hz0 hz1 hz2 rfl (by decide) _ _ _ rfl hown2 ⟨w1.heap.size, 0, none⟩ 1 1 (flat [x]) rfl (by simp [flat_len]) hnew (one_flat [x]) (by unfold maxLen; omega) (by omega) (by simp; omega) ?_)
          intro v' w' hown' hgr _
          have hb' : Below w.heap.size w w' := (hb2.alloc hzz _).grown hgr (by simp; omega) (fun q hq => (hown2.lt q hq).1)
          go_wp2_with fail
          go_roundw
          case rel => exact ⟨k + 1, by omega, by omega, by go_num, by rw [HT.out, flat_app]; exact hown', hb'⟩
          case measure => simp [intOf]; omega
      · obtain rfl : k = 40 := by omega
        have HT := Lib.hid (show (L.take 40).length = 40 by rw [List.length_take]; omega)
        go_wp2_with fail
        go_ret
        exact ⟨_, rfl, by rw [HT.out]; exact hown, hb⟩
    · obtain rfl : k = L.length := by omega
      have HT := Lib.hid (show L.take 40 = L by rw [List.take_of_length_le]; omega)
      go_wp2_with fail
      go_ret
      rw [HT.out]
      exact ⟨_, rfl, by simpa using hown, hb⟩
end Go.Proofs.YtahlinekbllkaaaGreatDoor.Se
