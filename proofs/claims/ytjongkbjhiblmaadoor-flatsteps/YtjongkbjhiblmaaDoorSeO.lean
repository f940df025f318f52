/- An argument that is a list of cells; the laws' Own of it. -/
import Derived.Test.YtjongkbjhiblmaaDoorSeL
import Derived.Test.YtjongkbjhiblmaaDoorBsR
import Derived.Deep.Slices
namespace Go.Proofs.YtjongkbjhiblmaaDoor.Se
open Go.RowKit Go.Proofs.YtjongkbjhiblmaaDoor.Ax Go.Proofs.YtjongkbjhiblmaaDoor.Ba Go.Lib

/-! An argument that is a list of cells. -/
/-- A list of the document's cells that came in, from any place of a block on. -/
def RawAt (w : World) (v : Value) (L : List C) : Prop :=
  (∃ p cap, v = .slice p 0 cap ∧ L = []) ∨ ∃ g o cap : Nat, v = .slice (some ⟨g, o, none⟩) L.length cap ∧ (∀ j u, (flat L)[j]? = some u → w.cell? ⟨g, o + j, none⟩ = some u) ∧ g < w.heap.size
theorem RawAt.below {w w' : World} {v : Value} {L : List C} (h : RawAt w v L) (hb : Below w.heap.size w w') : RawAt w' v L := by
  rcases h with h | ⟨g, o, cap, hv, hc, hg⟩
  · exact .inl h
  · exact .inr ⟨g, o, cap, hv, fun j u hu => (hb.cell (p := ⟨g, o + j, none⟩) hg).trans (hc j u hu), Nat.lt_of_lt_of_le hg hb.size⟩
section
open Go.ChangeShapes Go.WideShapes Go.Deep
theorem rawCells : Tryd.prog.cellsOf 58 = 3 := by kernel_rfl
set_option maxRecDepth 100000 in
theorem open_cells {H : Type} {enc : TypeId × Value → H} {w : World} {base : Nat} {spare : Nat → Bool} {held : Bool} {r : Reach} {b0 : Nat} {v : Value} {d : DataW H} {p : List MemPlace}
    (hv : Value.okWide Tryd.prog w r b0 26 v) (h : DataW.Trod enc Tryd.prog w base spare held 26 v d p) :
    ∃ L : List C, RawAt w v L ∧ L.length ≤ maxLen := by
  obtain ⟨a0, n0, c0, rfl⟩ := okWide_slice Tryd.underlying26 hv
  obtain ⟨fuel, hf⟩ := h
  rcases Go.Deep.open_slice Tryd.underlying26 hf with ⟨hcs, _⟩ | ⟨a, len, cap, m, n, D, Pl, hcs, _, hl, hm, hmm, _, hi⟩
  · simp [Value.cells] at hcs
    obtain ⟨rfl, rfl, rfl⟩ := hcs
    exact ⟨[], .inl ⟨none, 0, rfl, rfl⟩, by simp⟩
  · simp [Value.cells] at hcs
    obtain ⟨rfl, rfl, rfl⟩ := hcs
    have hle : n0 ≤ m := by rw [hmm]; split <;> omega
    have hget : ∀ i, i < n0 → ∃ c : C, w.cell? (a.add (i * 3)) = some (.int .i64 c.1) ∧ w.cell? ((a.add (i * 3)).add 1) = some (.int .i64 c.2.1) ∧ w.cell? ((a.add (i * 3)).add 2) = some (.int .i64 c.2.2) := by
      intro i hil
      obtain ⟨cs, hc, ht⟩ := hi i (by omega)
      rw [rawCells] at hc
      obtain ⟨_, hcl, hat⟩ := World.cells?_some hc
      match cs, hcl with
      | [x0, x1, x2], _ =>
        obtain ⟨y0, y1, y2, n', _, _, g0, g1, g2⟩ := trod_struct3 Tryd.underlying58 ht
        have cI : Tryd.prog.cellsOf 2 = 1 := by kernel_rfl
        have cN : Tryd.prog.cellsOf 3 = 1 := by kernel_rfl
        simp only [cI, cN] at g0 g1 g2
        obtain ⟨x, e0, _, _⟩ := DataW.trod_int Tryd.underlying2 g0
        obtain ⟨y, e1, _, _⟩ := DataW.trod_int Tryd.underlying2 g1
        obtain ⟨z, e2, _, _⟩ := DataW.trod_int Tryd.underlying3 g2
        simp at e0 e1 e2
        subst e0 e1 e2
        have h0 := hat 0 (by decide)
        rw [show (a.add (i * 3)).add 0 = a.add (i * 3) from rfl] at h0
        exact ⟨(x, y, z), h0, hat 1 (by decide), hat 2 (by decide)⟩
    have hn : n0 ≤ maxLen := by omega
    rcases Nat.eq_zero_or_pos n0 with h0 | h0
    · subst h0
      exact ⟨[], .inl ⟨_, _, rfl, rfl⟩, by simp⟩
    · obtain ⟨g, o, sp⟩ := a
      obtain rfl : sp = none := by
        obtain ⟨c, hc, _⟩ := hget 0 h0
        cases sp with
        | none => rfl
        | some s =>
          simp only [Nat.zero_mul, Addr.add, if_true, World.cell?] at hc
          split at hc <;> simp at hc
      have hg : g < w.heap.size := by
        obtain ⟨c, hc, _⟩ := hget 0 h0
        rcases Nat.lt_or_ge g w.heap.size with h' | h'
        · exact h'
        · simp [World.cell?, Addr.add_lit, Array.getElem?_eq_none h'] at hc
      let f : Nat → C := fun i => if h : i < n0 then Classical.choose (hget i h) else (0, 0, 0)
      have hfs : ∀ i, i < n0 → w.cell? ⟨g, o + i * 3, none⟩ = some (.int .i64 (f i).1) ∧ w.cell? ⟨g, o + (i * 3 + 1), none⟩ = some (.int .i64 (f i).2.1) ∧ w.cell? ⟨g, o + (i * 3 + 1 + 1), none⟩ = some (.int .i64 (f i).2.2) := by
        intro i hil
        have hs := Classical.choose_spec (hget i hil)
        have e : f i = Classical.choose (hget i hil) := dif_pos hil
        rw [e]
        generalize Classical.choose (hget i hil) = c at hs ⊢
        simp only [Addr.add_lit] at hs
        rw [show o + (i * 3 + 1) = o + i * 3 + 1 by omega, show o + (i * 3 + 1 + 1) = o + i * 3 + 2 by omega]
        exact hs
      have hlen : ((List.range n0).map f).length = n0 := by simp
      refine ⟨(List.range n0).map f, .inr ⟨g, o, c0, by rw [hlen], flat_cells o fun i x hx => ?_, hg⟩, by rw [hlen]; exact hn⟩
      have hil : i < n0 := by have := (List.getElem?_eq_some_iff.1 hx).1; simpa using this
      have e : f i = x := by rw [List.getElem?_map, List.getElem?_range hil] at hx; simpa using hx
      rw [← e]
      exact hfs i hil
end
end Go.Proofs.YtjongkbjhiblmaaDoor.Se
