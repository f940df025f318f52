/- Lists of cells in memory. -/
import Derived.Test.YtcmfkdhadmfgkaaDoorSeM
import Derived.Test.YtcmfkdhadmfgkaaDoorEq
namespace Go.Proofs.YtcmfkdhadmfgkaaDoor.Se
open Go.RowKit Go.Proofs.YtcmfkdhadmfgkaaDoor.Ax Go.Proofs.YtcmfkdhadmfgkaaDoor.Ba Go.Lib

abbrev Ce (c : C) : Value := .agg #[.int .i64 c.1, .int .i64 c.2.1, .int .i64 c.2.2]
def encC (c : C) : List Value := [.int .i64 c.1, .int .i64 c.2.1, .int .i64 c.2.2]
/-! Lists of cells in memory. -/
/-- A block holds a list of cells from its start on. -/
def Row (w : World) (g : Nat) (L : List C) : Prop :=
  (∀ (i : Nat) (d : C), L[i]? = some d → w.cell? ⟨g, i * 3, none⟩ = some (.int .i64 d.1) ∧ w.cell? ⟨g, i * 3 + 1, none⟩ = some (.int .i64 d.2.1) ∧ w.cell? ⟨g, i * 3 + 1 + 1, none⟩ = some (.int .i64 d.2.2)) ∧ g < w.heap.size
theorem Row.below {w w' : World} {g : Nat} {L : List C} (h : Row w g L) (hb : Below w.heap.size w w') : Row w' g L :=
  ⟨fun i d hd => ⟨(hb.cell (p := ⟨g, i * 3, none⟩) h.2).trans (h.1 i d hd).1, (hb.cell (p := ⟨g, i * 3 + 1, none⟩) h.2).trans (h.1 i d hd).2.1, (hb.cell (p := ⟨g, i * 3 + 1 + 1, none⟩) h.2).trans (h.1 i d hd).2.2⟩, Nat.lt_of_lt_of_le h.2 hb.size⟩
/-- A value is a list of cells: nil, or a row from a block's start on. -/
def SetAt (w : World) (v : Value) (L : List C) : Prop :=
  (v = .slice none 0 0 ∧ L = []) ∨ ∃ g cap : Nat, v = .slice (some ⟨g, 0, none⟩) L.length cap ∧ L.length ≤ cap ∧ Row w g L
theorem SetAt.below {w w' : World} {v : Value} {L : List C} (h : SetAt w v L) (hb : Below w.heap.size w w') : SetAt w' v L := by
  rcases h with h | ⟨g, cap, hv, hc, hr⟩
  · exact .inl h
  · exact .inr ⟨g, cap, hv, hc, hr.below hb⟩
def flat (l : List C) : List Value := l.flatMap encC
theorem flat_len (l : List C) : (flat l).length = l.length * 3 := by
  induction l with
  | nil => rfl
  | cons d l ih => simp [flat, encC] at ih ⊢; omega
theorem flat_app (l m : List C) : flat (l ++ m) = flat l ++ flat m := by simp [flat]
theorem flat_one (d : C) : flat [d] = [.int .i64 d.1, .int .i64 d.2.1, .int .i64 d.2.2] := by simp [flat, encC]
theorem flat_get : ∀ (L : List C) (i : Nat) (d : C), L[i]? = some d → (flat L)[i * 3]? = some (.int .i64 d.1) ∧ (flat L)[i * 3 + 1]? = some (.int .i64 d.2.1) ∧ (flat L)[i * 3 + 1 + 1]? = some (.int .i64 d.2.2)
  | [], i, d, h => by simp at h
  | c :: L, 0, d, h => by
    simp at h
    subst h
    simp [flat, encC]
  | c :: L, i + 1, d, h => by
    have ih := flat_get L i d (by simpa using h)
    have e : flat (c :: L) = .int .i64 c.1 :: .int .i64 c.2.1 :: .int .i64 c.2.2 :: flat L := by simp [flat, encC]
    rw [e, show (i + 1) * 3 = i * 3 + 1 + 1 + 1 by omega]
    simpa using ih
/-- .. cell by cell, and back. -/
theorem flat_cells {w : World} {g : Nat} : ∀ {L : List C} (o : Nat), (∀ (i : Nat) (d : C), L[i]? = some d → w.cell? ⟨g, o + i * 3, none⟩ = some (.int .i64 d.1) ∧ w.cell? ⟨g, o + (i * 3 + 1), none⟩ = some (.int .i64 d.2.1) ∧ w.cell? ⟨g, o + (i * 3 + 1 + 1), none⟩ = some (.int .i64 d.2.2)) →
    ∀ j u, (flat L)[j]? = some u → w.cell? ⟨g, o + j, none⟩ = some u
  | [], _, _, j, u, hu => by simp [flat] at hu
  | c :: L, o, h, j, u, hu => by
    have e : flat (c :: L) = .int .i64 c.1 :: .int .i64 c.2.1 :: .int .i64 c.2.2 :: flat L := by simp [flat, encC]
    rw [e] at hu
    obtain ⟨h0, h1, h2⟩ := h 0 c (by simp)
    match j, hu with
    | 0, hu => simp at hu; subst hu; simpa using h0
    | 1, hu => simp at hu; subst hu; simpa using h1
    | 2, hu => simp at hu; subst hu; simpa using h2
    | j + 3, hu =>
      have := flat_cells (w := w) (g := g) (L := L) (o + 3) (fun i d hd => by
        have hq := h (i + 1) d (by simpa using hd)
        rw [show o + (i + 1) * 3 = o + 3 + i * 3 by omega, show o + ((i + 1) * 3 + 1) = o + 3 + (i * 3 + 1) by omega, show o + ((i + 1) * 3 + 1 + 1) = o + 3 + (i * 3 + 1 + 1) by omega] at hq
        exact hq) j u (by simpa using hu)
      rw [show o + (j + 3) = o + 3 + j by omega]
      exact this
theorem row_of_own {w : World} {base g cap : Nat} {L : List C} (h : w.ownsRow base 72 3 (.slice (some ⟨g, 0, none⟩) L.length cap) L.length (flat L)) (hg : g < w.heap.size) : Row w g L := by
  refine ⟨fun i d hd => ?_, hg⟩
  have hi : i < L.length := (List.getElem?_eq_some_iff.1 hd).1
  obtain ⟨h1, h2, h3⟩ := flat_get L i d hd
  exact ⟨(h.cellAt (i * 3) (by omega)).trans h1, (h.cellAt (i * 3 + 1) (by omega)).trans h2, (h.cellAt (i * 3 + 1 + 1) (by omega)).trans h3⟩
theorem Row.flat {w : World} {g : Nat} {L : List C} (h : Row w g L) : ∀ j u, (flat L)[j]? = some u → w.cell? ⟨g, 0 + j, none⟩ = some u :=
  flat_cells 0 fun i d hd => by simpa [Nat.zero_add] using h.1 i d hd
theorem one_flat (L : List C) : ∀ u ∈ flat L, u.oneCell' = true := by
  intro u hu
  simp only [flat, List.mem_flatMap, encC] at hu
  obtain ⟨c, _, hu⟩ := hu
  simp at hu
  rcases hu with rfl | rfl | rfl <;> rfl
/-- Memory of one's own is a list of cells. -/
theorem set_of_own {w : World} {base : Nat} {v : Value} {L : List C} (h : w.ownsRow base 72 3 v L.length (flat L)) : SetAt w v L := by
  rcases h.2 with ⟨hv, hn⟩ | ⟨g, cap, cur, hv, hb, hh, hc, _⟩
  · refine .inl ⟨hv, ?_⟩
    simp_all
  · refine .inr ⟨g, cap, hv, hc, ?_⟩
    subst hv
    refine row_of_own h ?_
    rcases Nat.lt_or_ge g w.heap.size with h' | h'
    · exact h'
    · rw [Array.getElem?_eq_none h'] at hh; cases hh
theorem cell_info : (Tryd.prog.info? 72).map (fun i => (i.zero, i.size, i.bytes)) = some (some (.agg #[.int .i64 0, .int .i64 0, .int .i64 0]), 3, 24) := by kernel_rfl
/-- The first of a list that is a row. -/
theorem take_set {w : World} {g cap : Nat} {L : List C} (hr : Row w g L) (m : Nat) (hm : m ≤ L.length) (hc : L.length ≤ cap) : SetAt w (.slice (some ⟨g, 0, none⟩) m cap) (L.take m) := by
  refine .inr ⟨g, cap, by rw [List.length_take, Nat.min_eq_left hm], by rw [List.length_take]; omega, fun i d hd => ?_, hr.2⟩
  rw [List.getElem?_take] at hd
  split at hd
  · exact hr.1 i d hd
  · cases hd
theorem set_own {w : World} {base : Nat} {e : TypeId} {v : Value} {L : List C} (h : w.ownsRow base e 3 v L.length (flat L)) : SetAt w v L := by
  rcases h.2 with ⟨hv, hn⟩ | ⟨g, cap, cur, hv, hb, hh, hc, _⟩
  · refine .inl ⟨hv, ?_⟩
    simp_all
  · refine .inr ⟨g, cap, hv, hc, ?_⟩
    subst hv
    refine ⟨fun i d hd => ?_, ?_⟩
    · have hi : i < L.length := (List.getElem?_eq_some_iff.1 hd).1
      obtain ⟨h1, h2, h3⟩ := flat_get L i d hd
      exact ⟨(h.cellAt (i * 3) (by omega)).trans h1, (h.cellAt (i * 3 + 1) (by omega)).trans h2, (h.cellAt (i * 3 + 1 + 1) (by omega)).trans h3⟩
    · rcases Nat.lt_or_ge g w.heap.size with h' | h'
      · exact h'
      · rw [Array.getElem?_eq_none h'] at hh; cases hh
theorem raw_info : (Tryd.prog.info? 67).map (fun i => (i.zero, i.size, i.bytes)) = some (some (.agg #[.int .i64 0, .int .i64 0, .int .i64 0]), 3, 24) := by kernel_rfl
theorem news1 (w1 : World) (t : TypeId) (x : C) : ∀ j u, (flat [x])[j]? = some u → (w1.alloc (.cells #[.int .i64 x.1, .int .i64 x.2.1, .int .i64 x.2.2] t)).cell? ((⟨w1.heap.size, 0, none⟩ : Addr).add j) = some u := fun j u hu => by
  rw [Addr.add_lit, Nat.zero_add, (Blk.newAt w1 _ _ _ rfl).cell j]
  simpa [flat, encC] using hu
theorem told3_any (c : C) (w : World) :
    Calls Tryd.prog 29 #[Ce c] w fun e w' => e = .returned (Ce c) ∧ Below w.heap.size w w' := by
  go_enter Tryd.func29, Tryd.ntmps29
  go_wp2
  exact bodyPost_ret (v := Ce c) (by simp [results, Tryd.results29, go_sem]) rfl ⟨rfl, by go_grown⟩
theorem own3_any (c : C) (w : World) :
    Calls Tryd.prog 59 #[Ce c] w fun e w' => e = .returned (Ce c) ∧ Below w.heap.size w w' := by
  go_enter Tryd.func59, Tryd.ntmps59
  go_wp2
  exact bodyPost_ret (v := Ce c) (by simp [results, Tryd.results59, go_sem]) rfl ⟨rfl, by go_grown⟩
theorem keepB {W w' : World} {B : Nat} {t : TypeId} {a b h : Value} (k : Blk W B t #[a, b, h]) (hb : Below W.heap.size W w') : w'.cell? ⟨B, 0, none⟩ = some a ∧ w'.cell? ⟨B, 1, none⟩ = some b ∧ w'.cell? ⟨B, 2, none⟩ = some h :=
  ⟨(k.under hb).cell 0, (k.under hb).cell 1, (k.under hb).cell 2⟩
end Go.Proofs.YtcmfkdhadmfgkaaDoor.Se
