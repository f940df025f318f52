/- Boxes of nodes: mathematics. -/
import Derived.Test.YtahlinekbllkaaaGreatDoorTrW10
namespace Go.Proofs.YtahlinekbllkaaaGreatDoor.Tr
open Go.Proofs.YtahlinekbllkaaaGreatDoor.Ar Go.Proofs.YtahlinekbllkaaaGreatDoor.Mp
open Go.Proofs.YtahlinekbllkaaaGreatDoor.Si (cAt mem_pos)
open Go.Proofs.YtahlinekbllkaaaGreatDoor.Se (Q bstep boxL)

/-- A box: nothing lies out of it, and each side is touched. -/
structure Bxs (q : Q) (L : List C) : Prop where
  all : ∀ c ∈ L, (q.1 ≤ c.1 ∧ c.1 ≤ q.2.2.1) ∧ (q.2.1 ≤ c.2.1 ∧ c.2.1 ≤ q.2.2.2)
  t0 : ∃ c ∈ L, c.1 = q.1
  t1 : ∃ c ∈ L, c.2.1 = q.2.1
  t2 : ∃ c ∈ L, c.1 = q.2.2.1
  t3 : ∃ c ∈ L, c.2.1 = q.2.2.2
theorem Bxs.uniq {q r : Q} {L : List C} (h : Bxs q L) (k : Bxs r L) : q = r := by
  obtain ⟨c0, m0, e0⟩ := h.t0
  obtain ⟨c1, m1, e1⟩ := h.t1
  obtain ⟨c2, m2, e2⟩ := h.t2
  obtain ⟨c3, m3, e3⟩ := h.t3
  obtain ⟨d0, n0, f0⟩ := k.t0
  obtain ⟨d1, n1, f1⟩ := k.t1
  obtain ⟨d2, n2, f2⟩ := k.t2
  obtain ⟨d3, n3, f3⟩ := k.t3
  have a0 := k.all _ m0
  have a1 := k.all _ m1
  have a2 := k.all _ m2
  have a3 := k.all _ m3
  have b0 := h.all _ n0
  have b1 := h.all _ n1
  have b2 := h.all _ n2
  have b3 := h.all _ n3
  obtain ⟨qa, qb, qc, qd⟩ := q
  obtain ⟨ra, rb, rc, rd⟩ := r
  dsimp only at *
  rw [Prod.mk.injEq, Prod.mk.injEq, Prod.mk.injEq]
  omega
theorem Bxs.mem {q : Q} {L M : List C} (h : Bxs q L) (hm : ∀ c, c ∈ M ↔ c ∈ L) : Bxs q M := by
  obtain ⟨h0, ⟨c0, m0, e0⟩, ⟨c1, m1, e1⟩, ⟨c2, m2, e2⟩, ⟨c3, m3, e3⟩⟩ := h
  exact ⟨fun c hc => h0 c ((hm c).1 hc), ⟨c0, (hm _).2 m0, e0⟩, ⟨c1, (hm _).2 m1, e1⟩, ⟨c2, (hm _).2 m2, e2⟩, ⟨c3, (hm _).2 m3, e3⟩⟩
theorem fold_hit : ∀ (L : List C) (q : Q), ((L.foldl bstep q).1 = q.1 ∨ ∃ c ∈ L, c.1 = (L.foldl bstep q).1) ∧ ((L.foldl bstep q).2.1 = q.2.1 ∨ ∃ c ∈ L, c.2.1 = (L.foldl bstep q).2.1) ∧ ((L.foldl bstep q).2.2.1 = q.2.2.1 ∨ ∃ c ∈ L, c.1 = (L.foldl bstep q).2.2.1) ∧ ((L.foldl bstep q).2.2.2 = q.2.2.2 ∨ ∃ c ∈ L, c.2.1 = (L.foldl bstep q).2.2.2)
  | [], q => ⟨.inl rfl, .inl rfl, .inl rfl, .inl rfl⟩
  | x :: L, q => by
    obtain ⟨h0, h1, h2, h3⟩ := fold_hit L (bstep q x)
    rw [List.foldl_cons]
    have e : ((bstep q x).1 = q.1 ∨ x.1 = (bstep q x).1) ∧ ((bstep q x).2.1 = q.2.1 ∨ x.2.1 = (bstep q x).2.1) ∧ ((bstep q x).2.2.1 = q.2.2.1 ∨ x.1 = (bstep q x).2.2.1) ∧ ((bstep q x).2.2.2 = q.2.2.2 ∨ x.2.1 = (bstep q x).2.2.2) := by
      unfold bstep
      dsimp only
      omega
    obtain ⟨e0, e1, e2, e3⟩ := e
    refine ⟨?_, ?_, ?_, ?_⟩
    · rcases h0 with h | ⟨c, hc, h⟩
      · rcases e0 with e | e
        · exact .inl (h.trans e)
        · exact .inr ⟨x, by simp, e.trans h.symm⟩
      · exact .inr ⟨c, by simp [hc], h⟩
    · rcases h1 with h | ⟨c, hc, h⟩
      · rcases e1 with e | e
        · exact .inl (h.trans e)
        · exact .inr ⟨x, by simp, e.trans h.symm⟩
      · exact .inr ⟨c, by simp [hc], h⟩
    · rcases h2 with h | ⟨c, hc, h⟩
      · rcases e2 with e | e
        · exact .inl (h.trans e)
        · exact .inr ⟨x, by simp, e.trans h.symm⟩
      · exact .inr ⟨c, by simp [hc], h⟩
    · rcases h3 with h | ⟨c, hc, h⟩
      · rcases e3 with e | e
        · exact .inl (h.trans e)
        · exact .inr ⟨x, by simp, e.trans h.symm⟩
      · exact .inr ⟨c, by simp [hc], h⟩
theorem bxs_box {L : List C} (h : L ≠ []) : Bxs (boxL L) L := by
  cases L with
  | nil => exact absurd rfl h
  | cons x L =>
    rw [boxL_cons]
    have ho := fold_out (x :: L) (x.1, x.2.1, x.1, x.2.1)
    obtain ⟨h0, h1, h2, h3⟩ := fold_hit (x :: L) (x.1, x.2.1, x.1, x.2.1)
    refine ⟨fun c hc => by have := ho.2 c hc; omega, ?_, ?_, ?_, ?_⟩
    · rcases h0 with h | h
      · exact ⟨x, by simp, h.symm⟩
      · exact h
    · rcases h1 with h | h
      · exact ⟨x, by simp, h.symm⟩
      · exact h
    · rcases h2 with h | h
      · exact ⟨x, by simp, h.symm⟩
      · exact h
    · rcases h3 with h | h
      · exact ⟨x, by simp, h.symm⟩
      · exact h
theorem bxs_eq {q : Q} {L : List C} (h : Bxs q L) : boxL L = q := by
  obtain ⟨c, hc, _⟩ := h.t0
  exact (bxs_box (fun e => by rw [e] at hc; simp at hc)).uniq h
theorem box_same {L M : List C} (h : ∀ c, c ∈ L ↔ c ∈ M) : boxL L = boxL M := by
  by_cases h0 : M = []
  · subst h0
    have : L = [] := by
      cases L with
      | nil => rfl
      | cons x L => have := (h x).1 (by simp); simp at this
    rw [this]
  · exact bxs_eq ((bxs_box h0).mem h)
/-- So much further. -/
def shQ (q : Q) (x y : Int) : Q := (q.1 + x, q.2.1 + y, q.2.2.1 + x, q.2.2.2 + y)
def shC (x y : Int) (c : C) : C := (c.1 + x, c.2.1 + y, c.2.2)
theorem Bxs.shift {q : Q} {L : List C} (h : Bxs q L) (x y : Int) : Bxs (shQ q x y) (L.map (shC x y)) := by
  obtain ⟨h0, ⟨c0, m0, e0⟩, ⟨c1, m1, e1⟩, ⟨c2, m2, e2⟩, ⟨c3, m3, e3⟩⟩ := h
  refine ⟨fun c hc => ?_, ⟨_, List.mem_map_of_mem m0, ?_⟩, ⟨_, List.mem_map_of_mem m1, ?_⟩, ⟨_, List.mem_map_of_mem m2, ?_⟩, ⟨_, List.mem_map_of_mem m3, ?_⟩⟩
  · obtain ⟨c', hc', rfl⟩ := List.mem_map.1 hc
    have := h0 c' hc'
    unfold shQ shC
    dsimp only
    omega
  all_goals
    unfold shQ shC
    dsimp only
    omega
theorem cells_sh0 (N : List Nd) (i : Nat) (x y u v : Int) : cellsL N 0 i (x + u) (y + v) = (cellsL N 0 i x y).map (shC u v) := by
  unfold cellsL
  generalize Si.pos (ndAt N i).1.bits 32 = K
  rw [List.map_map]
  refine List.map_congr_left fun b _ => ?_
  unfold cAt shC
  dsimp only [Function.comp]
  rw [Prod.mk.injEq, Prod.mk.injEq]
  exact ⟨by omega, by omega, rfl⟩
theorem cells_sh (N : List Nd) (d : Nat) : ∀ (i : Nat) (x y u v : Int), cellsL N d i (x + u) (y + v) = (cellsL N d i x y).map (shC u v) := by
  induction d with
  | zero => exact cells_sh0 N
  | succ d ih =>
    intro i x y u v
    have e : ∀ q, cellsL N d (kd (ndAt N i).1.k q) (px d (x + u) q) (py d (y + v) q) = (cellsL N d (kd (ndAt N i).1.k q) (px d x q) (py d y q)).map (shC u v) := fun q => by
      have e1 : px d (x + u) q = px d x q + u := by unfold px; omega
      have e2 : py d (y + v) q = py d y q + v := by unfold py; omega
      rw [e1, e2, ih]
    rw [cells_succ, cells_succ, List.map_flatMap]
    simp only [e]
/-- A node's box, its least point being the origin. -/
def bx (N : List Nd) (d i : Nat) : Q := boxL (cellsL N d i 0 0)
theorem bx_at {N : List Nd} {d i : Nat} {x y : Int} (h : cellsL N d i 0 0 ≠ []) : Bxs (shQ (bx N d i) x y) (cellsL N d i x y) := by
  have h1 := (bxs_box h).shift x y
  rw [← cells_sh] at h1
  rw [Int.zero_add, Int.zero_add] at h1
  exact h1
theorem bx_root {N : List Nd} {d i : Nat} {x y : Int} (h : cellsL N d i 0 0 ≠ []) : boxL (cellsL N d i x y) = shQ (bx N d i) x y := bxs_eq (bx_at h)
def cor (q : Q) : List C := [(q.1, q.2.1, 0), (q.2.2.1, q.2.2.2, 0)]
/-- The corners of the kids' boxes, up to one. -/
def crn1 (N : List Nd) (d i q : Nat) : List C := if (ndAt N (kd (ndAt N i).1.k q)).1.count = 0 then [] else cor (shQ (bx N d (kd (ndAt N i).1.k q)) (px d 0 q) (py d 0 q))
def crn (N : List Nd) (d i k : Nat) : List C := (List.range k).flatMap (crn1 N d i)
theorem crn_succ (N : List Nd) (d i k : Nat) : crn N d i (k + 1) = crn N d i k ++ crn1 N d i k := by
  unfold crn
  rw [List.range_succ, List.flatMap_append]
  simp
theorem crn_len (N : List Nd) (d i : Nat) : ∀ k, (crn N d i k).length ≤ 2 * k
  | 0 => by simp [crn]
  | k + 1 => by
    have := crn_len N d i k
    rw [crn_succ, List.length_append]
    have : (crn1 N d i k).length ≤ 2 := by unfold crn1; split <;> simp [cor]
    omega
theorem bx_kids {S : Sta} {d i : Nat} (h : cellsL S.N (d + 1) i 0 0 ≠ []) (hc : ∀ q, q < 4 → ((ndAt S.N (kd (ndAt S.N i).1.k q)).1.count = 0 ↔ cellsL S.N d (kd (ndAt S.N i).1.k q) 0 0 = [])) : boxL (crn S.N d i 4) = bx S.N (d + 1) i := by
  have hb := bxs_box h
  have hk : ∀ c, c ∈ crn S.N d i 4 ↔ ∃ q, q < 4 ∧ c ∈ crn1 S.N d i q := fun c => by
    unfold crn
    rw [List.mem_flatMap]
    simp only [List.mem_range]
  have hp : ∀ q, q < 4 → crn1 S.N d i q ≠ [] → Bxs (shQ (bx S.N d (kd (ndAt S.N i).1.k q)) (px d 0 q) (py d 0 q)) (cellsL S.N d (kd (ndAt S.N i).1.k q) (px d 0 q) (py d 0 q)) ∧ crn1 S.N d i q = cor (shQ (bx S.N d (kd (ndAt S.N i).1.k q)) (px d 0 q) (py d 0 q)) := fun q hq hn => by
    unfold crn1 at hn ⊢
    split
    · rename_i h1
      rw [if_pos h1] at hn
      exact absurd rfl hn
    · rename_i h1
      exact ⟨bx_at fun e => h1 ((hc q hq).2 e), rfl⟩
  have hu : ∀ q c, q < 4 → c ∈ cellsL S.N d (kd (ndAt S.N i).1.k q) (px d 0 q) (py d 0 q) → crn1 S.N d i q ≠ [] := fun q c hq hm => by
    unfold crn1
    rw [if_neg fun e => by
      have e := cells_shift_nil (x' := px d 0 q) (y' := py d 0 q) ((hc q hq).1 e)
      rw [e] at hm
      simp at hm]
    simp [cor]
  refine bxs_eq ⟨fun c hm => ?_, ?_, ?_, ?_, ?_⟩
  · obtain ⟨q, hq, hm⟩ := (hk c).1 hm
    obtain ⟨B, e⟩ := hp q hq (fun e => by rw [e] at hm; simp at hm)
    rw [e] at hm
    obtain ⟨c0, m0, e0⟩ := B.t0
    obtain ⟨c1, m1, e1⟩ := B.t1
    obtain ⟨c2, m2, e2⟩ := B.t2
    obtain ⟨c3, m3, e3⟩ := B.t3
    have a0 := hb.all _ (mem_cells.2 ⟨q, hq, m0⟩)
    have a1 := hb.all _ (mem_cells.2 ⟨q, hq, m1⟩)
    have a2 := hb.all _ (mem_cells.2 ⟨q, hq, m2⟩)
    have a3 := hb.all _ (mem_cells.2 ⟨q, hq, m3⟩)
    have b2 := B.all _ m2
    have b3 := B.all _ m3
    have b0 := B.all _ m0
    have b1 := B.all _ m1
    unfold bx
    simp only [cor, List.mem_cons, List.not_mem_nil, or_false] at hm
    rcases hm with rfl | rfl <;> dsimp only <;> omega
  · obtain ⟨c, hc1, e⟩ := hb.t0
    obtain ⟨q, hq, hm⟩ := mem_cells.1 hc1
    obtain ⟨B, e2⟩ := hp q hq (hu q c hq hm)
    obtain ⟨c', m', e'⟩ := B.t0
    have a1 := hb.all _ (mem_cells.2 ⟨q, hq, m'⟩)
    have a2 := B.all _ hm
    refine ⟨_, (hk _).2 ⟨q, hq, by rw [e2]; exact List.mem_cons_self ..⟩, ?_⟩
    unfold bx at *
    dsimp only
    omega
  · obtain ⟨c, hc1, e⟩ := hb.t1
    obtain ⟨q, hq, hm⟩ := mem_cells.1 hc1
    obtain ⟨B, e2⟩ := hp q hq (hu q c hq hm)
    obtain ⟨c', m', e'⟩ := B.t1
    have a1 := hb.all _ (mem_cells.2 ⟨q, hq, m'⟩)
    have a2 := B.all _ hm
    refine ⟨_, (hk _).2 ⟨q, hq, by rw [e2]; exact List.mem_cons_self ..⟩, ?_⟩
    unfold bx at *
    dsimp only
    omega
  · obtain ⟨c, hc1, e⟩ := hb.t2
    obtain ⟨q, hq, hm⟩ := mem_cells.1 hc1
    obtain ⟨B, e2⟩ := hp q hq (hu q c hq hm)
    obtain ⟨c', m', e'⟩ := B.t2
    have a1 := hb.all _ (mem_cells.2 ⟨q, hq, m'⟩)
    have a2 := B.all _ hm
    refine ⟨_, (hk _).2 ⟨q, hq, by rw [e2]; exact List.mem_cons_of_mem _ (List.mem_cons_self ..)⟩, ?_⟩
    unfold bx at *
    dsimp only
    omega
  · obtain ⟨c, hc1, e⟩ := hb.t3
    obtain ⟨q, hq, hm⟩ := mem_cells.1 hc1
    obtain ⟨B, e2⟩ := hp q hq (hu q c hq hm)
    obtain ⟨c', m', e'⟩ := B.t3
    have a1 := hb.all _ (mem_cells.2 ⟨q, hq, m'⟩)
    have a2 := B.all _ hm
    refine ⟨_, (hk _).2 ⟨q, hq, by rw [e2]; exact List.mem_cons_of_mem _ (List.mem_cons_self ..)⟩, ?_⟩
    unfold bx at *
    dsimp only
    omega
end Go.Proofs.YtahlinekbllkaaaGreatDoor.Tr
