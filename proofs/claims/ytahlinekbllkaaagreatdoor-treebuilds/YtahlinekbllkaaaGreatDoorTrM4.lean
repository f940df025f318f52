/- Which cell lives in a node; putting a cell: the mathematics. -/
import Derived.Test.YtahlinekbllkaaaGreatDoorTrM3
import Derived.Test.YtahlinekbllkaaaGreatDoorSiW6
namespace Go.Proofs.YtahlinekbllkaaaGreatDoor.Tr
open Go.Proofs.YtahlinekbllkaaaGreatDoor.Ar Go.Proofs.YtahlinekbllkaaaGreatDoor.Mp
open Go.Proofs.YtahlinekbllkaaaGreatDoor.Si (cAt mem_pos pcn bitAt bitAt_lt on_test off_test)

section
variable {S S1 S2 : Sta} {d i j q : Nat} {x y : Int} {c : C}
/-- The kid that a cell is toward has it. -/
theorem tw_sq (h : inSq (d + 1) x y c) : inSq d (px d x (twd d x y (c.1, c.2.1))) (py d y (twd d x y (c.1, c.2.1))) c := by
  obtain ⟨q, hq, hs⟩ := sq_down h
  have : twd d x y (c.1, c.2.1) = q := by
    obtain ⟨h1, h2, _⟩ := hs
    have hp := sd_pos d
    unfold twd
    dsimp only
    rcases pxy (d := d) (x := x) (y := y) hq with ⟨e, e1, e2⟩ | ⟨e, e1, e2⟩ | ⟨e, e1, e2⟩ | ⟨e, e1, e2⟩ <;> rw [e1] at h1 <;> rw [e2] at h2 <;> subst e <;> split <;> split <;> omega
  rw [this]
  exact hs
theorem kid_mod (hx : x % 4 = 0) (hy : y % 4 = 0) (hq : q < 4) : px d x q % 4 = 0 ∧ py d y q % 4 = 0 := by
  have := sd_four d
  rcases pxy (d := d) (x := x) (y := y) hq with ⟨e, e1, e2⟩ | ⟨e, e1, e2⟩ | ⟨e, e1, e2⟩ | ⟨e, e1, e2⟩ <;> rw [e1, e2] <;> omega
theorem cell_bit (hx : x % 4 = 0) (hy : y % 4 = 0) (h : inSq 0 x y c) : cAt x y (bitAt c) = c := by
  obtain ⟨⟨h1, h2⟩, ⟨h3, h4⟩, h5⟩ := h
  have e : sd 0 = 4 := by decide
  rw [e] at h2 h4
  obtain ⟨a, b, k⟩ := c
  unfold cAt bitAt
  dsimp only at *
  refine Prod.ext ?_ (Prod.ext ?_ ?_) <;> dsimp only <;> omega
theorem leaf_mem (hx : x % 4 = 0) (hy : y % 4 = 0) (h : inSq 0 x y c) (f : Nat) : c ∈ (Si.pos f 32).map (cAt x y) ↔ f.testBit (bitAt c) = true := by
  have e := cell_bit hx hy h
  have hb := bitAt_lt c h.2.2
  have := mem_bits (x := x) (y := y) (f := f) hb
  rw [e] at this
  exact this
theorem or_same (f k : Nat) : ((f : Int) == ((f ||| 2 ^ k : Nat) : Int)) = f.testBit k := by
  cases h : f.testBit k
  · have hne : f ≠ f ||| 2 ^ k := fun e => by
      have h2 := on_test f k k
      rw [← e, h] at h2
      simp at h2
    simpa using (fun e : (f : Int) = ((f ||| 2 ^ k : Nat) : Int) => hne (by exact_mod_cast e))
  · have he : f ||| 2 ^ k = f := Nat.eq_of_testBit_eq fun i => by
      rw [on_test]
      by_cases e : k = i
      · subst e; rw [h]; simp
      · simp [e]
    rw [he]
    simp
/-! Putting. -/
def withC (f : Nat) (c : C) (live : Bool) : Nat := if live then f ||| 2 ^ bitAt c else f &&& (4294967295 - 2 ^ bitAt c)
theorem with_lt {f : Nat} (hf : f < 4294967296) (h : c.2.2 = 0 ∨ c.2.2 = 1) (live : Bool) : withC f c live < 4294967296 := by
  have hb := bitAt_lt c h
  unfold withC
  split
  · exact Nat.or_lt_two_pow (n := 32) hf (Nat.pow_lt_pow_right (by decide) hb)
  · exact Nat.lt_of_le_of_lt Nat.and_le_left hf
def putM (live : Bool) (A : C → Prop) (c e : C) : Prop := (live = true ∧ e = c) ∨ (A e ∧ e ≠ c)
theorem cAt_inj' {a b : Nat} (h : cAt x y a = cAt x y b) : a = b := cAt_inj h
theorem with_mem (hx : x % 4 = 0) (hy : y % 4 = 0) (h : inSq 0 x y c) (f : Nat) (live : Bool) (e : C) :
    e ∈ (Si.pos (withC f c live) 32).map (cAt x y) ↔ putM live (fun e => e ∈ (Si.pos f 32).map (cAt x y)) c e := by
  have hb := bitAt_lt c h.2.2
  have hc := cell_bit hx hy h
  have key : ∀ k, k < 32 → ((withC f c live).testBit k = true ↔ (live = true ∧ k = bitAt c) ∨ (f.testBit k = true ∧ k ≠ bitAt c)) := fun k hk => by
    unfold withC
    cases live
    · simp only [Bool.false_eq_true, if_false, false_and, false_or]
      rw [off_test f (bitAt c) k hb hk]
      simp only [Bool.and_eq_true, Bool.not_eq_true', decide_eq_false_iff_not]
      constructor
      · rintro ⟨h1, h2⟩; exact ⟨h1, fun e => h2 e.symm⟩
      · rintro ⟨h1, h2⟩; exact ⟨h1, fun e => h2 e.symm⟩
    · simp only [if_true, true_and]
      rw [on_test]
      simp only [Bool.or_eq_true, decide_eq_true_eq]
      constructor
      · rintro (h1 | h1)
        · by_cases e : k = bitAt c
          · exact .inl e
          · exact .inr ⟨h1, e⟩
        · exact .inl h1.symm
      · rintro (h1 | ⟨h1, _⟩)
        · exact .inr h1.symm
        · exact .inl h1
  unfold putM
  constructor
  · intro he
    obtain ⟨k, hk, rfl⟩ := List.mem_map.1 he
    obtain ⟨k1, k2⟩ := (mem_pos _ _ _).1 hk
    rcases (key k k1).1 k2 with ⟨h1, rfl⟩ | ⟨h1, h2⟩
    · exact .inl ⟨h1, hc⟩
    · refine .inr ⟨List.mem_map.2 ⟨k, (mem_pos _ _ _).2 ⟨k1, h1⟩, rfl⟩, fun e => h2 ?_⟩
      rw [← hc] at e
      exact cAt_inj e
  · rintro (⟨h1, rfl⟩ | ⟨he, hne⟩)
    · rw [leaf_mem hx hy h]
      exact (key _ hb).2 (.inl ⟨h1, rfl⟩)
    · obtain ⟨k, hk, rfl⟩ := List.mem_map.1 he
      obtain ⟨k1, k2⟩ := (mem_pos _ _ _).1 hk
      exact List.mem_map.2 ⟨k, (mem_pos _ _ _).2 ⟨k1, (key k k1).2 (.inr ⟨k2, fun e => hne (by rw [e, hc])⟩)⟩, rfl⟩
/-- What putting answers. -/
structure Pd (S : Sta) (d : Nat) (x y : Int) (i : Nat) (c : C) (live : Bool) (j : Nat) (e : Option Nat) (S' : Sta) : Prop where
  ext : Ext S S'
  ok : (e = none ∧ lvOk S'.N d j ∧ ∀ b, b ∈ cellsL S'.N d j x y ↔ putM live (fun b => b ∈ cellsL S.N d i x y) c b) ∨ (e = some 8 ∧ j = 0 ∧ full S')
  len : ne S'.N ≤ ne S.N + (d + 1)
theorem pd_leaf (T : Tw S) (hi : lvOk S.N 0 i) (hx : x % 4 = 0) (hy : y % 4 = 0) (h : inSq 0 x y c) (live : Bool) :
    Pd S 0 x y i c live (leafR S (withC (ndAt S.N i).1.bits c live)).1 (leafR S (withC (ndAt S.N i).1.bits c live)).2.1 (leafR S (withC (ndAt S.N i).1.bits c live)).2.2 := by
  have hf := leaf_bits T hi
  rw [p32] at hf
  have hm := with_mem hx hy h (ndAt S.N i).1.bits live
  have hl := with_lt hf h.2.2 live
  generalize withC (ndAt S.N i).1.bits c live = f at *
  rcases leaf_spec T hl with ⟨h1, h2, h3, h4, h5⟩ | ⟨h1, h2⟩
  · refine ⟨h2, .inl ⟨h1, h3, fun b => ?_⟩, by omega⟩
    show b ∈ (Si.pos (ndAt (leafR S f).2.2.N (leafR S f).1).1.bits 32).map (cAt x y) ↔ _
    rw [h4]
    exact hm b
  · rw [h1]
    exact ⟨Ext.refl T, .inr ⟨rfl, rfl, h2⟩, by dsimp only; omega⟩
theorem pd_stop0 {S' : Sta} {e j : Nat} {live : Bool} (h : Pd S d (px d x q) (py d y q) (kd (ndAt S.N i).1.k q) c live j (some e) S') : Pd S (d + 1) x y i c live 0 (some e) S' := by
  refine ⟨h.ext, ?_, by have := h.len; omega⟩
  rcases h.ok with ⟨h1, _⟩ | ⟨h1, _, h3⟩
  · cases h1
  · exact .inr ⟨h1, rfl, h3⟩
theorem pd_done {S' : Sta} {j : Nat} {live : Bool} (T : Tw S) (hi : lvOk S.N (d + 1) i) (hd : d ≤ 41) (hq : q < 4) (hs : inSq d (px d x q) (py d y q) c) (h : Pd S d (px d x q) (py d y q) (kd (ndAt S.N i).1.k q) c live j none S') :
    Pd S (d + 1) x y i c live (joinR S' (kset (ndAt S.N i).1.k q j)).1 (joinR S' (kset (ndAt S.N i).1.k q j)).2.1 (joinR S' (kset (ndAt S.N i).1.k q j)).2.2 := by
  obtain ⟨hj, hc⟩ : lvOk S'.N d j ∧ ∀ b, b ∈ cellsL S'.N d j (px d x q) (py d y q) ↔ putM live (fun b => b ∈ cellsL S.N d (kd (ndAt S.N i).1.k q) (px d x q) (py d y q)) c b := by
    rcases h.ok with ⟨_, h2, h3⟩ | ⟨h1, _⟩
    · exact ⟨h2, h3⟩
    · cases h1
  have hk : ∀ r, r < 4 → lvOk S'.N d (kd (kset (ndAt S.N i).1.k q j) r) := fun r hr => by
    rw [kd_set _ j hq hr]
    split
    · exact hj
    · exact h.ext.lv (kid_ok T hi hr)
  have hlen := h.len
  have hin : inSq (d + 1) x y c := sq_up hq hs
  rcases join_spec h.ext.tw hk hd with ⟨h1, h2, h3, h4, h5, _⟩ | ⟨h1, h2⟩
  · refine ⟨h.ext.trans h2, .inl ⟨h1, h3, fun b => ?_⟩, by omega⟩
    rw [cells_four h4]
    have each : ∀ r, r < 4 → (b ∈ cellsL (joinR S' (kset (ndAt S.N i).1.k q j)).2.2.N d (kd (kset (ndAt S.N i).1.k q j) r) (px d x r) (py d y r) ↔ if r = q then putM live (fun b => b ∈ cellsL S.N d (kd (ndAt S.N i).1.k q) (px d x q) (py d y q)) c b else b ∈ cellsL S.N d (kd (ndAt S.N i).1.k r) (px d x r) (py d y r)) := fun r hr => by
      rw [h2.cells h.ext.tw (hk r hr), kd_set _ j hq hr]
      split
      · rename_i e
        subst e
        exact hc b
      · rw [h.ext.cells T (kid_ok T hi hr)]
    constructor
    · rintro ⟨r, hr, hb⟩
      have hb := (each r hr).1 hb
      split at hb
      · rename_i e
        subst e
        rcases hb with ⟨a, e⟩ | ⟨a, e⟩
        · exact .inl ⟨a, e⟩
        · exact .inr ⟨mem_cells.2 ⟨r, hr, a⟩, e⟩
      · rename_i e
        refine .inr ⟨mem_cells.2 ⟨r, hr, hb⟩, fun e2 => ?_⟩
        subst e2
        exact e (sq_one hr hq (cells_in hb) hs)
    · rintro (⟨a, rfl⟩ | ⟨a, e⟩)
      · exact ⟨q, hq, (each q hq).2 (by rw [if_pos rfl]; exact .inl ⟨a, rfl⟩)⟩
      · obtain ⟨r, hr, hb⟩ := mem_cells.1 a
        refine ⟨r, hr, (each r hr).2 ?_⟩
        split
        · rename_i e2
          subst e2
          exact .inr ⟨hb, e⟩
        · exact hb
  · rw [h1]
    exact ⟨h.ext, .inr ⟨rfl, rfl, h2⟩, by dsimp only; omega⟩
end
end Go.Proofs.YtahlinekbllkaaaGreatDoor.Tr
