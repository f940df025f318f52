/- The document's Low; cells held against each other; boxes that are kept. -/
import Derived.Test.YtahlinekbllkaaaGreatDoorSiW5
namespace Go.Proofs.YtahlinekbllkaaaGreatDoor.Si
open Go.RowKit Go.Proofs.YtahlinekbllkaaaGreatDoor.Ba Go.Proofs.YtahlinekbllkaaaGreatDoor.Se Go.Proofs.YtahlinekbllkaaaGreatDoor.Ax Go.Lib

theorem eql_c (x y : C) (w : World) : (binOp .eql 53 (.agg #[.int .i64 x.1, .int .i64 x.2.1, .int .i64 x.2.2]) (.agg #[.int .i64 y.1, .int .i64 y.2.1, .int .i64 y.2.2])).run Tryz.prog w = .ok (.bool (decide (x = y))) w := by
  obtain ⟨a, b, c⟩ := x
  obtain ⟨d, e, f⟩ := y
  rw [eql_ce]
  congr 2
  simp only [Prod.mk.injEq]
  by_cases h1 : a = d <;> by_cases h2 : b = e <;> by_cases h3 : c = f <;> simp [h1, h2, h3]
theorem neq_c (x y : C) (w : World) : (binOp .neq 53 (.agg #[.int .i64 x.1, .int .i64 x.2.1, .int .i64 x.2.2]) (.agg #[.int .i64 y.1, .int .i64 y.2.1, .int .i64 y.2.2])).run Tryz.prog w = .ok (.bool (!decide (x = y))) w := by
  obtain ⟨a, b, c⟩ := x
  obtain ⟨d, e, f⟩ := y
  rw [neq_ce]
  congr 2
  simp only [Prod.mk.injEq]
  by_cases h1 : a = d <;> by_cases h2 : b = e <;> by_cases h3 : c = f <;> simp [h1, h2, h3]
theorem keep3 {W w' : World} {g : Nat} {t : TypeId} {a b c : Value} (k : Blk W g t #[a, b, c]) (hb : Below W.heap.size W w') :
    w'.cell? ⟨g, 0, none⟩ = some a ∧ w'.cell? ⟨g, 1, none⟩ = some b ∧ w'.cell? ⟨g, 2, none⟩ = some c :=
  have k' := k.under hb
  ⟨k'.cell 0, k'.cell 1, k'.cell 2⟩
theorem keep2 {W w' : World} {g : Nat} {t : TypeId} {a b : Value} (k : Blk W g t #[a, b]) (hb : Below W.heap.size W w') :
    w'.cell? ⟨g, 0, none⟩ = some a ∧ w'.cell? ⟨g, 1, none⟩ = some b :=
  have k' := k.under hb
  ⟨k'.cell 0, k'.cell 1⟩
theorem tmod_bd (a m : Int) (h : 0 < m) : -m < a.tmod m ∧ a.tmod m < m := by
  have h1 := Int.tmod_lt_of_pos a h
  have h2 := Int.tmod_lt_of_pos (-a) h
  rw [Int.neg_tmod] at h2
  omega
theorem tmod4 (a : Int) : (0 ≤ a.tmod 4 ∧ a.tmod 4 = a % 4) ∨ (a.tmod 4 < 0 ∧ a.tmod 4 + 4 = a % 4) := by
  have h1 := tmod_bd a 4 (by decide)
  have h2 := Int.tmod_add_mul_tdiv a 4
  omega
theorem bitAt_lt (c : C) (h : c.2.2 = 0 ∨ c.2.2 = 1) : bitAt c < 32 := by unfold bitAt; omega
theorem cAt_bit (a b h : Int) (hh : h = 0 ∨ h = 1) : cAt (a - a % 4) (b - b % 4) (bitAt (a, b, h)) = (a, b, h) := by
  unfold cAt bitAt
  dsimp only
  refine Prod.ext ?_ (Prod.ext ?_ ?_) <;> dsimp only <;> omega
theorem bit_cAt (a b h : Int) (k : Nat) (e : cAt (a - a % 4) (b - b % 4) k = (a, b, h)) : k = bitAt (a, b, h) := by
  unfold cAt at e
  injection e with e1 e
  injection e with e2 e3
  unfold bitAt
  dsimp only
  omega
theorem there_in (f : Nat) (a b h : Int) (hh : h = 0 ∨ h = 1) : ((a, b, h) : C) ∈ (pos (f ||| 2 ^ bitAt (a, b, h)) 32).map (cAt (a - a % 4) (b - b % 4)) := by
  refine List.mem_map.2 ⟨bitAt (a, b, h), (mem_pos _ _ _).2 ⟨bitAt_lt _ hh, ?_⟩, cAt_bit a b h hh⟩
  rw [on_test]; simp
theorem there_out (f : Nat) (a b h : Int) (hh : h = 0 ∨ h = 1) : ((a, b, h) : C) ∉ (pos (f &&& (4294967295 - 2 ^ bitAt (a, b, h))) 32).map (cAt (a - a % 4) (b - b % 4)) := by
  intro hm
  obtain ⟨k, hk, e⟩ := List.mem_map.1 hm
  obtain ⟨h1, h2⟩ := (mem_pos _ _ _).1 hk
  have := bit_cAt a b h k e
  rw [off_test _ _ _ (bitAt_lt _ hh) h1, this] at h2
  simp at h2
theorem mem_take_next {L : List C} {k : Nat} {x c : C} (hx : L[k]? = some x) : decide (c ∈ L.take (k + 1)) = (decide (c ∈ L.take k) || decide (x = c)) := by
  rw [List.take_add_one, hx, Option.toList_some, Bool.eq_iff_iff]
  simp only [List.mem_append, List.mem_singleton, decide_eq_true_eq, Bool.or_eq_true]
  constructor
  · rintro (h | h)
    · exact .inl h
    · exact .inr h.symm
  · rintro (h | h)
    · exact .inl h
    · exact .inr h.symm
theorem set_slice {w : World} {v : Value} {L : List C} (h : SetAt w v L) : ∃ p cap, v = .slice p L.length cap := by
  rcases h with ⟨h1, h2⟩ | ⟨g, cap, h1, _, _⟩
  · exact ⟨none, 0, by rw [h1, h2]; rfl⟩
  · exact ⟨_, _, h1⟩
end Go.Proofs.YtahlinekbllkaaaGreatDoor.Si
