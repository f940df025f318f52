/- Contracts of package site: Low, OnesCount32, Count; the law's own look. -/
import Derived.Test.YtahlinekbllkaaaGreatDoorSiW1
namespace Go.Proofs.YtahlinekbllkaaaGreatDoor.Si
open Go.RowKit Go.Proofs.YtahlinekbllkaaaGreatDoor.Ba

theorem ones_core (x b0 b1 b2 b3 : Nat) (w : World) (h0 : (x : Int) / 16777216 = b0) (a1 : bits .and .u32 ((x : Int) / 65536) 255 = b1) (a2 : bits .and .u32 ((x : Int) / 256) 255 = b2) (a3 : bits .and .u32 (x : Int) 255 = b3)
    (l0 : b0 ≤ 255) (l1 : b1 ≤ 255) (l2 : b2 ≤ 255) (l3 : b3 ≤ 255) (c0 c1 c2 c3 : Nat) (p0 : Lib.pop8 b0 = c0) (p1 : Lib.pop8 b1 = c1) (p2 : Lib.pop8 b2 = c2) (p3 : Lib.pop8 b3 = c3) (e0 : c0 ≤ 8) (e1 : c1 ≤ 8) (e2 : c2 ≤ 8) (e3 : c3 ≤ 8) :
    Calls Tryz.prog 82 #[.int .u32 x] w fun e w' => e = .returned (.int .i64 ((c0 + c1 + c2 + c3 : Nat) : Int)) ∧ ∃ m, w' = w.drewN m := by
  have hfold := fold_pop
  have l0' : (b0 : Int) ≤ 255 := by omega
  have z0' : (0 : Int) ≤ b0 := by omega
  have l1' : (b1 : Int) ≤ 255 := by omega
  have z1' : (0 : Int) ≤ b1 := by omega
  have l2' : (b2 : Int) ≤ 255 := by omega
  have z2' : (0 : Int) ≤ b2 := by omega
  have l3' : (b3 : Int) ≤ 255 := by omega
  have z3' : (0 : Int) ≤ b3 := by omega
  go_enter Tryz.func82, Tryz.ntmps82
  go_wp2
  go_quiet (fail)
  go_wp2
  go_ret
  exact ⟨ret_int (by omega), _, rfl⟩
theorem ones_any (x : Nat) (hx : x < 4294967296) (w : World) : Calls Tryz.prog 82 #[.int .u32 x] w fun e w' => e = .returned (.int .i64 (pcn x 32)) ∧ ∃ m, w' = w.drewN m := by
  rw [pc_bytes x]
  have e0 : x / 16777216 % 256 = x / 16777216 := by omega
  rw [e0]
  refine ones_core x _ _ _ _ w (by omega) (u32_and255 x 16 hx) (u32_and255 x 8 hx) ?_ (by omega) (by omega) (by omega) (by omega) _ _ _ _ (pop8_eq _ (by omega)) (pop8_eq _ (by omega)) (pop8_eq _ (by omega)) (pop8_eq _ (by omega)) (pcn8_le ⟨_, by omega⟩) (pcn8_le ⟨_, by omega⟩) (pcn8_le ⟨_, by omega⟩) (pcn8_le ⟨_, by omega⟩)
  have := u32_and255 x 0 hx
  simpa using this
theorem count_any (x : Nat) (hx : x < 4294967296) (w : World) : Calls Tryz.prog 65 #[.int .u32 x] w fun e w' => e = .returned (.int .i64 (pcn x 32)) ∧ ∃ m, w' = w.drewN m := by
  go_enter Tryz.func65, Tryz.ntmps65
  go_wp2_with fail
  refine (ones_any x hx _).mono ?_
  rintro e w' ⟨rfl, m, rfl⟩
  go_wp2
  go_ret
  exact ⟨rfl, _, rfl⟩
theorem low_any (a b : Int) (ha : -9223372036854775808 ≤ a ∧ a ≤ 9223372036854775807) (hb : -9223372036854775808 ≤ b ∧ b ≤ 9223372036854775807) (w : World) :
    Calls Tryz.prog 73 #[.agg #[.int .i64 a, .int .i64 b]] w fun e w' => e = .returned (.agg #[.int .i64 (a - a % 4), .int .i64 (b - b % 4)]) ∧ Below w.heap.size w w' := by
  have h1 := low_math a ha
  have h2 := low_math b hb
  go_enter Tryz.func73, Tryz.ntmps73
  go_wp2
  exact bodyPost_ret (v := .agg #[.int .i64 (a - a % 4), .int .i64 (b - b % 4)]) (by simp [results, Tryz.results73, go_sem, *]) rfl ⟨rfl, by go_grown⟩
end Go.Proofs.YtahlinekbllkaaaGreatDoor.Si
