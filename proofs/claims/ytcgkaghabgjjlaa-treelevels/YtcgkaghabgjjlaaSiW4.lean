/- Contracts: bits.TrailingZeros32, With. -/
import Derived.Test.YtcgkaghabgjjlaaSiW2
import Derived.Test.YtcgkaghabgjjlaaSiN
import Derived.Test.YtcgkaghabgjjlaaSeL
namespace Go.Proofs.Ytcgkaghabgjjlaa.Si
open Go.RowKit Go.Proofs.Ytcgkaghabgjjlaa.Ba Go.Proofs.Ytcgkaghabgjjlaa.Se

/-- With, of a cell of the leaf. -/
def bitAt (c : C) : Nat := 2 * (4 * (c.2.1 % 4).toNat + (c.1 % 4).toNat) + c.2.2.toNat
theorem with_any (f : Nat) (c : C) (live : Bool) (hf : f < 4294967296) (h1 : -9223372036854775808 ≤ c.1 ∧ c.1 ≤ 9223372036854775807) (h2 : -9223372036854775808 ≤ c.2.1 ∧ c.2.1 ≤ 9223372036854775807) (h3 : c.2.2 = 0 ∨ c.2.2 = 1) (w : World) :
    Calls Try.prog 27 #[.int .u32 f, Ce c, .bool live] w fun e w' => e = .returned (.int .u32 (if live then f ||| 2 ^ bitAt c else f &&& (4294967295 - 2 ^ bitAt c) : Nat)) ∧ Below w.heap.size w w' := by
  obtain ⟨a, b, h⟩ := c
  dsimp only at h1 h2 h3
  have hl := fun W => low_any a b h1 h2 W
  obtain ⟨ra, hra⟩ : ∃ ra : Nat, a - (a - a % 4) = (ra : Int) := ⟨(a % 4).toNat, by omega⟩
  obtain ⟨rb, hrb⟩ : ∃ rb : Nat, b - (b - b % 4) = (rb : Int) := ⟨(b % 4).toNat, by omega⟩
  obtain ⟨p, hp⟩ : ∃ p : Nat, p = 2 * (4 * rb + ra) := ⟨_, rfl⟩
  have hpl := fun W => place_any ra rb p (by omega) (by omega) hp W
  obtain ⟨k, hk⟩ : ∃ k : Nat, h = (k : Int) := ⟨h.toNat, by omega⟩
  subst hk
  have hk1 : k ≤ 1 := by omega
  have HB := Lib.hid (show bitAt (a, b, (k : Int)) = p + k by unfold bitAt; simp only; omega)
  have hp32 : p + k < 32 := by omega
  have hpw : 2 ^ (p + k) ≤ 2 ^ 31 := Nat.pow_le_pow_right (by decide) (by omega)
  have ho := u32_or_nat f (2 ^ (p + k)) hf (by omega)
  have hn := u32_andNot_nat f (2 ^ (p + k)) hf (by omega)
  clear hp
  have hsh : (2 : Int) ^ (p + k) % 4294967296 = ((2 ^ (p + k) : Nat) : Int) := by
    have key : ∀ n : Nat, n ≤ 2 ^ 31 → ((n : Nat) : Int) % 4294967296 = (n : Int) := fun n hn => by omega
    rw [pow_nat]
    exact key _ hpw
  have hsh2 : IntKind.u32.wrap ((2 : Int) ^ (p + k)) = ((2 ^ (p + k) : Nat) : Int) := by rw [IntKind.wrap_u32', hsh]
  rw [HB.out]
  generalize 2 ^ (p + k) = bt at *
  cases live
  all_goals
    go_enter Try.func27, Try.ntmps27
    go_wp2_with fail
    refine (hl _).mono ?_
    rintro e w1 ⟨rfl, hb1⟩
    have kc : Blk w1 w.heap.size 43 #[.int .i64 a, .int .i64 b, .int .i64 k] := Blk.below (Blk.newAt w _ _ _ rfl) hb1 (by simp)
    have c0 := kc.cell 0
    have c1 := kc.cell 1
    have c2 := kc.cell 2
    simp only [List.getElem?_toArray, List.getElem?_cons_zero, List.getElem?_cons_succ] at c0 c1 c2
    have hlt := kc.lt
    have hb := below_call (B := w.heap.size) (w := w) hb1 (by go_grown) (by simp)
    clear hb1 kc hl HB
    go_wp2_with fail
    go_quiet (exact q_first hpl)
    go_wp2
    go_ret
    exact ⟨rfl, below_dr _ (hb.alloc hb.size _)⟩
end Go.Proofs.Ytcgkaghabgjjlaa.Si
