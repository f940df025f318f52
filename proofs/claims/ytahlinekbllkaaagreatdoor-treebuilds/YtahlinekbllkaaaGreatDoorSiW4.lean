/- Contracts: bits.TrailingZeros32, With. -/
import Derived.Test.YtahlinekbllkaaaGreatDoorSiW2
import Derived.Test.YtahlinekbllkaaaGreatDoorSiN
import Derived.Test.YtahlinekbllkaaaGreatDoorSeL
namespace Go.Proofs.YtahlinekbllkaaaGreatDoor.Si
open Go.RowKit Go.Proofs.YtahlinekbllkaaaGreatDoor.Ba Go.Proofs.YtahlinekbllkaaaGreatDoor.Se

/-- The table lies there. -/
def DebIs (w : World) : Prop := (∀ i, i < 32 → w.cell? ⟨0, i, none⟩ = some (.int .u8 (deb.getD i 0))) ∧ 0 < w.heap.size
theorem DebIs.below {w w' : World} (h : DebIs w) (hb : Below w.heap.size w w') : DebIs w' :=
  ⟨fun i hi => (hb.cell (p := ⟨_, i, none⟩) h.2).trans (h.1 i hi), Nat.lt_of_lt_of_le h.2 hb.size⟩
theorem DebIs.dr {w : World} (h : DebIs w) (n : Nat) : DebIs (w.drewN n) := h
theorem tz_core (x y b q ix k : Nat) (w : World) (hne : ((x : Int) == 0) = false) (hn : (-(x : Int)) % 4294967296 = (y : Int)) (ha : bits .and .u32 (x : Int) (y : Int) = (b : Int)) (hq : (b : Int) * 125613361 % 4294967296 = (q : Int)) (hr : (q : Int) / 134217728 = (ix : Int)) (hi : ix < 32) (hc : w.cell? ⟨0, ix, none⟩ = some (.int .u8 k)) (_hg : 0 < w.heap.size) (hk : k < 32) :
    Calls Tryz.prog 66 #[.int .u32 x] w fun e w' => e = .returned (.int .i64 k) ∧ w = w' := by
  have hi' : (ix : Int) < 32 := by omega
  go_enter Tryz.func66, Tryz.ntmps66
  go_wp2
  go_ret
  exact ⟨rfl, rfl⟩
theorem tz_any (x k m : Nat) (h : x = 2 ^ (k + 1) * m + 2 ^ k) (hx : x < 4294967296) (w : World) (hd : DebIs w) :
    Calls Tryz.prog 66 #[.int .u32 x] w fun e w' => e = .returned (.int .i64 k) ∧ w = w' := by
  have h0 : 0 < 2 ^ k := Nat.two_pow_pos k
  have hk : k < 32 := low_lt (m := m) (by omega)
  have ha := u32_and_nat x (4294967296 - x) hx (by omega)
  have e : x &&& (4294967296 - x) = 2 ^ k := by
    have := and_neg k m (by omega)
    rw [← h] at this
    exact this
  rw [e] at ha
  obtain ⟨f1, f2⟩ := deb_fin ⟨k, hk⟩
  dsimp only at f1 f2
  have hc := hd.1 _ f2
  rw [f1] at hc
  exact tz_core x _ _ (2 ^ k * 125613361 % 4294967296) _ k w (by simp; omega) (u32_neg x (by omega) hx) ha (by omega) (by omega) f2 hc hd.2 hk
/-- With, of a cell of the leaf. -/
def bitAt (c : C) : Nat := 2 * (4 * (c.2.1 % 4).toNat + (c.1 % 4).toNat) + c.2.2.toNat
theorem with_any (f : Nat) (c : C) (live : Bool) (hf : f < 4294967296) (h1 : -9223372036854775808 ≤ c.1 ∧ c.1 ≤ 9223372036854775807) (h2 : -9223372036854775808 ≤ c.2.1 ∧ c.2.1 ≤ 9223372036854775807) (h3 : c.2.2 = 0 ∨ c.2.2 = 1) (w : World) :
    Calls Tryz.prog 51 #[.int .u32 f, Ce c, .bool live] w fun e w' => e = .returned (.int .u32 (if live then f ||| 2 ^ bitAt c else f &&& (4294967295 - 2 ^ bitAt c) : Nat)) ∧ Below w.heap.size w w' := by
  obtain ⟨a, b, h⟩ := c
  dsimp only at h1 h2 h3
  have hl := fun W => low_any a b h1 h2 W
  obtain ⟨ra, hra⟩ : ∃ ra : Nat, a - (a - a % 4) = (ra : Int) := ⟨(a % 4).toNat, by omega⟩
  obtain ⟨rb, hrb⟩ : ∃ rb : Nat, b - (b - b % 4) = (rb : Int) := ⟨(b % 4).toNat, by omega⟩
  obtain ⟨p, hp⟩ : ∃ p : Nat, p = 2 * (4 * rb + ra) := ⟨_, rfl⟩
  have hpl := fun W => place_any ra rb p (by omega) (by omega) hp W
  obtain ⟨k, hk⟩ : ∃ k : Nat, h = (k : Int) := ⟨h.toNat, by omega⟩
  subst hk
  have hk1 : k ≤ 1 := by omega
  have HB := Lib.hid (show bitAt (a, b, (k : Int)) = p + k by unfold bitAt; simp only; omega)
  have hp32 : p + k < 32 := by omega
  have hpw : 2 ^ (p + k) ≤ 2 ^ 31 := Nat.pow_le_pow_right (by decide) (by omega)
  have ho := u32_or_nat f (2 ^ (p + k)) hf (by omega)
  have hn := u32_andNot_nat f (2 ^ (p + k)) hf (by omega)
  clear hp
  have hsh : (2 : Int) ^ (p + k) % 4294967296 = ((2 ^ (p + k) : Nat) : Int) := by
    have key : ∀ n : Nat, n ≤ 2 ^ 31 → ((n : Nat) : Int) % 4294967296 = (n : Int) := fun n hn => by omega
    rw [pow_nat]
    exact key _ hpw
  have hsh2 : IntKind.u32.wrap ((2 : Int) ^ (p + k)) = ((2 ^ (p + k) : Nat) : Int) := by rw [IntKind.wrap_u32', hsh]
  rw [HB.out]
  generalize 2 ^ (p + k) = bt at *
  cases live
  all_goals
    go_enter Tryz.func51, Tryz.ntmps51
    go_wp2_with fail
    refine (hl _).mono ?_
    rintro e w1 ⟨rfl, hb1⟩
    have kc : Blk w1 w.heap.size 53 #[.int .i64 a, .int .i64 b, .int .i64 k] := Blk.below (Blk.newAt w _ _ _ rfl) hb1 (by simp)
    have c0 := kc.cell 0
    have c1 := kc.cell 1
    have c2 := kc.cell 2
    simp only [List.getElem?_toArray, List.getElem?_cons_zero, List.getElem?_cons_succ] at c0 c1 c2
    have hlt := kc.lt
    have hb := below_call (B := w.heap.size) (w := w) hb1 (by go_grown) (by simp)
    clear hb1 kc hl HB
    go_wp2_with fail
    go_quiet (exact q_first hpl)
    go_wp2
    go_ret
    exact ⟨rfl, below_dr _ (hb.alloc hb.size _)⟩
end Go.Proofs.YtahlinekbllkaaaGreatDoor.Si
