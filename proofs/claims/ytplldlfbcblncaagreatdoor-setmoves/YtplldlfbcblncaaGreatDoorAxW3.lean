/- Contracts: the table of six points; Then and Back; the reference's own functions; Sum. -/
import Derived.Test.YtplldlfbcblncaaGreatDoorAxW2
import Derived.Laws.Rows
namespace Go.Proofs.YtplldlfbcblncaaGreatDoor.Ax
open Go.RowKit

def sixCells : Array Value := #[.int .i64 1, .int .i64 0, .int .i64 0, .int .i64 1, .int .i64 (-1), .int .i64 1, .int .i64 (-1), .int .i64 0, .int .i64 0, .int .i64 (-1), .int .i64 1, .int .i64 (-1)]
theorem refgood_any (a b : Int) (w : World) :
    Calls Tryz.prog 25 #[.int .i64 a, .int .i64 b] w fun e w' => e = .returned (.bool (goodB a b)) ∧ w = w' := by
  have hg : goodB a b = (((decide (a ≤ 1099511627776) && decide (-1099511627776 ≤ a)) && decide (b ≤ 1099511627776)) && decide (-1099511627776 ≤ b)) := by
    rw [Bool.eq_iff_iff, goodB_iff]; simp; omega
  rw [hg]
  clear hg
  by_cases h1 : a ≤ 1099511627776
  · by_cases h2 : -1099511627776 ≤ a
    · by_cases h3 : b ≤ 1099511627776
      · go_enter Tryz.func25, Tryz.ntmps25
        go_wp2
        go_ret
        exact ⟨by simp; try omega, rfl⟩
      · go_enter Tryz.func25, Tryz.ntmps25
        go_wp2
        go_ret
        exact ⟨by simp; try omega, rfl⟩
    · go_enter Tryz.func25, Tryz.ntmps25
      go_wp2
      go_ret
      exact ⟨by simp; try omega, rfl⟩
  · go_enter Tryz.func25, Tryz.ntmps25
    go_wp2
    go_ret
    exact ⟨by simp; try omega, rfl⟩

theorem refon_core (o a b x y : Int) (w : World) (h0 : 0 ≤ o) (h1 : o < 12) (hx : x = if 6 ≤ o then b else a) (hy : y = if 6 ≤ o then a else b) (ha : -1099511627776 ≤ a ∧ a ≤ 1099511627776) (hb : -1099511627776 ≤ b ∧ b ≤ 1099511627776) :
    Calls Tryz.prog 46 #[.int .i64 o, .int .i64 a, .int .i64 b] w fun e w' => e = .returned (.tuple #[.int .i64 (tn (o % 6).toNat x y).1, .int .i64 (tn (o % 6).toNat x y).2]) ∧ w = w' := by
  have hxb : -1099511627776 ≤ x ∧ x ≤ 1099511627776 := by rw [hx]; split <;> assumption
  have hyb : -1099511627776 ≤ y ∧ y ≤ 1099511627776 := by rw [hy]; split <;> assumption
  by_cases hs : 6 ≤ o
  · rw [if_pos hs] at hx hy
    subst hx hy
    have hs' : 5 < o := by omega
    clear hs
    go_enter Tryz.func46, Tryz.ntmps46
    go_wp2
    go_loop [1, 2, 8] (fun p q i => ∃ k : Nat, k ≤ (o % 6).toNat ∧ p = .int .i64 (tn k x y).1 ∧ q = .int .i64 (tn k x y).2 ∧ i = .int .i64 k) (fun _ _ i => (o % 6).toNat - (intOf i).toNat)
    case atStart => exact ⟨0, Nat.zero_le _, rfl, rfl, rfl⟩
    case round =>
      obtain ⟨k, hk, rfl, rfl, rfl⟩ := hrel
      obtain ⟨⟨x1, x2⟩, y1, y2⟩ := tn_bd k x y (by omega) (by omega) (by omega)
      by_cases hlt : (k : Int) < o % 6
      · have HA := Lib.hid (show (tn (k + 1) x y).1 = -(tn k x y).2 from rfl)
        have HB := Lib.hid (show (tn (k + 1) x y).2 = (tn k x y).1 + (tn k x y).2 from rfl)
        generalize (tn k x y).1 = u at *
        generalize (tn k x y).2 = v at *
        go_wp2
        go_round
        case rel => exact ⟨k + 1, by omega, by rw [HA.out], by rw [HB.out], by go_num⟩
        case measure => simp [intOf]; omega
      · have e : k = (o % 6).toNat := by omega
        subst e
        go_wp2
        go_ret2
        exact ⟨rfl, rfl⟩
  · rw [if_neg hs] at hx hy
    subst hx hy
    have hs' : ¬ 5 < o := by omega
    clear hs
    go_enter Tryz.func46, Tryz.ntmps46
    go_wp2
    go_loop [1, 2, 8] (fun p q i => ∃ k : Nat, k ≤ (o % 6).toNat ∧ p = .int .i64 (tn k x y).1 ∧ q = .int .i64 (tn k x y).2 ∧ i = .int .i64 k) (fun _ _ i => (o % 6).toNat - (intOf i).toNat)
    case atStart => exact ⟨0, Nat.zero_le _, rfl, rfl, rfl⟩
    case round =>
      obtain ⟨k, hk, rfl, rfl, rfl⟩ := hrel
      obtain ⟨⟨x1, x2⟩, y1, y2⟩ := tn_bd k x y (by omega) (by omega) (by omega)
      by_cases hlt : (k : Int) < o % 6
      · have HA := Lib.hid (show (tn (k + 1) x y).1 = -(tn k x y).2 from rfl)
        have HB := Lib.hid (show (tn (k + 1) x y).2 = (tn k x y).1 + (tn k x y).2 from rfl)
        generalize (tn k x y).1 = u at *
        generalize (tn k x y).2 = v at *
        go_wp2
        go_round
        case rel => exact ⟨k + 1, by omega, by rw [HA.out], by rw [HB.out], by go_num⟩
        case measure => simp [intOf]; omega
      · have e : k = (o % 6).toNat := by omega
        subst e
        go_wp2
        go_ret2
        exact ⟨rfl, rfl⟩
theorem refon_any (o a b : Int) (w : World) (h0 : 0 ≤ o) (h1 : o < 12) (ha : -1099511627776 ≤ a ∧ a ≤ 1099511627776) (hb : -1099511627776 ≤ b ∧ b ≤ 1099511627776) :
    Calls Tryz.prog 46 #[.int .i64 o, .int .i64 a, .int .i64 b] w fun e w' => e = .returned (.tuple #[.int .i64 (opA o a b), .int .i64 (opB o a b)]) ∧ w = w' :=
  refon_core o a b _ _ w h0 h1 rfl rfl ha hb
end Go.Proofs.YtplldlfbcblncaaGreatDoor.Ax
