/- Contracts: the table of six points; Then and Back; the reference's own functions; Sum. -/
import Derived.Test.YthlchndhfnbjaaaDoorAxW2
import Derived.Laws.Rows
namespace Go.Proofs.YthlchndhfnbjaaaDoor.Ax
open Go.RowKit

def sixCells : Array Value := #[.int .i64 1, .int .i64 0, .int .i64 0, .int .i64 1, .int .i64 (-1), .int .i64 1, .int .i64 (-1), .int .i64 0, .int .i64 0, .int .i64 (-1), .int .i64 1, .int .i64 (-1)]
/-- The package's table of the six points holds what it should. -/
def SixIs (w : World) : Prop := ∃ t fr, w.heap[0]? = some (.cells sixCells t fr)
theorem SixIs.lt {w : World} (h : SixIs w) : 0 < w.heap.size := by
  obtain ⟨t, fr, h⟩ := h
  rcases Nat.lt_or_ge 0 w.heap.size with h' | h'
  · exact h'
  · rw [Array.getElem?_eq_none h'] at h; cases h
theorem SixIs.below {w w' : World} (h : SixIs w) (hb : Below w.heap.size w w') : SixIs w' := by
  have := h.lt
  obtain ⟨t, fr, h⟩ := h
  exact ⟨t, fr, (hb.block _ this).trans h⟩

theorem six_any (w : World) (h : SixIs w) :
    Calls Tryd.prog 34 #[] w fun e w' => e = .returned (.agg sixCells) ∧ Below w.heap.size w w' := by
  have hlt := h.lt
  obtain ⟨tt, fr, hg⟩ := h
  have c0 : w.cell? ⟨0, 0, none⟩ = some (.int .i64 (1)) := by simp [World.cell?, hg, sixCells]
  have c1 : w.cell? ⟨0, 1, none⟩ = some (.int .i64 (0)) := by simp [World.cell?, hg, sixCells]
  have c2 : w.cell? ⟨0, 2, none⟩ = some (.int .i64 (0)) := by simp [World.cell?, hg, sixCells]
  have c3 : w.cell? ⟨0, 3, none⟩ = some (.int .i64 (1)) := by simp [World.cell?, hg, sixCells]
  have c4 : w.cell? ⟨0, 4, none⟩ = some (.int .i64 (-1)) := by simp [World.cell?, hg, sixCells]
  have c5 : w.cell? ⟨0, 5, none⟩ = some (.int .i64 (1)) := by simp [World.cell?, hg, sixCells]
  have c6 : w.cell? ⟨0, 6, none⟩ = some (.int .i64 (-1)) := by simp [World.cell?, hg, sixCells]
  have c7 : w.cell? ⟨0, 7, none⟩ = some (.int .i64 (0)) := by simp [World.cell?, hg, sixCells]
  have c8 : w.cell? ⟨0, 8, none⟩ = some (.int .i64 (0)) := by simp [World.cell?, hg, sixCells]
  have c9 : w.cell? ⟨0, 9, none⟩ = some (.int .i64 (-1)) := by simp [World.cell?, hg, sixCells]
  have c10 : w.cell? ⟨0, 10, none⟩ = some (.int .i64 (1)) := by simp [World.cell?, hg, sixCells]
  have c11 : w.cell? ⟨0, 11, none⟩ = some (.int .i64 (-1)) := by simp [World.cell?, hg, sixCells]
  clear hg
  go_enter Tryd.func34, Tryd.ntmps34
  go_wp2
  exact bodyPost_ret (v := .agg sixCells) (by simp [results, Tryd.results34, go_sem, sixCells]) rfl ⟨rfl, by go_grown⟩

def opB2 (s : Bool) (t : Int) : Int := t % 6 + (if s then 6 else 0)
theorem operator_any (s : Bool) (t : Int) (w : World) (h0 : 0 ≤ t) (h1 : t ≤ 1000) :
    Calls Tryd.prog 52 #[.bool s, .int .i64 t] w fun e w' => e = .returned (.int .i64 (opB2 s t)) ∧ w = w' := by
  cases s
  all_goals
    go_enter Tryd.func52, Tryd.ntmps52
    go_wp2
    go_ret
    exact ⟨by simp [opB2], rfl⟩

def thenV (o p : Int) : Int := opB2 (swB o != swB p) ((if swB p then 6 - o % 6 else o % 6) + p % 6)
theorem then_any (o p : Int) (w : World) (h0 : 0 ≤ o) (h1 : o < 12) (p0 : 0 ≤ p) (p1 : p < 12) :
    Calls Tryd.prog 30 #[.int .i64 o, .int .i64 p] w fun e w' => e = .returned (.int .i64 (thenV o p)) ∧ w = w' := by
  unfold thenV
  cases hs : swB p
  all_goals
    go_enter Tryd.func30, Tryd.ntmps30
    go_wp2_with (first | (go_at_call 51; refine (swaps_any _ _).mono ?_; rintro e w' ⟨rfl, rfl⟩) | (go_at_call 50; refine (turns_any _ _ (by omega) (by omega)).mono ?_; rintro e w' ⟨rfl, rfl⟩) | (go_at_call 52; refine (operator_any _ _ _ (by omega) (by omega)).mono ?_; rintro e w' ⟨rfl, rfl⟩))
    go_ret
    exact ⟨by simp, rfl⟩
def backV (o : Int) : Int := if swB o then o else opB2 false (6 - o % 6)
theorem back_any (o : Int) (w : World) (h0 : 0 ≤ o) (h1 : o < 12) :
    Calls Tryd.prog 31 #[.int .i64 o] w fun e w' => e = .returned (.int .i64 (backV o)) ∧ w = w' := by
  unfold backV
  cases hs : swB o
  all_goals
    go_enter Tryd.func31, Tryd.ntmps31
    go_wp2_with (first | (go_at_call 51; refine (swaps_any _ _).mono ?_; rintro e w' ⟨rfl, rfl⟩) | (go_at_call 50; refine (turns_any _ _ (by omega) (by omega)).mono ?_; rintro e w' ⟨rfl, rfl⟩) | (go_at_call 52; refine (operator_any _ _ _ (by omega) (by omega)).mono ?_; rintro e w' ⟨rfl, rfl⟩))
    go_ret
    exact ⟨by simp, rfl⟩

theorem refgood_any (a b : Int) (w : World) :
    Calls Tryd.prog 40 #[.int .i64 a, .int .i64 b] w fun e w' => e = .returned (.bool (goodB a b)) ∧ w = w' := by
  have hg : goodB a b = (((decide (a ≤ 1099511627776) && decide (-1099511627776 ≤ a)) && decide (b ≤ 1099511627776)) && decide (-1099511627776 ≤ b)) := by
    rw [Bool.eq_iff_iff, goodB_iff]; simp; omega
  rw [hg]
  clear hg
  by_cases h1 : a ≤ 1099511627776
  · by_cases h2 : -1099511627776 ≤ a
    · by_cases h3 : b ≤ 1099511627776
      · go_enter Tryd.func40, Tryd.ntmps40
        go_wp2
        go_ret
        exact ⟨by simp; try omega, rfl⟩
      · go_enter Tryd.func40, Tryd.ntmps40
        go_wp2
        go_ret
        exact ⟨by simp; try omega, rfl⟩
    · go_enter Tryd.func40, Tryd.ntmps40
      go_wp2
      go_ret
      exact ⟨by simp; try omega, rfl⟩
  · go_enter Tryd.func40, Tryd.ntmps40
    go_wp2
    go_ret
    exact ⟨by simp; try omega, rfl⟩

theorem refon_core (o a b x y : Int) (w : World) (h0 : 0 ≤ o) (h1 : o < 12) (hx : x = if 6 ≤ o then b else a) (hy : y = if 6 ≤ o then a else b) (ha : -1099511627776 ≤ a ∧ a ≤ 1099511627776) (hb : -1099511627776 ≤ b ∧ b ≤ 1099511627776) :
    Calls Tryd.prog 48 #[.int .i64 o, .int .i64 a, .int .i64 b] w fun e w' => e = .returned (.tuple #[.int .i64 (tn (o % 6).toNat x y).1, .int .i64 (tn (o % 6).toNat x y).2]) ∧ w = w' := by
  have hxb : -1099511627776 ≤ x ∧ x ≤ 1099511627776 := by rw [hx]; split <;> assumption
  have hyb : -1099511627776 ≤ y ∧ y ≤ 1099511627776 := by rw [hy]; split <;> assumption
  by_cases hs : 6 ≤ o
  · rw [if_pos hs] at hx hy
    subst hx hy
    have hs' : 5 < o := by omega
    clear hs
    go_enter Tryd.func48, Tryd.ntmps48
    go_wp2
    go_loop [1, 2, 8] (fun p q i => ∃ k : Nat, k ≤ (o % 6).toNat ∧ p = .int .i64 (tn k x y).1 ∧ q = .int .i64 (tn k x y).2 ∧ i = .int .i64 k) (fun _ _ i => (o % 6).toNat - (intOf i).toNat)
    case atStart => exact ⟨0, Nat.zero_le _, rfl, rfl, rfl⟩
    case round =>
      obtain ⟨k, hk, rfl, rfl, rfl⟩ := hrel
      obtain ⟨⟨x1, x2⟩, y1, y2⟩ := tn_bd k x y (by omega) (by omega) (by omega)
      by_cases hlt : (k : Int) < o % 6
      · have HA := Lib.hid (show (tn (k + 1) x y).1 = -(tn k x y).2 from rfl)
        have HB := Lib.hid (show (tn (k + 1) x y).2 = (tn k x y).1 + (tn k x y).2 from rfl)
        generalize (tn k x y).1 = u at *
        generalize (tn k x y).2 = v at *
        go_wp2
        go_round
        case rel => exact ⟨k + 1, by omega, by rw [HA.out], by rw [HB.out], by go_num⟩
        case measure => simp [intOf]; omega
      · have e : k = (o % 6).toNat := by omega
        subst e
        go_wp2
        go_ret2
        exact ⟨rfl, rfl⟩
  · rw [if_neg hs] at hx hy
    subst hx hy
    have hs' : ¬ 5 < o := by omega
    clear hs
    go_enter Tryd.func48, Tryd.ntmps48
    go_wp2
    go_loop [1, 2, 8] (fun p q i => ∃ k : Nat, k ≤ (o % 6).toNat ∧ p = .int .i64 (tn k x y).1 ∧ q = .int .i64 (tn k x y).2 ∧ i = .int .i64 k) (fun _ _ i => (o % 6).toNat - (intOf i).toNat)
    case atStart => exact ⟨0, Nat.zero_le _, rfl, rfl, rfl⟩
    case round =>
      obtain ⟨k, hk, rfl, rfl, rfl⟩ := hrel
      obtain ⟨⟨x1, x2⟩, y1, y2⟩ := tn_bd k x y (by omega) (by omega) (by omega)
      by_cases hlt : (k : Int) < o % 6
      · have HA := Lib.hid (show (tn (k + 1) x y).1 = -(tn k x y).2 from rfl)
        have HB := Lib.hid (show (tn (k + 1) x y).2 = (tn k x y).1 + (tn k x y).2 from rfl)
        generalize (tn k x y).1 = u at *
        generalize (tn k x y).2 = v at *
        go_wp2
        go_round
        case rel => exact ⟨k + 1, by omega, by rw [HA.out], by rw [HB.out], by go_num⟩
        case measure => simp [intOf]; omega
      · have e : k = (o % 6).toNat := by omega
        subst e
        go_wp2
        go_ret2
        exact ⟨rfl, rfl⟩
theorem refon_any (o a b : Int) (w : World) (h0 : 0 ≤ o) (h1 : o < 12) (ha : -1099511627776 ≤ a ∧ a ≤ 1099511627776) (hb : -1099511627776 ≤ b ∧ b ≤ 1099511627776) :
    Calls Tryd.prog 48 #[.int .i64 o, .int .i64 a, .int .i64 b] w fun e w' => e = .returned (.tuple #[.int .i64 (opA o a b), .int .i64 (opB o a b)]) ∧ w = w' :=
  refon_core o a b _ _ w h0 h1 rfl rfl ha hb

end Go.Proofs.YthlchndhfnbjaaaDoor.Ax
