/- The check of a cell, the program's and the document's. -/
import Derived.Test.YtplldlfbcblncaaGreatDoorBs
import Derived.Test.YtplldlfbcblncaaGreatDoorFtAs
namespace Go.Proofs.YtplldlfbcblncaaGreatDoor.Ck
open Go.RowKit Go.Proofs.YtplldlfbcblncaaGreatDoor.Ba

abbrev Ce (a b h : Int) : Value := .agg #[.int .i64 a, .int .i64 b, .int .i64 h]
/-- Is a number within MaxCoord? -/
def inB (n : Int) : Bool := decide (-1099511627776 ≤ n ∧ n ≤ 1099511627776)
def goodB (a b : Int) : Bool := inB a && inB b

theorem inB_iff {n : Int} : inB n = true ↔ (-1099511627776 ≤ n ∧ n ≤ 1099511627776) := by simp [inB]
theorem inB_no {n : Int} : inB n = false ↔ ¬ (-1099511627776 ≤ n ∧ n ≤ 1099511627776) := by simp only [inB, decide_eq_false_iff_not]
theorem goodB_iff {a b : Int} : goodB a b = true ↔ ((-1099511627776 ≤ a ∧ a ≤ 1099511627776) ∧ (-1099511627776 ≤ b ∧ b ≤ 1099511627776)) := by
  unfold goodB; rw [Bool.and_eq_true, inB_iff, inB_iff]

theorem within_any (n : Int) (w : World) :
    Calls Tryz.prog 62 #[.int .i64 n] w fun e w' => e = .returned (.bool (inB n)) ∧ w = w' := by
  by_cases h1 : -1099511627776 ≤ n
  · by_cases h2 : n ≤ 1099511627776
    · have : inB n = true := inB_iff.2 ⟨h1, h2⟩
      go_enter Tryz.func62, Tryz.ntmps62
      go_wp2
      go_ret
      simp [*]
    · have : inB n = false := inB_no.2 (by omega)
      go_enter Tryz.func62, Tryz.ntmps62
      go_wp2
      go_ret
      simp [*]
  · have : inB n = false := inB_no.2 (by omega)
    go_enter Tryz.func62, Tryz.ntmps62
    go_wp2
    go_ret
    simp [*]

theorem pgood_any (a b : Int) (w : World) :
    Calls Tryz.prog 39 #[.agg #[.int .i64 a, .int .i64 b]] w fun e w' => e = .returned (.bool (goodB a b)) ∧ Below w.heap.size w w' := by
  cases h1 : inB a <;> cases h2 : inB b
  all_goals
    go_enter Tryz.func39, Tryz.ntmps39
    go_wp2_with (go_at_call 62; refine (within_any _ _).mono ?_; rintro e w' ⟨rfl, rfl⟩)
    go_ret
    exact ⟨by simp [goodB, h1, h2], by go_grown⟩

def latB (l : Int) : Bool := decide (1 ≤ l ∧ l ≤ 3)

theorem lgood_any (l : Int) (w : World) :
    Calls Tryz.prog 64 #[.int .i64 l] w fun e w' => e = .returned (.bool (latB l)) ∧ w = w' := by
  by_cases h1 : 1 ≤ l
  · have e : latB l = decide (l ≤ 3) := by unfold latB; simp [h1]
    rw [e]
    clear e
    go_enter Tryz.func64, Tryz.ntmps64
    go_wp2
    go_ret
    exact ⟨rfl, rfl⟩
  · have e : latB l = false := by unfold latB; simp [h1]
    rw [e]
    clear e
    go_enter Tryz.func64, Tryz.ntmps64
    go_wp2
    go_ret
    exact ⟨rfl, rfl⟩

def halvesV (l : Int) : Int := if l = 1 then 1 else 2
theorem halves_any (l : Int) (w : World) :
    Calls Tryz.prog 65 #[.int .i64 l] w fun e w' => e = .returned (.int .i64 (halvesV l)) ∧ w = w' := by
  by_cases h : l = 1
  · subst h
    go_enter Tryz.func65, Tryz.ntmps65
    go_wp2
    go_ret
    exact ⟨rfl, rfl⟩
  · have e : halvesV l = 2 := if_neg h
    have h' : (l == 1) = false := by simpa using h
    rw [e]
    clear e h
    go_enter Tryz.func65, Tryz.ntmps65
    go_wp2
    go_ret
    exact ⟨rfl, rfl⟩

theorem check_lat (l a b h : Int) (w : World) (hl : latB l = false) :
    Calls Tryz.prog 42 #[.int .i64 l, Ce a b h] w fun e w' => e = .returned (Er 11) ∧ Below w.heap.size w w' := by
  go_enter Tryz.func42, Tryz.ntmps42
  go_wp2_with (go_at_call 64; refine (lgood_any _ _).mono ?_; rintro e w' ⟨rfl, rfl⟩)
  go_ret
  exact ⟨rfl, by go_grown⟩

theorem check_arg (l a b h : Int) (w : World) (hl : latB l = true) (h0 : h < 0 ∨ halvesV l ≤ h) :
    Calls Tryz.prog 42 #[.int .i64 l, Ce a b h] w fun e w' => e = .returned (Er 4) ∧ Below w.heap.size w w' := by
  by_cases hn : h < 0
  · have hd : decide (h < 0) = true := by simpa using hn
    go_enter Tryz.func42, Tryz.ntmps42
    go_wp2_with (go_at_call 64; refine (lgood_any _ _).mono ?_; rintro e w' ⟨rfl, rfl⟩)
    go_quiet ((go_at_call 65; exact q_first (halves_any _)))
    go_wp2
    go_ret
    exact ⟨rfl, below_dr _ (by go_grown)⟩
  · have hd : decide (h < 0) = false := by simpa using hn
    have h2 : halvesV l ≤ h := by omega
    have hd2 : decide (halvesV l ≤ h) = true := by simpa using h2
    go_enter Tryz.func42, Tryz.ntmps42
    go_wp2_with (go_at_call 64; refine (lgood_any _ _).mono ?_; rintro e w' ⟨rfl, rfl⟩)
    go_quiet ((go_at_call 65; exact q_first (halves_any _)))
    go_wp2
    go_ret
    exact ⟨rfl, below_dr _ (by go_grown)⟩

theorem check_range (l a b h : Int) (w : World) (hl : latB l = true) (h0 : 0 ≤ h) (h1 : h < halvesV l) (hg : goodB a b = false) :
    Calls Tryz.prog 42 #[.int .i64 l, Ce a b h] w fun e w' => e = .returned (Er 6) ∧ Below w.heap.size w w' := by
  have hd : decide (h < 0) = false := by simp; omega
  have hd2 : decide (halvesV l ≤ h) = false := by simp; omega
  go_enter Tryz.func42, Tryz.ntmps42
  go_wp2_with (go_at_call 64; refine (lgood_any _ _).mono ?_; rintro e w' ⟨rfl, rfl⟩)
  go_quiet ((go_at_call 65; exact q_first (halves_any _)))
  go_wp2_with fail
  refine (pgood_any _ _ _).mono ?_
  rintro e w1 ⟨rfl, hb⟩
  have hb1 := below_call (B := w.heap.size) (w := w) hb (below_dr _ (by go_grown)) (by simp)
  clear hb
  go_wp2_with fail
  go_ret
  exact ⟨rfl, hb1⟩

theorem check_nil (l a b h : Int) (w : World) (hl : latB l = true) (h0 : 0 ≤ h) (h1 : h < halvesV l) (hg : goodB a b = true) :
    Calls Tryz.prog 42 #[.int .i64 l, Ce a b h] w fun e w' => e = .returned .nilIface ∧ Below w.heap.size w w' := by
  have hd : decide (h < 0) = false := by simp; omega
  have hd2 : decide (halvesV l ≤ h) = false := by simp; omega
  go_enter Tryz.func42, Tryz.ntmps42
  go_wp2_with (go_at_call 64; refine (lgood_any _ _).mono ?_; rintro e w' ⟨rfl, rfl⟩)
  go_quiet ((go_at_call 65; exact q_first (halves_any _)))
  go_wp2_with fail
  refine (pgood_any _ _ _).mono ?_
  rintro e w1 ⟨rfl, hb⟩
  have hb1 := below_call (B := w.heap.size) (w := w) hb (below_dr _ (by go_grown)) (by simp)
  clear hb
  go_wp2_with fail
  go_ret
  exact ⟨rfl, hb1⟩

theorem refgood_any (a b : Int) (w : World) :
    Calls Tryz.prog 25 #[.int .i64 a, .int .i64 b] w fun e w' => e = .returned (.bool (goodB a b)) ∧ w = w' := by
  have hg : goodB a b = (((decide (a ≤ 1099511627776) && decide (-1099511627776 ≤ a)) && decide (b ≤ 1099511627776)) && decide (-1099511627776 ≤ b)) := by
    rw [Bool.eq_iff_iff, goodB_iff]; simp; omega
  rw [hg]
  clear hg
  by_cases h1 : a ≤ 1099511627776
  · by_cases h2 : -1099511627776 ≤ a
    · by_cases h3 : b ≤ 1099511627776
      · go_enter Tryz.func25, Tryz.ntmps25
        go_wp2
        go_ret
        exact ⟨by simp; try omega, rfl⟩
      · go_enter Tryz.func25, Tryz.ntmps25
        go_wp2
        go_ret
        exact ⟨by simp; try omega, rfl⟩
    · go_enter Tryz.func25, Tryz.ntmps25
      go_wp2
      go_ret
      exact ⟨by simp; try omega, rfl⟩
  · go_enter Tryz.func25, Tryz.ntmps25
    go_wp2
    go_ret
    exact ⟨by simp; try omega, rfl⟩

/-- The code's number that a check answers. -/
def chkV (l a b h : Int) : Int := if latB l = false then 11 else if h < 0 ∨ halvesV l ≤ h then 4 else if goodB a b = false then 6 else 0
/-- No error of 0, else the code. -/
def errOf (n : Int) : Value := if n = 0 then .nilIface else Er n
theorem check_v (l a b h : Int) (w : World) :
    Calls Tryz.prog 42 #[.int .i64 l, Ce a b h] w fun e w' => e = .returned (errOf (chkV l a b h)) ∧ Below w.heap.size w w' := by
  unfold chkV
  cases hl : latB l
  · rw [if_pos rfl]; exact check_lat l a b h w hl
  · rw [if_neg (by simp)]
    by_cases hh : h < 0 ∨ halvesV l ≤ h
    · rw [if_pos hh]; exact check_arg l a b h w hl hh
    · rw [if_neg hh]
      cases hg : goodB a b
      · rw [if_pos rfl]; exact check_range l a b h w hl (by omega) (by omega) hg
      · rw [if_neg (by simp)]; exact check_nil l a b h w hl (by omega) (by omega) hg
theorem refcheck_any (l a b h : Int) (w : World) :
    Calls Tryz.prog 29 #[.int .i64 l, Ce a b h] w fun e w' => e = .returned (.int .i64 (chkV l a b h)) ∧ Below w.heap.size w w' := by
  by_cases l1 : l < 1
  · rw [show chkV l a b h = 11 by unfold chkV; rw [if_pos (by simp [latB]; omega)]]
    (go_enter Tryz.func29, Tryz.ntmps29; go_wp2_with (go_at_call 25; refine (refgood_any _ _ _).mono ?_; rintro e w' ⟨rfl, rfl⟩); go_ret; exact ⟨rfl, by go_grown⟩)
  · by_cases l2 : 3 < l
    · rw [show chkV l a b h = 11 by unfold chkV; rw [if_pos (by simp [latB]; omega)]]
      (go_enter Tryz.func29, Tryz.ntmps29; go_wp2_with (go_at_call 25; refine (refgood_any _ _ _).mono ?_; rintro e w' ⟨rfl, rfl⟩); go_ret; exact ⟨rfl, by go_grown⟩)
    · have hl : ¬ latB l = false := by simp [latB]; omega
      have hv : halvesV l = if l = 1 then 1 else 2 := rfl
      by_cases h1 : h < 0
      · rw [show chkV l a b h = 4 by unfold chkV; rw [if_neg hl, if_pos (by omega)]]
        clear hl hv
        (go_enter Tryz.func29, Tryz.ntmps29; go_wp2_with (go_at_call 25; refine (refgood_any _ _ _).mono ?_; rintro e w' ⟨rfl, rfl⟩); go_ret; exact ⟨rfl, by go_grown⟩)
      · by_cases h2 : 1 < h
        · rw [show chkV l a b h = 4 by unfold chkV; rw [if_neg hl, if_pos (by rw [hv]; split <;> omega)]]
          clear hl hv
          (go_enter Tryz.func29, Tryz.ntmps29; go_wp2_with (go_at_call 25; refine (refgood_any _ _ _).mono ?_; rintro e w' ⟨rfl, rfl⟩); go_ret; exact ⟨rfl, by go_grown⟩)
        · by_cases l3 : l = 1
          · by_cases h3 : 0 < h
            · rw [show chkV l a b h = 4 by unfold chkV; rw [if_neg hl, if_pos (by rw [hv, if_pos l3]; omega)]]
              clear hl hv
              subst l3
              (go_enter Tryz.func29, Tryz.ntmps29; go_wp2_with (go_at_call 25; refine (refgood_any _ _ _).mono ?_; rintro e w' ⟨rfl, rfl⟩); go_ret; exact ⟨rfl, by go_grown⟩)
            · cases hg : goodB a b
              · rw [show chkV l a b h = 6 by unfold chkV; rw [if_neg hl, if_neg (by rw [hv, if_pos l3]; omega), if_pos hg]]
                clear hl hv
                subst l3
                (go_enter Tryz.func29, Tryz.ntmps29; go_wp2_with (go_at_call 25; refine (refgood_any _ _ _).mono ?_; rintro e w' ⟨rfl, rfl⟩); go_ret; exact ⟨rfl, by go_grown⟩)
              · rw [show chkV l a b h = 0 by unfold chkV; rw [if_neg hl, if_neg (by rw [hv, if_pos l3]; omega), if_neg (by simp [hg])]]
                clear hl hv
                subst l3
                (go_enter Tryz.func29, Tryz.ntmps29; go_wp2_with (go_at_call 25; refine (refgood_any _ _ _).mono ?_; rintro e w' ⟨rfl, rfl⟩); go_ret; exact ⟨rfl, by go_grown⟩)
          · have l4 : (l == 1) = false := by simpa using l3
            cases hg : goodB a b
            · rw [show chkV l a b h = 6 by unfold chkV; rw [if_neg hl, if_neg (by rw [hv, if_neg l3]; omega), if_pos hg]]
              clear hl hv l3
              (go_enter Tryz.func29, Tryz.ntmps29; go_wp2_with (go_at_call 25; refine (refgood_any _ _ _).mono ?_; rintro e w' ⟨rfl, rfl⟩); go_ret; exact ⟨rfl, by go_grown⟩)
            · rw [show chkV l a b h = 0 by unfold chkV; rw [if_neg hl, if_neg (by rw [hv, if_neg l3]; omega), if_neg (by simp [hg])]]
              clear hl hv l3
              (go_enter Tryz.func29, Tryz.ntmps29; go_wp2_with (go_at_call 25; refine (refgood_any _ _ _).mono ?_; rintro e w' ⟨rfl, rfl⟩); go_ret; exact ⟨rfl, by go_grown⟩)
end Go.Proofs.YtplldlfbcblncaaGreatDoor.Ck
