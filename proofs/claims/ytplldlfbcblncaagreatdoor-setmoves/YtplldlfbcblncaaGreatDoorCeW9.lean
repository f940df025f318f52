/- The document's own Check, Ahead and cell.Compare; what a check answers, by its code's number. -/
import Derived.Test.YtplldlfbcblncaaGreatDoorCeW8
namespace Go.Proofs.YtplldlfbcblncaaGreatDoor.Ce
open Go.RowKit Go.Proofs.YtplldlfbcblncaaGreatDoor.Ax

/-- The code's number that a check answers. -/
def chkV (l a b h : Int) : Int := if latB l = false then 11 else if h < 0 ∨ halvesV l ≤ h then 4 else if goodB a b = false then 6 else 0
/-- No error of 0, else the code. -/
def errOf (n : Int) : Value := if n = 0 then .nilIface else Er n
theorem check_v (l a b h : Int) (w : World) :
    Calls Tryz.prog 42 #[.int .i64 l, Ce a b h] w fun e w' => e = .returned (errOf (chkV l a b h)) ∧ Below w.heap.size w w' := by
  unfold chkV
  cases hl : latB l
  · rw [if_pos rfl]; exact check_lat l a b h w hl
  · rw [if_neg (by simp)]
    by_cases hh : h < 0 ∨ halvesV l ≤ h
    · rw [if_pos hh]; exact check_arg l a b h w hl hh
    · rw [if_neg hh]
      cases hg : goodB a b
      · rw [if_pos rfl]; exact check_range l a b h w hl (by omega) (by omega) hg
      · rw [if_neg (by simp)]; exact check_nil l a b h w hl (by omega) (by omega) hg
theorem refcheck_any (l a b h : Int) (w : World) :
    Calls Tryz.prog 29 #[.int .i64 l, Ce a b h] w fun e w' => e = .returned (.int .i64 (chkV l a b h)) ∧ Below w.heap.size w w' := by
  by_cases l1 : l < 1
  · rw [show chkV l a b h = 11 by unfold chkV; rw [if_pos (by simp [latB]; omega)]]
    (go_enter Tryz.func29, Tryz.ntmps29; go_wp2_with (go_at_call 25; refine (refgood_any _ _ _).mono ?_; rintro e w' ⟨rfl, rfl⟩); go_ret; exact ⟨rfl, by go_grown⟩)
  · by_cases l2 : 3 < l
    · rw [show chkV l a b h = 11 by unfold chkV; rw [if_pos (by simp [latB]; omega)]]
      (go_enter Tryz.func29, Tryz.ntmps29; go_wp2_with (go_at_call 25; refine (refgood_any _ _ _).mono ?_; rintro e w' ⟨rfl, rfl⟩); go_ret; exact ⟨rfl, by go_grown⟩)
    · have hl : ¬ latB l = false := by simp [latB]; omega
      have hv : halvesV l = if l = 1 then 1 else 2 := rfl
      by_cases h1 : h < 0
      · rw [show chkV l a b h = 4 by unfold chkV; rw [if_neg hl, if_pos (by omega)]]
        clear hl hv
        (go_enter Tryz.func29, Tryz.ntmps29; go_wp2_with (go_at_call 25; refine (refgood_any _ _ _).mono ?_; rintro e w' ⟨rfl, rfl⟩); go_ret; exact ⟨rfl, by go_grown⟩)
      · by_cases h2 : 1 < h
        · rw [show chkV l a b h = 4 by unfold chkV; rw [if_neg hl, if_pos (by rw [hv]; split <;> omega)]]
          clear hl hv
          (go_enter Tryz.func29, Tryz.ntmps29; go_wp2_with (go_at_call 25; refine (refgood_any _ _ _).mono ?_; rintro e w' ⟨rfl, rfl⟩); go_ret; exact ⟨rfl, by go_grown⟩)
        · by_cases l3 : l = 1
          · by_cases h3 : 0 < h
            · rw [show chkV l a b h = 4 by unfold chkV; rw [if_neg hl, if_pos (by rw [hv, if_pos l3]; omega)]]
              clear hl hv
              subst l3
              (go_enter Tryz.func29, Tryz.ntmps29; go_wp2_with (go_at_call 25; refine (refgood_any _ _ _).mono ?_; rintro e w' ⟨rfl, rfl⟩); go_ret; exact ⟨rfl, by go_grown⟩)
            · cases hg : goodB a b
              · rw [show chkV l a b h = 6 by unfold chkV; rw [if_neg hl, if_neg (by rw [hv, if_pos l3]; omega), if_pos hg]]
                clear hl hv
                subst l3
                (go_enter Tryz.func29, Tryz.ntmps29; go_wp2_with (go_at_call 25; refine (refgood_any _ _ _).mono ?_; rintro e w' ⟨rfl, rfl⟩); go_ret; exact ⟨rfl, by go_grown⟩)
              · rw [show chkV l a b h = 0 by unfold chkV; rw [if_neg hl, if_neg (by rw [hv, if_pos l3]; omega), if_neg (by simp [hg])]]
                clear hl hv
                subst l3
                (go_enter Tryz.func29, Tryz.ntmps29; go_wp2_with (go_at_call 25; refine (refgood_any _ _ _).mono ?_; rintro e w' ⟨rfl, rfl⟩); go_ret; exact ⟨rfl, by go_grown⟩)
          · have l4 : (l == 1) = false := by simpa using l3
            cases hg : goodB a b
            · rw [show chkV l a b h = 6 by unfold chkV; rw [if_neg hl, if_neg (by rw [hv, if_neg l3]; omega), if_pos hg]]
              clear hl hv l3
              (go_enter Tryz.func29, Tryz.ntmps29; go_wp2_with (go_at_call 25; refine (refgood_any _ _ _).mono ?_; rintro e w' ⟨rfl, rfl⟩); go_ret; exact ⟨rfl, by go_grown⟩)
            · rw [show chkV l a b h = 0 by unfold chkV; rw [if_neg hl, if_neg (by rw [hv, if_neg l3]; omega), if_neg (by simp [hg])]]
              clear hl hv l3
              (go_enter Tryz.func29, Tryz.ntmps29; go_wp2_with (go_at_call 25; refine (refgood_any _ _ _).mono ?_; rintro e w' ⟨rfl, rfl⟩); go_ret; exact ⟨rfl, by go_grown⟩)
/-- Is a cell ahead of another one? -/
def aheadB (a b h c d k : Int) : Bool := if (b != d) = true then decide (b < d) else if (a != c) = true then decide (a < c) else decide (h < k)
theorem ahead_any (a b h c d k : Int) (w : World) :
    Calls Tryz.prog 63 #[Ce a b h, Ce c d k] w fun e w' => e = .returned (.bool (aheadB a b h c d k)) ∧ Below w.heap.size w w' := by
  unfold aheadB
  cases g1 : (b != d)
  · rw [if_neg (by simp)]
    cases g2 : (a != c)
    · rw [if_neg (by simp)]
      (go_enter Tryz.func63, Tryz.ntmps63; go_wp2; go_ret; exact ⟨rfl, by go_grown⟩)
    · rw [if_pos rfl]
      (go_enter Tryz.func63, Tryz.ntmps63; go_wp2; go_ret; exact ⟨rfl, by go_grown⟩)
  · rw [if_pos rfl]
    (go_enter Tryz.func63, Tryz.ntmps63; go_wp2; go_ret; exact ⟨rfl, by go_grown⟩)
theorem told_any (a b h : Int) (w : World) :
    Calls Tryz.prog 21 #[Ce a b h] w fun e w' => e = .returned (Ce a b h) ∧ Below w.heap.size w w' := by
  go_enter Tryz.func21, Tryz.ntmps21
  go_wp2
  exact bodyPost_ret (v := Ce a b h) (by simp [results, Tryz.results21, go_sem, *]) rfl ⟨rfl, by go_grown⟩
theorem isNaN_any (n : Int) (w : World) :
    Calls Tryz.prog 61 #[.int .i64 n] w fun e w' => e = .returned (.bool false) ∧ w = w' := by
  have h : (n != n) = false := by simp
  go_enter Tryz.func61, Tryz.ntmps61
  go_wp2
  go_ret
  exact ⟨rfl, rfl⟩
def cmpV (x y : Int) : Int := if x < y then -1 else if y < x then 1 else 0
theorem cmpcmp_any (x y : Int) (w : World) :
    Calls Tryz.prog 36 #[.int .i64 x, .int .i64 y] w fun e w' => e = .returned (.int .i64 (cmpV x y)) ∧ w = w' := by
  unfold cmpV
  by_cases h1 : x < y
  · rw [if_pos h1]
    (go_enter Tryz.func36, Tryz.ntmps36; go_wp2_with (go_at_call 61; refine (isNaN_any _ _).mono ?_; rintro e w' ⟨rfl, rfl⟩); go_ret; exact ⟨rfl, rfl⟩)
  · rw [if_neg h1]
    by_cases h2 : y < x
    · rw [if_pos h2]
      (go_enter Tryz.func36, Tryz.ntmps36; go_wp2_with (go_at_call 61; refine (isNaN_any _ _).mono ?_; rintro e w' ⟨rfl, rfl⟩); go_ret; exact ⟨rfl, rfl⟩)
    · rw [if_neg h2]
      (go_enter Tryz.func36, Tryz.ntmps36; go_wp2_with (go_at_call 61; refine (isNaN_any _ _).mono ?_; rintro e w' ⟨rfl, rfl⟩); go_ret; exact ⟨rfl, rfl⟩)
/-- -1, 0 or 1: a cell is ahead of another, it is that, it is behind it. -/
def ceCmp (a b h c d k : Int) : Int := if (a == c && b == d) = true then cmpV h k else if lessB a b c d = true then -1 else 1
theorem compare_any (a b h c d k : Int) (w : World) :
    Calls Tryz.prog 19 #[Ce a b h, Ce c d k] w fun e w' => e = .returned (.int .i64 (ceCmp a b h c d k)) ∧ Below w.heap.size w w' := by
  unfold ceCmp
  have ep := eql_pt a b c d
  cases g1 : (a == c && b == d)
  · rw [if_neg (by simp)]
    rw [g1] at ep
    clear g1
    cases g2 : lessB a b c d
    all_goals
      go_enter Tryz.func19, Tryz.ntmps19
      go_wp2_with fail
      refine (less_any _ _ _ _ _).mono ?_
      rintro e w1 ⟨rfl, hb⟩
      have hb1 := below_call (B := w.heap.size) (w := w) hb (by go_grown) (by go_size)
      clear hb
      go_wp2_with fail
      go_ret
      exact ⟨rfl, hb1⟩
  · rw [if_pos rfl]
    rw [g1] at ep
    clear g1
    go_enter Tryz.func19, Tryz.ntmps19
    go_wp2_with (go_at_call 36; refine (cmpcmp_any _ _ _).mono ?_; rintro e w' ⟨rfl, rfl⟩)
    go_ret
    exact ⟨rfl, by go_grown⟩
theorem cmp_ahead (a b h c d k : Int) : ceCmp a b h c d k = if aheadB a b h c d k = true then -1 else if (!(a == c && (b == d && h == k))) = true then 1 else 0 := by
  unfold ceCmp aheadB cmpV lessB
  by_cases h1 : a = c <;> by_cases h2 : b = d <;> simp [h1, h2]
  · by_cases h3 : h < k
    · simp [h3]
    · by_cases h4 : k < h
      · simp [h3, h4]; omega
      · simp [h3, h4]; omega
end Go.Proofs.YtplldlfbcblncaaGreatDoor.Ce
