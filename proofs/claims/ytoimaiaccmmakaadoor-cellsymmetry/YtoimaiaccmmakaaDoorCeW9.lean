/- The document's own Check, Ahead and cell.Compare; what a check answers, by its code's number. -/
import Derived.Test.YtoimaiaccmmakaaDoorCeL
namespace Go.Proofs.YtoimaiaccmmakaaDoor.Ce
open Go.RowKit Go.Proofs.YtoimaiaccmmakaaDoor.Ax

/-- The code's number that a check answers. -/
def chkV (l a b h : Int) : Int := if latB l = false then 11 else if h < 0 ∨ halvesV l ≤ h then 4 else if goodB a b = false then 6 else 0
/-- No error of 0, else the code. -/
def errOf (n : Int) : Value := if n = 0 then .nilIface else Er n
theorem check_v (l a b h : Int) (w : World) :
    Calls Tryd.prog 16 #[.int .i64 l, Ce a b h] w fun e w' => e = .returned (errOf (chkV l a b h)) ∧ Below w.heap.size w w' := by
  unfold chkV
  cases hl : latB l
  · rw [if_pos rfl]; exact check_lat l a b h w hl
  · rw [if_neg (by simp)]
    by_cases hh : h < 0 ∨ halvesV l ≤ h
    · rw [if_pos hh]; exact check_arg l a b h w hl hh
    · rw [if_neg hh]
      cases hg : goodB a b
      · rw [if_pos rfl]; exact check_range l a b h w hl (by omega) (by omega) hg
      · rw [if_neg (by simp)]; exact check_nil l a b h w hl (by omega) (by omega) hg
/-- Is a cell ahead of another one? -/
def aheadB (a b h c d k : Int) : Bool := if (b != d) = true then decide (b < d) else if (a != c) = true then decide (a < c) else decide (h < k)
theorem told_any (a b h : Int) (w : World) :
    Calls Tryd.prog 12 #[Ce a b h] w fun e w' => e = .returned (Ce a b h) ∧ Below w.heap.size w w' := by
  go_enter Tryd.func12, Tryd.ntmps12
  go_wp2
  exact bodyPost_ret (v := Ce a b h) (by simp [results, Tryd.results12, go_sem, *]) rfl ⟨rfl, by go_grown⟩
def cmpV (x y : Int) : Int := if x < y then -1 else if y < x then 1 else 0
/-- -1, 0 or 1: a cell is ahead of another, it is that, it is behind it. -/
def ceCmp (a b h c d k : Int) : Int := if (a == c && b == d) = true then cmpV h k else if lessB a b c d = true then -1 else 1
theorem cmp_ahead (a b h c d k : Int) : ceCmp a b h c d k = if aheadB a b h c d k = true then -1 else if (!(a == c && (b == d && h == k))) = true then 1 else 0 := by
  unfold ceCmp aheadB cmpV lessB
  by_cases h1 : a = c <;> by_cases h2 : b = d <;> simp [h1, h2]
  · by_cases h3 : h < k
    · simp [h3]
    · by_cases h4 : k < h
      · simp [h3, h4]; omega
      · simp [h3, h4]; omega
end Go.Proofs.YtoimaiaccmmakaaDoor.Ce
