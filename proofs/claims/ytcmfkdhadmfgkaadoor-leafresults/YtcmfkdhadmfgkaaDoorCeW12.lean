/- The document's own Near and Beside. -/
import Derived.Test.YtcmfkdhadmfgkaaDoorCeW11
import Derived.IntWalk
namespace Go.Proofs.YtcmfkdhadmfgkaaDoor.Ce
open Go.RowKit Go.Proofs.YtcmfkdhadmfgkaaDoor.Ax

/-- The document's Near. -/
def hexB (x y : Int) : Bool := decide (-1 ≤ x) && (decide (x ≤ 1) && (decide (-1 ≤ y) && (decide (y ≤ 1) && (x != y))))
def nearB (l a b h a' b' h' : Int) : Bool :=
  if (a == a' && (b == b' && h == h')) = true then false else if l = 1 then hexB (a' - a) (b' - b) else if l = 2 then comN a b h a' b' h' 3 == 2 else decide (0 < comN a b h a' b' h' 3)
theorem nearB_shift (l a b h i j h' : Int) : nearB l a b h (a + i) (b + j) h' = nearB l 0 0 h i j h' := by
  unfold nearB
  rw [comN_shift, show a + i - a = i - 0 by omega, show b + j - b = j - 0 by omega]
  have e1 : (a == a + i) = (0 == i) := by rw [Bool.eq_iff_iff]; simp; omega
  have e2 : (b == b + j) = (0 == j) := by rw [Bool.eq_iff_iff]; simp; omega
  rw [e1, e2]
theorem near_same (l a b h a' b' h' : Int) (w : World) (hq : (a == a' && (b == b' && h == h')) = true) :
    Calls Tryd.prog 79 #[.int .i64 l, Ce a b h, Ce a' b' h'] w fun e w' => e = .returned (.bool false) ∧ Below w.heap.size w w' := by
  have er := eql_rc a b h a' b' h'
  rw [hq] at er
  clear hq
  go_enter Tryd.func79, Tryd.ntmps79
  go_wp2
  go_ret
  exact ⟨rfl, by go_grown⟩
theorem near_hex (a b h a' b' h' : Int) (w : World) (hq : (a == a' && (b == b' && h == h')) = false) (a0 : -8796093022208 ≤ a ∧ a ≤ 8796093022208) (b0 : -8796093022208 ≤ b ∧ b ≤ 8796093022208) (c0 : -8796093022208 ≤ a' ∧ a' ≤ 8796093022208) (d0 : -8796093022208 ≤ b' ∧ b' ≤ 8796093022208) :
    Calls Tryd.prog 79 #[.int .i64 1, Ce a b h, Ce a' b' h'] w fun e w' => e = .returned (.bool (hexB (a' - a) (b' - b))) ∧ Below w.heap.size w w' := by
  have er := eql_rc a b h a' b' h'
  rw [hq] at er
  clear hq
  have v1 : IntKind.i64.wrap (a' - a) = a' - a := IntWalk.i64_in _ (by omega)
  have v2 : IntKind.i64.wrap (b' - b) = b' - b := IntWalk.i64_in _ (by omega)
  go_enter Tryd.func79, Tryd.ntmps79
  go_wp2_with fail
  go_quiet (fail)
  obtain ⟨x, hx⟩ : ∃ x, a' - a = x := ⟨_, rfl⟩
  obtain ⟨y, hy⟩ : ∃ y, b' - b = y := ⟨_, rfl⟩
  have HX := Lib.hid hx
  have HY := Lib.hid hy
  rw [hx, hy]
  clear v1 v2 hx hy
  have U := Lib.hid (show hexB x y = (decide (-1 ≤ x) && (decide (x ≤ 1) && (decide (-1 ≤ y) && (decide (y ≤ 1) && (x != y))))) from rfl)
  cases g1 : decide (-1 ≤ x) <;> cases g2 : decide (x ≤ 1) <;> cases g3 : decide (-1 ≤ y) <;> cases g4 : decide (y ≤ 1)
  all_goals
    have UU := Lib.hid U.out
    rw [g1, g2, g3, g4] at UU
    have V := Lib.hid UU.out
    clear UU
    go_wp2
    go_ret
    exact ⟨by rw [HX.out, HY.out, V.out]; simp, by go_grown; (repeat (refine below_dr _ ?_; go_grown))⟩
theorem near_tri (l a b h a' b' h' : Int) (w : World) (hl : l = 2 ∨ l = 3) (hq : (a == a' && (b == b' && h == h')) = false) (a0 : -8796093022208 ≤ a ∧ a ≤ 8796093022208) (b0 : -8796093022208 ≤ b ∧ b ≤ 8796093022208) (c0 : -8796093022208 ≤ a' ∧ a' ≤ 8796093022208) (d0 : -8796093022208 ≤ b' ∧ b' ≤ 8796093022208) :
    Calls Tryd.prog 79 #[.int .i64 l, Ce a b h, Ce a' b' h'] w fun e w' => e = .returned (.bool (if l = 2 then comN a b h a' b' h' 3 == 2 else decide (0 < comN a b h a' b' h' 3))) ∧ Below w.heap.size w w' := by
  have er := eql_rc a b h a' b' h'
  rw [hq] at er
  clear hq
  rcases hl with rfl | rfl
  · rw [if_pos rfl]
    go_enter Tryd.func79, Tryd.ntmps79
    go_wp2_with fail
    refine (refcommon_any _ _ _ _ _ _ _ a0 b0 c0 d0).mono ?_
    rintro e w1 ⟨rfl, hb⟩
    have hb1 := below_call (B := w.heap.size) (w := w) hb (by go_grown) (by go_size)
    clear hb
    go_wp2
    go_ret
    exact ⟨rfl, hb1⟩
  · rw [if_neg (by decide)]
    go_enter Tryd.func79, Tryd.ntmps79
    go_wp2_with fail
    refine (refcommon_any _ _ _ _ _ _ _ a0 b0 c0 d0).mono ?_
    rintro e w1 ⟨rfl, hb⟩
    have hb1 := below_call (B := w.heap.size) (w := w) hb (by go_grown) (by go_size)
    clear hb
    go_wp2
    go_ret
    exact ⟨rfl, hb1⟩
theorem near_any (l a b h a' b' h' : Int) (w : World) (hl : l = 1 ∨ l = 2 ∨ l = 3) (a0 : -8796093022208 ≤ a ∧ a ≤ 8796093022208) (b0 : -8796093022208 ≤ b ∧ b ≤ 8796093022208) (c0 : -8796093022208 ≤ a' ∧ a' ≤ 8796093022208) (d0 : -8796093022208 ≤ b' ∧ b' ≤ 8796093022208) (t : Bool) (ht : nearB l a b h a' b' h' = t) :
    Calls Tryd.prog 79 #[.int .i64 l, Ce a b h, Ce a' b' h'] w fun e w' => e = .returned (.bool t) ∧ Below w.heap.size w w' := by
  subst ht
  unfold nearB
  cases hq : (a == a' && (b == b' && h == h'))
  · rw [if_neg (by simp)]
    rcases hl with rfl | hl
    · rw [if_pos rfl]; exact near_hex a b h a' b' h' w hq a0 b0 c0 d0
    · rw [if_neg (show ¬ l = 1 by omega)]; exact near_tri l a b h a' b' h' w hl hq a0 b0 c0 d0
  · rw [if_pos rfl]; exact near_same l a b h a' b' h' w hq
end Go.Proofs.YtcmfkdhadmfgkaaDoor.Ce
