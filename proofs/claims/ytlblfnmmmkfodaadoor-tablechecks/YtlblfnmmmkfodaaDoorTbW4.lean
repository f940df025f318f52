/- Answers that the document fixes: the law's own look; the classes as they lie in memory. -/
import Derived.Test.YtlblfnmmmkfodaaDoorTbW3
namespace Go.Proofs.YtlblfnmmmkfodaaDoor.Tb
open Go.RowKit Go.Proofs.YtlblfnmmmkfodaaDoor.Ba

theorem ring3 (w : World) : Calls Tryd.prog 13 #[.int .i64 3] w fun e w' => e = .returned (Cl 2 111) ∧ Below w.heap.size w w' := by
  have h := ring_any 3 w
  rw [show ((3 : Int) % 64).toNat = 3 from rfl, show oc 3 = 2 by decide, show lett 3 = 111 by decide +kernel] at h
  exact h
theorem ring9 (w : World) : Calls Tryd.prog 13 #[.int .i64 9] w fun e w' => e = .returned (Cl 2 112) ∧ Below w.heap.size w w' := by
  have h := ring_any 9 w
  rw [show ((9 : Int) % 64).toNat = 9 from rfl, show oc 9 = 2 by decide, show lett 9 = 112 by decide +kernel] at h
  exact h
theorem ring11 (w : World) : Calls Tryd.prog 13 #[.int .i64 11] w fun e w' => e = .returned (Cl 3 109) ∧ Below w.heap.size w w' := by
  have h := ring_any 11 w
  rw [show ((11 : Int) % 64).toNat = 11 from rfl, show oc 11 = 3 by decide, show lett 11 = 109 by decide +kernel] at h
  exact h
/-- The classes as Classes hands them out. -/
def ClsIs (cur : Array Value) : Prop := ∀ k, k < 13 → cur[k * 2]? = some (.int .i64 (cls.getD k (0, 0)).1) ∧ cur[k * 2 + 1]? = some (.int .u8 (cls.getD k (0, 0)).2)
theorem clsIs_of {cur : Array Value} (h : cur.toList.take 26 = flatC cls) : ClsIs cur := by
  have hi : ∀ i, i < 26 → cur[i]? = (flatC cls)[i]? := by
    intro i hi
    rw [← h, List.getElem?_take, if_pos hi, Array.getElem?_toList]
  intro k hk
  rw [hi _ (by omega), hi _ (by omega)]
  have : k = 0 ∨ k = 1 ∨ k = 2 ∨ k = 3 ∨ k = 4 ∨ k = 5 ∨ k = 6 ∨ k = 7 ∨ k = 8 ∨ k = 9 ∨ k = 10 ∨ k = 11 ∨ k = 12 := by omega
  rcases this with rfl | rfl | rfl | rfl | rfl | rfl | rfl | rfl | rfl | rfl | rfl | rfl | rfl <;> exact ⟨rfl, rfl⟩
def ClsYes (w : World) (e : Ending) (w' : World) : Prop :=
  ∃ g cap cur, e = .returned (.slice (some ⟨g, 0, none⟩) 13 cap) ∧ w.heap.size ≤ g ∧ Blk w' g 45 cur ∧ ClsIs cur ∧ 13 ≤ cap ∧ Below w.heap.size w w'
theorem classes_yes (w : World) : Calls Tryd.prog 14 #[] w (ClsYes w) := by
  refine (classes_any w).mono ?_
  rintro e w' ⟨v, rfl, hown, hb⟩
  rcases hown.2 with ⟨_, hn⟩ | ⟨g, cap, cur, rfl, hbs, hh, hn, hc, hsz, hx⟩
  · cases hn
  · exact ⟨g, cap, cur, rfl, hbs, hh, clsIs_of hx, hn, hb⟩
set_option maxHeartbeats 1000000 in
theorem awake_any (w : World) : Calls Tryd.prog 4 #[] w fun e w' => e = .returned (.bool true) ∧ Below w.heap.size w w' := by
  have ec := eql_cl
  go_enter Tryd.func4, Tryd.ntmps4
  go_wp2_with fail
  refine (ring3 _).mono ?_
  rintro e w1 ⟨rfl, hb1⟩
  go_wp2_with fail
  refine (ring9 _).mono ?_
  rintro e w2 ⟨rfl, hb⟩
  have hb2 := below_call hb hb1 hb1.size
  clear hb hb1
  go_wp2_with fail
  refine (ring11 _).mono ?_
  rintro e w3 ⟨rfl, hb⟩
  have hb3 := below_call hb hb2 hb2.size
  clear hb hb2
  go_wp2_with fail
  refine (classes_yes _).mono ?_
  rintro e w4 ⟨g, cap, cur, rfl, _, _, _, _, hb⟩
  have hb4 := below_call hb hb3 hb3.size
  clear hb hb3
  go_wp2_with fail
  go_ret
  exact ⟨rfl, hb4⟩
end Go.Proofs.YtlblfnmmmkfodaaDoor.Tb
