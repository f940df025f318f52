/- slices.Equal at sets, set's Same. -/
import Derived.Test.YtggpleppoplkcaaDoorSeW4
import Derived.Test.YtggpleppoplkcaaDoorSeO
namespace Go.Proofs.YtggpleppoplkcaaDoor.Se
open Go.RowKit Go.Proofs.YtggpleppoplkcaaDoor.Ax Go.Proofs.YtggpleppoplkcaaDoor.Ba Go.Shelf Go.Lib Go.Sort

theorem allEq_dec : ∀ L M : List C, Lib.allEq (fun x y : C => decide (x = y)) L M = decide (L = M)
  | [], [] => by simp [Lib.allEq]
  | [], _ :: _ => by simp [Lib.allEq]
  | _ :: _, [] => by simp [Lib.allEq]
  | x :: L, y :: M => by
    rw [Lib.allEq, allEq_dec L M, Bool.eq_iff_iff]
    simp
theorem neqAt : NeqAt Tryd.prog 60 (fun x : C => .agg (encC x).toArray) (fun x y => decide (x = y)) := ⟨fun x y w => ne_c x y w, GuardAt.agg _ (by kernel_rfl)⟩
theorem equal_nil (v : Value) (M : List C) (w : World) (h : SetAt w v M) (hM : M.length ≤ 1000000) :
    (Calls Tryd.prog 45 #[.slice none 0 0, v] w fun e w' => e = .returned (.bool (decide (M = []))) ∧ Below w.heap.size w w') ∧
    (Calls Tryd.prog 45 #[v, .slice none 0 0] w fun e w' => e = .returned (.bool (decide (M = []))) ∧ Below w.heap.size w w') := by
  have key : ∃ p cap, v = .slice p M.length cap := by
    rcases h with ⟨rfl, rfl⟩ | ⟨g, cap, rfl, _, _⟩
    · exact ⟨none, 0, rfl⟩
    · exact ⟨_, _, rfl⟩
  obtain ⟨p, cap, rfl⟩ := key
  rcases Nat.eq_zero_or_pos M.length with h0 | h0
  · have e : decide (M = []) = true := by rw [List.length_eq_zero_iff.1 h0]; rfl
    rw [e, h0]
    clear h
    constructor
    all_goals
      go_enter Tryd.func45, Tryd.ntmps45
      go_wp2_with fail
      go_loopw [13] (fun s wr => s = .int .i64 0 ∧ Below w.heap.size w wr) (fun _ _ => 0)
      case atStart => exact ⟨rfl, Below.refl _ _⟩
      case round =>
        obtain ⟨rfl, hb⟩ := hrel
        go_wp2
        go_ret
        exact ⟨rfl, hb⟩
  · have e : decide (M = []) = false := by cases M with | nil => simp at h0 | cons _ _ => simp
    rw [e]
    clear h
    generalize M.length = m at *
    constructor
    all_goals
      go_enter Tryd.func45, Tryd.ntmps45
      go_wp2
      go_ret
      exact ⟨rfl, Below.refl _ _⟩
theorem cells_at {w : World} {g : Nat} {L : List C} (hr : Row w g L) : ∀ j, j < L.length → ∀ i v, (encC L[j]!)[i]? = some v → w.cell? ⟨g, 0 + j * 3 + i, none⟩ = some v := by
  intro j hj i v hv
  have e : L[j]? = some L[j]! := by rw [getElem!_pos L j hj]; exact List.getElem?_eq_getElem hj
  obtain ⟨c0, c1, c2⟩ := hr.1 j _ e
  have hi : i < 3 := by have := (List.getElem?_eq_some_iff.1 hv).1; simpa [encC] using this
  have h3 : i = 0 ∨ i = 1 ∨ i = 2 := by omega
  rw [Nat.zero_add]
  rcases h3 with rfl | rfl | rfl
  · rw [← hv]; exact c0
  · rw [← hv]; exact c1
  · rw [← hv]; exact c2
theorem equal_any (u v : Value) (L M : List C) (w : World) (h : SetAt w u L) (k : SetAt w v M) (hL : L.length ≤ 1000000) (hM : M.length ≤ 1000000) :
    Calls Tryd.prog 45 #[u, v] w fun e w' => e = .returned (.bool (decide (L = M))) ∧ Below w.heap.size w w' := by
  rcases id h with ⟨rfl, rfl⟩ | ⟨g, cap, rfl, _, hr⟩
  · have := (equal_nil v M w k hM).1
    rw [show decide (([] : List C) = M) = decide (M = []) by rw [Bool.eq_iff_iff]; simp [eq_comm]]
    exact this
  · rcases k with ⟨rfl, rfl⟩ | ⟨g', cap', rfl, _, hr'⟩
    · exact (equal_nil _ L w h hL).2
    · have hcon := AnyQ.slices_Equal Tryd.layEqual 3 Tryd.isAgg60 Tryd.sizeOf60 encC (fun _ => rfl) (fun x y => decide (x = y)) neqAt g 0 L.length cap g' 0 M.length cap' L M w (Nat.le_refl _) (Nat.le_refl _) (by omega) (by omega) (cells_at hr) (cells_at hr')
      change Calls Tryd.prog 45 _ _ _ at hcon
      rw [List.take_length, List.take_length, allEq_dec] at hcon
      refine hcon.mono ?_
      rintro e w' ⟨rfl, q, rfl⟩
      exact ⟨rfl, Ba.below_dr _ (Below.refl _ _)⟩
theorem same_any (u v : Value) (L M : List C) (w : World) (h : SetAt w u L) (k : SetAt w v M) (hL : L.length ≤ 1000000) (hM : M.length ≤ 1000000) :
    Calls Tryd.prog 19 #[u, v] w fun e w' => e = .returned (.bool (decide (L = M))) ∧ Below w.heap.size w w' := by
  have hc := equal_any u v L M w h k hL hM
  clear h k
  generalize decide (L = M) = b at *
  go_enter Tryd.func19, Tryd.ntmps19
  go_wp2_with fail
  refine hc.mono ?_
  rintro e w1 ⟨rfl, hb⟩
  go_wp2
  go_ret
  exact ⟨rfl, hb⟩
end Go.Proofs.YtggpleppoplkcaaDoor.Se
