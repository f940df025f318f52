/- The document's own lists: Told, Are, Ahead, Put, Of, Less, Has. -/
import Derived.Test.YtcmfkdhadmfgkaaDoorSeL
import Derived.Test.YtcmfkdhadmfgkaaDoorSeA
namespace Go.Proofs.YtcmfkdhadmfgkaaDoor.Se
open Go.RowKit Go.Proofs.YtcmfkdhadmfgkaaDoor.Ax Go.Proofs.YtcmfkdhadmfgkaaDoor.Ba Go.Lib

/-! The mathematics. -/
def putF (c : C) : List C → Bool → List C → List C
  | [], d, out => if d then out else out ++ [c]
  | x :: r, d, out => putF c r (d || !lt x c) ((if d then out else if lt x c then out else out ++ [c]) ++ (if x = c then [] else [x]))
theorem putF_done (c : C) : ∀ (L out : List C), (∀ x ∈ L, lt c x = true) → putF c L true out = out ++ L
  | [], out, _ => by simp [putF]
  | x :: r, out, h => by
    have hx := h x (by simp)
    have hne : x ≠ c := fun e => by subst e; rw [lt_irrefl] at hx; cases hx
    rw [putF, Bool.true_or, putF_done c r _ (fun y hy => h y (by simp [hy]))]
    simp [hne]
theorem putF_ins (c : C) : ∀ (L out : List C), Rising L → putF c L false out = out ++ ins L c
  | [], out, _ => by simp [putF, ins]
  | x :: r, out, h => by
    obtain ⟨h1, h2⟩ := List.pairwise_cons.1 h
    cases hx : lt x c
    · have hr : ∀ y ∈ r, lt c y = true := fun y hy => by
        cases hcx : lt c x
        · have := lt_or hx hcx; subst this; exact h1 y hy
        · exact lt_trans hcx (h1 y hy)
      have e1 : (x :: r).filter (fun y => lt y c) = [] := by
        rw [List.filter_eq_nil_iff]
        intro y hy hyc
        rcases List.mem_cons.1 hy with rfl | hy
        · rw [hx] at hyc; cases hyc
        · have := lt_asymm (hr y hy); rw [hyc] at this; cases this
      have e2 : r.filter (fun y => lt c y) = r := List.filter_eq_self.2 hr
      have hc : putF c (x :: r) false out = putF c r true ((out ++ [c]) ++ (if x = c then [] else [x])) := by
        rw [putF, hx]; rfl
      rw [hc, putF_done c r _ hr]
      unfold ins
      rw [e1, List.filter_cons, e2]
      by_cases hxc : x = c
      · subst hxc; simp [lt_irrefl]
      · have : lt c x = true := by
          cases hcx : lt c x
          · exact absurd (lt_or hx hcx) hxc
          · rfl
        simp [hxc, this]
    · have hne : x ≠ c := fun e => by subst e; rw [lt_irrefl] at hx; cases hx
      have hc : putF c (x :: r) false out = putF c r false (out ++ [x]) := by
        rw [putF, hx]; simp [hne]
      rw [hc, putF_ins c r _ h2]
      unfold ins
      simp [hx, lt_asymm hx]
theorem del_filter {L : List C} (h : Rising L) (c : C) : L.filter (fun x => !decide (x = c)) = del L c :=
  rising_ext (h.filter _) (rising_del h c) fun x => by rw [mem_del, List.mem_filter]; simp
/-! In memory. -/
theorem ahead_any (x c : C) (w : World) :
    Calls Tryd.prog 60 #[Ce x, Ce c] w fun e w' => e = .returned (.bool (lt x c)) ∧ Below w.heap.size w w' := by
  obtain ⟨a, b, h⟩ := x
  obtain ⟨c, d, k⟩ := c
  have e : lt (a, b, h) (c, d, k) = if (b != d) = true then decide (b < d) else if (a != c) = true then decide (a < c) else decide (h < k) := by
    unfold lt
    by_cases h1 : b = d
    · by_cases h2 : a = c <;> simp [h1, h2]
    · simp [h1]
  rw [e]
  clear e
  dsimp only [Ce]
  cases g1 : (b != d)
  · rw [if_neg (by simp)]
    cases g2 : (a != c)
    · rw [if_neg (by simp)]
      go_enter Tryd.func60, Tryd.ntmps60
      go_wp2
      go_ret
      exact ⟨rfl, by go_grown⟩
    · rw [if_pos rfl]
      go_enter Tryd.func60, Tryd.ntmps60
      go_wp2
      go_ret
      exact ⟨rfl, by go_grown⟩
  · rw [if_pos rfl]
    go_enter Tryd.func60, Tryd.ntmps60
    go_wp2
    go_ret
    exact ⟨rfl, by go_grown⟩
end Go.Proofs.YtcmfkdhadmfgkaaDoor.Se
