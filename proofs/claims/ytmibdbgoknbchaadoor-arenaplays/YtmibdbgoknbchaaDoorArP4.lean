/- The arena and the document's: Empty, SetMost, on both sides. -/
import Derived.Test.YtmibdbgoknbchaaDoorArP3
namespace Go.Proofs.YtmibdbgoknbchaaDoor.Ar
open Go.RowKit Go.Proofs.YtmibdbgoknbchaaDoor.Ba Go.Proofs.YtmibdbgoknbchaaDoor.Mp Go.Lib Go.Maps

theorem join_more (S : Sta) (k : K4) : (joinR S k).2.2.more = S.more := by
  unfold joinR
  split
  · rfl
  · split
    · rfl
    · split <;> rfl
theorem leaf_more (S : Sta) (f : Nat) : (leafR S f).2.2.more = S.more := by
  unfold leafR
  split
  · rfl
  · split
    · rfl
    · split <;> rfl
theorem join_nok {S : Sta} (h : Nok S.N) (k : K4) : Nok (joinR S k).2.2.N := by
  unfold joinR
  split
  · exact h
  · split
    · exact h
    · rename_i d ha
      split
      · exact h
      · intro x hx
        have hx' : x ∈ S.N ++ [d] := hx
        simp only [List.mem_append, List.mem_singleton] at hx'
        rcases hx' with hx' | rfl
        · exact h x hx'
        · exact above_ok h ha
theorem leaf_nok {S : Sta} (h : Nok S.N) (f : Nat) : Nok (leafR S f).2.2.N := by
  unfold leafR
  split
  · exact h
  · split
    · exact h
    · split
      · exact h
      · intro x hx
        have hx' : x ∈ S.N ++ [leafNd f] := hx
        simp only [List.mem_append, List.mem_singleton] at hx'
        rcases hx' with hx' | rfl
        · exact h x hx'
        · have := Si.pcn_le f 32
          exact ⟨by show Si.pcn f 32 ≤ _; omega, by show (2 : Int) ≤ 2; omega, by show (2 : Int) ≤ 44; omega⟩
theorem join_le {S : Sta} (h : Wf S) (k : K4) : (joinR S k).1 ≤ (joinR S k).2.2.N.length := by
  unfold joinR
  split
  · rename_i i hJ
    obtain ⟨h1, d, hd, _⟩ := (h.join k i).1 hJ
    have := (List.getElem?_eq_some_iff.1 hd).1
    show i ≤ S.N.length
    omega
  · split
    · exact Nat.zero_le _
    · split
      · exact Nat.zero_le _
      · simp [joinS, addS]
/-- What Empty leaves, and answers. -/
theorem emp_rel {S : Sta} (h : Wf S) (hk : Nok S.N) (hN : S.N.length ≤ 90000) : ∀ n, n ≤ 42 → Wf (empL n S).2.2 ∧ Nok (empL n S).2.2.N ∧ (empL n S).2.2.more = S.more ∧ (empL n S).1 ≤ (empL n S).2.2.N.length ∧
    eLR (64 + S.more) n (refL S.N) = (refL (empL n S).2.2.N, ((empL n S).1 : Int), codeE (empL n S).2.1) ∧ (∀ c, (empL n S).2.1 = some c → c ≠ 0)
  | 0, _ => ⟨h, hk, rfl, Nat.zero_le _, rfl, fun c hc => by cases hc⟩
  | n + 1, hn => by
    obtain ⟨h1, h2, h3, h4, h5, h6⟩ := emp_rel h hk hN n (by omega)
    have hlen := empL_len n S
    have e : eLR (64 + S.more) (n + 1) (refL S.N) = if (eLR (64 + S.more) n (refL S.N)).2.2 = 0 then joinRR (eLR (64 + S.more) n (refL S.N)).1 (64 + S.more) (eLR (64 + S.more) n (refL S.N)).2.1 (eLR (64 + S.more) n (refL S.N)).2.1 (eLR (64 + S.more) n (refL S.N)).2.1 (eLR (64 + S.more) n (refL S.N)).2.1 else eLR (64 + S.more) n (refL S.N) := rfl
    rw [e, h5]
    rcases hR : empL n S with ⟨i, _ | c, S'⟩
    · rw [hR] at h1 h2 h3 h4 hlen
      have e2 : empL (n + 1) S = joinR S' (i, i, i, i) := by
        show (match empL n S with | (i, none, S') => joinR S' (i, i, i, i) | (_, some c, S') => (0, some c, S')) = _
        rw [hR]
      rw [e2]
      dsimp only at h1 h2 h3 h4 hlen ⊢
      have hown : ownK S'.N (i : Int) = i := by rw [ownK_in (by omega)]; simp
      have hj := join_rel h1 h2 (by omega) (i : Int) i i i
      rw [hown, h3] at hj
      refine ⟨join_wf h1 h2 _, join_nok h2 _, (join_more _ _).trans h3, join_le h1 _, ?_, fun c hc => ?_⟩
      · rw [if_pos (show codeE none = 0 from rfl)]
        exact hj
      · unfold joinR at hc
        split at hc
        · cases hc
        · split at hc
          · rename_i ha
            simp only [Option.some.injEq] at hc
            subst hc
            unfold aboveR at ha
            split at ha
            · split at ha
              · simp only [Prod.mk.injEq, Option.some.injEq] at ha
                omega
              · simp at ha
            · simp only [Prod.mk.injEq, Option.some.injEq] at ha
              omega
          · split at hc
            · simp only [Option.some.injEq] at hc
              omega
            · cases hc
    · rw [hR] at h1 h2 h3 h4 h6
      have e2 : empL (n + 1) S = (0, some c, S') := by
        show (match empL n S with | (i, none, S') => joinR S' (i, i, i, i) | (_, some c, S') => (0, some c, S')) = _
        rw [hR]
      rw [e2]
      have hc := h6 c rfl
      refine ⟨h1, h2, h3, Nat.zero_le _, ?_, fun c' hc' => by simp only [Option.some.injEq] at hc'; omega⟩
      dsimp only
      rw [if_neg (show ¬ codeE (some c) = 0 by show ¬ (c : Int) = 0; omega)]
      have hi : i = 0 := by
        cases n with
        | zero => cases hR
        | succ m =>
          have e3 : empL (m + 1) S = (match empL m S with | (i, none, S') => joinR S' (i, i, i, i) | (_, some c, S') => (0, some c, S')) := rfl
          rw [e3] at hR
          rcases hQ : empL m S with ⟨i', _ | c', S''⟩
          · rw [hQ] at hR
            have hR : joinR S'' (i', i', i', i') = (i, some c, S') := hR
            have := join_err (S := S'') (k := (i', i', i', i')) (c := c) (by rw [hR])
            rw [hR] at this
            exact this
          · rw [hQ] at hR
            simp only [Prod.mk.injEq] at hR
            exact hR.1.symm
      rw [hi]
/-- Empty, on both sides. -/
theorem empty_rel {S : Sta} (h : Wf S) (hk : Nok S.N) (hN : S.N.length ≤ 90000) (level : Int) : Wf (emptyR S level).2.2 ∧ Nok (emptyR S level).2.2.N ∧ (emptyR S level).2.2.more = S.more ∧ (emptyR S level).1 ≤ (emptyR S level).2.2.N.length ∧
    emptyRR (refL S.N) (64 + S.more) level = (refL (emptyR S level).2.2.N, ((emptyR S level).1 : Int), codeE (emptyR S level).2.1) := by
  unfold emptyR emptyRR
  by_cases h2 : level < 2
  · rw [if_pos h2, if_pos h2]
    exact ⟨h, hk, rfl, Nat.zero_le _, rfl⟩
  · rw [if_neg h2, if_neg h2]
    by_cases h4 : 44 < level
    · rw [if_pos h4, if_pos h4]
      exact ⟨h, hk, rfl, Nat.zero_le _, rfl⟩
    · rw [if_neg h4, if_neg h4]
      obtain ⟨a, b, c, d, e, _⟩ := emp_rel h hk hN (level - 2).toNat (by omega)
      exact ⟨a, b, c, d, e⟩
end Go.Proofs.YtmibdbgoknbchaaDoor.Ar
