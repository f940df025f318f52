/- What stays true of an arena. -/
import Derived.Test.YtahlinekbllkaaaGreatDoorArW6
namespace Go.Proofs.YtahlinekbllkaaaGreatDoor.Ar
open Go.RowKit Go.Proofs.YtahlinekbllkaaaGreatDoor.Ba Go.Proofs.YtahlinekbllkaaaGreatDoor.Mp Go.Lib Go.Maps

/-- What is true of every arena that New made. -/
structure Wf (S : Sta) : Prop where
  leaf : ∀ f i, S.L f = some i ↔ (f ≠ 0 ∧ 1 ≤ i ∧ S.N[i - 1]? = some (leafNd f))
  join : ∀ k i, S.J k = some i ↔ (1 ≤ i ∧ ∃ d, S.N[i - 1]? = some d ∧ d.k = k ∧ 2 < d.level)
  kinds : ∀ d ∈ S.N, (∃ f, f ≠ 0 ∧ d = leafNd f) ∨ (2 < d.level ∧ aboveR S.N d.k = (d, none))
theorem ndAt_app {N : List Nd} {i : Nat} (x : Nd) (h : (ndAt N i).2 = true) : ndAt (N ++ [x]) i = ndAt N i := by
  unfold ndAt at h ⊢
  by_cases h0 : i = 0
  · rw [if_pos h0, if_pos h0]
  · rw [if_neg h0] at h ⊢
    rw [if_neg h0]
    cases hd : N[i - 1]? with
    | none => rw [hd] at h; cases h
    | some d =>
      have hi := (List.getElem?_eq_some_iff.1 hd).1
      rw [List.getElem?_append_left hi, hd]
theorem above_kids {N : List Nd} {k : K4} {d : Nd} (h : aboveR N k = (d, none)) : ∀ i ∈ kli k, kidOk N (levelOf N k.1) i = true := by
  unfold aboveR at h
  split at h
  · rename_i hk
    exact List.all_eq_true.1 hk
  · simp at h
theorem above_app {N : List Nd} {k : K4} {d : Nd} (x : Nd) (h : aboveR N k = (d, none)) : aboveR (N ++ [x]) k = (d, none) := by
  have hk := above_kids h
  have hn : ∀ i ∈ kli k, ndAt (N ++ [x]) i = ndAt N i := fun i hi => ndAt_app x (by have := hk i hi; unfold kidOk at this; simp only [Bool.and_eq_true] at this; exact this.1)
  have h1 := hn k.1 (by simp [kli])
  have h2 := hn k.2.1 (by simp [kli])
  have h3 := hn k.2.2.1 (by simp [kli])
  have h4 := hn k.2.2.2 (by simp [kli])
  have hl : levelOf (N ++ [x]) k.1 = levelOf N k.1 := by unfold levelOf; rw [h1]
  have hko : (kli k).all (kidOk (N ++ [x]) (levelOf N k.1)) = (kli k).all (kidOk N (levelOf N k.1)) := by simp [kli, kidOk, h1, h2, h3, h4]
  have hc : cntS (N ++ [x]) (kli k) = cntS N (kli k) := by simp [cntS, kli, h1, h2, h3, h4]
  unfold aboveR at h ⊢
  rw [hl, hko, hc]
  exact h
theorem get_app {N : List Nd} {x d : Nd} {i : Nat} (h : 1 ≤ i) : (N ++ [x])[i - 1]? = some d ↔ (N[i - 1]? = some d ∨ (i = N.length + 1 ∧ d = x)) := by
  by_cases hi : i - 1 < N.length
  · rw [List.getElem?_append_left hi]
    constructor
    · exact .inl
    · rintro (h | ⟨h, _⟩)
      · exact h
      · omega
  · rw [List.getElem?_append_right (by omega), List.getElem?_eq_none (show N.length ≤ i - 1 by omega)]
    by_cases he : i = N.length + 1
    · subst he
      simp [eq_comm]
    · rw [List.getElem?_eq_none (by simp; omega)]
      simp [he]
theorem leaf_wf {S : Sta} (h : Wf S) (f : Nat) : Wf (leafR S f).2.2 := by
  unfold leafR
  split
  · exact h
  · rename_i h0
    split
    · exact h
    · rename_i hl
      split
      · exact h
      · refine ⟨fun q i => ?_, fun k i => ?_, fun d hd => ?_⟩
        · show (if q = f then some (S.N.length + 1) else S.L q) = some i ↔ (q ≠ 0 ∧ 1 ≤ i ∧ (S.N ++ [leafNd f])[i - 1]? = some (leafNd q))
          by_cases hq : q = f
          · subst hq
            rw [if_pos rfl]
            constructor
            · intro e
              simp only [Option.some.injEq] at e
              subst e
              exact ⟨h0, by omega, by simp⟩
            · rintro ⟨_, h1, h2⟩
              rcases (get_app h1).1 h2 with h3 | ⟨h3, _⟩
              · have := (h.leaf q i).2 ⟨h0, h1, h3⟩
                rw [hl] at this
                cases this
              · rw [h3]
          · rw [if_neg hq, h.leaf q i]
            constructor
            · rintro ⟨a, b, c⟩
              exact ⟨a, b, (get_app b).2 (.inl c)⟩
            · rintro ⟨a, b, c⟩
              rcases (get_app b).1 c with h3 | ⟨_, h3⟩
              · exact ⟨a, b, h3⟩
              · have : q = f := congrArg Nd.bits h3
                exact absurd this hq
        · show S.J k = some i ↔ (1 ≤ i ∧ ∃ d, (S.N ++ [leafNd f])[i - 1]? = some d ∧ d.k = k ∧ 2 < d.level)
          rw [h.join k i]
          constructor
          · rintro ⟨a, d, hd, hk, hlv⟩
            exact ⟨a, d, (get_app a).2 (.inl hd), hk, hlv⟩
          · rintro ⟨a, d, hd, hk, hlv⟩
            rcases (get_app a).1 hd with h3 | ⟨_, h3⟩
            · exact ⟨a, d, h3, hk, hlv⟩
            · subst h3
              exact absurd hlv (by show ¬ (2 : Int) < 2; omega)
        · have hd' : d ∈ S.N ++ [leafNd f] := hd
          simp only [List.mem_append, List.mem_singleton] at hd'
          rcases hd' with hd' | rfl
          · rcases h.kinds d hd' with h3 | ⟨h3, h4⟩
            · exact .inl h3
            · exact .inr ⟨h3, above_app (leafNd f) h4⟩
          · exact .inl ⟨f, h0, rfl⟩
theorem new_wf (most : Int) : Wf (newS most) := ⟨fun f i => by simp [newS], fun k i => by simp [newS], fun d hd => by simp [newS] at hd⟩
theorem join_wf {S : Sta} (h : Wf S) (hN : Nok S.N) (k : K4) : Wf (joinR S k).2.2 := by
  unfold joinR
  split
  · exact h
  · rename_i hl
    split
    · exact h
    · rename_i d ha
      split
      · exact h
      · have hlv : 2 < d.level := by
          unfold aboveR at ha
          split at ha
          · rename_i hk
            split at ha
            · simp at ha
            · simp only [Prod.mk.injEq, and_true] at ha
              subst ha
              have h1 : kidOk S.N (levelOf S.N k.1) k.1 = true := List.all_eq_true.1 hk k.1 (by simp [kli])
              unfold kidOk at h1
              simp only [Bool.and_eq_true, decide_eq_true_eq] at h1
              have h2 := ndAt_level hN k.1 h1.1
              show (2 : Int) < levelOf S.N k.1 + 1
              rw [h1.2] at h2
              omega
          · simp at ha
        have hdk : d.k = k := by
          unfold aboveR at ha
          split at ha
          · split at ha
            · simp at ha
            · simp only [Prod.mk.injEq, and_true] at ha
              subst ha
              rfl
          · simp at ha
        refine ⟨fun q i => ?_, fun k' i => ?_, fun x hx => ?_⟩
        · show S.L q = some i ↔ (q ≠ 0 ∧ 1 ≤ i ∧ (S.N ++ [d])[i - 1]? = some (leafNd q))
          rw [h.leaf q i]
          constructor
          · rintro ⟨a, b, c⟩
            exact ⟨a, b, (get_app b).2 (.inl c)⟩
          · rintro ⟨a, b, c⟩
            rcases (get_app b).1 c with h3 | ⟨_, h3⟩
            · exact ⟨a, b, h3⟩
            · rw [← h3] at hlv
              exact absurd hlv (by show ¬ (2 : Int) < 2; omega)
        · show (if k' = k then some (S.N.length + 1) else S.J k') = some i ↔ (1 ≤ i ∧ ∃ e, (S.N ++ [d])[i - 1]? = some e ∧ e.k = k' ∧ 2 < e.level)
          by_cases hq : k' = k
          · subst hq
            rw [if_pos rfl]
            constructor
            · intro e
              simp only [Option.some.injEq] at e
              subst e
              exact ⟨by omega, d, by simp, hdk, hlv⟩
            · rintro ⟨a, e, he, hk, hle⟩
              rcases (get_app a).1 he with h3 | ⟨h3, _⟩
              · have := (h.join k' i).2 ⟨a, e, h3, hk, hle⟩
                rw [hl] at this
                cases this
              · rw [h3]
          · rw [if_neg hq, h.join k' i]
            constructor
            · rintro ⟨a, e, he, hk, hle⟩
              exact ⟨a, e, (get_app a).2 (.inl he), hk, hle⟩
            · rintro ⟨a, e, he, hk, hle⟩
              rcases (get_app a).1 he with h3 | ⟨_, h3⟩
              · exact ⟨a, e, h3, hk, hle⟩
              · subst h3
                exact absurd (hk.symm.trans hdk) hq
        · have hx' : x ∈ S.N ++ [d] := hx
          simp only [List.mem_append, List.mem_singleton] at hx'
          rcases hx' with hx' | rfl
          · rcases h.kinds x hx' with h3 | ⟨h3, h4⟩
            · exact .inl h3
            · exact .inr ⟨h3, above_app d h4⟩
          · refine .inr ⟨hlv, ?_⟩
            rw [hdk]
            exact above_app x ha
theorem join_more (S : Sta) (k : K4) : (joinR S k).2.2.more = S.more := by
  unfold joinR
  split
  · rfl
  · split
    · rfl
    · split <;> rfl
theorem leaf_more (S : Sta) (f : Nat) : (leafR S f).2.2.more = S.more := by
  unfold leafR
  split
  · rfl
  · split
    · rfl
    · split <;> rfl
theorem join_nok {S : Sta} (h : Nok S.N) (k : K4) : Nok (joinR S k).2.2.N := by
  unfold joinR
  split
  · exact h
  · split
    · exact h
    · rename_i d ha
      split
      · exact h
      · intro x hx
        have hx' : x ∈ S.N ++ [d] := hx
        simp only [List.mem_append, List.mem_singleton] at hx'
        rcases hx' with hx' | rfl
        · exact h x hx'
        · exact above_ok h ha
theorem leaf_nok {S : Sta} (h : Nok S.N) (f : Nat) : Nok (leafR S f).2.2.N := by
  unfold leafR
  split
  · exact h
  · split
    · exact h
    · split
      · exact h
      · intro x hx
        have hx' : x ∈ S.N ++ [leafNd f] := hx
        simp only [List.mem_append, List.mem_singleton] at hx'
        rcases hx' with hx' | rfl
        · exact h x hx'
        · have := Si.pcn_le f 32
          exact ⟨by show Si.pcn f 32 ≤ _; omega, by show (2 : Int) ≤ 2; omega, by show (2 : Int) ≤ 44; omega⟩
theorem join_le {S : Sta} (h : Wf S) (k : K4) : (joinR S k).1 ≤ (joinR S k).2.2.N.length := by
  unfold joinR
  split
  · rename_i i hJ
    obtain ⟨h1, d, hd, _⟩ := (h.join k i).1 hJ
    have := (List.getElem?_eq_some_iff.1 hd).1
    show i ≤ S.N.length
    omega
  · split
    · exact Nat.zero_le _
    · split
      · exact Nat.zero_le _
      · simp [joinS, addS]
end Go.Proofs.YtahlinekbllkaaaGreatDoor.Ar
