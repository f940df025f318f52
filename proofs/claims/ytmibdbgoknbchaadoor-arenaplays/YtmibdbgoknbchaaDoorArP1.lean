/- The arena and the document's: the mathematics. -/
import Derived.Test.YtmibdbgoknbchaaDoorArR4
namespace Go.Proofs.YtmibdbgoknbchaaDoor.Ar
open Go.RowKit Go.Proofs.YtmibdbgoknbchaaDoor.Ba Go.Proofs.YtmibdbgoknbchaaDoor.Mp Go.Lib Go.Maps

def toR (d : Nd) : RN := ⟨d.level, d.bits, d.k.1, d.k.2.1, d.k.2.2.1, d.k.2.2.2, d.count⟩
/-- The document's list. -/
def refL (N : List Nd) : List RN := toR leaf0 :: N.map toR
theorem refL_len (N : List Nd) : (refL N).length = N.length + 1 := by simp [refL]
theorem refL_at (N : List Nd) (i : Nat) (h : i ≤ N.length) : (refL N)[i]? = some (toR (ndAt N i).1) := by
  cases i with
  | zero => rfl
  | succ m =>
    unfold refL ndAt
    rw [if_neg (by omega), Nat.add_sub_cancel, List.getElem?_cons_succ, List.getElem?_map]
    obtain ⟨d, hd⟩ : ∃ d, N[m]? = some d := ⟨_, List.getElem?_eq_getElem (by omega)⟩
    rw [hd]
    rfl
theorem refL_app (N : List Nd) (d : Nd) : refL (N ++ [d]) = refL N ++ [toR d] := by simp [refL]
theorem findR_none {L : List RN} {n : RN} (h : ∀ (j : Nat) (d : RN), L[j]? = some d → alike d n = false) : findR L n = none := by
  induction L with
  | nil => rfl
  | cons c L ih =>
    unfold findR
    rw [h 0 c rfl]
    simp only [Bool.false_eq_true, if_false, Option.map_eq_none_iff]
    exact ih fun j d hd => h (j + 1) d (by simpa using hd)
theorem findR_one {L : List RN} {n d : RN} {i : Nat} (hd : L[i]? = some d) (ha : alike d n = true) (hu : ∀ (j : Nat) (e : RN), L[j]? = some e → alike e n = true → j = i) : findR L n = some i := by
  induction L generalizing i with
  | nil => simp at hd
  | cons c L ih =>
    unfold findR
    cases hc : alike c n with
    | true =>
      have := hu 0 c rfl hc
      subst this
      simp
    | false =>
      cases i with
      | zero =>
        simp at hd
        subst hd
        rw [hc] at ha
        cases ha
      | succ m =>
        simp only [Bool.false_eq_true, if_false]
        rw [ih (by simpa using hd) fun j e he hae => by have := hu (j + 1) e (by simpa using he) hae; omega]
        rfl
theorem alike_iff (a b : RN) : alike a b = true ↔ a.level = b.level ∧ a.bits = b.bits ∧ a.k0 = b.k0 ∧ a.k1 = b.k1 ∧ a.k2 = b.k2 ∧ a.k3 = b.k3 := by simp [alike]
/-- What is true of every arena that New made. -/
structure Wf (S : Sta) : Prop where
  leaf : ∀ f i, S.L f = some i ↔ (f ≠ 0 ∧ 1 ≤ i ∧ S.N[i - 1]? = some (leafNd f))
  join : ∀ k i, S.J k = some i ↔ (1 ≤ i ∧ ∃ d, S.N[i - 1]? = some d ∧ d.k = k ∧ 2 < d.level)
  kinds : ∀ d ∈ S.N, (∃ f, f ≠ 0 ∧ d = leafNd f) ∨ (2 < d.level ∧ aboveR S.N d.k = (d, none))
def codeE : Option Nat → Int
  | none => 0
  | some c => c
theorem leaf_find {S : Sta} (h : Wf S) (f : Nat) : findR (refL S.N) (lfN f) = if f = 0 then some 0 else S.L f := by
  have hel : ∀ (j : Nat) (e : RN), (refL S.N)[j]? = some e → alike e (lfN f) = true → (j = 0 ∧ f = 0) ∨ (f ≠ 0 ∧ 1 ≤ j ∧ S.N[j - 1]? = some (leafNd f)) := by
    intro j e he ha
    rw [alike_iff] at ha
    have hj : j ≤ S.N.length := by
      have := (List.getElem?_eq_some_iff.1 he).1
      rw [refL_len] at this
      omega
    rw [refL_at _ _ hj] at he
    simp only [Option.some.injEq] at he
    subst he
    cases j with
    | zero =>
      have h2 : (0 : Nat) = f := ha.2.1
      exact .inl ⟨rfl, h2.symm⟩
    | succ m =>
      obtain ⟨d, hd⟩ : ∃ d, S.N[m]? = some d := ⟨_, List.getElem?_eq_getElem (by omega)⟩
      have hnd : ndAt S.N (m + 1) = (d, true) := by simp [ndAt, hd]
      rw [hnd] at ha
      rcases h.kinds d (List.mem_of_getElem? hd) with ⟨f', hf', rfl⟩ | ⟨hl, _⟩
      · have h2 : f' = f := ha.2.1
        subst h2
        exact .inr ⟨hf', by omega, by simpa using hd⟩
      · have h1 : d.level = 2 := ha.1
        omega
  by_cases h0 : f = 0
  · subst h0
    rw [if_pos rfl]
    refine findR_one (d := toR leaf0) rfl rfl fun j e he ha => ?_
    rcases hel j e he ha with ⟨hj, _⟩ | ⟨hf, _⟩
    · exact hj
    · exact absurd rfl hf
  · rw [if_neg h0]
    cases hl : S.L f with
    | some i =>
      obtain ⟨_, h1, h2⟩ := (h.leaf f i).1 hl
      have hi : i ≤ S.N.length := by
        have := (List.getElem?_eq_some_iff.1 h2).1
        omega
      have hnd : ndAt S.N i = (leafNd f, true) := by unfold ndAt; rw [if_neg (by omega), h2]
      refine findR_one (d := toR (leafNd f)) (by rw [refL_at _ _ hi, hnd]) (by rw [alike_iff]; exact ⟨rfl, rfl, rfl, rfl, rfl, rfl⟩) fun j e he ha => ?_
      rcases hel j e he ha with ⟨_, hf⟩ | ⟨hf, hj, hd⟩
      · exact absurd hf h0
      · have := (h.leaf f j).2 ⟨hf, hj, hd⟩
        rw [hl] at this
        simpa using this.symm
    | none =>
      refine findR_none fun j e he => ?_
      cases ha : alike e (lfN f) with
      | false => rfl
      | true =>
        rcases hel j e he ha with ⟨_, hf⟩ | ⟨hf, hj, hd⟩
        · exact absurd hf h0
        · have := (h.leaf f j).2 ⟨hf, hj, hd⟩
          rw [hl] at this
          cases this
/-- Leaf, on both sides. -/
theorem leaf_rel {S : Sta} (h : Wf S) (f : Nat) : addRR (refL S.N) (64 + S.more) (lfN f) = (refL (leafR S f).2.2.N, ((leafR S f).1 : Int), codeE (leafR S f).2.1) := by
  unfold addRR leafR
  rw [leaf_find h f]
  by_cases h0 : f = 0
  · rw [if_pos h0, if_pos h0]
    rfl
  · rw [if_neg h0, if_neg h0]
    cases hl : S.L f with
    | some i => rfl
    | none =>
      simp only
      by_cases hf : full S
      · rw [if_pos (show 64 + S.more ≤ ((refL S.N).length : Int) by rw [refL_len]; exact hf), if_pos hf]
        rfl
      · rw [if_neg (show ¬ 64 + S.more ≤ ((refL S.N).length : Int) by rw [refL_len]; exact hf), if_neg hf]
        show (refL S.N ++ [lfN f], _, _) = (refL (S.N ++ [leafNd f]), _, _)
        rw [refL_app, refL_len]
        rfl
end Go.Proofs.YtmibdbgoknbchaaDoor.Ar
