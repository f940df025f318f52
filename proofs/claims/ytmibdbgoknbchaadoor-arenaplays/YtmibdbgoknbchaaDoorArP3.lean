/- The arena and the document's: Join, on both sides. -/
import Derived.Test.YtmibdbgoknbchaaDoorArP2
namespace Go.Proofs.YtmibdbgoknbchaaDoor.Ar
open Go.RowKit Go.Proofs.YtmibdbgoknbchaaDoor.Ba Go.Proofs.YtmibdbgoknbchaaDoor.Mp Go.Lib Go.Maps

/-- The node of a place; none: a number that is no node's. -/
def ownK (N : List Nd) (n : Int) : Nat := if 0 ≤ n ∧ n < ((N.length + 1 : Nat) : Int) then n.toNat else 2147483648
theorem ownK_in {N : List Nd} {n : Int} (h : 0 ≤ n ∧ n < ((N.length + 1 : Nat) : Int)) : ownK N n = n.toNat := by unfold ownK; rw [if_pos h]
theorem ndAt_in {N : List Nd} {i : Nat} (h : i ≤ N.length) : (ndAt N i).2 = true := by
  unfold ndAt
  by_cases h0 : i = 0
  · rw [if_pos h0]
  · rw [if_neg h0, List.getElem?_eq_getElem (show i - 1 < N.length by omega)]
theorem ownK_out {N : List Nd} {n : Int} (hN : N.length ≤ 100000) (h : ¬ (0 ≤ n ∧ n < ((N.length + 1 : Nat) : Int))) : (ndAt N (ownK N n)).2 = false := by
  unfold ownK ndAt
  rw [if_neg h, if_neg (by omega), List.getElem?_eq_none (by omega)]
theorem atR_in {N : List Nd} {n : Int} (h : 0 ≤ n ∧ n < ((N.length + 1 : Nat) : Int)) : atR (refL N) n = toR (ndAt N n.toNat).1 := by
  unfold atR
  rw [refL_at N n.toNat (by omega)]
  rfl
theorem kok_own {N : List Nd} (hN : N.length ≤ 100000) {a i : Int} (ha : 0 ≤ a ∧ a < ((N.length + 1 : Nat) : Int)) : kok (refL N) a i = kidOk N (levelOf N (ownK N a)) (ownK N i) := by
  have hla : levelOf N (ownK N a) = (ndAt N a.toNat).1.level := by unfold levelOf; rw [ownK_in ha, if_pos (ndAt_in (by omega))]
  by_cases hi : 0 ≤ i ∧ i < ((N.length + 1 : Nat) : Int)
  · unfold kok kidOk
    rw [hla, ownK_in hi, ndAt_in (by omega), atR_in hi, atR_in ha, refL_len, decide_eq_true hi.1, decide_eq_true hi.2]
    rfl
  · unfold kidOk
    rw [ownK_out hN hi, Bool.false_and]
    unfold kok
    rw [refL_len]
    by_cases h0 : 0 ≤ i
    · rw [decide_eq_false (show ¬ i < ((N.length + 1 : Nat) : Int) from fun h => hi ⟨h0, h⟩)]
      simp
    · rw [decide_eq_false h0]
      simp
theorem all_own {N : List Nd} (hN : N.length ≤ 100000) (a b c d : Int) : [a, b, c, d].all (kok (refL N) a) = (kli (ownK N a, ownK N b, ownK N c, ownK N d)).all (kidOk N (levelOf N (ownK N a))) := by
  by_cases ha : 0 ≤ a ∧ a < ((N.length + 1 : Nat) : Int)
  · simp only [kli, List.all_cons, List.all_nil, Bool.and_true, kok_own hN ha]
  · have h1 : kok (refL N) a a = false := by
      unfold kok
      rw [refL_len]
      by_cases h0 : 0 ≤ a
      · rw [decide_eq_false (show ¬ a < ((N.length + 1 : Nat) : Int) from fun h => ha ⟨h0, h⟩)]
        simp
      · rw [decide_eq_false h0]
        simp
    have h2 : kidOk N (levelOf N (ownK N a)) (ownK N a) = false := by
      unfold kidOk
      rw [ownK_out hN ha, Bool.false_and]
    simp [kli, h1, h2]
theorem ksum_own {N : List Nd} {a b c d : Int} (ha : 0 ≤ a ∧ a < ((N.length + 1 : Nat) : Int)) (hb : 0 ≤ b ∧ b < ((N.length + 1 : Nat) : Int)) (hc : 0 ≤ c ∧ c < ((N.length + 1 : Nat) : Int)) (hd : 0 ≤ d ∧ d < ((N.length + 1 : Nat) : Int)) :
    ksum (refL N) [a, b, c, d] = cntS N (kli (ownK N a, ownK N b, ownK N c, ownK N d)) := by
  simp [ksum, cntS, kli, atR_in ha, atR_in hb, atR_in hc, atR_in hd, ownK_in ha, ownK_in hb, ownK_in hc, ownK_in hd, toR]
/-- A node above: what it is found by. -/
theorem join_find {S : Sta} (h : Wf S) {k : K4} {e : Nd} (he : aboveR S.N k = (e, none)) (hek : e.k = k) (hel : 2 < e.level) (heb : e.bits = 0) : findR (refL S.N) (toR e) = S.J k := by
  have hall : ∀ (j : Nat) (x : RN), (refL S.N)[j]? = some x → alike x (toR e) = true → S.J k = some j := by
    intro j x hx ha
    rw [alike_iff] at ha
    have hj : j ≤ S.N.length := by
      have := (List.getElem?_eq_some_iff.1 hx).1
      rw [refL_len] at this
      omega
    rw [refL_at _ _ hj] at hx
    simp only [Option.some.injEq] at hx
    subst hx
    cases j with
    | zero =>
      have h2 : (2 : Int) = e.level := ha.1
      omega
    | succ m =>
      obtain ⟨d, hd⟩ : ∃ d, S.N[m]? = some d := ⟨_, List.getElem?_eq_getElem (by omega)⟩
      have hnd : ndAt S.N (m + 1) = (d, true) := by simp [ndAt, hd]
      rw [hnd] at ha
      obtain ⟨a1, _, a3, a4, a5, a6⟩ := ha
      have b1 : d.level = e.level := a1
      have b3 : (d.k.1 : Int) = (e.k.1 : Int) := a3
      have b4 : (d.k.2.1 : Int) = (e.k.2.1 : Int) := a4
      have b5 : (d.k.2.2.1 : Int) = (e.k.2.2.1 : Int) := a5
      have b6 : (d.k.2.2.2 : Int) = (e.k.2.2.2 : Int) := a6
      refine (h.join k (m + 1)).2 ⟨by omega, d, by simpa using hd, ?_, by omega⟩
      rw [← hek]
      exact Prod.ext (by omega) (Prod.ext (by omega) (Prod.ext (by omega) (by omega)))
  cases hJ : S.J k with
  | none =>
    refine findR_none fun j x hx => ?_
    cases ha : alike x (toR e) with
    | false => rfl
    | true =>
      have := hall j x hx ha
      rw [hJ] at this
      cases this
  | some i =>
    obtain ⟨h1, d, hd, hk, hlv⟩ := (h.join k i).1 hJ
    have hi : i ≤ S.N.length := by
      have := (List.getElem?_eq_some_iff.1 hd).1
      omega
    have hde : d = e := by
      rcases h.kinds d (List.mem_of_getElem? hd) with ⟨f, _, rfl⟩ | ⟨_, h4⟩
      · exact absurd hlv (by show ¬ (2 : Int) < 2; omega)
      · rw [hk, he] at h4
        simp only [Prod.mk.injEq, and_true] at h4
        exact h4.symm
    subst hde
    have hnd : ndAt S.N i = (d, true) := by unfold ndAt; rw [if_neg (by omega), hd]
    refine findR_one (d := toR d) (by rw [refL_at _ _ hi, hnd]) (by rw [alike_iff]; exact ⟨rfl, rfl, rfl, rfl, rfl, rfl⟩) fun j x hx ha => ?_
    have := hall j x hx ha
    rw [hJ] at this
    simpa using this.symm
/-- Join, on both sides. -/
theorem join_rel {S : Sta} (h : Wf S) (hNk : Nok S.N) (hN : S.N.length ≤ 100000) (a b c d : Int) :
    joinRR (refL S.N) (64 + S.more) a b c d = (refL (joinR S (ownK S.N a, ownK S.N b, ownK S.N c, ownK S.N d)).2.2.N, ((joinR S (ownK S.N a, ownK S.N b, ownK S.N c, ownK S.N d)).1 : Int), codeE (joinR S (ownK S.N a, ownK S.N b, ownK S.N c, ownK S.N d)).2.1) := by
  obtain ⟨k, hk⟩ : ∃ k : K4, k = (ownK S.N a, ownK S.N b, ownK S.N c, ownK S.N d) := ⟨_, rfl⟩
  have hal := all_own hN a b c d
  rw [← hk] at hal ⊢
  have hk1 : k.1 = ownK S.N a := by rw [hk]
  rw [← hk1] at hal
  unfold joinRR
  rw [hal]
  cases hA : (kli k).all (kidOk S.N (levelOf S.N k.1)) with
  | false =>
    have hab : aboveR S.N k = (nd0, some 4) := by unfold aboveR; rw [hA]; rfl
    have hJ : S.J k = none := by
      cases hJ : S.J k with
      | none => rfl
      | some i =>
        obtain ⟨h1, e, he, hek, hlv⟩ := (h.join k i).1 hJ
        rcases h.kinds e (List.mem_of_getElem? he) with ⟨f, _, rfl⟩ | ⟨_, h4⟩
        · exact absurd hlv (by show ¬ (2 : Int) < 2; omega)
        · rw [hek, hab] at h4
          simp at h4
    unfold joinR
    rw [hJ, hab]
    rfl
  | true =>
    have hin : ∀ n : Int, kidOk S.N (levelOf S.N (ownK S.N a)) (ownK S.N n) = true → 0 ≤ n ∧ n < ((S.N.length + 1 : Nat) : Int) := fun n hn => by
      by_cases hr : 0 ≤ n ∧ n < ((S.N.length + 1 : Nat) : Int)
      · exact hr
      · unfold kidOk at hn
        rw [ownK_out hN hr] at hn
        cases hn
    have hA' := hA
    rw [hk] at hA'
    simp only [kli, List.all_cons, List.all_nil, Bool.and_true, Bool.and_eq_true] at hA'
    have ia := hin a hA'.1
    have ib := hin b hA'.2.1
    have ic := hin c hA'.2.2.1
    have id := hin d hA'.2.2.2
    have hlv : (atR (refL S.N) a).level = levelOf S.N k.1 := by
      rw [atR_in ia, hk1]
      unfold levelOf
      rw [ownK_in ia, if_pos (ndAt_in (by omega))]
      rfl
    simp only [if_true]
    rw [hlv]
    by_cases h44 : 44 ≤ levelOf S.N k.1
    · have hab : aboveR S.N k = (nd0, some 7) := by unfold aboveR; rw [hA]; simp only [if_true, if_pos h44]
      have hJ : S.J k = none := by
        cases hJ : S.J k with
        | none => rfl
        | some i =>
          obtain ⟨h1, e, he, hek, hlv2⟩ := (h.join k i).1 hJ
          rcases h.kinds e (List.mem_of_getElem? he) with ⟨f, _, rfl⟩ | ⟨_, h4⟩
          · exact absurd hlv2 (by show ¬ (2 : Int) < 2; omega)
          · rw [hek, hab] at h4
            simp at h4
      rw [if_pos (by omega)]
      unfold joinR
      rw [hJ, hab]
      rfl
    · rw [if_neg (by omega)]
      obtain ⟨e, he⟩ : ∃ e : Nd, e = ⟨cntS S.N (kli k), k, 0, levelOf S.N k.1 + 1⟩ := ⟨_, rfl⟩
      have hab : aboveR S.N k = (e, none) := by unfold aboveR; rw [hA, he]; simp only [if_true, if_neg h44]
      have hl2 : 2 ≤ levelOf S.N k.1 := by
        rw [hk1]
        unfold levelOf
        rw [ownK_in ia, if_pos (ndAt_in (by omega))]
        exact ndAt_level hNk _ (ndAt_in (by omega))
      have hnode : (⟨levelOf S.N k.1 + 1, 0, a, b, c, d, ksum (refL S.N) [a, b, c, d]⟩ : RN) = toR e := by
        rw [ksum_own ia ib ic id, ← hk, he, toR, hk]
        simp only [ownK_in ia, ownK_in ib, ownK_in ic, ownK_in id]
        congr 1 <;> omega
      rw [hnode]
      have hfi := join_find h hab (by rw [he]) (by rw [he]; show (2 : Int) < levelOf S.N k.1 + 1; omega) (by rw [he])
      unfold addRR joinR
      rw [hfi]
      cases hJ : S.J k with
      | some i => rfl
      | none =>
        rw [hab]
        simp only
        by_cases hf : full S
        · rw [if_pos (show 64 + S.more ≤ ((refL S.N).length : Int) by rw [refL_len]; exact hf), if_pos hf]
          rfl
        · rw [if_neg (show ¬ 64 + S.more ≤ ((refL S.N).length : Int) by rw [refL_len]; exact hf), if_neg hf]
          show (refL S.N ++ [toR e], _, _) = (refL (S.N ++ [e]), _, _)
          rw [refL_app, refL_len]
          rfl
end Go.Proofs.YtmibdbgoknbchaaDoor.Ar
