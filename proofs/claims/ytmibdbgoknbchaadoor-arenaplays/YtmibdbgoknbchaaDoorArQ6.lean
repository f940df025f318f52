/- The law's empties. -/
import Derived.Test.YtmibdbgoknbchaaDoorArQ4
namespace Go.Proofs.YtmibdbgoknbchaaDoor.Ar
open Go.RowKit Go.Proofs.YtmibdbgoknbchaaDoor.Ba Go.Proofs.YtmibdbgoknbchaaDoor.Mp Go.Lib Go.Maps

/-- All levels below are there. -/
def LevLt (S : Sta) (k : Nat) : Prop := ∀ j, j < k → ∃ i, empL j S = (i, none, S)
theorem joinR_same {S : Sta} {k : K4} {i : Nat} (h : joinR S k = (i, none, S)) : S.J k = some i := by
  unfold joinR at h
  split at h
  · rename_i v hv
    rw [hv]
    simp only [Prod.mk.injEq] at h
    rw [h.1]
  · split at h
    · simp at h
    · split at h
      · simp at h
      · rename_i d _ _
        simp only [Prod.mk.injEq] at h
        have := congrArg (fun q => q.N.length) h.2.2
        simp [joinS, addS] at this
theorem joinR_ext (S : Sta) (k q : K4) (v : Nat) (h : S.J q = some v) : (joinR S k).2.2.J q = some v := by
  unfold joinR
  split
  · exact h
  · rename_i hn
    split
    · exact h
    · split
      · exact h
      · show (if q = k then some (S.N.length + 1) else S.J q) = some v
        by_cases e : q = k
        · subst e; rw [hn] at h; cases h
        · rw [if_neg e]; exact h
theorem emp_keep {S S' : Sta} (hJ : ∀ q v, S.J q = some v → S'.J q = some v) : ∀ k, LevLt S (k + 1) → ∀ i, empL k S = (i, none, S) → empL k S' = (i, none, S')
  | 0, _, i, h => by
    have : i = 0 := by
      have h' : (0, none, S) = (i, (none : Option Nat), S) := h
      simp only [Prod.mk.injEq] at h'
      exact h'.1.symm
    subst this
    rfl
  | k + 1, hl, i, h => by
    obtain ⟨i0, h0⟩ := hl k (by omega)
    have ih := emp_keep hJ k (fun j hj => hl j (by omega)) i0 h0
    have e : ∀ T : Sta, empL k T = (i0, none, T) → empL (k + 1) T = joinR T (i0, i0, i0, i0) := fun T hT => by
      show (match empL k T with | (i, none, S') => joinR S' (i, i, i, i) | (_, some c, S') => (0, some c, S')) = _
      rw [hT]
    rw [e S h0] at h
    have hj := hJ _ _ (joinR_same h)
    rw [e S' ih]
    unfold joinR
    rw [hj]
theorem lev_step {S : Sta} (hW : Wf S) (hK : Nok S.N) : ∀ k, LevLt S k → Step1 S (empL k S) ∧ ((empL k S).2.1 = none → LevLt (empL k S).2.2 (k + 1))
  | 0, _ => ⟨⟨hW, hK, rfl, .inl ⟨rfl, .inl ⟨rfl, Nat.zero_le _⟩⟩⟩, fun _ j hj => by
      obtain rfl : j = 0 := by omega
      exact ⟨0, rfl⟩⟩
  | k + 1, hl => by
    obtain ⟨i, hi⟩ := hl k (by omega)
    have e : empL (k + 1) S = joinR S (i, i, i, i) := by
      show (match empL k S with | (i, none, S') => joinR S' (i, i, i, i) | (_, some c, S') => (0, some c, S')) = _
      rw [hi]
    rw [e]
    refine ⟨join_step1 hW hK _, fun hn j hj => ?_⟩
    have hext := fun q v h => joinR_ext S (i, i, i, i) q v h
    have hk : empL k (joinR S (i, i, i, i)).2.2 = (i, none, (joinR S (i, i, i, i)).2.2) := emp_keep hext k hl i hi
    by_cases hjk : j < k + 1
    · obtain ⟨i', hi'⟩ := hl j hjk
      exact ⟨i', emp_keep hext j (fun q hq => hl q (by omega)) i' hi'⟩
    · obtain rfl : j = k + 1 := by omega
      have e2 : empL (k + 1) (joinR S (i, i, i, i)).2.2 = joinR (joinR S (i, i, i, i)).2.2 (i, i, i, i) := by
        show (match empL k (joinR S (i, i, i, i)).2.2 with | (i, none, S') => joinR S' (i, i, i, i) | (_, some c, S') => (0, some c, S')) = _
        rw [hk]
      rw [e2]
      refine ⟨(joinR S (i, i, i, i)).1, ?_⟩
      have hJ : (joinR S (i, i, i, i)).2.2.J (i, i, i, i) = some (joinR S (i, i, i, i)).1 := by
        revert hn
        unfold joinR
        split
        · rename_i v hv
          intro _
          exact hv
        · split
          · intro h; simp at h
          · split
            · intro h; simp at h
            · intro _
              show (if (i, i, i, i) = (i, i, i, i) then some (S.N.length + 1) else S.J (i, i, i, i)) = _
              rw [if_pos rfl]
      generalize (joinR S (i, i, i, i)).2.2 = T at hJ ⊢
      generalize (joinR S (i, i, i, i)).1 = x at hJ ⊢
      unfold joinR
      rw [hJ]
theorem empty_step1 {S : Sta} (hW : Wf S) (hK : Nok S.N) (level : Int) (h : 2 ≤ level → level ≤ 44 → LevLt S (level - 2).toNat) : Step1 S (emptyR S level) := by
  unfold emptyR
  by_cases h2 : level < 2
  · rw [if_pos h2]
    exact ⟨hW, hK, rfl, .inr ⟨4, rfl, by decide, rfl, rfl⟩⟩
  · rw [if_neg h2]
    by_cases h4 : 44 < level
    · rw [if_pos h4]
      exact ⟨hW, hK, rfl, .inr ⟨7, rfl, by decide, rfl, rfl⟩⟩
    · rw [if_neg h4]
      exact (lev_step hW hK _ (h (by omega) (by omega))).1
theorem okL_refL {N : List Nd} (h : Nok N) : okL (refL N) := by
  intro x hx
  unfold refL at hx
  simp only [List.mem_cons, List.mem_map] at hx
  rcases hx with rfl | ⟨d, hd, rfl⟩
  · exact ⟨by decide, by decide, by decide⟩
  · exact h d hd
def EmW (w0 : World) (wd g N0 : Nat) (S : Sta) (wr : World) : Prop := Inv w0.heap.size wd g S wr ∧ Wf S ∧ Nok S.N ∧ S.N.length ≤ N0 ∧ Below w0.heap.size w0 wr
def EmLR (w0 : World) (wd g N0 : Nat) (level : Int) (t5 : Value) (wr : World) : Prop :=
  ∃ (k : Nat) (S : Sta), t5 = .int .i64 ((k : Int) + 2) ∧ (k = 0 ∨ ((k : Int) + 2 ≤ level ∧ k ≤ 43)) ∧ LevLt S k ∧ EmW w0 wd g (N0 + k) S wr
set_option maxRecDepth 100000 in
set_option maxHeartbeats 1000000 in
theorem empties_any (w0 : World) (wd g : Nat) (S : Sta) (level : Int) (w : World) (hI : Inv w0.heap.size wd g S w) (hW : Wf S) (hK : Nok S.N) (hN : S.N.length ≤ 70000) (hbw : Below w0.heap.size w0 w) (hE : ErrIs w0) :
    Calls Tryd.prog 18 #[Pt wd, .int .i64 level] w fun e w' => e = .returned (.bool true) ∧ ∃ S', EmW w0 wd g (S.N.length + 44) S' w' := by
  have hs : EmLR w0 wd g S.N.length level (.int .i64 2) w := ⟨0, S, rfl, .inl rfl, fun j hj => by omega, hI, hW, hK, Nat.le_refl _, hbw⟩
  generalize S.N.length = N0 at *
  clear hI hW hK hbw S
  go_enter Tryd.func18, Tryd.ntmps18
  go_wp2_with fail
  go_loopw [5] (fun t5 wr => EmLR w0 wd g N0 level t5 wr) (fun t5 _ => 50 - (intOf t5).toNat)
  case atStart => exact hs
  case round =>
    clear hs
    obtain ⟨k, S, rfl, hk, hlv, hI, hW, hK, hNk, hb⟩ := hrel
    have HI := Lib.hid hI
    obtain ⟨P0, gx, cx, G, cap, hA, hP0, hw, hx, ho, hd, hd2⟩ := hI
    have z0 := hw.cell 0
    have z1 := hw.cell 1
    have z2 := hw.cell 2
    simp only [List.getElem?_toArray, List.getElem?_cons_zero, List.getElem?_cons_succ] at z0 z1 z2
    have lw := hw.lt
    by_cases hlt : (k : Int) + 2 < min level 45
    · have hS := empty_step1 hW hK ((k : Int) + 2) (fun _ _ => by rw [show ((k : Int) + 2 - 2).toNat = k by omega]; exact hlv)
      have HLV := Lib.hid (show (emptyR S ((k : Int) + 2)).2.1 = none → LevLt (emptyR S ((k : Int) + 2)).2.2 (k + 1) from fun h => by
        have e : emptyR S ((k : Int) + 2) = empL k S := by
          unfold emptyR
          rw [if_neg (by omega), if_neg (by omega), show ((k : Int) + 2 - 2).toNat = k by omega]
        rw [e] at h ⊢
        exact (lev_step hW hK k hlv).2 h)
      obtain ⟨_, _, _, _, hrel⟩ := empty_rel hW hK (by omega) ((k : Int) + 2)
      have href := refempty_any gx cx (refL S.N) (64 + S.more) ((k : Int) + 2) wr hx (by rw [refL_len]; omega) (by rw [refL_len]; omega) (okL_refL hK)
      rw [hrel] at href
      have hem := fun P W hA hP => empty_any g ((k : Int) + 2) S P W hA hP (by omega)
      obtain ⟨R, hR⟩ : ∃ R, emptyR S ((k : Int) + 2) = R := ⟨_, rfl⟩
      simp only [hR] at hem
      rw [hR] at href hS HLV
      unfold AV at href
      dsimp only at href
      have HS := Lib.hid hS
      have HLvN := Lib.hid hlv
      clear hrel hS hR hA hP0 ho hlv
      have hl1 : (k : Int) + 2 < 45 := by omega
      have hl2 : (k : Int) + 2 < level := by omega
      by_cases h45 : 45 < level
      all_goals
        go_wp2_with fail
        refine href.mono ?_
        rintro e w1 ⟨gy, cy, rfl, hra1, hb1⟩
        clear href hw hx z0 z1 z2
        have hra := hra1.below ((Below.refl w1.heap.size w1).alloc (Nat.le_refl _) (.cells #[.slice (some ⟨gy, 0, none⟩) (refL R.2.2.N).length cy, .int .i64 (64 + S.more)] 29))
        have kz := Blk.newAt w1 29 #[.slice (some ⟨gy, 0, none⟩) (refL R.2.2.N).length cy, .int .i64 (64 + S.more)] _ rfl
        have hb2 : Below wr.heap.size wr (w1.alloc (.cells #[.slice (some ⟨gy, 0, none⟩) (refL R.2.2.N).length cy, .int .i64 (64 + S.more)] 29)) := hb1.alloc hb1.size _
        have hz : wr.heap.size ≤ w1.heap.size := hb1.size
        obtain ⟨P, gx2, cx2, G2, cap2, hM⟩ := inv_mid HI.out hb2 hra
        have kw := hM.2.2.2.1
        have z0 := kw.cell 0
        simp only [List.getElem?_toArray, List.getElem?_cons_zero] at z0
        have lw2 := kw.lt
        have hl := hem P _ hM.1 hM.2.1
        have hbb := hb.trans (hb2.mono hb.size)
        clear hem hra1 hb1 hra hb2 kw HI
        go_wp2_with fail
        refine hl.mono ?_
        rintro e w3 ⟨rfl, hA3, ho3⟩
        have kz3 := ho3.blk kz (fun hp => by have := (hM.2.2.1 _ hp kz.lt).1; omega)
        have s0 := kz3.cell 0
        have s1 := kz3.cell 1
        simp only [List.getElem?_toArray, List.getElem?_cons_zero, List.getElem?_cons_succ] at s0 s1
        have lz3 := kz3.lt
        clear hl z0 kz kz3
        go_wp2_with fail
        refine (tail_any HS.out (by omega) hM hd hd2 hA3 ho3 hbb hE).mono ?_
        rintro e w4 ⟨rfl, hI4, hb4⟩
        have hlen := HS.out.len.1
        have hW4 := HS.out.1
        have hK4 := HS.out.2.1
        clear hA3 ho3 hbb s0 s1 lz3 hM
        rcases hc : R.2.1 with _ | cc
        · have hlv4 := HLV.out hc
          rw [show codeE none = 0 from rfl]
          go_wp2_with fail
          refine ⟨⟨k + 1, R.2.2, by go_num, .inr ⟨by omega, by omega⟩, hlv4, hI4, hW4, hK4, by omega, hb4⟩, by simp [intOf]; omega⟩
        · have hcc : cc ≠ 0 := by
            obtain ⟨_, _, _, h | ⟨c', h, h0, _⟩⟩ := HS.out
            · rw [hc] at h; cases h.1
            · rw [hc] at h; simp only [Option.some.injEq] at h; omega
          have hcb : ((cc : Int) == 0) = false := by simpa using hcc
          have hcn : ((cc : Int) != 0) = true := by simpa using hcc
          rw [show codeE (some cc) = (cc : Int) from rfl]
          go_wp2_with fail
          exact bodyPost_ret (v := .bool true) (by simp [results, Tryd.results18, go_sem]) rfl ⟨rfl, R.2.2, hI4, hW4, hK4, by omega, hb4⟩
    · have hlv' : 2 ≤ level → level ≤ 44 → LevLt S (level - 2).toNat := fun h2 h4 => by
        have : (level - 2).toNat = k := by omega
        rw [this]
        exact hlv
      have hS := empty_step1 hW hK level hlv'
      obtain ⟨_, _, _, _, hrel⟩ := empty_rel hW hK (by omega) level
      have href := refempty_any gx cx (refL S.N) (64 + S.more) level wr hx (by rw [refL_len]; omega) (by rw [refL_len]; omega) (okL_refL hK)
      rw [hrel] at href
      have hem := fun P W hA hP => empty_any g level S P W hA hP (by omega)
      obtain ⟨R, hR⟩ : ∃ R, emptyR S level = R := ⟨_, rfl⟩
      simp only [hR] at hem
      rw [hR] at href hS
      unfold AV at href
      dsimp only at href
      have HS := Lib.hid hS
      clear hrel hS hR hA hP0 ho hlv hlv'
      have hl1 : 45 < level → ¬ (k : Int) + 2 < 45 := by omega
      have hl2 : ¬ 45 < level → ¬ (k : Int) + 2 < level := by omega
      by_cases h45 : 45 < level
      all_goals
        first
          | (have hl3 := hl1 h45)
          | (have hl3 := hl2 h45)
        clear hl1 hl2
        go_wp2_with fail
        refine href.mono ?_
        rintro e w1 ⟨gy, cy, rfl, hra1, hb1⟩
        clear href hw hx z0 z1 z2
        have hra := hra1.below ((Below.refl w1.heap.size w1).alloc (Nat.le_refl _) (.cells #[.slice (some ⟨gy, 0, none⟩) (refL R.2.2.N).length cy, .int .i64 (64 + S.more)] 29))
        have kz := Blk.newAt w1 29 #[.slice (some ⟨gy, 0, none⟩) (refL R.2.2.N).length cy, .int .i64 (64 + S.more)] _ rfl
        have hb2 : Below wr.heap.size wr (w1.alloc (.cells #[.slice (some ⟨gy, 0, none⟩) (refL R.2.2.N).length cy, .int .i64 (64 + S.more)] 29)) := hb1.alloc hb1.size _
        have hz : wr.heap.size ≤ w1.heap.size := hb1.size
        obtain ⟨P, gx2, cx2, G2, cap2, hM⟩ := inv_mid HI.out hb2 hra
        have kw := hM.2.2.2.1
        have z0 := kw.cell 0
        simp only [List.getElem?_toArray, List.getElem?_cons_zero] at z0
        have lw2 := kw.lt
        have hl := hem P _ hM.1 hM.2.1
        have hbb := hb.trans (hb2.mono hb.size)
        clear hem hra1 hb1 hra hb2 kw HI
        go_wp2_with fail
        refine hl.mono ?_
        rintro e w3 ⟨rfl, hA3, ho3⟩
        have kz3 := ho3.blk kz (fun hp => by have := (hM.2.2.1 _ hp kz.lt).1; omega)
        have s0 := kz3.cell 0
        have s1 := kz3.cell 1
        simp only [List.getElem?_toArray, List.getElem?_cons_zero, List.getElem?_cons_succ] at s0 s1
        have lz3 := kz3.lt
        clear hl z0 kz kz3
        go_wp2_with fail
        refine (tail_any HS.out (by omega) hM hd hd2 hA3 ho3 hbb hE).mono ?_
        rintro e w4 ⟨rfl, hI4, hb4⟩
        have hlen := HS.out.len.1
        have hW4 := HS.out.1
        have hK4 := HS.out.2.1
        clear hA3 ho3 hbb s0 s1 lz3 hM
        go_wp2_with fail
        exact bodyPost_ret (v := .bool true) (by simp [results, Tryd.results18, go_sem]) rfl ⟨rfl, R.2.2, hI4, hW4, hK4, by omega, hb4⟩
end Go.Proofs.YtmibdbgoknbchaaDoor.Ar
