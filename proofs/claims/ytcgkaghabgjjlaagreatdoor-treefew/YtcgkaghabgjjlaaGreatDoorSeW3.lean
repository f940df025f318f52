/- slices.Compact at cells: the walk. -/
import Derived.Test.YtcgkaghabgjjlaaGreatDoorSeW2b
import Derived.Deep.LoopGhost
namespace Go.Proofs.YtcgkaghabgjjlaaGreatDoor.Se
open Go.RowKit Go.Proofs.YtcgkaghabgjjlaaGreatDoor.Ax Go.Proofs.YtcgkaghabgjjlaaGreatDoor.Ba Go.Shelf Go.Lib Go.Sort

def Co1 (w : World) (d : List C) (s : Value) (wr : World) : Prop := ∃ k q : Nat, 1 ≤ k ∧ k ≤ d.length ∧ s = .int .i64 k ∧ wr = w.drewN q ∧ ∀ j, j < k → keeps d.toArray j = true
def Co2 (w : World) (g : Nat) (d : List C) (k : Nat) (s t : Value) (wr : World) : Prop :=
  ∃ (kk k2 : Nat) (dk : Array C), s = .int .i64 kk ∧ t = .int .i64 k2 ∧ 1 ≤ k2 ∧ k + k2 ≤ d.length ∧ HR wr g dk.toList ∧ w.grownBy wr (some g) ∧ CompInv d.toArray (k + k2) kk dk
theorem HR.drewN {w : World} {g : Nat} {d : List C} (h : HR w g d) (q : Nat) : HR (w.drewN q) g d := h
theorem grown_dr {w wr : World} {r : Option Nat} (h : w.grownBy wr r) (q : Nat) : w.grownBy (wr.drewN q) r := ⟨h.os, h.tape, h.output, h.size, h.block⟩
theorem grown_refl (w : World) (r : Option Nat) : w.grownBy w r := ⟨rfl, rfl, rfl, Nat.le_refl _, fun _ _ _ => rfl⟩
set_option maxRecDepth 100000 in
set_option maxHeartbeats 4000000 in
theorem compact_any (g cap : Nat) (d : List C) (w : World) (hH : HR w g d) (hcap : d.length ≤ cap) (hd : d.length ≤ 1000000) :
    Calls Tryz.prog 60 #[.slice (some ⟨g, 0, none⟩) d.length cap] w fun e w' =>
      e = .returned (.slice (some ⟨g, 0, none⟩) (compact d).length cap) ∧ Row w' g (compact d) ∧ w.grownBy w' (some g) := by
  have HA := Lib.hid (show (∀ j, j < d.length → keeps d.toArray j = true) → compact d = d from fun h => compact_all d h)
  by_cases h2 : d.length < 2
  · have HH := Lib.hid hH
    clear hH
    go_enter Tryz.func60, Tryz.ntmps60
    go_wp2
    go_ret
    rw [HA.out (fun j hj => keeps_lt_one d.toArray j (by omega))]
    exact ⟨rfl, HH.out.1, grown_refl _ _⟩
  · go_enter Tryz.func60, Tryz.ntmps60
    go_wp2
    go_loopw [3] (fun s wr => Co1 w d s wr) (fun s _ => d.length - (intOf s).toNat)
    case atStart => exact ⟨1, 0, Nat.le_refl _, by omega, rfl, rfl, keeps_lt_one d.toArray⟩
    case round =>
      obtain ⟨k, q, hk1, hk, rfl, rfl, hkeep⟩ := hrel
      by_cases hlt : k < d.length
      · have HK := Lib.hid hkeep
        have HH := Lib.hid hH
        obtain ⟨x, hx⟩ : ∃ x, d[k]? = some x := ⟨_, List.getElem?_eq_getElem hlt⟩
        obtain ⟨y, hy⟩ : ∃ y, d[k - 1]? = some y := ⟨_, List.getElem?_eq_getElem (by omega)⟩
        obtain ⟨c0, c1, c2⟩ := hH.1.1 k x hx
        obtain ⟨e0, e1, e2⟩ := hH.1.1 (k - 1) y hy
        have hg := hH.1.2
        have hx' : d.toArray[k]! = x := by rw [getElem!_pos d.toArray k (by simpa using hlt)]; simpa using (List.getElem?_eq_some_iff.1 hx).2
        have hy' : d.toArray[k - 1]! = y := by rw [getElem!_pos d.toArray (k - 1) (by simp; omega)]; simpa using (List.getElem?_eq_some_iff.1 hy).2
        have HX := Lib.hid (And.intro hx' hy')
        clear hx' hy' hx hy hkeep hH
        have eq1 := eq_c x y
        by_cases hdup : x = y
        · rw [decide_eq_true hdup] at eq1
          have HD := Lib.hid hdup
          clear hdup
          go_wp2_with fail
          go_quiet (fail)
          clear c0 c1 c2 e0 e1 e2 eq1
          go_wp2
          go_loopw [3, 5] (fun s t wr => Co2 w g d k s t wr) (fun _ t _ => d.length - (intOf t).toNat)
          case atStart => exact ⟨k, 1, d.toArray, rfl, rfl, Nat.le_refl _, by omega, by simpa using (HH.out.drewN _), grown_dr (grown_refl _ _) _, CompInv.start HK.out (keeps_neg (by omega) (by rw [HX.out.1, HX.out.2]; exact HD.out))⟩
          case round =>
            obtain ⟨kk, k2, dk, rfl, rfl, h1, hle, hHk, hgr, hI⟩ := hrel
            have hkk := hI.lt
            have hds : dk.size = d.length := by simpa using hI.size
            have HI := Lib.hid hI
            have HG := Lib.hid hgr
            have HHk := Lib.hid hHk
            by_cases hlt2 : k + k2 < d.length
            · obtain ⟨x', hx'⟩ : ∃ z, dk.toList[k + k2]? = some z := ⟨_, List.getElem?_eq_getElem (by simp; omega)⟩
              obtain ⟨y', hy'⟩ : ∃ z, dk.toList[k + k2 - 1]? = some z := ⟨_, List.getElem?_eq_getElem (by simp; omega)⟩
              obtain ⟨z', hz'⟩ : ∃ z, dk.toList[kk]? = some z := ⟨_, List.getElem?_eq_getElem (by simp; omega)⟩
              obtain ⟨c0, c1, c2⟩ := hHk.1.1 _ x' hx'
              obtain ⟨e0, e1, e2⟩ := hHk.1.1 _ y' hy'
              obtain ⟨f0, f1, f2⟩ := hHk.1.1 _ z' hz'
              have r0 := hHk.2 (kk * 3) (by simp; omega)
              have r1 := hHk.2 (kk * 3 + 1) (by simp; omega)
              have r2 := hHk.2 (kk * 3 + 1 + 1) (by simp; omega)
              have hgl := hHk.1.2
              have hX' : d.toArray[k + k2]! = x' := by
                rw [← hI.high (k + k2) (by omega), getElem!_pos dk (k + k2) (by omega)]; simpa using (List.getElem?_eq_some_iff.1 hx').2
              have hY' : d.toArray[k + k2 - 1]! = y' := by
                rw [← hI.high (k + k2 - 1) (by omega), getElem!_pos dk (k + k2 - 1) (by omega)]; simpa using (List.getElem?_eq_some_iff.1 hy').2
              have HX' := Lib.hid (And.intro hX' hY')
              rw [show (k + k2) * 3 = k * 3 + k2 * 3 by omega] at c0 c1 c2
              rw [show (k + k2 - 1) * 3 = k * 3 + (k2 - 1) * 3 by omega] at e0 e1 e2
              clear hX' hY' hx' hy' hz' hI hHk hgr
              have eq1 := ne_c x' y'
              by_cases hdup : x' = y'
              · rw [decide_eq_true hdup, Bool.not_true] at eq1
                have HD' := Lib.hid hdup
                clear hdup
                go_wp2_with fail
                go_quiet (fail)
                go_wp2
                go_roundw
                case rel => exact ⟨kk, k2 + 1, dk, rfl, by go_num, by omega, by omega, HHk.out.drewN _, grown_dr HG.out _, HI.out.skip (keeps_neg (by omega) (by rw [HX'.out.1, HX'.out.2]; exact HD'.out))⟩
                case measure => simp [intOf]; omega
              · rw [decide_eq_false hdup, Bool.not_false] at eq1
                have HD' := Lib.hid hdup
                clear hdup
                go_wp2_with fail
                go_quiet (fail)
                go_wp2
                go_roundw
                case rel =>
                  refine ⟨kk + 1, k2 + 1, dk.setIfInBounds kk x', by go_num, by go_num, by omega, by omega, ?_, ?_, ?_⟩
                  · rw [Array.toList_setIfInBounds]
                    exact hr_set (HHk.out.drewN _) kk (by simp; omega) x'
                  · exact grown_set (grown_dr HG.out _) (kk * 3) (encC x')
                  · have := HI.out.keep (by simpa using hlt2) (keeps_pos (by rw [HX'.out.1, HX'.out.2]; exact HD'.out))
                    rwa [HX'.out.1] at this
                case measure => simp [intOf]; omega
            · have hend : k + k2 = d.length := by omega
              have hlen : (compact d).length = kk := by
                have := hI.len
                rw [hend] at this
                exact this
              have hlow : ∀ i x, (compact d)[i]? = some x → i < kk ∧ dk.toList[i]? = some x := by
                intro i x hx
                have hi : i < kk := by have := (List.getElem?_eq_some_iff.1 hx).1; omega
                have h := hI.low i hi
                rw [hend] at h
                have h' : (compact d)[i]? = some dk[i]! := h
                rw [hx] at h'
                injection h' with h'
                refine ⟨hi, ?_⟩
                rw [h', getElem!_pos dk i (by omega)]
                simp
              have HL := Lib.hid hlen
              have HW := Lib.hid hlow
              obtain ⟨vs, hcl⟩ := run_clear wr g (kk * 3) (d.length - kk) (cap - kk) (by omega)
                (fun j hj => by
                  obtain ⟨z, hz⟩ : ∃ z, dk.toList[kk + j / 3]? = some z := ⟨_, List.getElem?_eq_getElem (by simp; omega)⟩
                  obtain ⟨c0, c1, c2⟩ := hHk.1.1 _ z hz
                  have h3 : j % 3 = 0 ∨ j % 3 = 1 ∨ j % 3 = 2 := by omega
                  rcases h3 with h3 | h3 | h3
                  · rw [show kk * 3 + j = (kk + j / 3) * 3 by omega, c0]; rfl
                  · rw [show kk * 3 + j = (kk + j / 3) * 3 + 1 by omega, c1]; rfl
                  · rw [show kk * 3 + j = (kk + j / 3) * 3 + 1 + 1 by omega, c2]; rfl)
                (fun j hj => hHk.2 _ (by simp; omega))
              have hgl := hHk.1.2
              clear hI hgr hHk hlen hlow
              go_wp2
              go_ret
              refine ⟨by rw [HL.out]; rfl, ?_, grown_set HG.out _ _⟩
              exact row_take HHk.out.1 kk (Nat.le_refl _) (compact d) HW.out rfl (by have := HHk.out.1.2; have hs := (grown_set (w := wr) (grown_refl wr (some g)) (kk * 3) vs).size; omega)
        · rw [decide_eq_false hdup] at eq1
          have HD := Lib.hid hdup
          clear hdup
          go_wp2_with fail
          go_quiet (fail)
          go_wp2
          go_roundw
          case rel =>
            refine ⟨k + 1, _, by omega, by omega, by go_num, rfl, fun j hj => ?_⟩
            by_cases e : j = k
            · subst e
              exact keeps_pos (by rw [HX.out.1, HX.out.2]; exact HD.out)
            · exact HK.out j (by omega)
          case measure => simp [intOf]; omega
      · obtain rfl : k = d.length := by omega
        have HH := Lib.hid hH
        have HK := Lib.hid hkeep
        clear hH hkeep
        go_wp2
        go_ret
        rw [HA.out HK.out]
        exact ⟨rfl, HH.out.1, grown_dr (grown_refl _ _) _⟩
end Go.Proofs.YtcgkaghabgjjlaaGreatDoor.Se
