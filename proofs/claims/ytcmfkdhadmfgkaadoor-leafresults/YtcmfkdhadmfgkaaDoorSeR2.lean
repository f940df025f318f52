/- The document's own sets: Put, Of, Less, Has. -/
import Derived.Test.YtcmfkdhadmfgkaaDoorSeR1
namespace Go.Proofs.YtcmfkdhadmfgkaaDoor.Se
open Go.RowKit Go.Proofs.YtcmfkdhadmfgkaaDoor.Ax Go.Proofs.YtcmfkdhadmfgkaaDoor.Ba Go.Lib

theorem eql_raw (x y : C) (w : World) : (binOp .eql 67 (.agg #[.int .i64 x.1, .int .i64 x.2.1, .int .i64 x.2.2]) (.agg #[.int .i64 y.1, .int .i64 y.2.1, .int .i64 y.2.2])).run Tryd.prog w = .ok (.bool (decide (x = y))) w := by
  rw [eql_rc]
  congr 2
  obtain ⟨a, b, h⟩ := x
  obtain ⟨a', b', h'⟩ := y
  rw [Bool.eq_iff_iff]
  simp
theorem neq_raw2 (x y : C) (w : World) : (binOp .neq 67 (.agg #[.int .i64 x.1, .int .i64 x.2.1, .int .i64 x.2.2]) (.agg #[.int .i64 y.1, .int .i64 y.2.1, .int .i64 y.2.2])).run Tryd.prog w = .ok (.bool (!decide (x = y))) w := by
  rw [neq_rc]
  congr 3
  obtain ⟨a, b, h⟩ := x
  obtain ⟨a', b', h'⟩ := y
  rw [Bool.eq_iff_iff]
  simp
theorem base_one {w W : World} {o : Obj} (h : W = w.alloc o) : w.heap.size + 1 ≤ W.heap.size := by subst h; simp
/-! Has. -/
def HaR (w : World) (L : List C) (c : C) (i : Value) (wr : World) : Prop :=
  ∃ k : Nat, k ≤ L.length ∧ i = .int .i64 k ∧ c ∉ L.take k ∧ Blk wr w.heap.size 67 #[.int .i64 c.1, .int .i64 c.2.1, .int .i64 c.2.2] ∧ Below w.heap.size w wr
set_option maxRecDepth 100000 in
set_option maxHeartbeats 4000000 in
theorem refhas_any (v : Value) (L : List C) (c : C) (w : World) (h : SetAt w v L) (hL : L.length ≤ 1000000) :
    Calls Tryd.prog 45 #[v, Ce c] w fun e w' => e = .returned (.bool (decide (c ∈ L))) ∧ Below w.heap.size w w' := by
  have HU := Lib.hid h
  have key : ∀ v, SetAt w v L → ∃ p cap, v = .slice p L.length cap := by
    rintro v (⟨rfl, rfl⟩ | ⟨g, cap, rfl, _, _⟩)
    · exact ⟨none, 0, rfl⟩
    · exact ⟨_, _, rfl⟩
  obtain ⟨p, cap, rfl⟩ := key v h
  clear h key
  go_enter Tryd.func45, Tryd.ntmps45
  go_wp2_with fail
  have k0 := Blk.newAt w 67 #[.int .i64 c.1, .int .i64 c.2.1, .int .i64 c.2.2] _ rfl
  have hb0 : Below w.heap.size w (w.alloc (.cells #[.int .i64 c.1, .int .i64 c.2.1, .int .i64 c.2.2] 67)) := (Below.refl _ _).alloc (Nat.le_refl _) _
  go_loopw [9] (fun i wr => HaR w L c i wr) (fun i _ => L.length - (intOf i).toNat)
  case atStart => exact ⟨0, Nat.zero_le _, rfl, by simp, k0, hb0⟩
  case round =>
    clear k0 hb0
    obtain ⟨k, hk, rfl, hnin, kc, hb⟩ := hrel
    have hz := hb.size
    by_cases hlt : k < L.length
    · obtain ⟨x, hx⟩ : ∃ x, L[k]? = some x := ⟨_, List.getElem?_eq_getElem hlt⟩
      rcases HU.out.below hb with ⟨_, hnil⟩ | ⟨g, cp, hv, _, hr⟩
      · subst hnil; simp at hlt
      · injection hv with hv1 hv2 hv3
        subst hv1 hv3
        clear hv2
        obtain ⟨c0, c1, c2⟩ := hr.1 k x hx
        obtain ⟨d0, d1, d2⟩ := keepB kc (Below.refl _ _)
        have hgl := hr.2
        have hcl := kc.lt
        have eq1 := eql_raw x c
        by_cases hxc : x = c
        · have HI := Lib.hid (show c ∈ L from hxc ▸ List.mem_of_getElem? hx)
          rw [decide_eq_true hxc] at eq1
          clear hxc hx hr
          go_wp2_with fail
          go_ret
          exact ⟨by rw [decide_eq_true HI.out]; rfl, by go_grown⟩
        · have HN := Lib.hid (show c ∉ L.take (k + 1) by
            rw [List.take_add_one, hx]
            simp only [Option.toList_some, List.mem_append, List.mem_singleton, not_or]
            exact ⟨hnin, fun e => hxc e.symm⟩)
          rw [decide_eq_false hxc] at eq1
          clear hxc hx hr hnin
          go_wp2_with fail
          go_roundw
          case rel => exact ⟨k + 1, by omega, by go_num, HN.out, kc.alloc _, by go_grown⟩
          case measure => simp [intOf]; omega
    · obtain rfl : k = L.length := by omega
      rw [List.take_length] at hnin
      have HN := Lib.hid hnin
      clear hnin
      go_wp2_with fail
      go_ret
      exact ⟨by rw [decide_eq_false HN.out]; rfl, hb⟩
/-! Put. -/
theorem own_high_ne {w : World} {g B : Nat} {e : TypeId} {v : Value} {n : Nat} {xs : List Value} (h : w.ownsRow B e 3 v n xs) (hg : w.heap.size ≤ g) : some g ≠ v.ownBlock := by
  intro he
  have := (h.lt g he.symm).2
  omega
def PuR (w : World) (L : List C) (c : C) (s d i : Value) (wr : World) : Prop :=
  ∃ (k : Nat) (b : Bool) (M : List C), k ≤ L.length ∧ i = .int .i64 k ∧ d = .bool b ∧ putF c (L.drop k) b M = ins L c ∧ M.length ≤ 2 * k ∧ wr.ownsRow (w.heap.size + 1) 67 3 s M.length (flat M) ∧ Blk wr w.heap.size 67 #[.int .i64 c.1, .int .i64 c.2.1, .int .i64 c.2.2] ∧ Below w.heap.size w wr
theorem putF_step {c x : C} {L : List C} {k : Nat} (b : Bool) (M : List C) (hx : L[k]? = some x) : putF c (L.drop k) b M = putF c (L.drop (k + 1)) (b || !lt x c) ((if b then M else if lt x c then M else M ++ [c]) ++ (if x = c then [] else [x])) := by
  obtain ⟨hk, rfl⟩ := List.getElem?_eq_some_iff.1 hx
  rw [List.drop_eq_getElem_cons hk, putF]
set_option maxRecDepth 100000 in
set_option maxHeartbeats 4000000 in
theorem refput_any (v : Value) (L : List C) (c : C) (w : World) (h : SetAt w v L) (hR : Rising L) (hL : L.length ≤ 100000) :
    Calls Tryd.prog 31 #[v, Ce c] w fun e w' => ∃ v', e = .returned v' ∧ SetAt w' v' (ins L c) ∧ Below w.heap.size w w' := by
  obtain ⟨i0, hi0, hz0, hz1, hz2⟩ := info_parts raw_info
  have HU := Lib.hid h
  have key : ∀ v, SetAt w v L → ∃ p cap, v = .slice p L.length cap := by
    rintro v (⟨rfl, rfl⟩ | ⟨g, cap, rfl, _, _⟩)
    · exact ⟨none, 0, rfl⟩
    · exact ⟨_, _, rfl⟩
  obtain ⟨p, cap, rfl⟩ := key v h
  clear h key
  have HI := Lib.hid (show putF c (L.drop 0) false [] = ins L c by rw [List.drop_zero, putF_ins c L [] hR]; rfl)
  have k0 := (Blk.newAt w 67 #[.int .i64 c.1, .int .i64 c.2.1, .int .i64 c.2.2] _ rfl).alloc (.cells #[] 67)
  have HO := Lib.hid (World.ownsRow_made (base := w.heap.size + 1) (e := 67) (size := 3) (w.alloc (.cells #[.int .i64 c.1, .int .i64 c.2.1, .int .i64 c.2.2] 67)) #[] 0 (by simp) (Nat.zero_le _) (by simp))
  go_enter Tryd.func31, Tryd.ntmps31
  go_wp2_with fail
  go_loopw [5, 6, 12] (fun s d i wr => PuR w L c s d i wr) (fun _ _ i _ => L.length - (intOf i).toNat)
  case atStart => exact ⟨0, false, [], Nat.zero_le _, rfl, rfl, HI.out, by simp, by simpa [flat] using HO.out, k0, by go_grown⟩
  case round =>
    clear k0
    obtain ⟨k, b, M, hk, rfl, rfl, hF, hMl, hown, kc, hb⟩ := hrel
    have hz := hb.size
    have hcl := kc.lt
    by_cases hlt : k < L.length
    · obtain ⟨x, hx⟩ : ∃ x, L[k]? = some x := ⟨_, List.getElem?_eq_getElem hlt⟩
      rw [putF_step b M hx] at hF
      rcases HU.out.below hb with ⟨_, hnil⟩ | ⟨g, cp, hv, _, hr⟩
      · subst hnil; simp at hlt
      · injection hv with hv1 hv2 hv3
        subst hv1 hv3
        clear hv2
        obtain ⟨c0, c1, c2⟩ := hr.1 k x hx
        obtain ⟨d0, d1, d2⟩ := keepB kc (Below.refl _ _)
        have hgl := hr.2
        have eq1 := neq_raw2 x c
        have kx := Blk.newAt wr 67 #[.int .i64 x.1, .int .i64 x.2.1, .int .i64 x.2.2] _ rfl
        have hown1 := hown.alloc (.cells #[.int .i64 x.1, .int .i64 x.2.1, .int .i64 x.2.2] 67)
        have hb1 := hb.alloc hz (.cells #[.int .i64 x.1, .int .i64 x.2.1, .int .i64 x.2.2] 67)
        have kc1 := kc.alloc (.cells #[.int .i64 x.1, .int .i64 x.2.1, .int .i64 x.2.2] 67)
        clear hx hr
        cases b
        · have hah := ahead_any x c
          cases hlx : lt x c
          · rw [hlx] at hah hF
            by_cases hxc : x = c
            · rw [decide_eq_true hxc, Bool.not_true] at eq1
              rw [if_pos hxc] at hF
              have HT := Lib.hid (show putF c (L.drop (k + 1)) true (M ++ [c]) = ins L c by simpa using hF)
              clear hxc hF hlx
              go_wp2_with fail
              refine (hah _).mono ?_
              rintro e w1 ⟨rfl, hbA⟩
              have kx2 := kx.under hbA
              have kc2 := kc1.under hbA
              have hown3 := own_below hown1 hbA
              have hb2 := hb1.trans (hbA.mono hb1.size)
              have hzz := hb2.size
              clear hah c0 c1 c2 d0 d1 d2 kx kc1 hown1 hb1
              obtain ⟨d0, d1, d2⟩ := keepB kc2 (Below.refl _ _)
              have hl2 := kc2.lt
              have hown4 := hown3.alloc (.cells #[.int .i64 c.1, .int .i64 c.2.1, .int .i64 c.2.2] 67)
              have hnew := news1 w1 67 c
              go_wp2_with (at_builtin; refine wpList_append_own _ rfl _ _ 36 rfl (w.heap.size + 1) 67 i0 _ 3 24 Tryd.underlying36 hi0 hz0 hz1 hz2 rfl (by decide) _ _ _ rfl hown4 ⟨w1.heap.size, 0, none⟩ 1 1 (flat [c]) rfl (by simp [flat_len]) hnew (one_flat [c]) (by unfold maxLen; omega) (by omega) (by simp; omega) ?_)
              intro v2 w2 hown5 hgr2 _
              have hb3 : Below w.heap.size w w2 := (hb2.alloc hzz _).grown hgr2 (by simp; omega) (fun q hq => by have := (hown4.lt q hq).1; omega)
              have kc3 := (kc2.alloc _).grown hgr2 (own_low_ne hown4 (by omega))
              have kx3 := (kx2.alloc _).grown hgr2 (own_high_ne hown (Nat.le_refl _))
              rw [← flat_app] at hown5
              clear hown3 hown4 kx2 kc2 hb2 hnew hgr2 d0 d1 d2
              obtain ⟨c0, c1, c2⟩ := keepB kx3 (Below.refl _ _)
              obtain ⟨d0, d1, d2⟩ := keepB kc3 (Below.refl _ _)
              have hl3 := kx3.lt
              have hl4 := kc3.lt
              rw [show M.length + 1 = (M ++ [c]).length by simp] at hown5
              have hMc : (M ++ [c]).length ≤ 2 * k + 1 := by simp; omega
              go_wp2_with fail
              go_roundw
              case rel => exact ⟨k + 1, true, (M ++ [c]), by omega, by go_num, rfl, HT.out, by simp; omega, hown5, kc3, hb3⟩
              case measure => simp [intOf]; omega
            · rw [decide_eq_false hxc, Bool.not_false] at eq1
              rw [if_neg hxc] at hF
              have HT := Lib.hid (show putF c (L.drop (k + 1)) true ((M ++ [c]) ++ [x]) = ins L c by simpa using hF)
              clear hxc hF hlx
              go_wp2_with fail
              refine (hah _).mono ?_
              rintro e w1 ⟨rfl, hbA⟩
              have kx2 := kx.under hbA
              have kc2 := kc1.under hbA
              have hown3 := own_below hown1 hbA
              have hb2 := hb1.trans (hbA.mono hb1.size)
              have hzz := hb2.size
              clear hah c0 c1 c2 d0 d1 d2 kx kc1 hown1 hb1
              obtain ⟨d0, d1, d2⟩ := keepB kc2 (Below.refl _ _)
              have hl2 := kc2.lt
              have hown4 := hown3.alloc (.cells #[.int .i64 c.1, .int .i64 c.2.1, .int .i64 c.2.2] 67)
              have hnew := news1 w1 67 c
              go_wp2_with (at_builtin; refine wpList_append_own _ rfl _ _ 36 rfl (w.heap.size + 1) 67 i0 _ 3 24 Tryd.underlying36 hi0 hz0 hz1 hz2 rfl (by decide) _ _ _ rfl hown4 ⟨w1.heap.size, 0, none⟩ 1 1 (flat [c]) rfl (by simp [flat_len]) hnew (one_flat [c]) (by unfold maxLen; omega) (by omega) (by simp; omega) ?_)
              intro v2 w2 hown5 hgr2 _
              have hb3 : Below w.heap.size w w2 := (hb2.alloc hzz _).grown hgr2 (by simp; omega) (fun q hq => by have := (hown4.lt q hq).1; omega)
              have kc3 := (kc2.alloc _).grown hgr2 (own_low_ne hown4 (by omega))
              have kx3 := (kx2.alloc _).grown hgr2 (own_high_ne hown (Nat.le_refl _))
              rw [← flat_app] at hown5
              clear hown3 hown4 kx2 kc2 hb2 hnew hgr2 d0 d1 d2
              obtain ⟨c0, c1, c2⟩ := keepB kx3 (Below.refl _ _)
              obtain ⟨d0, d1, d2⟩ := keepB kc3 (Below.refl _ _)
              have hl3 := kx3.lt
              have hl4 := kc3.lt
              rw [show M.length + 1 = (M ++ [c]).length by simp] at hown5
              have hMc : (M ++ [c]).length ≤ 2 * k + 1 := by simp; omega
              have hown2 := hown5.alloc (.cells #[.int .i64 x.1, .int .i64 x.2.1, .int .i64 x.2.2] 67)
              have hnew := news1 w2 67 x
              go_wp2_with (at_builtin; refine wpList_append_own _ rfl _ _ 36 rfl (w.heap.size + 1) 67 i0 _ 3 24 Tryd.underlying36 hi0 hz0 hz1 hz2 rfl (by decide) _ _ _ rfl hown2 ⟨w2.heap.size, 0, none⟩ 1 1 (flat [x]) rfl (by simp [flat_len]) hnew (one_flat [x]) (by unfold maxLen; omega) (by omega) (by simp; omega) ?_)
              intro v' w' hown' hgr _
              have hb' : Below w.heap.size w w' := (hb3.alloc hb3.size _).grown hgr (by simp; have := hb3.size; omega) (fun q hq => by have := (hown2.lt q hq).1; omega)
              have kc' := (kc3.alloc _).grown hgr (own_low_ne hown2 (by omega))
              go_wp2_with fail
              go_roundw
              case rel => exact ⟨k + 1, true, (M ++ [c]) ++ [x], by omega, by go_num, rfl, HT.out, by simp; omega, by first | (rw [List.length_append, flat_app]; exact hown') | (rw [List.length_append, List.length_append, flat_app]; exact hown'), kc', hb'⟩
              case measure => simp [intOf]; omega
          · rw [hlx] at hah hF
            have hxc : x ≠ c := fun e => by subst e; rw [lt_irrefl] at hlx; cases hlx
            rw [decide_eq_false hxc, Bool.not_false] at eq1
            rw [if_neg hxc] at hF
            have HT := Lib.hid (show putF c (L.drop (k + 1)) false (M ++ [x]) = ins L c by simpa using hF)
            clear hxc hF hlx
            go_wp2_with fail
            refine (hah _).mono ?_
            rintro e w1 ⟨rfl, hbA⟩
            have kx2 := kx.under hbA
            have kc2 := kc1.under hbA
            have hown3 := own_below hown1 hbA
            have hb2 := hb1.trans (hbA.mono hb1.size)
            have hzz := hb2.size
            clear hah c0 c1 c2 d0 d1 d2 kx kc1 hown1 hb1 hbA
            obtain ⟨c0, c1, c2⟩ := keepB kx2 (Below.refl _ _)
            obtain ⟨d0, d1, d2⟩ := keepB kc2 (Below.refl _ _)
            have hl1 := kx2.lt
            have hl2 := kc2.lt
            have hown2 := hown3.alloc (.cells #[.int .i64 x.1, .int .i64 x.2.1, .int .i64 x.2.2] 67)
            have hnew := news1 w1 67 x
            go_wp2_with (at_builtin; refine wpList_append_own _ rfl _ _ 36 rfl (w.heap.size + 1) 67 i0 _ 3 24 Tryd.underlying36 hi0 hz0 hz1 hz2 rfl (by decide) _ _ _ rfl hown2 ⟨w1.heap.size, 0, none⟩ 1 1 (flat [x]) rfl (by simp [flat_len]) hnew (one_flat [x]) (by unfold maxLen; omega) (by omega) (by simp; omega) ?_)
            intro v' w' hown' hgr _
            have hb' : Below w.heap.size w w' := (hb2.alloc hb2.size _).grown hgr (by simp; have := hb2.size; omega) (fun q hq => by have := (hown2.lt q hq).1; omega)
            have kc' := (kc2.alloc _).grown hgr (own_low_ne hown2 (by omega))
            go_wp2_with fail
            go_roundw
            case rel => exact ⟨k + 1, false, M ++ [x], by omega, by go_num, rfl, HT.out, by simp; omega, by first | (rw [List.length_append, flat_app]; exact hown') | (rw [List.length_append, List.length_append, flat_app]; exact hown'), kc', hb'⟩
            case measure => simp [intOf]; omega
        · by_cases hxc : x = c
          · rw [decide_eq_true hxc, Bool.not_true] at eq1
            rw [if_pos hxc] at hF
            have HT := Lib.hid (show putF c (L.drop (k + 1)) true M = ins L c by simpa using hF)
            clear hxc hF
            go_wp2_with fail
            go_roundw
            case rel => exact ⟨k + 1, true, M, by omega, by go_num, rfl, HT.out, by omega, hown1, kc1, hb1⟩
            case measure => simp [intOf]; omega
          · rw [decide_eq_false hxc, Bool.not_false] at eq1
            rw [if_neg hxc] at hF
            have HT := Lib.hid (show putF c (L.drop (k + 1)) true (M ++ [x]) = ins L c by simpa using hF)
            clear hxc hF
            have hown2 := hown1.alloc (.cells #[.int .i64 x.1, .int .i64 x.2.1, .int .i64 x.2.2] 67)
            have hnew := news1 (wr.alloc (.cells #[.int .i64 x.1, .int .i64 x.2.1, .int .i64 x.2.2] 67)) 67 x
            have hsz1 : (wr.alloc (.cells #[.int .i64 x.1, .int .i64 x.2.1, .int .i64 x.2.2] 67)).heap.size = wr.heap.size + 1 := by simp
            rw [hsz1] at hnew
            go_wp2_with (at_builtin; refine wpList_append_own _ rfl _ _ 36 rfl (w.heap.size + 1) 67 i0 _ 3 24 Tryd.underlying36 hi0 hz0 hz1 hz2 rfl (by decide) _ _ _ rfl hown2 ⟨wr.heap.size + 1, 0, none⟩ 1 1 (flat [x]) rfl (by simp [flat_len]) hnew (one_flat [x]) (by unfold maxLen; omega) (by omega) (by simp; omega) ?_)
            intro v' w' hown' hgr _
            have hb' : Below w.heap.size w w' := (hb1.alloc hb1.size _).grown hgr (by simp; omega) (fun q hq => by have := (hown2.lt q hq).1; omega)
            have kc' := (kc1.alloc _).grown hgr (own_low_ne hown2 (by omega))
            go_wp2_with fail
            go_roundw
            case rel => exact ⟨k + 1, true, M ++ [x], by omega, by go_num, rfl, HT.out, by simp; omega, by rw [List.length_append, flat_app]; exact hown', kc', hb'⟩
            case measure => simp [intOf]; omega
    · obtain rfl : k = L.length := by omega
      rw [List.drop_length, putF] at hF
      cases b
      · have HT := Lib.hid (show M ++ [c] = ins L c by simpa using hF)
        clear hF
        obtain ⟨d0, d1, d2⟩ := keepB kc (Below.refl _ _)
        have hown2 := hown.alloc (.cells #[.int .i64 c.1, .int .i64 c.2.1, .int .i64 c.2.2] 67)
        have hnew := news1 wr 67 c
        go_wp2_with (at_builtin; refine wpList_append_own _ rfl _ _ 36 rfl (w.heap.size + 1) 67 i0 _ 3 24 Tryd.underlying36 hi0 hz0 hz1 hz2 rfl (by decide) _ _ _ rfl hown2 ⟨wr.heap.size, 0, none⟩ 1 1 (flat [c]) rfl (by simp [flat_len]) hnew (one_flat [c]) (by unfold maxLen; omega) (by omega) (by simp; omega) ?_)
        intro v' w' hown' hgr _
        have hb' : Below w.heap.size w w' := (hb.alloc hz _).grown hgr (by simp; omega) (fun q hq => by have := (hown2.lt q hq).1; omega)
        go_wp2_with fail
        go_ret
        rw [← HT.out]
        exact ⟨_, rfl, set_own (by rw [List.length_append, flat_app]; exact hown'), hb'⟩
      · have HT := Lib.hid (show M = ins L c by simpa using hF)
        clear hF
        go_wp2_with fail
        go_ret
        rw [← HT.out]
        exact ⟨_, rfl, set_own hown, hb⟩
/-! Of. -/
def OfR (w : World) (L : List C) (s i : Value) (wr : World) : Prop :=
  ∃ (k : Nat) (t : Value), k ≤ L.length ∧ i = .int .i64 k ∧ t = s ∧ SetAt wr t (ofL (L.take k)) ∧ Below w.heap.size w wr
set_option maxRecDepth 100000 in
set_option maxHeartbeats 4000000 in
theorem refof_any (v : Value) (L : List C) (w : World) (h : SetAt w v L) (hL : L.length ≤ 10000) :
    Calls Tryd.prog 48 #[v] w fun e w' => ∃ v', e = .returned v' ∧ SetAt w' v' (ofL L) ∧ Below w.heap.size w w' := by
  have HU := Lib.hid h
  have key : ∀ v, SetAt w v L → ∃ p cap, v = .slice p L.length cap := by
    rintro v (⟨rfl, rfl⟩ | ⟨g, cap, rfl, _, _⟩)
    · exact ⟨none, 0, rfl⟩
    · exact ⟨_, _, rfl⟩
  obtain ⟨p, cap, rfl⟩ := key v h
  clear h key
  have k0 := Blk.newAt w 67 #[] _ rfl
  have hs0 : SetAt (w.alloc (.cells #[] 67)) (.slice (some ⟨w.heap.size, 0, none⟩) 0 0) [] := .inr ⟨_, 0, rfl, Nat.le_refl _, fun i d hd => by simp at hd, k0.lt⟩
  go_enter Tryd.func48, Tryd.ntmps48
  go_wp2_with fail
  go_loopw [3, 9] (fun s i wr => OfR w L s i wr) (fun _ i _ => L.length - (intOf i).toNat)
  case atStart => exact ⟨0, _, Nat.zero_le _, rfl, rfl, hs0, by go_grown⟩
  case round =>
    clear k0 hs0
    obtain ⟨k, t, hk, rfl, rfl, hs, hb⟩ := hrel
    have hz := hb.size
    by_cases hlt : k < L.length
    · obtain ⟨x, hx⟩ : ∃ x, L[k]? = some x := ⟨_, List.getElem?_eq_getElem hlt⟩
      rcases HU.out.below hb with ⟨_, hnil⟩ | ⟨g, cp, hv, _, hr⟩
      · subst hnil; simp at hlt
      · injection hv with hv1 hv2 hv3
        subst hv1 hv3
        clear hv2
        obtain ⟨c0, c1, c2⟩ := hr.1 k x hx
        have hgl := hr.2
        have hl1 := ofL_len (L.take k)
        rw [List.length_take] at hl1
        have hb1 : Below wr.heap.size wr (wr.alloc (.cells #[.int .i64 x.1, .int .i64 x.2.1, .int .i64 x.2.2] 67)) := (Below.refl _ _).alloc (Nat.le_refl _) _
        have hpu := refput_any t _ x _ (hs.below hb1) (rising_ofL _) (by omega)
        rw [ofL_put hx] at hpu
        clear hx hr
        go_wp2_with fail
        refine hpu.mono ?_
        rintro e w1 ⟨t1, rfl, hs1, hb2⟩
        have hb3 := hb.trans ((hb1.trans (hb2.mono hb1.size)).mono hz)
        clear hpu c0 c1 c2 hb1 hb2
        go_wp2_with fail
        go_roundw
        case rel => exact ⟨k + 1, _, by omega, by go_num, rfl, hs1, hb3⟩
        case measure => simp [intOf]; omega
    · obtain rfl : k = L.length := by omega
      rw [List.take_length] at hs
      go_wp2_with fail
      go_ret
      exact ⟨_, rfl, hs, hb⟩
end Go.Proofs.YtcmfkdhadmfgkaaDoor.Se
