/- Shift and Turn, of the program and of the document, whatever comes of it. -/
import Derived.Test.YtplldlfbcblncaaGreatDoorSeMv
namespace Go.Proofs.YtplldlfbcblncaaGreatDoor.Se
open Go.Proofs.YtplldlfbcblncaaGreatDoor.Ax hiding Er
open Go.RowKit Go.Proofs.YtplldlfbcblncaaGreatDoor.Ba Go.Lib
open Go.Proofs.YtplldlfbcblncaaGreatDoor.Ce (onA onB onH halvesV latB chkV OnPost con_err con_arg con_hex con_tri check_v errOf refcheck_any refOn_any)

def shM (a b : Int) : Mv := fun c => if plusB c.1 c.2.1 a b = true then (0, shC a b c) else (6, zC)
def onC (l o : Int) (c : C) : C := (onA l o c.1 c.2.1 c.2.2, onB l o c.1 c.2.1 c.2.2, onH l o c.2.2)
def tnM (l o : Int) : Mv := fun c => if chkV l c.1 c.2.1 c.2.2 ≠ 0 then (chkV l c.1 c.2.1 c.2.2, zC) else if o < 0 ∨ 11 < o then (4, zC) else if goodB (onC l o c).1 (onC l o c).2.1 = true then (0, onC l o c) else (6, zC)
theorem chk_fine {l : Int} {c : C} (hc : chkV l c.1 c.2.1 c.2.2 = 0) : (l = 1 ∨ l = 2 ∨ l = 3) ∧ 0 ≤ c.2.2 ∧ c.2.2 < halvesV l ∧ goodB c.1 c.2.1 = true := by
  unfold chkV at hc
  cases hl : latB l
  · rw [if_pos hl] at hc; cases hc
  · rw [if_neg (by simp [hl])] at hc
    by_cases hh : c.2.2 < 0 ∨ halvesV l ≤ c.2.2
    · rw [if_pos hh] at hc; cases hc
    · rw [if_neg hh] at hc
      cases hg : goodB c.1 c.2.1
      · rw [if_pos hg] at hc; cases hc
      · simp only [latB, decide_eq_true_eq] at hl
        exact ⟨by omega, by omega, by omega, rfl⟩
/-! The program's. -/
theorem con_any (l o : Int) (c : C) (w : World) : Calls Tryz.prog 28 #[.int .i64 l, .int .i64 o, Ce c] w (MvPost (tnM l o) c w) := by
  by_cases hc : chkV l c.1 c.2.1 c.2.2 = 0
  · obtain ⟨hl, h0, h1, hg⟩ := chk_fine hc
    have hk := fun W => check_v l c.1 c.2.1 c.2.2 W
    rw [hc] at hk
    by_cases ho : o < 0 ∨ 11 < o
    · refine (con_arg l o c.1 c.2.1 c.2.2 w ho (fun W => (hk W).mono fun _ _ h => h)).mono ?_
      rintro e w' ⟨rfl, hb⟩
      have e1 : tnM l o c = (4, zC) := by unfold tnM; rw [if_neg (by simp [hc]), if_pos ho]
      exact ⟨.inr ⟨by rw [e1]; decide, zC, by rw [e1]; rfl⟩, hb⟩
    · have key : Calls Tryz.prog 28 #[.int .i64 l, .int .i64 o, Ce c] w (OnPost w l o c.1 c.2.1 c.2.2) := by
        by_cases h1l : l = 1
        · subst h1l
          obtain ⟨a, b, h⟩ := c
          obtain rfl : h = 0 := by unfold halvesV at h1; simp at h0 h1; omega
          exact con_hex o a b w (by omega) (by omega) hg
        · have : halvesV l = 2 := if_neg h1l
          exact con_tri l o c.1 c.2.1 c.2.2 w (by omega) (by omega) (by omega) hg (by omega)
      refine key.mono ?_
      rintro e w' ⟨h | h, hb⟩
      · obtain ⟨hgd, rfl⟩ := h
        have e1 : tnM l o c = (0, onC l o c) := by unfold tnM; rw [if_neg (by simp [hc]), if_neg ho, if_pos (show goodB (onC l o c).1 (onC l o c).2.1 = true from hgd)]
        exact ⟨.inl ⟨by rw [e1], by rw [e1]; rfl⟩, hb⟩
      · obtain ⟨hgd, rfl⟩ := h
        have e1 : tnM l o c = (6, zC) := by unfold tnM; rw [if_neg (by simp [hc]), if_neg ho, if_neg (by unfold onC; rw [hgd]; simp)]
        exact ⟨.inr ⟨by rw [e1]; decide, zC, by rw [e1]; rfl⟩, hb⟩
  · have e1 : tnM l o c = (chkV l c.1 c.2.1 c.2.2, zC) := by unfold tnM; rw [if_pos hc]
    have hk := fun W => check_v l c.1 c.2.1 c.2.2 W
    refine (con_err l o c.1 c.2.1 c.2.2 w (chkV l c.1 c.2.1 c.2.2) (fun W => (hk W).mono fun _ _ h => by rw [h.1]; exact ⟨by unfold errOf; rw [if_neg hc], h.2⟩)).mono ?_
    rintro e w' ⟨rfl, hb⟩
    exact ⟨.inr ⟨by rw [e1]; exact hc, zC, by rw [e1]; rfl⟩, hb⟩
theorem shift1m (P : Nat) (a b : Int) (c : C) (W : World) (hP : Blk W P 34 #[.int .i64 a, .int .i64 b]) :
    Calls Tryz.prog 23 #[Ce c, .pointer (some ⟨P, 0, none⟩)] W (MvPost (shM a b) c W) := by
  cases hg : plusB c.1 c.2.1 a b
  · have e1 : shM a b c = (6, zC) := by unfold shM; rw [if_neg (by simp [hg])]
    have E1 := Lib.hid e1
    have p0 := hP.cell 0
    have p1 := hP.cell 1
    simp only [List.getElem?_toArray, List.getElem?_cons_zero, List.getElem?_cons_succ] at p0 p1
    have hpl := hP.lt
    have hpu := fun w => plus_no c.1 c.2.1 a b w hg
    clear hP e1 hg
    go_enter Tryz.func23, Tryz.ntmps23
    go_wp2_with fail
    refine (hpu _).mono ?_
    rintro e w1 ⟨rfl, hb⟩
    have k2 : Blk w1 W.heap.size 45 #[.int .i64 c.1, .int .i64 c.2.1, .int .i64 c.2.2] := ((Blk.newAt W _ _ _ rfl).alloc _).under hb
    have k3 : Blk w1 (W.heap.size + 1) 45 #[.int .i64 0, .int .i64 0, .int .i64 0] := (Blk.newAt (W.alloc _) _ _ _ (by simp)).under hb
    have hb1 : Below W.heap.size W w1 := Ba.below_call hb (by go_grown) (by simp; omega)
    have hz := hb1.size
    have c0 := k2.cell 2
    have r0 := k3.cell 0
    have r1 := k3.cell 1
    have r2 := k3.cell 2
    have f0 := k3.frozen 0
    have f1 := k3.frozen 1
    have f2 := k3.frozen 2
    simp only [List.getElem?_toArray, List.getElem?_cons_zero, List.getElem?_cons_succ] at c0 r0 r1 r2
    have hl2 := k2.lt
    have hl3 := k3.lt
    clear hb hpu
    go_wp2_with fail
    exact bodyPost_ret (v := .tuple #[Ce (0, 0, c.2.2), Er 6]) (by simp [results, Tryz.results23, go_sem, *]) rfl ⟨.inr ⟨by rw [E1.out]; decide, (0, 0, c.2.2), by rw [E1.out]⟩, by go_grown⟩
  · have e1 : shM a b c = (0, shC a b c) := by unfold shM; rw [if_pos hg]
    unfold plusB at hg
    simp only [Bool.and_eq_true] at hg
    refine (shift1_any P a b c W hP hg.1.1 hg.1.2 hg.2).mono ?_
    rintro e w' ⟨rfl, hb⟩
    exact ⟨.inl ⟨by rw [e1], by rw [e1]⟩, hb⟩
theorem turn1m (P R : Nat) (l o : Int) (c : C) (W : World) (hP : Blk W P 38 #[.int .i64 l]) (hR : Blk W R 39 #[.int .i64 o]) :
    Calls Tryz.prog 27 #[Ce c, .pointer (some ⟨P, 0, none⟩), .pointer (some ⟨R, 0, none⟩)] W (MvPost (tnM l o) c W) := by
  have p0 := hP.cell 0
  have r0 := hR.cell 0
  simp only [List.getElem?_toArray, List.getElem?_cons_zero] at p0 r0
  have hpl := hP.lt
  have hrl := hR.lt
  have hcn := fun w => con_any l o c w
  clear hP hR
  go_enter Tryz.func27, Tryz.ntmps27
  go_wp2_with fail
  refine (hcn _).mono ?_
  rintro e w1 ⟨h, hb⟩
  have k3 : Blk w1 (W.heap.size + 1) 45 #[.int .i64 0, .int .i64 0, .int .i64 0] := (Blk.newAt (W.alloc _) _ _ _ (by simp)).under hb
  have hb1 : Below W.heap.size W w1 := Ba.below_call hb (by go_grown) (by simp; omega)
  have hz := hb1.size
  have q0 := k3.cell 0
  have q1 := k3.cell 1
  have q2 := k3.cell 2
  have f0 := k3.frozen 0
  have f1 := k3.frozen 1
  have f2 := k3.frozen 2
  simp only [List.getElem?_toArray, List.getElem?_cons_zero, List.getElem?_cons_succ] at q0 q1 q2
  have hl3 := k3.lt
  clear hb hcn
  rcases h with ⟨h0, rfl⟩ | ⟨h0, d, rfl⟩
  · have H0 := Lib.hid h0
    clear h0
    go_wp2_with fail
    exact bodyPost_ret (v := .tuple #[Ce (tnM l o c).2, .nilIface]) (by simp [results, Tryz.results27, go_sem, *]) rfl ⟨.inl ⟨H0.out, rfl⟩, by go_grown⟩
  · have H0 := Lib.hid h0
    clear h0
    go_wp2_with fail
    exact bodyPost_ret (v := .tuple #[Ce d, Er (tnM l o c).1]) (by simp [results, Tryz.results27, go_sem, *]) rfl ⟨.inr ⟨H0.out, d, rfl⟩, by go_grown⟩
theorem shiftm_any (v : Value) (L : List C) (a b : Int) (w : World) (h : SetAt w v L) (hL : L.length ≤ 1000000) :
    Calls Tryz.prog 8 #[v, Pt a b] w (BrPost (shM a b) L w) := by
  have hb0 : Below w.heap.size w (w.alloc (.cells #[.int .i64 a, .int .i64 b] 34)) := (Below.refl _ _).alloc (Nat.le_refl _) _
  have kp := Blk.newAt w 34 #[.int .i64 a, .int .i64 b] _ rfl
  have hbr := bringm_shift v L (shM a b) w.heap.size _ (h.below hb0) hL (fun W hW c _ => shift1m w.heap.size a b c W (kp.under hW))
  go_enter Tryz.func8, Tryz.ntmps8
  go_wp2_with fail
  refine hbr.mono ?_
  rintro e w1 ⟨v1, E, rfl, hs, hE, hb1⟩
  go_wp2_with fail
  exact bodyPost_ret (v := .tuple #[v1, E]) (by simp [results, Tryz.results8, go_sem]) rfl ⟨_, _, rfl, hs, hE, hb0.trans (hb1.mono hb0.size)⟩
theorem turnm_any (v : Value) (L : List C) (l o : Int) (w : World) (h : SetAt w v L) (hL : L.length ≤ 1000000) :
    Calls Tryz.prog 10 #[v, .int .i64 l, .int .i64 o] w (BrPost (tnM l o) L w) := by
  have hb0 : Below w.heap.size w ((w.alloc (.cells #[.int .i64 l] 38)).alloc (.cells #[.int .i64 o] 39)) := ((Below.refl _ _).alloc (Nat.le_refl _) _).alloc (by simp) _
  have kp := (Blk.newAt w 38 #[.int .i64 l] _ rfl).alloc (.cells #[.int .i64 o] 39)
  have kr := Blk.newAt (w.alloc (.cells #[.int .i64 l] 38)) 39 #[.int .i64 o] (w.heap.size + 1) (by simp)
  have hbr := bringm_turn v L (tnM l o) w.heap.size (w.heap.size + 1) _ (h.below hb0) hL (fun W hW c _ => turn1m w.heap.size (w.heap.size + 1) l o c W (kp.under hW) (kr.under hW))
  go_enter Tryz.func10, Tryz.ntmps10
  go_wp2_with fail
  refine hbr.mono ?_
  rintro e w1 ⟨v1, E, rfl, hs, hE, hb1⟩
  go_wp2_with fail
  exact bodyPost_ret (v := .tuple #[v1, E]) (by simp [results, Tryz.results10, go_sem]) rfl ⟨_, _, rfl, hs, hE, hb0.trans (hb1.mono hb0.size)⟩
/-! The document's. -/
def RfPost (f : Mv) (L : List C) (W : World) (e : Ending) (w' : World) : Prop :=
  ∃ v, e = .returned (.tuple #[v, .int .i64 (mvOut f L).2.1, .int .i64 (mvOut f L).2.2]) ∧ SetAt w' v (mvOut f L).1 ∧ Below W.heap.size W w'
def RfR (w : World) (L : List C) (f : Mv) (s i : Value) (wr : World) : Prop :=
  ∃ k : Nat, k ≤ L.length ∧ i = .int .i64 k ∧ ckN (cdM f L) k = none ∧ wr.ownsRow w.heap.size 48 3 s k (flat ((L.take k).map fun c => (f c).2)) ∧ Below w.heap.size w wr
set_option maxRecDepth 100000 in
set_option maxHeartbeats 4000000 in
theorem refshiftm_any (v : Value) (L : List C) (a b : Int) (w : World) (h : SetAt w v L) (hL : L.length ≤ 1000) (ha : -9223372036854775808 ≤ a ∧ a ≤ 9223372036854775807) (hb : -9223372036854775808 ≤ b ∧ b ≤ 9223372036854775807) :
    Calls Tryz.prog 9 #[v, .int .i64 a, .int .i64 b] w (RfPost (shM a b) L w) := by
  obtain ⟨i0, hi0, hz0, hz1, hz2⟩ := info_parts raw_info
  have HU := Lib.hid h
  have key : ∀ v, SetAt w v L → ∃ p cap, v = .slice p L.length cap := by
    rintro v (⟨rfl, rfl⟩ | ⟨g, cap, rfl, _, _⟩)
    · exact ⟨none, 0, rfl⟩
    · exact ⟨_, _, rfl⟩
  obtain ⟨p, cap, rfl⟩ := key v h
  clear h key
  have HO := Lib.hid (World.ownsRow_made (base := w.heap.size) (e := 48) (size := 3) w #[] 0 (Nat.le_refl _) (Nat.zero_le _) (by simp))
  go_enter Tryz.func9, Tryz.ntmps9
  go_wp2_with fail
  go_loopw [9, 10, 11, 15] (fun s _ _ i wr => RfR w L (shM a b) s i wr) (fun _ _ _ i _ => L.length - (intOf i).toNat)
  case atStart => exact ⟨0, Nat.zero_le _, rfl, rfl, by simpa [flat] using HO.out, by go_grown⟩
  case round =>
    obtain ⟨k, hk, rfl, hck, hown, hbr⟩ := hrel
    have hz := hbr.size
    have HCK := Lib.hid hck
    clear hck
    by_cases hlt : k < L.length
    · obtain ⟨x, hx⟩ : ∃ x, L[k]? = some x := ⟨_, List.getElem?_eq_getElem hlt⟩
      rcases HU.out.below hbr with ⟨_, hnil⟩ | ⟨g, cp, hv, _, hr⟩
      · subst hnil; simp at hlt
      · injection hv with hv1 hv2 hv3
        subst hv1 hv3
        clear hv2
        obtain ⟨c0, c1, c2⟩ := hr.1 k x hx
        have hgl := hr.2
        have HX := Lib.hid hx
        have hgr := fun c d W => refgood_any c d W
        clear hx hr
        cases g1 : goodB x.1 x.2.1
        · have e1 : shM a b x = (6, zC) := by unfold shM plusB; rw [g1]; simp
          have HOut := Lib.hid (mv_some (f := shM a b) HX.out HCK.out (by rw [e1]; decide))
          rw [e1] at HOut
          (have HG := Lib.hid g1; clear g1; go_wp2_with fail; refine (refgood_any x.1 x.2.1 _).mono ?_; rintro e w' ⟨rfl, rfl⟩; rw [HG.out]; clear HG)
          (go_wp2_with fail; exact bodyPost_ret (v := .tuple #[.slice none 0 0, .int .i64 6, .int .i64 k]) (by simp [results, Tryz.results9, go_sem]) rfl ⟨_, by rw [HOut.out], by rw [HOut.out]; exact .inl ⟨rfl, rfl⟩, by go_grown⟩)
        · cases g2 : goodB a b
          · have e1 : shM a b x = (6, zC) := by unfold shM plusB; rw [g2]; simp
            have HOut := Lib.hid (mv_some (f := shM a b) HX.out HCK.out (by rw [e1]; decide))
            rw [e1] at HOut
            (have HG := Lib.hid g1; clear g1; go_wp2_with fail; refine (refgood_any x.1 x.2.1 _).mono ?_; rintro e w' ⟨rfl, rfl⟩; rw [HG.out]; clear HG)
            (have HG := Lib.hid g2; clear g2; go_wp2_with fail; refine (refgood_any a b _).mono ?_; rintro e w' ⟨rfl, rfl⟩; rw [HG.out]; clear HG)
            (go_wp2_with fail; exact bodyPost_ret (v := .tuple #[.slice none 0 0, .int .i64 6, .int .i64 k]) (by simp [results, Tryz.results9, go_sem]) rfl ⟨_, by rw [HOut.out], by rw [HOut.out]; exact .inl ⟨rfl, rfl⟩, by go_grown⟩)
          · obtain ⟨⟨x1, x2⟩, x3, x4⟩ := goodB_iff.1 g1
            obtain ⟨⟨y1, y2⟩, y3, y4⟩ := goodB_iff.1 g2
            cases g3 : goodB (x.1 + a) (x.2.1 + b)
            · have e1 : shM a b x = (6, zC) := by unfold shM plusB; rw [g3]; simp
              have HOut := Lib.hid (mv_some (f := shM a b) HX.out HCK.out (by rw [e1]; decide))
              rw [e1] at HOut
              (have HG := Lib.hid g1; clear g1; go_wp2_with fail; refine (refgood_any x.1 x.2.1 _).mono ?_; rintro e w' ⟨rfl, rfl⟩; rw [HG.out]; clear HG)
              (have HG := Lib.hid g2; clear g2; go_wp2_with fail; refine (refgood_any a b _).mono ?_; rintro e w' ⟨rfl, rfl⟩; rw [HG.out]; clear HG)
              (have HG := Lib.hid g3; clear g3; go_wp2_with fail; refine (refgood_any (x.1 + a) (x.2.1 + b) _).mono ?_; rintro e w' ⟨rfl, rfl⟩; rw [HG.out]; clear HG)
              (go_wp2_with fail; exact bodyPost_ret (v := .tuple #[.slice none 0 0, .int .i64 6, .int .i64 k]) (by simp [results, Tryz.results9, go_sem]) rfl ⟨_, by rw [HOut.out], by rw [HOut.out]; exact .inl ⟨rfl, rfl⟩, by go_grown⟩)
            · have e1 : shM a b x = (0, shC a b x) := by unfold shM plusB; rw [g1, g2, g3]; simp
              have HN := Lib.hid (mv_next (f := shM a b) HX.out HCK.out (by rw [e1]))
              have HT := Lib.hid (show (L.take (k + 1)).map (fun c => (shM a b c).2) = (L.take k).map (fun c => (shM a b c).2) ++ [shC a b x] by rw [List.take_add_one, HX.out]; simp [e1])
              clear e1
              (have HG := Lib.hid g1; clear g1; go_wp2_with fail; refine (refgood_any x.1 x.2.1 _).mono ?_; rintro e w' ⟨rfl, rfl⟩; rw [HG.out]; clear HG)
              (have HG := Lib.hid g2; clear g2; go_wp2_with fail; refine (refgood_any a b _).mono ?_; rintro e w' ⟨rfl, rfl⟩; rw [HG.out]; clear HG)
              (have HG := Lib.hid g3; clear g3; go_wp2_with fail; refine (refgood_any (x.1 + a) (x.2.1 + b) _).mono ?_; rintro e w' ⟨rfl, rfl⟩; rw [HG.out]; clear HG)
              (have hown1 := (hown.alloc (.cells #[.int .i64 x.1, .int .i64 x.2.1, .int .i64 x.2.2] 48)).alloc (.cells #[.int .i64 (x.1 + a), .int .i64 (x.2.1 + b), .int .i64 (x.2.2)] 48); have hnew := news1 (wr.alloc (.cells #[.int .i64 x.1, .int .i64 x.2.1, .int .i64 x.2.2] 48)) 48 (shC a b x); have hsz1 : (wr.alloc (.cells #[.int .i64 x.1, .int .i64 x.2.1, .int .i64 x.2.2] 48)).heap.size = wr.heap.size + 1 := (by simp); rw [hsz1] at hnew; go_wp2_with (at_builtin; refine wpList_append_own _ rfl _ _ 22 rfl w.heap.size 48 i0 _ 3 24 Tryz.underlying22 hi0 hz0 hz1 hz2 rfl (by decide) _ _ _ rfl hown1 ⟨wr.heap.size + 1, 0, none⟩ 1 1 (flat [shC a b x]) rfl (by simp [flat_len]) hnew (one_flat [shC a b x]) (by unfold maxLen; omega) (by omega) (by simp; omega) ?_); intro v' w' hown' hgr2 _; have hb2 := (hbr.alloc hz (.cells #[.int .i64 x.1, .int .i64 x.2.1, .int .i64 x.2.2] 48)); have hb' : Below w.heap.size w w' := (hb2.alloc (by simp; omega) _).grown hgr2 (by simp; omega) (fun q hq => by have := (hown1.lt q hq).1; omega); go_wp2_with fail; go_roundw; (case rel => exact ⟨k + 1, by omega, by go_num, HN.out, by rw [HT.out, flat_app, List.map_take]; exact hown', hb'⟩); (case measure => simp [intOf]; omega))
    · obtain rfl : k = L.length := by omega
      rw [List.take_length] at hown
      have HOut := Lib.hid (mv_none HCK.out)
      have hof := refof_any u9 (L.map fun c => (shM a b c).2) wr (set_own (by simpa using hown)) (by simpa using hL)
      (go_wp2_with fail; refine hof.mono ?_; rintro e w3 ⟨v3, rfl, hs3, hb3⟩; go_wp2_with fail; exact bodyPost_ret (v := .tuple #[v3, .int .i64 0, .int .i64 (-1)]) (by simp [results, Tryz.results9, go_sem]) rfl ⟨_, by rw [HOut.out], by rw [HOut.out]; exact hs3, hbr.trans (hb3.mono hz)⟩)
set_option maxRecDepth 100000 in
set_option maxHeartbeats 4000000 in
theorem refturnm_any (v : Value) (L : List C) (l o : Int) (w : World) (h : SetAt w v L) (hL : L.length ≤ 1000) :
    Calls Tryz.prog 11 #[.int .i64 l, .int .i64 o, v] w (RfPost (tnM l o) L w) := by
  obtain ⟨i0, hi0, hz0, hz1, hz2⟩ := info_parts raw_info
  have HU := Lib.hid h
  have key : ∀ v, SetAt w v L → ∃ p cap, v = .slice p L.length cap := by
    rintro v (⟨rfl, rfl⟩ | ⟨g, cap, rfl, _, _⟩)
    · exact ⟨none, 0, rfl⟩
    · exact ⟨_, _, rfl⟩
  obtain ⟨p, cap, rfl⟩ := key v h
  clear h key
  have HO := Lib.hid (World.ownsRow_made (base := w.heap.size) (e := 48) (size := 3) w #[] 0 (Nat.le_refl _) (Nat.zero_le _) (by simp))
  go_enter Tryz.func11, Tryz.ntmps11
  go_wp2_with fail
  go_loopw [9, 10, 11, 12, 13, 17] (fun s _ _ _ _ i wr => RfR w L (tnM l o) s i wr) (fun _ _ _ _ _ i _ => L.length - (intOf i).toNat)
  case atStart => exact ⟨0, Nat.zero_le _, rfl, rfl, by simpa [flat] using HO.out, by go_grown⟩
  case round =>
    obtain ⟨k, hk, rfl, hck, hown, hbr⟩ := hrel
    have hz := hbr.size
    have HCK := Lib.hid hck
    clear hck
    by_cases hlt : k < L.length
    · obtain ⟨x, hx⟩ : ∃ x, L[k]? = some x := ⟨_, List.getElem?_eq_getElem hlt⟩
      rcases HU.out.below hbr with ⟨_, hnil⟩ | ⟨g, cp, hv, _, hr⟩
      · subst hnil; simp at hlt
      · injection hv with hv1 hv2 hv3
        subst hv1 hv3
        clear hv2
        obtain ⟨c0, c1, c2⟩ := hr.1 k x hx
        have hgl := hr.2
        have HX := Lib.hid hx
        have hrc := fun W => refcheck_any l x.1 x.2.1 x.2.2 W
        have kx := Blk.newAt wr 48 #[.int .i64 x.1, .int .i64 x.2.1, .int .i64 x.2.2] _ rfl
        have hbx := hbr.alloc hz (.cells #[.int .i64 x.1, .int .i64 x.2.1, .int .i64 x.2.2] 48)
        have hownx := hown.alloc (.cells #[.int .i64 x.1, .int .i64 x.2.1, .int .i64 x.2.2] 48)
        clear hx hr hown hbr
        by_cases hc : chkV l x.1 x.2.1 x.2.2 = 0
        · rw [hc] at hrc
          obtain ⟨hl3, hh0, hh1, hgx⟩ := chk_fine hc
          go_wp2_with fail
          refine (hrc _).mono ?_
          rintro e w1 ⟨rfl, hb1⟩
          have kx1 := kx.under hb1
          have hbx1 := Ba.below_call hb1 hbx hbx.size
          have hown1 := Ba.own_below hownx hb1
          have hz1' := hbx1.size
          clear hb1 kx hbx hownx hrc
          obtain ⟨d0, d1, d2⟩ := keepB kx1 (Below.refl _ _)
          have hdl := kx1.lt
          by_cases ho1 : o < 0
          · have e1 : tnM l o x = (4, zC) := by unfold tnM; rw [if_neg (by simp [hc]), if_pos (.inl ho1)]
            have HOut := Lib.hid (mv_some (f := tnM l o) HX.out HCK.out (by rw [e1]; decide))
            rw [e1] at HOut
            clear e1 hc hl3 hh0 hh1 hgx
            (go_wp2_with fail; exact bodyPost_ret (v := .tuple #[.slice none 0 0, .int .i64 4, .int .i64 k]) (by simp [results, Tryz.results11, go_sem]) rfl ⟨_, by rw [HOut.out], by rw [HOut.out]; exact .inl ⟨rfl, rfl⟩, by go_grown⟩)
          · by_cases ho2 : 11 < o
            · have e1 : tnM l o x = (4, zC) := by unfold tnM; rw [if_neg (by simp [hc]), if_pos (.inr ho2)]
              have HOut := Lib.hid (mv_some (f := tnM l o) HX.out HCK.out (by rw [e1]; decide))
              rw [e1] at HOut
              clear e1 hc hl3 hh0 hh1 hgx
              (go_wp2_with fail; exact bodyPost_ret (v := .tuple #[.slice none 0 0, .int .i64 4, .int .i64 k]) (by simp [results, Tryz.results11, go_sem]) rfl ⟨_, by rw [HOut.out], by rw [HOut.out]; exact .inl ⟨rfl, rfl⟩, by go_grown⟩)
            · have hon := fun W => refOn_any l o x.1 x.2.1 x.2.2 W hl3 (by omega) (by omega) hgx hh0 hh1
              have e0 : tnM l o x = if goodB (onC l o x).1 (onC l o x).2.1 = true then (0, onC l o x) else (6, zC) := by unfold tnM; rw [if_neg (by simp [hc]), if_neg (by omega)]
              change ∀ W, Calls Tryz.prog 30 #[.int .i64 l, .int .i64 o, Ce x] W (fun e w' => e = .returned (Ce (onC l o x)) ∧ Below W.heap.size W w') at hon
              have E0 := Lib.hid e0
              clear e0 hc hl3 hh0 hh1 hgx
              generalize onC l o x = y at *
              go_wp2_with fail
              refine (hon _).mono ?_
              rintro e w2 ⟨rfl, hb2⟩
              have hbx2 := Ba.below_call hb2 hbx1 hbx1.size
              have hown2 := Ba.own_below hown1 hb2
              have hz2' := hbx2.size
              clear hb2 hon kx1 d0 d1 d2 hdl hbx1 hown1
              cases g3 : goodB y.1 y.2.1
              · have HOut := Lib.hid (mv_some (f := tnM l o) HX.out HCK.out (by rw [E0.out, if_neg (by simp [g3])]; decide))
                rw [E0.out, if_neg (by simp [g3])] at HOut
                have HG := Lib.hid g3
                clear g3
                go_wp2_with fail
                refine (refgood_any y.1 y.2.1 _).mono ?_
                rintro e w' ⟨rfl, rfl⟩
                rw [HG.out]
                clear HG
                (go_wp2_with fail; exact bodyPost_ret (v := .tuple #[.slice none 0 0, .int .i64 6, .int .i64 k]) (by simp [results, Tryz.results11, go_sem]) rfl ⟨_, by rw [HOut.out], by rw [HOut.out]; exact .inl ⟨rfl, rfl⟩, by go_grown⟩)
              · have e1 : tnM l o x = (0, y) := by rw [E0.out, if_pos g3]
                have HN := Lib.hid (mv_next (f := tnM l o) HX.out HCK.out (by rw [e1]))
                have HT := Lib.hid (show (L.take (k + 1)).map (fun c => (tnM l o c).2) = (L.take k).map (fun c => (tnM l o c).2) ++ [y] by rw [List.take_add_one, HX.out]; simp [e1])
                have HG := Lib.hid g3
                clear g3 e1 E0
                go_wp2_with fail
                refine (refgood_any y.1 y.2.1 _).mono ?_
                rintro e w' ⟨rfl, rfl⟩
                rw [HG.out]
                clear HG
                have hown3 := (hown2.alloc (.cells #[.int .i64 y.1, .int .i64 y.2.1, .int .i64 y.2.2] 48)).alloc (.cells #[.int .i64 y.1, .int .i64 y.2.1, .int .i64 y.2.2] 48)
                have hnew := news1 (w2.alloc (.cells #[.int .i64 y.1, .int .i64 y.2.1, .int .i64 y.2.2] 48)) 48 y
                have hsz1 : (w2.alloc (.cells #[.int .i64 y.1, .int .i64 y.2.1, .int .i64 y.2.2] 48)).heap.size = w2.heap.size + 1 := by simp
                rw [hsz1] at hnew
                go_wp2_with (at_builtin; refine wpList_append_own _ rfl _ _ 22 rfl w.heap.size 48 i0 _ 3 24 Tryz.underlying22 hi0 hz0 hz1 hz2 rfl (by decide) _ _ _ rfl hown3 ⟨w2.heap.size + 1, 0, none⟩ 1 1 (flat [y]) rfl (by simp [flat_len]) hnew (one_flat [y]) (by unfold maxLen; omega) (by omega) (by simp; omega) ?_)
                intro v' w' hown' hgr2 _
                have hb2 := (hbx2.alloc hz2' (.cells #[.int .i64 y.1, .int .i64 y.2.1, .int .i64 y.2.2] 48))
                have hb' : Below w.heap.size w w' := (hb2.alloc (by simp; omega) _).grown hgr2 (by simp; omega) (fun q hq => by have := (hown3.lt q hq).1; omega)
                go_wp2_with fail
                go_roundw
                case rel => exact ⟨k + 1, by omega, by go_num, HN.out, by rw [HT.out, flat_app, List.map_take]; exact hown', hb'⟩
                case measure => simp [intOf]; omega
        · have e1 : tnM l o x = (chkV l x.1 x.2.1 x.2.2, zC) := by unfold tnM; rw [if_pos hc]
          have HOut := Lib.hid (mv_some (f := tnM l o) HX.out HCK.out (by rw [e1]; exact hc))
          rw [e1] at HOut
          generalize chkV l x.1 x.2.1 x.2.2 = q at *
          have hq : (q != 0) = true := by simpa using hc
          clear e1 hc
          go_wp2_with fail
          refine (hrc _).mono ?_
          rintro e w1 ⟨rfl, hb1⟩
          have hbx1 := Ba.below_call hb1 hbx hbx.size
          clear hb1
          (go_wp2_with fail; exact bodyPost_ret (v := .tuple #[.slice none 0 0, .int .i64 q, .int .i64 k]) (by simp [results, Tryz.results11, go_sem]) rfl ⟨_, by rw [HOut.out], by rw [HOut.out]; exact .inl ⟨rfl, rfl⟩, by go_grown⟩)
    · obtain rfl : k = L.length := by omega
      rw [List.take_length] at hown
      have HOut := Lib.hid (mv_none HCK.out)
      have hof := refof_any u9 (L.map fun c => (tnM l o c).2) wr (set_own (by simpa using hown)) (by simpa using hL)
      (go_wp2_with fail; refine hof.mono ?_; rintro e w3 ⟨v3, rfl, hs3, hb3⟩; go_wp2_with fail; exact bodyPost_ret (v := .tuple #[v3, .int .i64 0, .int .i64 (-1)]) (by simp [results, Tryz.results11, go_sem]) rfl ⟨_, by rw [HOut.out], by rw [HOut.out]; exact hs3, hbr.trans (hb3.mono hz)⟩)
end Go.Proofs.YtplldlfbcblncaaGreatDoor.Se
