/- The law's fits. -/
import Derived.Test.YtmibdbgoknbchaaDoorArQ1
namespace Go.Proofs.YtmibdbgoknbchaaDoor.Ar
open Go.RowKit Go.Proofs.YtmibdbgoknbchaaDoor.Ba Go.Proofs.YtmibdbgoknbchaaDoor.Mp Go.Lib Go.Maps

theorem codeOf_errV (c : Option Nat) (w : World) (hE : ErrIs w) :
    Calls Tryd.prog 19 #[errV c] w fun e w' => e = .returned (.int .i64 (codeE c)) ∧ Below w.heap.size w w' := by
  cases c with
  | none => exact codeOf_nil w
  | some c => exact codeOf_er (c : Int) w hE
theorem u32_info : (Tryd.prog.info? 31).map (fun i => (i.zero, i.size, i.bytes)) = some (some (.int .u32 0), 1, 4) := by kernel_rfl
theorem own_some {w : World} {base n size cap : Nat} {e : TypeId} {p : Option Addr} {xs : List Value} (h : w.ownsRow base e size (.slice p (n + 1) cap) (n + 1) xs) : ∃ G, p = some ⟨G, 0, none⟩ ∧ G < w.heap.size := by
  have hl := own_lt0 h
  rcases h.2 with ⟨_, h0⟩ | ⟨G, c, cur, hv, _⟩
  · omega
  · injection hv with hv1 hv2 hv3
    subst hv1
    exact ⟨G, rfl, hl G rfl⟩
def lenOf : Option Value → Nat
  | some (.slice _ n _) => n
  | _ => 0
abbrev WdB (wr : World) (wd g gx l0 cx : Nat) (most0 : Int) (G n cap : Nat) : Prop := Blk wr wd 34 #[Pt g, .slice (some ⟨gx, 0, none⟩) l0 cx, .int .i64 most0, .slice (some ⟨G, 0, none⟩) n cap]
def FtR (w : World) (B wd g gx l0 cx : Nat) (most0 : Int) (G0 n gy cy : Nat) (L : List RN) (most : Int) (wr : World) : Prop :=
  ∃ (G cap : Nat) (xs : List Value), (xs = ats (n + 1) ∨ (xs = ats (n + 1) ++ [.int .u32 4294967295] ∧ L.length = n + 2)) ∧ WdB wr wd g gx l0 cx most0 G xs.length cap ∧ wr.ownsRow B 31 1 (.slice (some ⟨G, 0, none⟩) xs.length cap) xs.length xs ∧
    Blk wr w.heap.size 29 #[.slice (some ⟨gy, 0, none⟩) L.length cy, .int .i64 most] ∧ RAt wr gy cy L ∧ (G = G0 ∨ w.heap.size ≤ G) ∧ Off (fun b => b = wd ∨ b = G0) w wr
/-- What fits leaves. -/
def FtE (w : World) (B wd g : Nat) (G0 gy cy : Nat) (L : List RN) (most : Int) (w' : World) : Prop :=
  ∃ G cap, WdB w' wd g gy L.length cy most G L.length cap ∧ w'.ownsRow B 31 1 (.slice (some ⟨G, 0, none⟩) L.length cap) L.length (ats L.length) ∧ RAt w' gy cy L ∧ (G = G0 ∨ w.heap.size ≤ G) ∧ Off (fun b => b = wd ∨ b = G0) w w'
theorem wd_ne {wr : World} {wd g gx l0 cx G n cap : Nat} {most0 : Int} {gy cy : Nat} {L : List RN} (h : WdB wr wd g gx l0 cx most0 G n cap) (hr : RAt wr gy cy L) (h1 : 0 < L.length) : gy ≠ wd := by
  intro e
  subst e
  have h1 := hr.2.1 0 (.int .i64 (L[0]'h1).level) (by
    have := flatR_get L 0 (L[0]'h1) (List.getElem?_eq_getElem h1) 0 (by decide)
    simpa [encR] using this)
  rw [h.cell 0] at h1
  cases h1
theorem rat_ne_own2 {w : World} {gy cy B G n cap : Nat} {L : List RN} {xs : List Value} (hr : RAt w gy cy L) (ho : w.ownsRow B 31 1 (.slice (some ⟨G, 0, none⟩) n cap) n xs) : gy ≠ G := by
  intro e
  subst e
  obtain ⟨cs, fr, hty⟩ := hr.1.2
  rcases ho.2 with ⟨hv, _⟩ | ⟨G', cap', cur, hv, _, hg, _⟩
  · cases hv
  · injection hv with hv1 _ _
    simp only [Option.some.injEq, Addr.mk.injEq, and_true] at hv1
    subst hv1
    rw [hg] at hty
    simp at hty
theorem rat_same {w w' : World} {gy cy : Nat} {L : List RN} (h : RAt w gy cy L) (hk : w'.heap[gy]? = w.heap[gy]?) : RAt w' gy cy L := by
  obtain ⟨⟨r1, cs, fr, r2⟩, r3, r4⟩ := h
  refine ⟨⟨r1, cs, fr, hk.trans r2⟩, fun j u hu => (World.cell?_of_block (a := ⟨gy, j, none⟩) hk).trans (r3 j u hu), ?_⟩
  rcases Nat.lt_or_ge gy w'.heap.size with h' | h'
  · exact h'
  · rw [Array.getElem?_eq_none h'] at hk; rw [← hk] at r2; cases r2
theorem rat_grown {w w' : World} {gy cy : Nat} {L : List RN} {row : Option Nat} (h : RAt w gy cy L) (hg : w.grownBy w' row) (hn : some gy ≠ row) : RAt w' gy cy L := rat_same h (hg.block gy h.2.2 hn)
set_option maxRecDepth 100000 in
set_option maxHeartbeats 1000000 in
theorem fits_bad (B wd g gx l0 cx : Nat) (most0 : Int) (G0 n cap0 gy cy : Nat) (L : List RN) (most : Int) (k : Nat) (w : World) (hE : ErrIs w) (hk : WdB w wd g gx l0 cx most0 G0 (n + 1) cap0) (ho : w.ownsRow B 31 1 (.slice (some ⟨G0, 0, none⟩) (n + 1) cap0) (n + 1) (ats (n + 1)))
    (hr : RAt w gy cy L) (hL : L.length ≤ 100000) (hlen : L.length = n + 1) (hk0 : k ≠ 0) :
    Calls Tryd.prog 14 #[Pt wd, AV gy cy L most, .int .i64 0, .int .i64 k, .int .u32 0, errV (some k)] w fun e w' => e = .returned (.bool true) ∧ FtE w B wd g G0 gy cy L most w' := by
  have hc := fun W hW => codeOf_errV (some k) W hW
  unfold errV codeE at hc
  dsimp only at hc
  have hwd := hk.lt
  have hgy := hr.2.2
  have hn1 := wd_ne hk hr (by omega)
  have HLen := Lib.hid hlen
  clear hlen
  have hkb : ((k : Int) != 0) = true := by simp; omega
  have hkb2 : ((k : Int) == 0) = false := by simp; omega
  have b0 := Blk.newAt w 29 #[.slice (some ⟨gy, 0, none⟩) L.length cy, .int .i64 most] _ rfl
  have hb0 : Below w.heap.size w (w.alloc (.cells #[.slice (some ⟨gy, 0, none⟩) L.length cy, .int .i64 most] 29)) := (Below.refl _ _).alloc (Nat.le_refl _) _
  unfold errV AV
  go_enter Tryd.func14, Tryd.ntmps14
  go_wp2_with fail
  refine (hc _ (hE.below hb0)).mono ?_
  rintro e w1 ⟨rfl, hb1⟩
  have hbw := hb0.trans (hb1.mono hb0.size)
  have c0 := b0.under hb1
  have k1 := hk.under hbw
  have HR := Lib.hid (hr.below hbw)
  have HO := Lib.hid (own_below ho hbw)
  clear b0 hb0 hb1 hc hk hr ho
  go_wp2_with fail
  go_loopw [] (fun wr => wr = w1) (fun wr => L.length - lenOf (wr.cell? ⟨wd, 3, none⟩))
  case atStart => rfl
  case round =>
    subst hrel
    have z0 := c0.cell 0
    have z1 := c0.cell 1
    have y1 := k1.cell 1
    have y2 := k1.cell 2
    have y3 := k1.cell 3
    have fy1 := k1.frozen 1
    have fy2 := k1.frozen 2
    simp only [List.getElem?_toArray, List.getElem?_cons_zero, List.getElem?_cons_succ] at z0 z1 y1 y2 y3
    have lz := c0.lt
    have ly := k1.lt
    have hlt : ¬ ((n + 1 : Nat) : Int) < (L.length : Int) := by have := HLen.out; omega
    have hlt2 : decide (((n + 1 : Nat) : Int) < (L.length : Int)) = false := by simpa using hlt
    go_upto_region 3 with fail
    go_quiet (fail)
    go_wp2
    refine bodyPost_ret (v := .bool true) (by simp [results, Tryd.results14, go_sem]) rfl ⟨rfl, G0, cap0, ?_, ?_, ?_, .inl rfl, ?_⟩
    · rw [HLen.out]
      exact ((k1.drewN _).set_ 1 _).set_ 2 _
    · rw [HLen.out]
      have hGw : some wd ≠ (Value.slice (some ⟨G0, 0, none⟩) (n + 1) cap0).ownBlock := own_blk_ne HO.out k1 (by decide)
      exact ownsRow_setCell_other (ownsRow_setCell_other (own_below HO.out (below_dr _ (Below.refl _ _))) hGw.symm _) hGw.symm _
    · exact RAt.set (RAt.set (HR.out.below (below_dr _ (Below.refl _ _))) hn1 _) hn1 _
    · exact ((Off.of_below (below_dr _ hbw)).setCell (fun _ => .inl rfl) _).setCell (fun _ => .inl rfl) _
set_option maxRecDepth 100000 in
set_option maxHeartbeats 1000000 in
theorem fits_good (B wd g gx l0 cx : Nat) (most0 : Int) (G0 n cap0 gy cy : Nat) (L : List RN) (most : Int) (i : Nat) (w : World) (hE : ErrIs w) (hk : WdB w wd g gx l0 cx most0 G0 (n + 1) cap0) (ho : w.ownsRow B 31 1 (.slice (some ⟨G0, 0, none⟩) (n + 1) cap0) (n + 1) (ats (n + 1))) (hB : B ≤ w.heap.size)
    (hr : RAt w gy cy L) (hL : L.length ≤ 100000) (hlen : (L.length = n + 1 ∧ i < n + 1) ∨ (L.length = n + 2 ∧ i = n + 1)) (hg : gy ≠ G0) :
    Calls Tryd.prog 14 #[Pt wd, AV gy cy L most, .int .i64 i, .int .i64 0, .int .u32 i, errV none] w fun e w' => e = .returned (.bool true) ∧ FtE w B wd g G0 gy cy L most w' := by
  obtain ⟨i0, hi0, hz0, hz1, hz2⟩ := info_parts u32_info
  have hc := fun W hW => codeOf_errV none W hW
  unfold errV codeE at hc
  dsimp only at hc
  have hwd := hk.lt
  have hgy := hr.2.2
  have hn1 := wd_ne hk hr (by omega)
  have b0 := Blk.newAt w 29 #[.slice (some ⟨gy, 0, none⟩) L.length cy, .int .i64 most] _ rfl
  have hb0 : Below w.heap.size w (w.alloc (.cells #[.slice (some ⟨gy, 0, none⟩) L.length cy, .int .i64 most] 29)) := (Below.refl _ _).alloc (Nat.le_refl _) _
  unfold errV AV
  go_enter Tryd.func14, Tryd.ntmps14
  go_wp2_with fail
  refine (hc _ (hE.below hb0)).mono ?_
  rintro e w1 ⟨rfl, hb1⟩
  have hbw := hb0.trans (hb1.mono hb0.size)
  have hF : FtR w B wd g gx l0 cx most0 G0 n gy cy L most w1 := ⟨G0, cap0, ats (n + 1), .inl rfl, by rw [ats_len]; exact hk.under hbw, by rw [ats_len]; exact own_below ho hbw, b0.under hb1, hr.below hbw, .inl rfl, Off.of_below hbw⟩
  clear b0 hb0 hb1 hc hk hr ho hbw
  go_wp2_with fail
  go_loopw [] (fun wr => FtR w B wd g gx l0 cx most0 G0 n gy cy L most wr) (fun wr => L.length - lenOf (wr.cell? ⟨wd, 3, none⟩))
  case atStart => exact hF
  case round =>
    clear hF
    obtain ⟨G, cap, xs, hxs, k1, hown, c0, hra, hG, hoff⟩ := hrel
    have z0 := c0.cell 0
    have z1 := c0.cell 1
    have y1 := k1.cell 1
    have y2 := k1.cell 2
    have y3 := k1.cell 3
    have fy1 := k1.frozen 1
    have fy2 := k1.frozen 2
    have fy3 := k1.frozen 3
    simp only [List.getElem?_toArray, List.getElem?_cons_zero, List.getElem?_cons_succ] at z0 z1 y1 y2 y3
    have lz := c0.lt
    have ly := k1.lt
    have hGw : some wd ≠ (Value.slice (some ⟨G, 0, none⟩) xs.length cap).ownBlock := own_blk_ne hown k1 (by decide)
    have hGz : some w.heap.size ≠ (Value.slice (some ⟨G, 0, none⟩) xs.length cap).ownBlock := own_blk_ne hown c0 (by decide)
    have hsz := hoff.size
    by_cases hlt : xs.length < L.length
    · have hxa : xs = ats (n + 1) := by
        rcases hxs with h | ⟨h, h2⟩
        · exact h
        · rw [h] at hlt; simp [ats_len] at hlt; omega
      have hL2 : L.length = n + 2 := by rw [hxa, ats_len] at hlt; omega
      subst hxa
      simp only [ats_len] at k1 hown hlt y3 hGw hGz
      have hlt3 : (n : Int) + 1 < (L.length : Int) := by omega
      have hlt2 : decide ((n : Int) + 1 < (L.length : Int)) = true := by simpa using hlt3
      have HK := Lib.hid k1
      have HC := Lib.hid c0
      have HR := Lib.hid hra
      have HO := Lib.hid hoff
      have HL2 := Lib.hid hL2
      have hGlt := own_lt0 hown G rfl
      clear hxs k1 c0 hra hoff hL2 hlen
      go_upto_region 3 with fail
      go_quiet (fail)
      have hownA := (own_below hown (below_dr nq (Below.refl _ _))).alloc (.cells #[.int .u32 4294967295] 31)
      have hnew : ∀ j u, ([.int .u32 4294967295] : List Value)[j]? = some u → ((wr.drewN nq).alloc (.cells #[.int .u32 4294967295] 31)).cell? ((⟨(wr.drewN nq).heap.size, 0, none⟩ : Addr).add j) = some u := fun j u hu => by
        rw [Addr.add_lit, Nat.zero_add, (Blk.newAt (wr.drewN nq) _ _ _ rfl).cell j]
        simpa using hu
      go_wp2_with (at_builtin; refine wpList_append_own_at _ rfl _ _ 32 rfl B 31 i0 _ 1 4 Tryd.underlying32 hi0 hz0 hz1 hz2 rfl (by decide) _ _ _ rfl hownA ⟨(wr.drewN nq).heap.size, 0, none⟩ 1 1 [.int .u32 4294967295] rfl (by simp) hnew (by intro u hu; simp at hu; subst hu; rfl) (by unfold maxLen; omega) (by omega) (by simp; omega) ?_)
      intro v' w' hown' hgr _ hor
      have hbn : Below wr.heap.size wr ((wr.drewN nq).alloc (.cells #[.int .u32 4294967295] 31)) := (below_dr nq (Below.refl _ _)).alloc (Nat.le_refl _) _
      have hgs := hgr.size
      have hsz1 : ((wr.drewN nq).alloc (.cells #[.int .u32 4294967295] 31)).heap.size = wr.heap.size + 1 := by simp
      have k2 : WdB w' wd g gx l0 cx most0 G (n + 1) cap := Blk.grown (HK.out.under hbn) hgr hGw
      have c2 := Blk.grown (HC.out.under hbn) hgr hGz
      have hgG : gy ≠ G := rat_ne_own2 HR.out hown
      have r2 : RAt w' gy cy L := rat_grown (HR.out.below hbn) hgr (by simp [Value.ownBlock]; exact hgG)
      have o2 : Off (fun b => b = wd ∨ b = G0) w w' := ((HO.out.trans (Off.of_below hbn))).grown hgr (fun b hb hlt => by
        simp only [Value.ownBlock, Option.some.injEq] at hb
        subst hb
        rcases hG with h | h
        · exact .inr h
        · omega)
      have hor' : ∀ b, v'.ownBlock = some b → b = G0 ∨ w.heap.size ≤ b := fun b hb => by
        rcases hor with h | h
        · rw [h] at hb
          simp only [Value.ownBlock, Option.some.injEq] at hb
          subst hb
          exact hG
        · rw [h] at hb
          simp only [Option.some.injEq] at hb
          subst hb
          right
          omega
      obtain ⟨p', cap', rfl⟩ := own_slice hown'
      obtain ⟨G', rfl, hGl'⟩ := own_some hown'
      have hne' : some wd ≠ (Value.slice (some ⟨G', 0, none⟩) (n + 1 + 1) cap').ownBlock := own_blk_ne hown' k2 (by decide)
      have x3 := k2.frozen 3
      have q3 := k2.cell 3
      simp only [List.getElem?_toArray, List.getElem?_cons_zero, List.getElem?_cons_succ] at q3
      have l2 := k2.lt
      have hlx : (ats (n + 1) ++ [Value.int .u32 4294967295]).length = n + 1 + 1 := by simp [ats_len]
      clear hgr hor hbn hownA hnew z0 z1 y1 y2 fy1 fy2 fy3 hown hgs
      go_wp2
      refine ⟨⟨G', cap', _, .inr ⟨rfl, HL2.out⟩, ?_, ?_, c2.far (by dsimp only; omega) _, r2.set hn1 _, hor' G' rfl, o2.setCell (fun _ => .inl rfl) _⟩, ?_⟩
      · rw [hlx]
        exact k2.set_ 3 _
      · rw [hlx]
        exact ownsRow_setCell_other hown' hne'.symm _
      · rw [(show Blk (w'.setCell ⟨wd, 3, none⟩ (.slice (some ⟨G', 0, none⟩) (n + 1 + 1) cap')) wd _ _ from k2.set_ 3 _).cell 3, y3]
        show L.length - (n + 1 + 1) < L.length - (n + 1)
        have := HL2.out
        omega
    · have HK := Lib.hid k1
      have HR := Lib.hid hra
      have HO := Lib.hid hoff
      have hGlt := own_lt0 hown G rfl
      have hGn : G ≠ wd := fun e => hGw (by rw [e]; rfl)
      have hgG : gy ≠ G := rat_ne_own2 hra hown
      have hGP : G = G0 ∨ ¬ G < w.heap.size := by rcases hG with h | h <;> omega
      rcases hlen with ⟨hl1, hi1⟩ | ⟨hl1, hi1⟩
      · have hxa : xs = ats (n + 1) := by
          rcases hxs with h | ⟨h, h2⟩
          · exact h
          · omega
        subst hxa
        have e1 := hown.cellAt i (by rw [ats_len]; omega)
        rw [ats_get hi1] at e1
        have HW := Lib.hid hown
        have HL := Lib.hid hl1
        simp only [ats_len] at y3
        have hlt2 : ¬ (n : Int) + 1 < (L.length : Int) := by omega
        have hlt3 : decide ((n : Int) + 1 < (L.length : Int)) = false := by simpa using hlt2
        have hib : ((i : Int) == 4294967295) = false := by simp; omega
        have hii : (i : Int) < (n : Int) + 1 := by omega
        have hi0' : (0 : Int) ≤ (i : Int) := by omega
        clear hxs k1 c0 hra hoff hl1 hown hlt hi1
        go_upto_region 3 with fail
        go_quiet (fail)
        go_wp2
        refine bodyPost_ret (v := .bool true) (by simp [results, Tryd.results14, go_sem]) rfl ⟨rfl, G, cap, ?_, ?_, ?_, hG, ?_⟩
        · have := HK.out
          rw [ats_len, ← HL.out] at this
          exact ((this.drewN _).set_ 1 _).set_ 2 _
        · have := HW.out
          rw [ats_len, ← HL.out] at this hGw
          exact ownsRow_setCell_other (ownsRow_setCell_other (own_below this (below_dr _ (Below.refl _ _))) hGw.symm _) hGw.symm _
        · exact RAt.set (RAt.set (HR.out.below (below_dr _ (Below.refl _ _))) hn1 _) hn1 _
        · exact ((HO.out.trans (Off.of_below (below_dr _ (Below.refl _ _)))).setCell (fun _ => .inl rfl) _).setCell (fun _ => .inl rfl) _
      · have hxa : xs = ats (n + 1) ++ [.int .u32 4294967295] := by
          rcases hxs with h | ⟨h, h2⟩
          · rw [h, ats_len] at hlt; omega
          · exact h
        have hxl : xs.length = n + 2 := by rw [hxa]; simp [ats_len]
        obtain ⟨m, hm⟩ : ∃ m, m = n + 2 := ⟨_, rfl⟩
        rw [← hm] at hxl hl1
        have e1 := hown.cellAt i (by omega)
        rw [show xs[i]? = some (.int .u32 4294967295) by rw [hxa, List.getElem?_append_right (by rw [ats_len]; omega), ats_len, hi1]; simp] at e1
        have f1 := hown.frozenAt i
        have HW := Lib.hid hown
        have HL := Lib.hid hl1
        have HX := Lib.hid hxa
        have HXL := Lib.hid hxl
        rw [hxl] at y3
        have hlt2 : ¬ (m : Int) < (L.length : Int) := by omega
        have hlt3 : decide ((m : Int) < (L.length : Int)) = false := by simpa using hlt2
        have hii : (i : Int) < (m : Int) := by omega
        have hi0' : (0 : Int) ≤ (i : Int) := by omega
        have HI := Lib.hid hi1
        have HM := Lib.hid hm
        clear hxs k1 c0 hra hoff hl1 hown hlt hxa hxl hi1 hm
        obtain ⟨mx, hmx⟩ : ∃ mx : Int, mx = 4294967295 := ⟨_, rfl⟩
        rw [← hmx] at e1
        have hmb : (mx == 4294967295) = true := by simp [hmx]
        clear hmx
        go_upto_region 3 with fail
        go_quiet (fail)
        go_wp2
        have HI1 := HI.out
        have HW1 := HW.out
        have HK1 := HK.out
        rw [HXL.out] at HW1 HK1 hGw
        rw [HX.out] at HW1
        have hset : (ats (n + 1) ++ [Value.int .u32 4294967295]).set i (.int .u32 i) = ats L.length := by
          rw [HL.out, HM.out, ats_succ (n + 1), HI1, List.set_append_right _ _ (by rw [ats_len]; omega), ats_len]
          simp
        have hfar : some G ≠ some wd := fun e => hGn (by simpa using e)
        refine bodyPost_ret (v := .bool true) (by simp [results, Tryd.results14, go_sem]) rfl ⟨rfl, G, cap, ?_, ?_, ?_, hG, ?_⟩
        · rw [HL.out]
          exact (((HK1.drewN _).set_ 1 _).set_ 2 _).far (by dsimp only; omega) _
        · have h1 := ownsRow_setCell_other (ownsRow_setCell_other (a := ⟨wd, 1, none⟩) (own_below HW1 (below_dr nq (Below.refl _ _))) hGw.symm (.slice (some ⟨gy, 0, none⟩) L.length cy)) (a := ⟨wd, 2, none⟩) hGw.symm (.int .i64 most)
          have h2 := (h1.stored i (.int .u32 i)).1
          rw [hset] at h2
          rw [HL.out] at h2 ⊢
          exact h2
        · exact RAt.set (RAt.set (RAt.set (HR.out.below (below_dr _ (Below.refl _ _))) hn1 _) hn1 _) hgG _
        · refine (((HO.out.trans (Off.of_below (below_dr _ (Below.refl _ _)))).setCell (fun _ => .inl rfl) _).setCell (fun _ => .inl rfl) _).setCell (fun hlt => ?_) _
          rcases hG with h | h
          · exact .inr h
          · exact absurd hlt (by dsimp only; omega)
end Go.Proofs.YtmibdbgoknbchaaDoor.Ar
