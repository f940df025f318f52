/- The law's does: a join. -/
import Derived.Test.YtmibdbgoknbchaaDoorArQ4
import Derived.Deep.RegionHeld3
namespace Go.Proofs.YtmibdbgoknbchaaDoor.Ar
open Go.RowKit Go.Proofs.YtmibdbgoknbchaaDoor.Ba Go.Proofs.YtmibdbgoknbchaaDoor.Mp Go.Lib Go.Maps

abbrev U4 (f : Nat → Nat) : Array Value := #[.int .u32 (f 0), .int .u32 (f 1), .int .u32 (f 2), .int .u32 (f 3)]
theorem U4_get (f : Nat → Nat) (m : Nat) (h : m < 4) : (U4 f)[m]? = some (.int .u32 (f m)) := by
  obtain rfl | rfl | rfl | rfl : m = 0 ∨ m = 1 ∨ m = 2 ∨ m = 3 := by omega
  all_goals rfl
theorem U4_set (f : Nat → Nat) (m u : Nat) (h : m < 4) : (U4 f).setIfInBounds m (.int .u32 u) = U4 (fun q => if q = m then u else f q) := by
  obtain rfl | rfl | rfl | rfl : m = 0 ∨ m = 1 ∨ m = 2 ∨ m = 3 := by omega
  all_goals rfl
theorem blkU_set {w : World} {b m : Nat} {f : Nat → Nat} (h : Blk w b 59 (U4 f)) (u : Nat) (hm : m < 4) : Blk (w.setCell ⟨b, m, none⟩ (.int .u32 u)) b 59 (U4 (fun q => if q = m then u else f q)) := by
  have := h.set_ m (.int .u32 u)
  rwa [U4_set f m u hm] at this
def DjR (w1 : World) (f : Nat → Int) (N : List Nd) (t65 : Value) (wr : World) : Prop :=
  ∃ (m : Nat) (u : Nat → Nat), m ≤ 4 ∧ t65 = .int .i64 m ∧ (∀ i, i < m → u i = ownK N (f i)) ∧ Blk wr w1.heap.size 36 (V4 f) ∧ Blk wr (w1.heap.size + 1) 59 (U4 u) ∧ Below w1.heap.size w1 wr
theorem keepJn {W w' : World} {wd Y g gx l cx G n cap : Nat} {most : Int} {f : Nat → Int} (k : WdB W wd g gx l cx most G n cap) (y : Blk W Y 36 (V4 f)) (hb : Below W.heap.size W w') :
    w'.cell? ⟨wd, 0, none⟩ = some (Pt g) ∧ w'.cell? ⟨wd, 1, none⟩ = some (.slice (some ⟨gx, 0, none⟩) l cx) ∧ w'.cell? ⟨wd, 2, none⟩ = some (.int .i64 most) ∧ w'.cell? ⟨Y, 0, none⟩ = some (.int .i64 (f 0)) ∧ w'.cell? ⟨Y, 1, none⟩ = some (.int .i64 (f 1)) ∧ w'.cell? ⟨Y, 2, none⟩ = some (.int .i64 (f 2)) ∧ w'.cell? ⟨Y, 3, none⟩ = some (.int .i64 (f 3)) :=
  ⟨(k.under hb).cell 0, (k.under hb).cell 1, (k.under hb).cell 2, (y.under hb).cell 0, (y.under hb).cell 1, (y.under hb).cell 2, (y.under hb).cell 3⟩
theorem keepJa {W w' : World} {wd Y g gx l cx G n cap : Nat} {most : Int} {k4 : K4} (k : WdB W wd g gx l cx most G n cap) (y : Blk W Y 59 #[.int .u32 k4.1, .int .u32 k4.2.1, .int .u32 k4.2.2.1, .int .u32 k4.2.2.2]) (hb : Below W.heap.size W w') :
    w'.cell? ⟨wd, 0, none⟩ = some (Pt g) ∧ w'.cell? ⟨Y, 0, none⟩ = some (.int .u32 k4.1) ∧ w'.cell? ⟨Y, 1, none⟩ = some (.int .u32 k4.2.1) ∧ w'.cell? ⟨Y, 2, none⟩ = some (.int .u32 k4.2.2.1) ∧ w'.cell? ⟨Y, 3, none⟩ = some (.int .u32 k4.2.2.2) :=
  ⟨(k.under hb).cell 0, (y.under hb).cell 0, (y.under hb).cell 1, (y.under hb).cell 2, (y.under hb).cell 3⟩
/-- Behind the document's call. -/
def DcJ (w1 wr : World) (k4 : K4) (R : Nat × Option Nat × Sta) (most : Int) (t15 t16 t17 : Value) (wx : World) : Prop :=
  ∃ z gy cy, t15 = Pt z ∧ t16 = .int .i64 R.1 ∧ t17 = .int .i64 (codeE R.2.1) ∧ Blk wx z 29 #[.slice (some ⟨gy, 0, none⟩) (refL R.2.2.N).length cy, .int .i64 most] ∧ RAt wx gy cy (refL R.2.2.N) ∧ Blk wx (w1.heap.size + 1) 59 #[.int .u32 k4.1, .int .u32 k4.2.1, .int .u32 k4.2.2.1, .int .u32 k4.2.2.2] ∧ Below wr.heap.size wr wx ∧ wr.heap.size ≤ z
theorem ownK_u {N : List Nd} (hN : N.length ≤ 100000) (n : Int) : okU (ownK N n) := by
  show ownK N n < 4294967296
  unfold ownK
  split <;> omega
theorem refL_ok {N : List Nd} (h : Nok N) : ∀ x ∈ refL N, x.count ≤ 4611686018427387904 ∧ 2 ≤ x.level ∧ x.level ≤ 44 := by
  intro x hx
  unfold refL at hx
  simp only [List.mem_cons, List.mem_map] at hx
  rcases hx with rfl | ⟨d, hd, rfl⟩
  · exact ⟨by decide, by decide, by decide⟩
  · exact h d hd
set_option maxRecDepth 100000 in
set_option maxHeartbeats 1000000 in
theorem does_join (w0 : World) (wd g : Nat) (S : Sta) (c : Ac) (w : World) (hI : Inv w0.heap.size wd g S w) (hW : Wf S) (hK : Nok S.N) (hN : S.N.length ≤ 80000) (hbw : Below w0.heap.size w0 w) (hE : ErrIs w0) (hk2 : ∃ (a r : Nat), bits .and .i64 c.kind 255 = (a : Int) ∧ (a : Int).tmod 8 = (r : Int) ∧ 2 ≤ r ∧ r < 6) :
    Calls Tryd.prog 7 #[Pt wd, AcV c] w fun e w' => e = .returned (.bool true) ∧ ∃ R, Step1 S R ∧ Inv w0.heap.size wd g R.2.2 w' ∧ Below w0.heap.size w0 w' := by
  have HI := Lib.hid hI
  obtain ⟨P0, gx, cx, G, cap, hA, hP0, hw, hx, ho, hd, hd2⟩ := hI
  have hln := refL_len S.N
  obtain ⟨a, r, ha, hr8, hr2, hr6⟩ := hk2
  have hrlt : ¬ (r : Int) < 2 := by omega
  have hrlt2 : decide ((r : Int) < 2) = false := by simpa using hrlt
  have hrlt6 : (r : Int) < 6 := by omega
  have b0 := Blk.newAt w 38 (AcC c) _ rfl
  have hb0 : Below w.heap.size w (w.alloc (.cells (AcC c) 38)) := (Below.refl _ _).alloc (Nat.le_refl _) _
  have k0 := hw.under hb0
  have a0 := b0.cell 0
  have a2 := b0.cell 2
  have a3 := b0.cell 3
  have a4 := b0.cell 4
  have a5 := b0.cell 5
  simp only [List.getElem?_toArray, List.getElem?_cons_zero, List.getElem?_cons_succ] at a0 a2 a3 a4 a5
  have lz := b0.lt
  have hkid := kids4_any wd g gx cx (refL S.N) (64 + S.more) _ c.k _ k0 (hx.below hb0) (by omega) (by omega)
  clear hA
  go_enter Tryd.func7, Tryd.ntmps7
  go_wp2_with fail
  refine hkid.mono ?_
  rintro e w1 ⟨f, rfl, hb1⟩
  have hbb1 := hb0.trans (hb1.mono hb0.size)
  have k1 := hw.under hbb1
  have x1 := hx.below hbb1
  have o1 := own_below ho hbb1
  have hs1 := hbb1.size
  have hne1 : wd ≠ w1.heap.size + 1 := by have := hw.lt; omega
  have hGl1 := own_lt0 ho G rfl
  have hne2 : G ≠ w1.heap.size + 1 := by omega
  clear hkid k0 b0 a0 a2 a3 a4 a5 lz hb1 hb0 hw hx ho
  go_wp2_with fail
  go_loopw [65] (fun t65 wr => DjR w1 f S.N t65 wr) (fun t65 _ => 4 - (intOf t65).toNat)
  case atStart =>
    refine ⟨0, fun _ => 0, by omega, rfl, fun i hi => absurd hi (by omega), ?_, ?_, by go_grown⟩
    · exact (Blk.newAt w1 _ _ _ rfl).alloc _
    · exact Blk.newAt (w1.alloc (.cells (V4 f) 36)) _ _ _ (by simp)
  case round =>
    obtain ⟨m, u, hm, rfl, hu, y1, y2, hb⟩ := hrel
    have k2 := k1.under hb
    have z3 := k2.cell 3
    simp only [List.getElem?_toArray, List.getElem?_cons_zero, List.getElem?_cons_succ] at z3
    have lw := k2.lt
    have ly2 := y2.lt
    have o2 := own_below o1 hb
    by_cases hlt : m < 4
    · have hix := ix4 f m hlt
      have c2 := (y2.cell m).trans (U4_get u m hlt)
      have f2 := y2.frozen m
      have HU := Lib.hid hu
      have HY1 := Lib.hid y1
      have HY2 := Lib.hid y2
      clear hu k2 y1 y2
      by_cases h0 : 0 ≤ f m
      · by_cases hhi : f m < ((S.N.length + 1 : Nat) : Int)
        · have hok : ownK S.N (f m) = (f m).toNat := ownK_in ⟨h0, hhi⟩
          obtain ⟨x, hx⟩ := Int.eq_ofNat_of_zero_le h0
          have hok2 : ownK S.N (f m) = x := by rw [hok, hx]; rfl
          have e1 := o2.cellAt x (by omega)
          rw [ats_get (show x < S.N.length + 1 by omega)] at e1
          have lg := own_lt0 o2 G rfl
          have HO := Lib.hid hok2
          rw [hx] at hix h0 hhi
          clear o2 hok hok2 hx
          go_wp2_with fail
          refine ⟨⟨m + 1, _, by omega, by go_num, fun i hi => ?_, (HY1.out.far (by dsimp only; omega) _).far (by dsimp only; omega) _, blkU_set (blkU_set HY2.out 2147483648 hlt) x hlt, (hb.setCell (by dsimp only; omega) _).setCell (by dsimp only; omega) _⟩, by simp [intOf]; omega⟩
          by_cases e : i = m
          · subst e; simp [HO.out]
          · simp [e]; exact HU.out i (by omega)
        · have HO := Lib.hid (show ownK S.N (f m) = 2147483648 by unfold ownK; rw [if_neg]; omega)
          have hd1 : decide (f m < ((S.N.length + 1 : Nat) : Int)) = false := by simpa using hhi
          clear o2
          go_wp2_with fail
          refine ⟨⟨m + 1, _, by omega, by go_num, fun i hi => ?_, HY1.out.far (by dsimp only; omega) _, blkU_set HY2.out 2147483648 hlt, hb.setCell (by dsimp only; omega) _⟩, by simp [intOf]; omega⟩
          by_cases e : i = m
          · subst e; simp [HO.out]
          · simp [e]; exact HU.out i (by omega)
      · have HO := Lib.hid (show ownK S.N (f m) = 2147483648 by unfold ownK; rw [if_neg]; omega)
        have hd1 : decide (0 ≤ f m) = false := by simpa using h0
        clear o2
        go_wp2_with fail
        refine ⟨⟨m + 1, _, by omega, by go_num, fun i hi => ?_, HY1.out.far (by dsimp only; omega) _, blkU_set HY2.out 2147483648 hlt, hb.setCell (by dsimp only; omega) _⟩, by simp [intOf]; omega⟩
        by_cases e : i = m
        · subst e; simp [HO.out]
        · simp [e]; exact HU.out i (by omega)
    · obtain rfl : m = 4 := by omega
      obtain ⟨k4, hk4⟩ : ∃ k4 : K4, k4 = (ownK S.N (f 0), ownK S.N (f 1), ownK S.N (f 2), ownK S.N (f 3)) := ⟨_, rfl⟩
      have y3 : Blk wr (w1.heap.size + 1) 59 #[.int .u32 k4.1, .int .u32 k4.2.1, .int .u32 k4.2.2.1, .int .u32 k4.2.2.2] := by
        rw [hk4]
        have := y2
        simp only [U4, hu 0 (by omega), hu 1 (by omega), hu 2 (by omega), hu 3 (by omega)] at this
        exact this
      have hok4 : ok4 k4 := by rw [hk4]; exact ⟨ownK_u (by omega) _, ownK_u (by omega) _, ownK_u (by omega) _, ownK_u (by omega) _⟩
      have hrel := join_rel hW hK (by omega) (f 0) (f 1) (f 2) (f 3)
      have hS := join_step1 hW hK k4
      rw [← hk4] at hrel
      have hjo := fun P W hA hP => join_any g k4 S P W hA hok4 hP (by omega)
      obtain ⟨R, hR⟩ : ∃ R, joinR S k4 = R := ⟨_, rfl⟩
      have hxr := x1.below hb
      have href := fun W hW => refjoin_any gx cx (refL S.N) (64 + S.more) (f 0) (f 1) (f 2) (f 3) W hW (by omega) (by omega) (refL_ok hK)
      rw [hrel, hR] at href
      rw [hR] at hS
      simp only [hR] at hjo
      unfold AV at href
      dsimp only at href
      have HS := Lib.hid hS
      have ly1 := y1.lt
      clear hln hk4 hrel hS hR hu y2 o2 z3 hne2 x1 o1 k1 hW hK hP0
      go_upto_region 16 with fail
      have hkb : Below wr.heap.size wr wr := Below.refl _ _
      go_cut [15, 16, 17] (fun t15 t16 t17 wx => DcJ w1 wr k4 R (64 + S.more) t15 t16 t17 wx)
      case first =>
        go_region_held3 (fun w' => w'.cell? ⟨wd, 0, none⟩ = some (Pt g) ∧ w'.cell? ⟨wd, 1, none⟩ = some (.slice (some ⟨gx, 0, none⟩) (refL S.N).length cx) ∧ w'.cell? ⟨wd, 2, none⟩ = some (.int .i64 (64 + S.more)) ∧ w'.cell? ⟨w1.heap.size, 0, none⟩ = some (.int .i64 (f 0)) ∧ w'.cell? ⟨w1.heap.size, 1, none⟩ = some (.int .i64 (f 1)) ∧ w'.cell? ⟨w1.heap.size, 2, none⟩ = some (.int .i64 (f 2)) ∧ w'.cell? ⟨w1.heap.size, 3, none⟩ = some (.int .i64 (f 3))) (first | (refine keepJn k2 y1 ?_; go_grown; done) | exact keepJn k2 y1 (hkb.alloc hkb.size _) | exact keepJn k2 y1 ((hkb.alloc hkb.size _).setCell (by dsimp only; omega) _) | exact keepJn k2 y1 (((hkb.alloc hkb.size _).setCell (by dsimp only; omega) _).setCell (by dsimp only; omega) _))
          (first | (go_at_call 16; (with_reducible refine Calls.mono (href _ (hxr.below ?_)) ?_); (focus (go_grown; done)); rintro e w2 ⟨gy, cy, rfl, hra2, hb2⟩; have hkb : Below wr.heap.size wr w2 := below_call hb2 (by go_grown) (by first | exact Nat.le_refl _ | go_size); have hks := hkb.size; try (have kz : Blk w2 wr.heap.size 29 #[.slice none 0 0, .int .i64 0] := (by first | exact (hb2.block _ (by simp)).trans (heap_alloc_new wr _) | exact (hb2.block _ (by simp)).trans (heap_alloc_new wr.drew _)); have s0 := kz.cell 0; have s1 := kz.cell 1; have fs0 := kz.frozen 0; have fs1 := kz.frozen 1; simp only [List.getElem?_toArray, List.getElem?_cons_zero, List.getElem?_cons_succ] at s0 s1; have lz2 := kz.lt); clear hb2))
        all_goals go_wp2_with fail
        all_goals go_meet
        · exact ⟨_, gy, cy, rfl, rfl, rfl, Blk.newAt w2 _ _ _ rfl, hra2.below ((Below.refl _ _).alloc (Nat.le_refl _) _), (y3.under hkb).alloc _, hkb.alloc (by omega) _, by omega⟩
        · have hne : gy ≠ wr.heap.size := rat_ne_blk hra2 kz (by decide)
          exact ⟨_, gy, cy, rfl, rfl, rfl, (kz.set_ 0 _).set_ 1 _, RAt.set (RAt.set hra2 hne _) hne _, ((y3.under hkb).far (by dsimp only; omega) _).far (by dsimp only; omega) _, (hkb.setCell (by dsimp only; omega) _).setCell (by dsimp only; omega) _, by omega⟩
      case rest =>
        clear hkb k2 hxr y1 y3 href lw ly1
        obtain ⟨z, gy, cy, rfl, rfl, rfl, kz, hra, ka, hbc, hz⟩ := hcut
        have hbs := hb.size
        have hbwc : Below w.heap.size w wc := (hbb1.trans (hb.mono hbb1.size)).trans (hbc.mono (by omega))
        obtain ⟨P, gx2, cx2, G2, cap2, hM⟩ := inv_mid HI.out hbwc hra
        have hl := hjo P wc.drew (hM.1.under (below_dr 1 (Below.refl _ _))) hM.2.1
        have hl' : Calls Tryd.prog 17 #[Pt g, .agg #[.int .u32 k4.1, .int .u32 k4.2.1, .int .u32 k4.2.2.1, .int .u32 k4.2.2.2]] wc.drew _ := hl
        have kw := hM.2.2.2.1
        have lz := ka.lt
        have lw := kw.lt
        have hbb := hbw.trans (hbwc.mono hbw.size)
        clear hl hjo
        go_upto_region 17 with fail
        go_region_held3 (fun w' => w'.cell? ⟨wd, 0, none⟩ = some (Pt g) ∧ w'.cell? ⟨w1.heap.size + 1, 0, none⟩ = some (.int .u32 k4.1) ∧ w'.cell? ⟨w1.heap.size + 1, 1, none⟩ = some (.int .u32 k4.2.1) ∧ w'.cell? ⟨w1.heap.size + 1, 2, none⟩ = some (.int .u32 k4.2.2.1) ∧ w'.cell? ⟨w1.heap.size + 1, 3, none⟩ = some (.int .u32 k4.2.2.2)) (first | (refine keepJa kw ka ?_; go_grown; done) | exact ⟨kw3.cell 0, ka3.cell 0, ka3.cell 1, ka3.cell 2, ka3.cell 3⟩)
          (first | (go_at_call 17; (with_reducible refine hl'.mono ?_); rintro e w3 ⟨rfl, hA3, ho3'⟩; have ho3 : Off P wc w3 := (Off.of_below (below_dr 1 (Below.refl _ _))).trans ho3'; have kw3 := ho3.blk kw (fun hp => (hM.2.2.1 _ hp lw).2.2.1 rfl); have ka3 := ho3.blk ka (fun hp => by have := (hM.2.2.1 _ hp lz).1; omega); have kz3 := ho3.blk kz (fun hp => by have := (hM.2.2.1 _ hp kz.lt).1; omega); have s0 := kz3.cell 0; have s1 := kz3.cell 1; simp only [List.getElem?_toArray, List.getElem?_cons_zero, List.getElem?_cons_succ] at s0 s1; have lz3 := kz3.lt))
        all_goals go_wp2_with fail
        all_goals refine (tail_any HS.out (by omega) hM hd hd2 hA3 ho3 hbb hE).mono ?_
        all_goals rintro e w4 ⟨rfl, hI4, hb4⟩
        all_goals go_wp2
        all_goals exact bodyPost_ret (v := .bool true) (by simp [results, Tryd.results7, go_sem]) rfl ⟨rfl, R, HS.out, hI4, hb4⟩
end Go.Proofs.YtmibdbgoknbchaaDoor.Ar
