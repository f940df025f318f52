/- FlatShift: any table that may be, any set near the origin, any number of at most four generations, any points within a million: shifted, it steps as it does where it is. No conditions. -/
import Derived.Test.YtggpleppoplkcaaDoorFlB
import Derived.Test.YtggpleppoplkcaaDoorTbW8
import Derived.Test.YtggpleppoplkcaaDoorAxR
namespace Go.Proofs.YtggpleppoplkcaaDoor.Fl
open Go.RowKit Go.Proofs.YtggpleppoplkcaaDoor.Ax Go.Lib
open Go.Proofs.YtggpleppoplkcaaDoor.Ba (Blk)
open Go.Proofs.YtggpleppoplkcaaDoor.Ce (sh)
open Go.Proofs.YtggpleppoplkcaaDoor.Se (SetAt RawAt Rising ofL rising_ofL few_any shift_any same_any open_cells)
open Go.Proofs.YtggpleppoplkcaaDoor.Tb (Tab wrongT some_fine open_raw)

/-- A list of cells stays, where two cells of a block of two are written. -/
theorem set_by {w : World} {B : Nat} {t : TypeId} {a b x y : Value} {v : Value} {S : List C} (h : SetAt w v S) (k : Blk w B t #[a, b]) : SetAt ((w.setCell ⟨B, 0, none⟩ x).setCell ⟨B, 1, none⟩ y) v S := by
  rcases h with h | ⟨g, cap, hv, hc, hrow, hlt⟩
  · exact .inl h
  · by_cases hg : g = B
    · subst hg
      cases S with
      | nil => exact .inr ⟨g, cap, hv, hc, fun i d hd => by simp at hd, by rw [World.setCell, World.setCell]; simpa using hlt⟩
      | cons c S =>
        have h2 := (hrow 0 c rfl).2.2
        rw [show (0 * 3 + 1 + 1) = 2 from rfl, k.cell 2] at h2
        simp at h2
    · have hb : ((w.setCell ⟨B, 0, none⟩ x).setCell ⟨B, 1, none⟩ y).heap[g]? = w.heap[g]? := (Below.heap_setCell _ _ _ _ hg).trans (Below.heap_setCell _ _ _ _ hg)
      refine .inr ⟨g, cap, hv, hc, fun i d hd => ?_, by rw [World.setCell, World.setCell]; simpa using hlt⟩
      obtain ⟨h1, h2, h3⟩ := hrow i d hd
      exact ⟨(World.cell?_of_block (a := ⟨g, i * 3, none⟩) hb).trans h1, (World.cell?_of_block (a := ⟨g, i * 3 + 1, none⟩) hb).trans h2, (World.cell?_of_block (a := ⟨g, i * 3 + 1 + 1, none⟩) hb).trans h3⟩
set_option maxRecDepth 100000 in
set_option maxHeartbeats 8000000 in
theorem flatShift_walk (xL : Int) (_w0 : (Lit.int .i64 xL).wf = true) (xB0 : Int) (w1 : (Lit.int .u64 xB0).wf = true) (xB1 : Int) (w2 : (Lit.int .u64 xB1).wf = true) (xS0 : Int) (w3 : (Lit.int .u64 xS0).wf = true) (xS1 : Int) (w4 : (Lit.int .u64 xS1).wf = true)
    (v : Value) (L : List C) (n : Int) (_wn : (Lit.int .i64 n).wf = true) (pA : Int) (_wA : (Lit.int .i64 pA).wf = true) (pB : Int) (_wB : (Lit.int .i64 pB).wf = true) (w : World) (hs : SixIs w) (h : RawAt w v L) (hL : L.length ≤ maxLen) :
    Calls Tryd.prog 5 #[.agg #[.int .i64 xL, .int .u64 xB0, .int .u64 xB1, .int .u64 xS0, .int .u64 xS1], v, .int .i64 n, Pt pA pB] w fun e w' => e = .returned (.bool true) ∧ Below w.heap.size w w' := by
  have g1 := bounds_u64 w1
  have g2 := bounds_u64 w2
  have g3 := bounds_u64 w3
  have g4 := bounds_u64 w4
  obtain ⟨a0, rfl⟩ : ∃ k : Nat, xB0 = k := ⟨xB0.toNat, by omega⟩
  obtain ⟨a1, rfl⟩ : ∃ k : Nat, xB1 = k := ⟨xB1.toNat, by omega⟩
  obtain ⟨a2, rfl⟩ : ∃ k : Nat, xS0 = k := ⟨xS0.toNat, by omega⟩
  obtain ⟨a3, rfl⟩ : ∃ k : Nat, xS1 = k := ⟨xS1.toNat, by omega⟩
  have hso := some_fine xL a0 a1 a2 a3 (by omega) (by omega) (by omega) (by omega)
  clear g1 g2 g3 g4 w1 w2 w3 w4 _w0 _wn _wA _wB
  have kx := (Blk.newAt w 25 #[.int .i64 xL, .int .u64 a0, .int .u64 a1, .int .u64 a2, .int .u64 a3] _ rfl).alloc (.cells #[.int .i64 pA, .int .i64 pB] 51)
  have kp := Blk.newAt (w.alloc (.cells #[.int .i64 xL, .int .u64 a0, .int .u64 a1, .int .u64 a2, .int .u64 a3] 25)) 51 #[.int .i64 pA, .int .i64 pB] (w.heap.size + 1) (by simp)
  have hb0 : Below w.heap.size w ((w.alloc (.cells #[.int .i64 xL, .int .u64 a0, .int .u64 a1, .int .u64 a2, .int .u64 a3] 25)).alloc (.cells #[.int .i64 pA, .int .i64 pB] 51)) := ((Below.refl _ _).alloc (Nat.le_refl _) _).alloc (by simp) _
  have hs0 := hs.below hb0
  have h0 := h.below hb0
  have HS := Lib.hid hs
  have hlt : w.heap.size ≤ w.heap.size + 1 := by omega
  clear hs h
  go_enter Tryd.func5, Tryd.ntmps5
  go_wp2_with fail
  refine (awake8_any _ hs0).mono ?_
  rintro e w1 ⟨rfl, hb1⟩
  have hb2 := hb0.trans (hb1.mono hb0.size)
  have hs1 := hs0.below hb1
  have h1 := h0.below hb1
  have kx1 := kx.under hb1
  have kp1 := kp.under hb1
  clear kx kp hb0 hs0 h0 hb1
  obtain ⟨x0, x1, x2, x3, x4⟩ : w1.cell? ⟨w.heap.size, 0, none⟩ = some (.int .i64 xL) ∧ w1.cell? ⟨w.heap.size, 1, none⟩ = some (.int .u64 a0) ∧ w1.cell? ⟨w.heap.size, 2, none⟩ = some (.int .u64 a1) ∧ w1.cell? ⟨w.heap.size, 3, none⟩ = some (.int .u64 a2) ∧ w1.cell? ⟨w.heap.size, 4, none⟩ = some (.int .u64 a3) := ⟨kx1.cell 0, kx1.cell 1, kx1.cell 2, kx1.cell 3, kx1.cell 4⟩
  have hxl := kx1.lt
  go_wp2_with fail
  refine (hso _).mono ?_
  rintro e w2 ⟨l, b0, b1, s0, s1, hl, hB0, hB1, hS0, hS1, hok, rfl, hb3⟩
  have hg : Good l b0 b1 s0 s1 := ⟨hl, hB0, hB1, hS0, hS1, hok⟩
  have hb4 := hb2.trans (hb3.mono hb2.size)
  have hs2 := hs1.below hb3
  have h2 := h1.below hb3
  have kp2 := kp1.under hb3
  have HT := Lib.hid kp2.lt
  clear hso kx1 kp1 hb2 hs1 h1 hb3 x0 x1 x2 x3 x4 hxl hl hB0 hB1 hS0 hS1 hok
  have kt := Blk.newAt w2 30 (TabC l b0 b1 s0 s1) _ rfl
  have hbt : Below w2.heap.size w2 (w2.alloc (.cells (TabC l b0 b1 s0 s1) 30)) := (Below.refl _ _).alloc (Nat.le_refl _) _
  have hb5 := hb4.trans (hbt.mono hb4.size)
  have hfe := few_any l v L _ (h2.below hbt) hL
  have hs3 := hs2.below hbt
  have kp3 := kp2.under hbt
  clear hb4 hs2 h2 hbt hL kp2 hs3
  go_wp2_with fail
  refine hfe.mono ?_
  rintro e w3 ⟨vS, rfl, hS, hb6⟩
  have hb7 := hb5.trans (hb6.mono hb5.size)
  have kt4 := kt.under hb6
  have kp4 := kp3.under hb6
  clear hfe kt hb5 hb6 kp3
  change SetAt w3 vS (fewS l L) at hS
  have hSg := fewS_good l L
  have hSi : ∀ c ∈ fewS l L, (-6 ≤ c.1 ∧ c.1 ≤ 6) ∧ (-6 ≤ c.2.1 ∧ c.2.1 ≤ 6) := fun c hc => (fewS_in hc).2
  have hSl := fewS_len l L
  generalize fewS l L = S at *
  generalize w2.heap.size = T at *
  have hx := tmod_bd pA 1000000 (by decide)
  have hy := tmod_bd pB 1000000 (by decide)
  have hu := i64_and255 n
  have u0 : 0 ≤ n % 256 := by omega
  have u1 : n % 256 ≤ 255 := by omega
  have p0 := kp4.cell 0
  have p1 := kp4.cell 1
  have f0 := kp4.frozen 0
  have f1 := kp4.frozen 1
  simp only [List.getElem?_toArray, List.getElem?_cons_zero, List.getElem?_cons_succ] at p0 p1
  have hpl := kp4.lt
  have hTl := kt4.lt
  go_wp2_with fail
  have hpB := (kp4.set_ 0 (.int .i64 (pA.tmod 1000000))).set_ 1 (.int .i64 (pB.tmod 1000000))
  have hTB := (kt4.far (p := ⟨w.heap.size + 1, 0, none⟩) (by have := HT.out; dsimp only; omega) (.int .i64 (pA.tmod 1000000))).far (p := ⟨w.heap.size + 1, 1, none⟩) (by have := HT.out; dsimp only; omega) (.int .i64 (pB.tmod 1000000))
  have hSB : SetAt ((w3.setCell ⟨w.heap.size + 1, 0, none⟩ (.int .i64 (pA.tmod 1000000))).setCell ⟨w.heap.size + 1, 1, none⟩ (.int .i64 (pB.tmod 1000000))) vS S := set_by hS kp4
  have hbB : Below w.heap.size w ((w3.setCell ⟨w.heap.size + 1, 0, none⟩ (.int .i64 (pA.tmod 1000000))).setCell ⟨w.heap.size + 1, 1, none⟩ (.int .i64 (pB.tmod 1000000))) := by go_grown
  simp only [List.setIfInBounds_toArray, List.set_cons_zero, List.set_cons_succ] at hpB
  clear hS kp4 kt4 hb7 p0 p1 f0 f1 hpl hTl hu
  generalize ((w3.setCell ⟨w.heap.size + 1, 0, none⟩ (.int .i64 (pA.tmod 1000000))).setCell ⟨w.heap.size + 1, 1, none⟩ (.int .i64 (pB.tmod 1000000))) = w5 at *
  generalize pA.tmod 1000000 = a at *
  generalize pB.tmod 1000000 = b at *
  obtain ⟨m, hm⟩ : ∃ m : Nat, n % 256 % 5 = (m : Int) := ⟨(n % 256 % 5).toNat, by omega⟩
  have hm4 : m ≤ 4 := by omega
  rw [hm]
  clear hm u0 u1 HT
  have hsh := shift_any vS S a b w5 hSB (by omega) (goodB_iff.2 (by omega)) (fun c hc => by
    have := hSi c hc
    exact ⟨goodB_iff.2 (by omega), goodB_iff.2 (by omega)⟩)
  rw [ofL_sh hSg.rising a b] at hsh
  obtain ⟨hUg, hUi⟩ := good_sh hSg hSi (by omega) (by omega) (a := a) (b := b)
  have hUl : (S.map (sh a b)).length ≤ 16 := by simpa using hSl
  refine hsh.mono ?_
  rintro e w6 ⟨vU, rfl, hU, hb8⟩
  have hb9 := hbB.trans (hb8.mono hbB.size)
  have hS6 := hSB.below hb8
  have kt6 := hTB.under hb8
  have kp6 := hpB.under hb8
  clear hsh hSB hTB hpB hbB hb8
  have hs1 := fun W hq hW => steps_any l b0 b1 s0 s1 hg vU (S.map (sh a b)) m hm4 W hq hW hUg hUi (by omega)
  obtain ⟨t0, t1, t2, t3, t4⟩ := keepT5 kt6 (Below.refl _ _)
  have hTl := kt6.lt
  go_wp2_with fail
  refine (hs1 _ (HS.out.below hb9) hU).mono ?_
  rintro e w7 ⟨vV, R', rfl, hV, hst', hl', hb10⟩
  have hb11 := hb9.trans (hb10.mono hb9.size)
  have hS7 := hS6.below hb10
  have kt7 := kt6.under hb10
  have kp7 := kp6.under hb10
  clear hs1 hS6 hU kt6 kp6 hb9 hb10 t0 t1 t2 t3 t4 hTl
  have hs2 := fun W hq hW => steps_any l b0 b1 s0 s1 hg vS S m hm4 W hq hW hSg (fun c hc => by have := hSi c hc; omega) (by omega)
  obtain ⟨t0, t1, t2, t3, t4⟩ := keepT5 kt7 (Below.refl _ _)
  have hTl := kt7.lt
  go_wp2_with fail
  refine (hs2 _ (HS.out.below hb11) hS7).mono ?_
  rintro e w8 ⟨vW, R, rfl, hW, hst, hlR, hb12⟩
  have hb13 := hb11.trans (hb12.mono hb11.size)
  have hV8 := hV.below hb12
  have kp8 := kp7.under hb12
  clear hs2 hS7 kt7 kp7 hV hb11 hb12 t0 t1 t2 t3 t4 hTl
  obtain rfl := steps_sh hst hst'
  have hRR := StpN.rising hSg.rising hst
  have hRi := stpN_wi hg.latI (bare_of hg.ok) (m := 6) hSi hst
  have hsy := fun W (hq : SetAt W vW R) => shift_any vW R a b W hq (by omega) (goodB_iff.2 (by omega)) (fun c hc => by
    have := hRi c hc
    exact ⟨goodB_iff.2 (by omega), goodB_iff.2 (by omega)⟩)
  rw [ofL_sh hRR a b] at hsy
  have p0 := kp8.cell 0
  have p1 := kp8.cell 1
  simp only [List.getElem?_toArray, List.getElem?_cons_zero, List.getElem?_cons_succ] at p0 p1
  have hpl := kp8.lt
  clear hst hst'
  go_wp2_with fail
  refine (hsy _ hW).mono ?_
  rintro e w9 ⟨vY, rfl, hY, hb14⟩
  have hb15 := hb13.trans (hb14.mono hb13.size)
  have hV9 := hV8.below hb14
  have hsm := fun W hq hq' => same_any vV vY (R.map (sh a b)) (R.map (sh a b)) W hq hq' (by omega) (by omega)
  rw [decide_eq_true rfl] at hsm
  clear hsy hW hV8 kp8 hb13 hb14 p0 p1 hpl
  go_wp2_with fail
  refine (hsm _ hV9 hY).mono ?_
  rintro e w10 ⟨rfl, hb16⟩
  have hb17 := hb15.trans (hb16.mono hb15.size)
  clear hsm hV9 hY hb15 hb16
  go_wp2_with fail
  go_ret
  exact ⟨rfl, hb17⟩
section flatShiftFrame
open Go.ChangeShapes Go.WideShapes Go.ChangeAt Go.RowKit Go.Joins
set_option maxRecDepth 100000 in
theorem flatShift_contract (H : Type) (enc : TypeId × Value → H) (W : World) (base : Nat) (args : Array Value) (ds gs : List (DataW H)) (before : List MemPlace)
    (hval : ∀ (j : Nat) t v, Tryd.f5.params[j]? = some t → args[j]? = some v → Value.okWide Tryd.prog W .any base t v)
    (hW : DataW.Whole enc Tryd.prog Tryd.f5.params.toList Rows.flatShiftSpec.vars false W args.toList ds gs before) (hL : laidMetH Tryd.prog Rows.flatShiftRow.laid W) :
    Calls Tryd.prog 5 args W fun e W' => ∃ v, e = .returned v ∧ Rows.flatShiftSpec.post enc Tryd.prog Tryd.f5 false true false false W args v W' := by
  have hW' := hW
  obtain ⟨p, q, hA0, hV, rfl, hfz, hnd⟩ := hW
  have hA : DataW.TrodAll enc Tryd.prog W 0 (fun _ => true) true Tryd.f5.params.toList args.toList ds p := hA0
  rw [Tryd.params5] at hA hval
  obtain ⟨v0, vs0, d0, ds0, p0, q0, hargs, rfl, rfl, h0, r0⟩ := trodAll_cons hA
  obtain ⟨v1, vs1, d1, ds1, p1, q1, rfl, rfl, rfl, h1, r1⟩ := trodAll_cons r0
  obtain ⟨v2, vs2, d2, ds2, p2, q2, rfl, rfl, rfl, h2, r2⟩ := trodAll_cons r1
  obtain ⟨v3, vs3, d3, ds3, p3, q3, rfl, rfl, rfl, h3, r3⟩ := trodAll_cons r2
  obtain ⟨rfl, rfl, rfl⟩ := trodAll_nil r3
  obtain rfl : args = #[v0, v1, v2, v3] := by cases args; simp_all
  obtain ⟨rfl, rfl⟩ := trodVars_none hV
  obtain ⟨xL, xB0, xB1, xS0, xS1, rfl, rfl, rfl, w_xL, w_xB0, w_xB1, w_xS0, w_xS1⟩ := open_raw (hval 0 25 v0 rfl rfl) h0
  obtain ⟨L1, hraw1, hlen1⟩ := open_cells (hval 1 26 v1 rfl rfl) h1
  obtain ⟨n, rfl, rfl, rfl, w_n⟩ := open_int Tryd.underlying3 (hval 2 3 v2 rfl rfl) h2
  obtain ⟨c30, c31, y30, y31, m3, rfl, rfl, rfl, hy30, hy31⟩ := open_agg2 Tryd.underlying51 (by kernel_rfl) cellsPt (hval 3 51 v3 rfl rfl) h3
  obtain ⟨byA, e30, rfl, w_byA⟩ := DataW.trod_int Tryd.underlying2 hy30
  simp at e30; subst e30
  obtain ⟨byB, e31, rfl, w_byB⟩ := DataW.trod_int Tryd.underlying2 hy31
  simp at e31; subst e31
  refine (flatShift_walk xL w_xL xB0 w_xB0 xB1 w_xB1 xS0 w_xS0 xS1 w_xS1 v1 L1 n w_n byA w_byA byB w_byB W (six_of_laid hL) hraw1 hlen1).mono fun e W' ⟨he, hb⟩ => ?_
  exact ⟨_, he, law_post laidOut rfl rfl Tryd.underlying4 (by kernel_rfl) hW' hb ⟨rfl, rfl, rfl⟩⟩
theorem flatShift_met (os : Os) : laidMet Tryd.prog Rows.flatShiftRow.laid ((laidWorld os).forCall (fun _ _ => 0) ⟨#[], #[.agg #[.int .i64 0, .int .u64 0, .int .u64 0, .int .u64 0, .int .u64 0], .slice none 0 0, .int .i64 0, .agg #[.int .i64 0, .int .i64 0]], []⟩).memory :=
  laidMet_of_run' 8 (by kernel_rfl) (by kernel_rfl)
theorem flatShift_reads (os : Os) {H : Type} (enc : TypeId × Value → H) : ∃ places, DataW.whole enc Tryd.prog ((laidWorld os).forCall (fun _ _ => 0) ⟨#[], #[.agg #[.int .i64 0, .int .u64 0, .int .u64 0, .int .u64 0, .int .u64 0], .slice none 0 0, .int .i64 0, .agg #[.int .i64 0, .int .i64 0]], []⟩).memory Tryd.f5.params.toList Rows.flatShiftSpec.vars false #[(.agg #[.int .i64 0, .int .u64 0, .int .u64 0, .int .u64 0, .int .u64 0] : Value), (.slice none 0 0 : Value), (.int .i64 0 : Value), (.agg #[.int .i64 0, .int .i64 0] : Value)].toList 8 = some ([.agg [.lit (.int .i64 0), .agg [.lit (.int .u64 0), .lit (.int .u64 0)], .agg [.lit (.int .u64 0), .lit (.int .u64 0)]], .nil, .lit (.int .i64 0), .agg [.lit (.int .i64 0), .lit (.int .i64 0)]], [], places) :=
  ⟨[], by kernel_rfl⟩
set_option maxRecDepth 100000 in
theorem flatShift_lifted (os : Os) (started : os.Started) (H : Type) (enc : TypeId × Value → H) (F : Stop.Interp) :
    ReturnsInHanded {} Tryd.checked os 5 .any ((OpenSpec.ofChange Rows.flatShiftSpec).preRow enc Tryd.prog Tryd.f5 Rows.flatShiftRow.domain false Rows.flatShiftRow.laid) (((OpenSpec.ofChange Rows.flatShiftSpec).at F).post enc Tryd.prog Tryd.f5 false true false false) := by
  obtain ⟨places, hx⟩ := flatShift_reads os enc
  refine returnsInHanded_of_row (C := Tryd.checked) (s := OpenSpec.ofChange Rows.flatShiftSpec) own started (by kernel_rfl) Tryd.func5
    (witness_row_at (enc := enc) (C := Tryd.checked) false (laidWorld os) #[.agg #[.int .i64 0, .int .u64 0, .int .u64 0, .int .u64 0, .int .u64 0], .slice none 0 0, .int .i64 0, .agg #[.int .i64 0, .int .i64 0]] rfl (by kernel_rfl) (by kernel_rfl) (by kernel_rfl)
      (OpenSpec.preRow_of_cond 8 hx (by kernel_rfl) (fun k hk => by cases hk) (by kernel_rfl) (flatShift_met os))) ?_
  intro W base args ds gs before hval hW _ _ _ hL _ _
  exact flatShift_contract H enc W base args ds gs before hval hW hL
theorem flatShift_said : Rows.FlatShiftSaid :=
  OpenClaim.holds_of_cond 5 Tryd.f5 rfl rfl rfl rfl rfl rfl rfl ⟨rfl, rfl, rfl, rfl, rfl⟩ rfl rfl rfl rfl rfl (by kernel_rfl) Tryd.func5 (by kernel_rfl)
    (of_decide_eq_true (by kernel_rfl)) (by unfold Func.isWrapper; first | (rw [if_pos (by decide +kernel)]; kernel_rfl) | (rw [if_neg (by decide +kernel)]; exact ⟨rfl, rfl⟩))
    (fun os started H enc _ F => by rw [OpenClaim.pre_eq_preRow]; exact flatShift_lifted os started H enc F)
theorem flatShift_plain (f : FuncId) (fn : Func) (hf : Tryd.pinned.checked.prog.funcNamed "honeycomb/honeycomblaw08.FlatShift" = some f) (hfn : Tryd.pinned.checked.prog.funcs[f]? = some fn) :
    false = Tryd.pinned.checked.prog.looks [] ∧ ∀ (j : Nat) t, fn.params[j]? = some t → Tryd.pinned.checked.prog.wantsStandIn t = false := by
  obtain rfl : f = 5 := Option.some.inj ((show Tryd.prog.funcNamed "honeycomb/honeycomblaw08.FlatShift" = some 5 by kernel_rfl).symm.trans hf) |>.symm
  obtain rfl : fn = Tryd.f5 := (Option.some.inj (Tryd.func5.symm.trans hfn)).symm
  refine ⟨by kernel_rfl, fun j t ht => ?_⟩
  have hall : (Tryd.f5.params.toList.all fun t => !Tryd.prog.wantsStandIn t) = true := by kernel_rfl
  have hm : t ∈ Tryd.f5.params.toList := by simpa using Array.mem_of_getElem? ht
  have := List.all_eq_true.1 hall t hm
  exact (show Tryd.prog.wantsStandIn t = false by simpa using this)
end flatShiftFrame
/-- FlatShift: the card: for every input the law answers true. -/
theorem flatShift_card : Rows.FlatShiftCardSaid :=
  Claim7.holds_tied_plain_at .later [] _ _ _ _ flatShift_said (fun _ h => by cases h) (by kernel_rfl) (fun _ h => by cases h) flatShift_row_tie rfl ⟨rfl, rfl⟩ (by kernel_rfl) rfl flatShift_plain (by kernel_rfl)
end Go.Proofs.YtggpleppoplkcaaDoor.Fl
namespace Go.Proofs.YtggpleppoplkcaaDoor
theorem flatShift_proved : Rows.FlatShiftCardSaid := Fl.flatShift_card
#print axioms flatShift_proved
end Go.Proofs.YtggpleppoplkcaaDoor
