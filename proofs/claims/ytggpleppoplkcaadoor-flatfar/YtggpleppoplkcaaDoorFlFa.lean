/- FlatFar: any table that may be, any two sets near the origin, the second one a hundred points away, any number of at most four generations: they step together as each by itself. No conditions. -/
import Derived.Test.YtggpleppoplkcaaDoorFlB
import Derived.Test.YtggpleppoplkcaaDoorTbW8
import Derived.Test.YtggpleppoplkcaaDoorAxR
import Derived.Test.YtggpleppoplkcaaDoorApS
import Derived.Deep.RegionHeld3
import Derived.Deep.DeepCutAuto
namespace Go.Proofs.YtggpleppoplkcaaDoor.Fl
open Go.RowKit Go.Proofs.YtggpleppoplkcaaDoor.Ax Go.Lib
open Go.Proofs.YtggpleppoplkcaaDoor.Ba (Blk)
open Go.Proofs.YtggpleppoplkcaaDoor.Ce (sh)
open Go.Proofs.YtggpleppoplkcaaDoor.Se (SetAt RawAt Rising ofL rising_ofL mem_ofL ofL_len of_any few_any shift_any same_any open_cells set_of_own flat step_append_set wpList_append_set)
open Go.Proofs.YtggpleppoplkcaaDoor.Tb (Tab wrongT some_fine open_raw)

theorem stpN_far {nx : Int → Bool → Nat → Bool} {l : Int} (hl : l = 1 ∨ l = 2 ∨ l = 3) (hb : Bare nx) {S U : List C} (hS : Wi 6 S) (hU : Wi 6 (U.map (sh (-100) 50))) : ∀ {n : Nat} {R1 R2 : List C}, n ≤ 40 → StpN nx l n S R1 → StpN nx l n U R2 → StpN nx l n (ofL (S ++ U)) (ofL (R1 ++ R2))
  | 0, R1, R2, _, h1, h2 => by
    have e1 : R1 = S := h1
    have e2 : R2 = U := h2
    subst e1 e2
    rfl
  | n + 1, R1, R2, hn, ⟨M1, h1, s1⟩, ⟨M2, h2, s2⟩ => by
    refine ⟨ofL (M1 ++ M2), stpN_far hl hb hS hU (by omega) h1 h2, ?_⟩
    have w1 := stpN_wi hl hb hS h1
    have w2 := stpN_wi hl hb hU (stpN_sh (-100) 50 h2)
    refine stp_far hl hb (m := 6 + n) (fun c hc => (w1 c hc).1.2) (fun c hc => ?_) (fun c => by rw [mem_ofL, List.mem_append]) s1 s2 (rising_ofL _) (fun c => by rw [mem_ofL, List.mem_append])
    have := (w2 _ (List.mem_map.2 ⟨c, hc, rfl⟩)).1.1
    simp only [sh] at this
    omega
theorem far_good {l : Nat} {S U : List C} (hS : GoodS l S) (hU : GoodS l U) (hi : ∀ c ∈ S, (-6 ≤ c.1 ∧ c.1 ≤ 6) ∧ (-6 ≤ c.2.1 ∧ c.2.1 ≤ 6)) (hj : ∀ c ∈ U, (-1500000 ≤ c.1 ∧ c.1 ≤ 1500000) ∧ (-1500000 ≤ c.2.1 ∧ c.2.1 ≤ 1500000)) (h1 : S.length ≤ 16) (h2 : U.length ≤ 16) :
    GoodS l (ofL (S ++ U)) ∧ (∀ c ∈ ofL (S ++ U), (-1500000 ≤ c.1 ∧ c.1 ≤ 1500000) ∧ (-1500000 ≤ c.2.1 ∧ c.2.1 ≤ 1500000)) ∧ (ofL (S ++ U)).length ≤ 32 := by
  have hm : ∀ c ∈ ofL (S ++ U), c ∈ S ∨ c ∈ U := fun c hc => List.mem_append.1 ((mem_ofL _ _).1 hc)
  have hz : ∀ c ∈ ofL (S ++ U), (-1500000 ≤ c.1 ∧ c.1 ≤ 1500000) ∧ (-1500000 ≤ c.2.1 ∧ c.2.1 ≤ 1500000) := fun c hc => by
    rcases hm c hc with h | h
    · have := hi c h; omega
    · exact hj c h
  have hl := ofL_len (S ++ U)
  rw [List.length_append] at hl
  refine ⟨⟨rising_ofL _, fun c hc => ?_, fun c hc => by have := hz c hc; omega, by omega⟩, hz, by omega⟩
  rcases hm c hc with h | h
  · exact hS.val c h
  · exact hU.val c h
theorem back_in {S : List C} (hi : ∀ c ∈ S, (-6 ≤ c.1 ∧ c.1 ≤ 6) ∧ (-6 ≤ c.2.1 ∧ c.2.1 ≤ 6)) : Wi 6 ((S.map (sh 100 (-50))).map (sh (-100) 50)) := fun c hc => by
  obtain ⟨x, hx, rfl⟩ := List.mem_map.1 hc
  obtain ⟨y, hy, rfl⟩ := List.mem_map.1 hx
  have := hi y hy
  simp only [sh]
  omega
def FaR (w : World) (l b0 b1 s0 s1 n : Nat) (T : List C) (t13 t14 : Value) (wx : World) : Prop :=
  t14 = .nilIface ∧ Below w.heap.size w wx ∧ ∃ Q, SetAt wx t13 Q ∧ StpN (nxT b0 b1 s0 s1) l n T Q ∧ Q.length ≤ 28561 * T.length
theorem own_none (w : World) : (w.alloc (.cells #[] 60)).ownsRow w.heap.size 60 3 (.slice (some ⟨w.heap.size, 0, none⟩) 0 0) 0 (flat []) :=
  World.ownsRow_made (base := w.heap.size) (e := 60) (size := 3) w #[] 0 (Nat.le_refl _) (Nat.zero_le _) (by simp)
set_option maxRecDepth 100000 in
set_option maxHeartbeats 8000000 in
theorem flatFar_walk (xL : Int) (_w0 : (Lit.int .i64 xL).wf = true) (xB0 : Int) (w1 : (Lit.int .u64 xB0).wf = true) (xB1 : Int) (w2 : (Lit.int .u64 xB1).wf = true) (xS0 : Int) (w3 : (Lit.int .u64 xS0).wf = true) (xS1 : Int) (w4 : (Lit.int .u64 xS1).wf = true)
    (v : Value) (L : List C) (v' : Value) (L' : List C) (n : Int) (_wn : (Lit.int .i64 n).wf = true) (w : World) (hs : SixIs w) (h : RawAt w v L) (hL : L.length ≤ maxLen) (h' : RawAt w v' L') (hL' : L'.length ≤ maxLen) :
    Calls Tryd.prog 4 #[.agg #[.int .i64 xL, .int .u64 xB0, .int .u64 xB1, .int .u64 xS0, .int .u64 xS1], v, v', .int .i64 n] w fun e w' => e = .returned (.bool true) ∧ Below w.heap.size w w' := by
  have g1 := bounds_u64 w1
  have g2 := bounds_u64 w2
  have g3 := bounds_u64 w3
  have g4 := bounds_u64 w4
  obtain ⟨a0, rfl⟩ : ∃ k : Nat, xB0 = k := ⟨xB0.toNat, by omega⟩
  obtain ⟨a1, rfl⟩ : ∃ k : Nat, xB1 = k := ⟨xB1.toNat, by omega⟩
  obtain ⟨a2, rfl⟩ : ∃ k : Nat, xS0 = k := ⟨xS0.toNat, by omega⟩
  obtain ⟨a3, rfl⟩ : ∃ k : Nat, xS1 = k := ⟨xS1.toNat, by omega⟩
  have hso := some_fine xL a0 a1 a2 a3 (by omega) (by omega) (by omega) (by omega)
  clear g1 g2 g3 g4 w1 w2 w3 w4 _w0 _wn
  have kx := Blk.newAt w 25 #[.int .i64 xL, .int .u64 a0, .int .u64 a1, .int .u64 a2, .int .u64 a3] _ rfl
  have hb0 : Below w.heap.size w (w.alloc (.cells #[.int .i64 xL, .int .u64 a0, .int .u64 a1, .int .u64 a2, .int .u64 a3] 25)) := (Below.refl _ _).alloc (Nat.le_refl _) _
  have hs0 := hs.below hb0
  have h0 := h.below hb0
  have h0' := h'.below hb0
  have HS := Lib.hid hs
  clear hs h h'
  go_enter Tryd.func4, Tryd.ntmps4
  go_wp2_with fail
  refine (awake8_any _ hs0).mono ?_
  rintro e w1 ⟨rfl, hb1⟩
  have hb2 := hb0.trans (hb1.mono hb0.size)
  have h1 := h0.below hb1
  have h1' := h0'.below hb1
  have kx1 := kx.under hb1
  clear kx hb0 hs0 h0 h0' hb1
  obtain ⟨x0, x1, x2, x3, x4⟩ : w1.cell? ⟨w.heap.size, 0, none⟩ = some (.int .i64 xL) ∧ w1.cell? ⟨w.heap.size, 1, none⟩ = some (.int .u64 a0) ∧ w1.cell? ⟨w.heap.size, 2, none⟩ = some (.int .u64 a1) ∧ w1.cell? ⟨w.heap.size, 3, none⟩ = some (.int .u64 a2) ∧ w1.cell? ⟨w.heap.size, 4, none⟩ = some (.int .u64 a3) := ⟨kx1.cell 0, kx1.cell 1, kx1.cell 2, kx1.cell 3, kx1.cell 4⟩
  have hxl := kx1.lt
  go_wp2_with fail
  refine (hso _).mono ?_
  rintro e w2 ⟨l, b0, b1, s0, s1, hl, hB0, hB1, hS0, hS1, hok, rfl, hb3⟩
  have hg : Good l b0 b1 s0 s1 := ⟨hl, hB0, hB1, hS0, hS1, hok⟩
  have hb4 := hb2.trans (hb3.mono hb2.size)
  have h2 := h1.below hb3
  have h2' := h1'.below hb3
  clear hso kx1 hb2 h1 h1' hb3 x0 x1 x2 x3 x4 hxl hl hB0 hB1 hS0 hS1 hok
  have kt := Blk.newAt w2 30 (TabC l b0 b1 s0 s1) _ rfl
  have hbt : Below w2.heap.size w2 (w2.alloc (.cells (TabC l b0 b1 s0 s1) 30)) := (Below.refl _ _).alloc (Nat.le_refl _) _
  have hb5 := hb4.trans (hbt.mono hb4.size)
  have hfe := few_any l v L _ (h2.below hbt) hL
  have h3' := h2'.below hbt
  clear hb4 h2 h2' hbt hL
  go_wp2_with fail
  refine hfe.mono ?_
  rintro e w3 ⟨vS, rfl, hS, hb6⟩
  have hb7 := hb5.trans (hb6.mono hb5.size)
  have kt4 := kt.under hb6
  have h4' := h3'.below hb6
  clear hfe kt hb5 hb6 h3'
  change SetAt w3 vS (fewS l L) at hS
  have hSg := fewS_good l L
  have hSi : ∀ c ∈ fewS l L, (-6 ≤ c.1 ∧ c.1 ≤ 6) ∧ (-6 ≤ c.2.1 ∧ c.2.1 ≤ 6) := fun c hc => (fewS_in hc).2
  have hSl := fewS_len l L
  generalize fewS l L = S at *
  generalize w2.heap.size = T at *
  obtain ⟨t0, t1, t2, t3, t4⟩ := keepT5 kt4 (Below.refl _ _)
  have hTl := kt4.lt
  have hfe := few_any l v' L' w3 h4' hL'
  go_wp2_with fail
  refine hfe.mono ?_
  rintro e w4 ⟨vV, rfl, hV, hb8⟩
  have hb9 := hb7.trans (hb8.mono hb7.size)
  have kt5 := kt4.under hb8
  have hS5 := hS.below hb8
  clear hfe kt4 hb7 hb8 h4' hL' hS t0 t1 t2 t3 t4 hTl
  change SetAt w4 vV (fewS l L') at hV
  have hVg := fewS_good l L'
  have hVi : ∀ c ∈ fewS l L', (-6 ≤ c.1 ∧ c.1 ≤ 6) ∧ (-6 ≤ c.2.1 ∧ c.2.1 ≤ 6) := fun c hc => (fewS_in hc).2
  have hVl := fewS_len l L'
  generalize fewS l L' = V at *
  have hsh := shift_any vV V 100 (-50) w4 hV (by omega) (by decide) (fun c hc => by
    have := hVi c hc
    exact ⟨goodB_iff.2 (by omega), goodB_iff.2 (by omega)⟩)
  rw [ofL_sh hVg.rising 100 (-50)] at hsh
  obtain ⟨hUg, hUi⟩ := good_sh hVg hVi (by omega) (by omega) (a := 100) (b := -50)
  have hUw := back_in hVi
  have hUl : (V.map (sh 100 (-50))).length ≤ 16 := by simpa using hVl
  clear hVg hVi hVl hV
  generalize V.map (sh 100 (-50)) = U at *
  go_wp2_with fail
  refine hsh.mono ?_
  rintro e w5 ⟨vU, rfl, hU, hb10⟩
  have hb11 := hb9.trans (hb10.mono hb9.size)
  have kt6 := kt5.under hb10
  have hS6 := hS5.below hb10
  clear hsh kt5 hS5 hb9 hb10
  have hu := i64_and255 n
  have u0 : 0 ≤ n % 256 := by omega
  have u1 : n % 256 ≤ 255 := by omega
  obtain ⟨m, hm⟩ : ∃ m : Nat, n % 256 % 5 = (m : Int) := ⟨(n % 256 % 5).toNat, by omega⟩
  have hm4 : m ≤ 4 := by omega
  go_upto_region 7 with fail
  rw [hm]
  clear hm u0 u1 hu
  obtain ⟨hTg, hTi, hTn⟩ := far_good hSg hUg hSi hUi hSl hUl
  have hs5 := HS.out.below hb11
  obtain ⟨t0, t1, t2, t3, t4⟩ := keepT5 kt6 (Below.refl _ _)
  have hTl := kt6.lt
  have ho0 := own_none w5
  have HB := Lib.hid hb11
  clear hb11
  go_cut [13, 14] (fun t13 t14 wx => FaR w5 l b0 b1 s0 s1 m (ofL (S ++ U)) t13 t14 wx)
  case first =>
    have hkb : Below w5.heap.size w5 w5 := Below.refl _ _
    go_region_held3 (fun w' => w'.cell? ⟨T, 0, none⟩ = some (.int .i64 l) ∧ w'.cell? ⟨T, 1, none⟩ = some (.int .u64 b0) ∧ w'.cell? ⟨T, 2, none⟩ = some (.int .u64 b1) ∧ w'.cell? ⟨T, 3, none⟩ = some (.int .u64 s0) ∧ w'.cell? ⟨T, 4, none⟩ = some (.int .u64 s1)) (first | (refine keepT5 kt6 ?_; go_grown; done))
      (first
        | (go_at_call 11; refine (steps_any l b0 b1 s0 s1 hg v9 (ofL (S ++ U)) m hm4 _ (hs5.below (by go_grown)) (by first | exact h9 | (refine h9.below ?_; go_grown)) hTg hTi hTn).mono ?_; rintro e wA ⟨vA, R, rfl, hR, hst, hlR, hb⟩; have hkb : Below w5.heap.size w5 wA := Ba.below_call hb (by go_grown) (by first | exact hkb.size | go_size); clear hb)
        | (go_at_call 18; refine (of_any v8 (S ++ U) _ (by first | exact h8 | (refine h8.below ?_; go_grown)) (by rw [List.length_append]; omega)).mono ?_; rintro e w9 ⟨v9, rfl, h9, hb⟩; have hkb : Below w5.heap.size w5 w9 := Ba.below_call hb (by go_grown) (by first | exact hkb.size | go_size); clear hb)
        | (refine step_append_set rfl (.tmp 43) (.tmp 44) rfl w5.heap.size v7 vU (0 + S.length) ([] ++ S) U rfl h7 rfl (hU.below (by go_grown)) (by omega) (by first | exact hkb.size | go_size) ?_; intro v8 w8 ho8 hgr _; have hkb : Below w5.heap.size w5 w8 := Below.grown (w := _) (by go_grown) hgr (by first | exact hkb.size | go_size) (fun q hq => (h7.lt q hq).1); have h8 : SetAt w8 v8 (S ++ U) := set_of_own (base := w5.heap.size) (by simpa using ho8); clear hgr ho8)
        | (refine step_append_set rfl (.tmp 41) (.tmp 42) rfl w5.heap.size (.slice (some ⟨w5.heap.size, 0, none⟩) 0 0) vS 0 [] S rfl ho0 rfl (hS6.below (by go_grown)) (by omega) (by go_size) ?_; intro v7 w7 h7 hgr _; have hkb : Below w5.heap.size w5 w7 := Below.grown (w := _) (by go_grown) hgr (by go_size) (fun q hq => (ho0.lt q hq).1); clear hgr))
    all_goals go_wp2_with fail
    all_goals go_meet
    all_goals exact ⟨rfl, by go_grown, _, hR, hst, hlR⟩
  case rest =>
    obtain ⟨rfl, hb12, Q, hQ, hstQ, hlQ⟩ := hcut
    have hb13 := HB.out.trans (hb12.mono HB.out.size)
    have hS7 := hS6.below hb12
    have hU7 := hU.below hb12
    have kt7 := kt6.under hb12
    have HSU := Lib.hid hUw
    have HQ := Lib.hid hstQ
    clear ho0 hs5 t0 t1 t2 t3 t4 hTl kt6 hS6 hU hTg hTi HB hb12 hUw hstQ
    generalize wc = w6 at *
    have hs1 := fun W hq hW => steps_any l b0 b1 s0 s1 hg vS S m hm4 W hq hW hSg (fun c hc => by have := hSi c hc; omega) (by omega)
    obtain ⟨t0, t1, t2, t3, t4⟩ := keepT5 kt7 (Below.refl _ _)
    have hTl := kt7.lt
    go_wp2_with fail
    refine (hs1 _ (HS.out.below hb13) hS7).mono ?_
    rintro e w7 ⟨vA, R1, rfl, hA, hst1, hl1, hb14⟩
    have hb15 := hb13.trans (hb14.mono hb13.size)
    have hQ8 := hQ.below hb14
    have hU8 := hU7.below hb14
    have kt8 := kt7.under hb14
    have H1 := Lib.hid hst1
    clear hs1 hS7 hU7 hQ kt7 hb13 hb14 t0 t1 t2 t3 t4 hTl hst1
    have hs2 := fun W hq hW => steps_any l b0 b1 s0 s1 hg vU U m hm4 W hq hW hUg hUi (by omega)
    obtain ⟨t0, t1, t2, t3, t4⟩ := keepT5 kt8 (Below.refl _ _)
    have hTl := kt8.lt
    go_wp2_with fail
    refine (hs2 _ (HS.out.below hb15) hU8).mono ?_
    rintro e w8 ⟨vB, R2, rfl, hB, hst2, hl2, hb16⟩
    have hb17 := hb15.trans (hb16.mono hb15.size)
    have hQ9 := hQ8.below hb16
    have hA9 := hA.below hb16
    clear hs2 hU8 hQ8 hA kt8 hb15 hb16 t0 t1 t2 t3 t4 hTl
    obtain rfl := StpN.uniq HQ.out (stpN_far hg.latI (bare_of hg.ok) hSi HSU.out (by omega) H1.out hst2)
    clear HQ H1 hst2 HSU hlQ
    have ho0 := own_none w8
    have hbe : Below w8.heap.size w8 (w8.alloc (.cells #[] 60)) := (Below.refl _ _).alloc (Nat.le_refl _) _
    go_wp2_with (at_builtin; refine wpList_append_set rfl (.tmp 81) (.tmp 82) rfl w8.heap.size (.slice (some ⟨w8.heap.size, 0, none⟩) 0 0) vA 0 [] R1 rfl ho0 rfl (hA9.below hbe) (by omega) hbe.size ?_)
    intro v7 w9 h7 hgr _
    have hbf : Below w8.heap.size w8 w9 := hbe.grown hgr hbe.size (fun q hq => (ho0.lt q hq).1)
    clear hgr ho0 hbe
    go_wp2_with (at_builtin; refine wpList_append_set rfl (.tmp 83) (.tmp 84) rfl w8.heap.size v7 vB R1.length R1 R2 rfl h7 rfl (hB.below hbf) (by omega) hbf.size ?_)
    intro v8 wA ho8 hgr _
    have hbg : Below w8.heap.size w8 wA := hbf.grown hgr hbf.size (fun q hq => (h7.lt q hq).1)
    have h8 : SetAt wA v8 (R1 ++ R2) := set_of_own (base := w8.heap.size) (by simpa using ho8)
    have hof := of_any v8 (R1 ++ R2) wA h8 (by rw [List.length_append]; omega)
    have hQA := hQ9.below hbg
    have hb18 := hb17.trans (hbg.mono hb17.size)
    clear hgr ho8 h7 hbf hbg h8 hA9 hB hQ9 hb17
    go_wp2_with fail
    refine hof.mono ?_
    rintro e wB ⟨v9, rfl, h9, hb19⟩
    have hlen := ofL_len (R1 ++ R2)
    rw [List.length_append] at hlen
    have hsm := same_any _ _ _ _ wB (hQA.below hb19) h9 (by omega) (by omega)
    rw [decide_eq_true rfl] at hsm
    have hb20 := hb18.trans (hb19.mono hb18.size)
    clear hof hQA h9 hb18 hb19 hlen
    go_wp2_with fail
    refine hsm.mono ?_
    rintro e wC ⟨rfl, hb21⟩
    have hb22 := hb20.trans (hb21.mono hb20.size)
    clear hsm hb20 hb21
    go_wp2_with fail
    go_ret
    exact ⟨rfl, hb22⟩
section flatFarFrame
open Go.ChangeShapes Go.WideShapes Go.ChangeAt Go.RowKit Go.Joins
set_option maxRecDepth 100000 in
theorem flatFar_contract (H : Type) (enc : TypeId × Value → H) (W : World) (base : Nat) (args : Array Value) (ds gs : List (DataW H)) (before : List MemPlace)
    (hval : ∀ (j : Nat) t v, Tryd.f4.params[j]? = some t → args[j]? = some v → Value.okWide Tryd.prog W .any base t v)
    (hW : DataW.Whole enc Tryd.prog Tryd.f4.params.toList Rows.flatFarSpec.vars false W args.toList ds gs before) (hL : laidMetH Tryd.prog Rows.flatFarRow.laid W) :
    Calls Tryd.prog 4 args W fun e W' => ∃ v, e = .returned v ∧ Rows.flatFarSpec.post enc Tryd.prog Tryd.f4 false true false false W args v W' := by
  have hW' := hW
  obtain ⟨p, q, hA0, hV, rfl, hfz, hnd⟩ := hW
  have hA : DataW.TrodAll enc Tryd.prog W 0 (fun _ => true) true Tryd.f4.params.toList args.toList ds p := hA0
  rw [Tryd.params4] at hA hval
  obtain ⟨v0, vs0, d0, ds0, p0, q0, hargs, rfl, rfl, h0, r0⟩ := trodAll_cons hA
  obtain ⟨v1, vs1, d1, ds1, p1, q1, rfl, rfl, rfl, h1, r1⟩ := trodAll_cons r0
  obtain ⟨v2, vs2, d2, ds2, p2, q2, rfl, rfl, rfl, h2, r2⟩ := trodAll_cons r1
  obtain ⟨v3, vs3, d3, ds3, p3, q3, rfl, rfl, rfl, h3, r3⟩ := trodAll_cons r2
  obtain ⟨rfl, rfl, rfl⟩ := trodAll_nil r3
  obtain rfl : args = #[v0, v1, v2, v3] := by cases args; simp_all
  obtain ⟨rfl, rfl⟩ := trodVars_none hV
  obtain ⟨xL, xB0, xB1, xS0, xS1, rfl, rfl, rfl, w_xL, w_xB0, w_xB1, w_xS0, w_xS1⟩ := open_raw (hval 0 25 v0 rfl rfl) h0
  obtain ⟨L1, hraw1, hlen1⟩ := open_cells (hval 1 26 v1 rfl rfl) h1
  obtain ⟨L2, hraw2, hlen2⟩ := open_cells (hval 2 26 v2 rfl rfl) h2
  obtain ⟨n, rfl, rfl, rfl, w_n⟩ := open_int Tryd.underlying3 (hval 3 3 v3 rfl rfl) h3
  refine (flatFar_walk xL w_xL xB0 w_xB0 xB1 w_xB1 xS0 w_xS0 xS1 w_xS1 v1 L1 v2 L2 n w_n W (six_of_laid hL) hraw1 hlen1 hraw2 hlen2).mono fun e W' ⟨he, hb⟩ => ?_
  exact ⟨_, he, law_post laidOut rfl rfl Tryd.underlying4 (by kernel_rfl) hW' hb ⟨rfl, rfl, rfl⟩⟩
theorem flatFar_met (os : Os) : laidMet Tryd.prog Rows.flatFarRow.laid ((laidWorld os).forCall (fun _ _ => 0) ⟨#[], #[.agg #[.int .i64 0, .int .u64 0, .int .u64 0, .int .u64 0, .int .u64 0], .slice none 0 0, .slice none 0 0, .int .i64 0], []⟩).memory :=
  laidMet_of_run' 8 (by kernel_rfl) (by kernel_rfl)
theorem flatFar_reads (os : Os) {H : Type} (enc : TypeId × Value → H) : ∃ places, DataW.whole enc Tryd.prog ((laidWorld os).forCall (fun _ _ => 0) ⟨#[], #[.agg #[.int .i64 0, .int .u64 0, .int .u64 0, .int .u64 0, .int .u64 0], .slice none 0 0, .slice none 0 0, .int .i64 0], []⟩).memory Tryd.f4.params.toList Rows.flatFarSpec.vars false #[(.agg #[.int .i64 0, .int .u64 0, .int .u64 0, .int .u64 0, .int .u64 0] : Value), (.slice none 0 0 : Value), (.slice none 0 0 : Value), (.int .i64 0 : Value)].toList 8 = some ([.agg [.lit (.int .i64 0), .agg [.lit (.int .u64 0), .lit (.int .u64 0)], .agg [.lit (.int .u64 0), .lit (.int .u64 0)]], .nil, .nil, .lit (.int .i64 0)], [], places) :=
  ⟨[], by kernel_rfl⟩
set_option maxRecDepth 100000 in
theorem flatFar_lifted (os : Os) (started : os.Started) (H : Type) (enc : TypeId × Value → H) (F : Stop.Interp) :
    ReturnsInHanded {} Tryd.checked os 4 .any ((OpenSpec.ofChange Rows.flatFarSpec).preRow enc Tryd.prog Tryd.f4 Rows.flatFarRow.domain false Rows.flatFarRow.laid) (((OpenSpec.ofChange Rows.flatFarSpec).at F).post enc Tryd.prog Tryd.f4 false true false false) := by
  obtain ⟨places, hx⟩ := flatFar_reads os enc
  refine returnsInHanded_of_row (C := Tryd.checked) (s := OpenSpec.ofChange Rows.flatFarSpec) own started (by kernel_rfl) Tryd.func4
    (witness_row_at (enc := enc) (C := Tryd.checked) false (laidWorld os) #[.agg #[.int .i64 0, .int .u64 0, .int .u64 0, .int .u64 0, .int .u64 0], .slice none 0 0, .slice none 0 0, .int .i64 0] rfl (by kernel_rfl) (by kernel_rfl) (by kernel_rfl)
      (OpenSpec.preRow_of_cond 8 hx (by kernel_rfl) (fun k hk => by cases hk) (by kernel_rfl) (flatFar_met os))) ?_
  intro W base args ds gs before hval hW _ _ _ hL _ _
  exact flatFar_contract H enc W base args ds gs before hval hW hL
theorem flatFar_said : Rows.FlatFarSaid :=
  OpenClaim.holds_of_cond 4 Tryd.f4 rfl rfl rfl rfl rfl rfl rfl ⟨rfl, rfl, rfl, rfl, rfl⟩ rfl rfl rfl rfl rfl (by kernel_rfl) Tryd.func4 (by kernel_rfl)
    (of_decide_eq_true (by kernel_rfl)) (by unfold Func.isWrapper; first | (rw [if_pos (by decide +kernel)]; kernel_rfl) | (rw [if_neg (by decide +kernel)]; exact ⟨rfl, rfl⟩))
    (fun os started H enc _ F => by rw [OpenClaim.pre_eq_preRow]; exact flatFar_lifted os started H enc F)
theorem flatFar_plain (f : FuncId) (fn : Func) (hf : Tryd.pinned.checked.prog.funcNamed "honeycomb/honeycomblaw08.FlatFar" = some f) (hfn : Tryd.pinned.checked.prog.funcs[f]? = some fn) :
    false = Tryd.pinned.checked.prog.looks [] ∧ ∀ (j : Nat) t, fn.params[j]? = some t → Tryd.pinned.checked.prog.wantsStandIn t = false := by
  obtain rfl : f = 4 := Option.some.inj ((show Tryd.prog.funcNamed "honeycomb/honeycomblaw08.FlatFar" = some 4 by kernel_rfl).symm.trans hf) |>.symm
  obtain rfl : fn = Tryd.f4 := (Option.some.inj (Tryd.func4.symm.trans hfn)).symm
  refine ⟨by kernel_rfl, fun j t ht => ?_⟩
  have hall : (Tryd.f4.params.toList.all fun t => !Tryd.prog.wantsStandIn t) = true := by kernel_rfl
  have hm : t ∈ Tryd.f4.params.toList := by simpa using Array.mem_of_getElem? ht
  have := List.all_eq_true.1 hall t hm
  exact (show Tryd.prog.wantsStandIn t = false by simpa using this)
end flatFarFrame
/-- FlatFar: the card: for every input the law answers true. -/
theorem flatFar_card : Rows.FlatFarCardSaid :=
  Claim7.holds_tied_plain_at .later [] _ _ _ _ flatFar_said (fun _ h => by cases h) (by kernel_rfl) (fun _ h => by cases h) flatFar_row_tie rfl ⟨rfl, rfl⟩ (by kernel_rfl) rfl flatFar_plain (by kernel_rfl)
end Go.Proofs.YtggpleppoplkcaaDoor.Fl
namespace Go.Proofs.YtggpleppoplkcaaDoor
theorem flatFar_proved : Rows.FlatFarCardSaid := Fl.flatFar_card
#print axioms flatFar_proved
end Go.Proofs.YtggpleppoplkcaaDoor
