/- FlatSteps: any table that may be, any set near the origin, any number of at most four generations: what Steps and Step answer is what the document's own plain stepping answers. No conditions. -/
import Derived.Test.YtjongkbjhiblmaaDoorFlS4
import Derived.Test.YtjongkbjhiblmaaDoorFlFw
import Derived.Test.YtjongkbjhiblmaaDoorTbC3
import Derived.Test.YtjongkbjhiblmaaDoorTbW8
import Derived.Test.YtjongkbjhiblmaaDoorSeR2
import Derived.Test.YtjongkbjhiblmaaDoorAxR
namespace Go.Proofs.YtjongkbjhiblmaaDoor.Fl
open Go.RowKit Go.Proofs.YtjongkbjhiblmaaDoor.Ax Go.Lib
open Go.Proofs.YtjongkbjhiblmaaDoor.Ba (Blk)
open Go.Proofs.YtjongkbjhiblmaaDoor.Se (SetAt RawAt Rising ofL rising_ofL few_any open_cells told4_any are_any)
open Go.Proofs.YtjongkbjhiblmaaDoor.Tb (Tab wrongT some_fine open_raw told_any)

set_option maxRecDepth 100000 in
set_option maxHeartbeats 8000000 in
theorem flatSteps_walk (xL : Int) (_w0 : (Lit.int .i64 xL).wf = true) (xB0 : Int) (w1 : (Lit.int .u64 xB0).wf = true) (xB1 : Int) (w2 : (Lit.int .u64 xB1).wf = true) (xS0 : Int) (w3 : (Lit.int .u64 xS0).wf = true) (xS1 : Int) (w4 : (Lit.int .u64 xS1).wf = true)
    (v : Value) (L : List C) (n : Int) (_wn : (Lit.int .i64 n).wf = true) (w : World) (hs : SixIs w) (h : RawAt w v L) (hL : L.length ≤ maxLen) :
    Calls Tryd.prog 3 #[.agg #[.int .i64 xL, .int .u64 xB0, .int .u64 xB1, .int .u64 xS0, .int .u64 xS1], v, .int .i64 n] w fun e w' => e = .returned (.bool true) ∧ Below w.heap.size w w' := by
  have g1 := bounds_u64 w1
  have g2 := bounds_u64 w2
  have g3 := bounds_u64 w3
  have g4 := bounds_u64 w4
  obtain ⟨a0, rfl⟩ : ∃ k : Nat, xB0 = k := ⟨xB0.toNat, by omega⟩
  obtain ⟨a1, rfl⟩ : ∃ k : Nat, xB1 = k := ⟨xB1.toNat, by omega⟩
  obtain ⟨a2, rfl⟩ : ∃ k : Nat, xS0 = k := ⟨xS0.toNat, by omega⟩
  obtain ⟨a3, rfl⟩ : ∃ k : Nat, xS1 = k := ⟨xS1.toNat, by omega⟩
  have hso := some_fine xL a0 a1 a2 a3 (by omega) (by omega) (by omega) (by omega)
  clear g1 g2 g3 g4 w1 w2 w3 w4 _w0 _wn
  have kx := Blk.newAt w 25 #[.int .i64 xL, .int .u64 a0, .int .u64 a1, .int .u64 a2, .int .u64 a3] _ rfl
  have hb0 : Below w.heap.size w (w.alloc (.cells #[.int .i64 xL, .int .u64 a0, .int .u64 a1, .int .u64 a2, .int .u64 a3] 25)) := (Below.refl _ _).alloc (Nat.le_refl _) _
  have hs0 := hs.below hb0
  have h0 := h.below hb0
  have HS := Lib.hid hs
  clear hs h
  go_enter Tryd.func3, Tryd.ntmps3
  go_wp2_with fail
  refine (awake8_any _ hs0).mono ?_
  rintro e w1 ⟨rfl, hb1⟩
  have hb2 := hb0.trans (hb1.mono hb0.size)
  have h1 := h0.below hb1
  have kx1 := kx.under hb1
  clear kx hb0 hs0 h0 hb1
  obtain ⟨x0, x1, x2, x3, x4⟩ : w1.cell? ⟨w.heap.size, 0, none⟩ = some (.int .i64 xL) ∧ w1.cell? ⟨w.heap.size, 1, none⟩ = some (.int .u64 a0) ∧ w1.cell? ⟨w.heap.size, 2, none⟩ = some (.int .u64 a1) ∧ w1.cell? ⟨w.heap.size, 3, none⟩ = some (.int .u64 a2) ∧ w1.cell? ⟨w.heap.size, 4, none⟩ = some (.int .u64 a3) := ⟨kx1.cell 0, kx1.cell 1, kx1.cell 2, kx1.cell 3, kx1.cell 4⟩
  have hxl := kx1.lt
  go_wp2_with fail
  refine (hso _).mono ?_
  rintro e w2 ⟨l, b0, b1, s0, s1, hl, hB0, hB1, hS0, hS1, hok, rfl, hb3⟩
  have hg : Good l b0 b1 s0 s1 := ⟨hl, hB0, hB1, hS0, hS1, hok⟩
  have hb4 := hb2.trans (hb3.mono hb2.size)
  have h2 := h1.below hb3
  clear hso kx1 hb2 h1 hb3 x0 x1 x2 x3 x4 hxl hl hB0 hB1 hS0 hS1 hok
  have kt := Blk.newAt w2 30 (TabC l b0 b1 s0 s1) _ rfl
  have hbt : Below w2.heap.size w2 (w2.alloc (.cells (TabC l b0 b1 s0 s1) 30)) := (Below.refl _ _).alloc (Nat.le_refl _) _
  have hb5 := hb4.trans (hbt.mono hb4.size)
  have hfe := few_any l v L _ (h2.below hbt) hL
  clear hb4 h2 hbt hL
  go_wp2_with fail
  refine hfe.mono ?_
  rintro e w3 ⟨vS, rfl, hS, hb6⟩
  have hb7 := hb5.trans (hb6.mono hb5.size)
  have kt4 := kt.under hb6
  clear hfe kt hb5 hb6
  change SetAt w3 vS (fewS l L) at hS
  have hSg := fewS_good l L
  have hSi : ∀ c ∈ fewS l L, (-6 ≤ c.1 ∧ c.1 ≤ 6) ∧ (-6 ≤ c.2.1 ∧ c.2.1 ≤ 6) := fun c hc => (fewS_in hc).2
  have hSl := fewS_len l L
  generalize fewS l L = S at *
  generalize w2.heap.size = T at *
  have hto := told4_any vS S w3 hS (by omega)
  go_wp2_with fail
  refine hto.mono ?_
  rintro e w4 ⟨vW, rfl, hW, hb8⟩
  have hb9 := hb7.trans (hb8.mono hb7.size)
  have kt5 := kt4.under hb8
  have hS5 := hS.below hb8
  clear hto kt4 hb7 hb8 hS
  have hu := i64_and255 n
  have u0 : 0 ≤ n % 256 := by omega
  have u1 : n % 256 ≤ 255 := by omega
  obtain ⟨m, hm⟩ : ∃ m : Nat, n % 256 % 5 = (m : Int) := ⟨(n % 256 % 5).toNat, by omega⟩
  have hm4 : m ≤ 4 := by omega
  go_upto_region 7 with fail
  rw [hm]
  clear hm u0 u1 hu
  obtain ⟨t0, t1, t2, t3, t4⟩ := keepT5 kt5 (Below.refl _ _)
  have hTl := kt5.lt
  have hs1 := fun W hq hW => steps_any l b0 b1 s0 s1 hg vS S m hm4 W hq hW hSg (fun c hc => by have := hSi c hc; omega) (by omega)
  go_wp2_with fail
  refine (hs1 _ (HS.out.below hb9) hS5).mono ?_
  rintro e w5 ⟨vA, R1, rfl, hA, hst1, hl1, hbA⟩
  have hb10 := hb9.trans (hbA.mono hb9.size)
  have kt6 := kt5.under hbA
  have hS6 := hS5.below hbA
  have hW6 := hW.below hbA
  have H1 := Lib.hid hst1
  clear hs1 kt5 hS5 hW hb9 hbA hst1 t0 t1 t2 t3 t4 hTl
  obtain ⟨t0, t1, t2, t3, t4⟩ := keepT5 kt6 (Below.refl _ _)
  have hTl := kt6.lt
  have hs2 := fun W hq hW => step_any l b0 b1 s0 s1 hg vS S W hq hW hSg
  go_wp2_with fail
  refine (hs2 _ (HS.out.below hb10) hS6).mono ?_
  rintro e w6 ⟨vB, R2, rfl, hB, hst2, hl2, hbB⟩
  have hb11 := hb10.trans (hbB.mono hb10.size)
  have kt7 := kt6.under hbB
  have hS7 := hS6.below hbB
  have hW7 := hW6.below hbB
  have hA7 := hA.below hbB
  have H2 := Lib.hid hst2
  clear hs2 kt6 hS6 hW6 hA hb10 hbB hst2 t0 t1 t2 t3 t4 hTl
  obtain ⟨t0, t1, t2, t3, t4⟩ := keepT5 kt7 (Below.refl _ _)
  have hTl := kt7.lt
  have hSw : Wi 6 S := hSi
  have hrs := fun g vX W hk hX => refsteps_any l b0 b1 s0 s1 hg g vX S m hm4 W hk hX hSg.rising hSg.val (by omega) hSw
  have hro := fun g vX W hk hX => refstep_any l b0 b1 s0 s1 hg g vX S W hk hX hSg.rising hSg.val (by omega) (fun c hc => by have := hSi c hc; omega)
  clear hSg hSi hSw
  go_wp2_with fail
  refine (told_any l b0 b1 s0 s1 _).mono ?_
  rintro e w7 ⟨rfl, kT, hbC⟩
  have hb12 := hb11.trans (hbC.mono hb11.size)
  have kt8 := kt7.under hbC
  have hS8 := hS7.below hbC
  have hW8 := hW7.below hbC
  have hA8 := hA7.below hbC
  have hB8 := hB.below hbC
  clear kt7 hS7 hW7 hA7 hB hb11 hbC t0 t1 t2 t3 t4 hTl
  go_wp2_with fail
  refine (hrs _ _ _ kT hW8).mono ?_
  rintro e w8 ⟨vC, R3, rfl, hC, hst3, hl3, hbD⟩
  obtain rfl := StpN.uniq hst3 H1.out
  have hb13 := hb12.trans (hbD.mono hb12.size)
  have kt9 := kt8.under hbD
  have hS9 := hS8.below hbD
  have hW9 := hW8.below hbD
  have hA9 := hA8.below hbD
  have hB9 := hB8.below hbD
  clear kt8 hS8 hW8 hA8 hB8 hb12 hbD kT hrs hst3
  go_wp2_with fail
  refine (are_any vA vC R3 _ hA9 hC (by omega)).mono ?_
  rintro e w9 ⟨rfl, hbE⟩
  have hb14 := hb13.trans (hbE.mono hb13.size)
  have ktA := kt9.under hbE
  have hSA := hS9.below hbE
  have hWA := hW9.below hbE
  have hBA := hB9.below hbE
  clear kt9 hS9 hW9 hA9 hB9 hb13 hbE hC
  obtain ⟨t0, t1, t2, t3, t4⟩ := keepT5 ktA (Below.refl _ _)
  have hTl := ktA.lt
  go_wp2_with fail
  refine (told_any l b0 b1 s0 s1 _).mono ?_
  rintro e wA ⟨rfl, kT, hbF⟩
  have hb15 := hb14.trans (hbF.mono hb14.size)
  have hSB := hSA.below hbF
  have hWB := hWA.below hbF
  have hBB := hBA.below hbF
  clear ktA hSA hWA hBA hb14 hbF t0 t1 t2 t3 t4 hTl
  go_wp2_with fail
  refine (hro _ _ _ kT hWB).mono ?_
  rintro e wB ⟨vD, R4, rfl, hD, hst4, hl4, hbG⟩
  obtain rfl := Stp.uniq hst4 H2.out
  have hb16 := hb15.trans (hbG.mono hb15.size)
  have hSC := hSB.below hbG
  have hWC := hWB.below hbG
  have hBC := hBB.below hbG
  clear hSB hWB hBB hb15 hbG kT hro hst4
  go_wp2_with fail
  refine (are_any vB vD R4 _ hBC hD (by omega)).mono ?_
  rintro e wC ⟨rfl, hbH⟩
  have hb17 := hb16.trans (hbH.mono hb16.size)
  have hSD := hSC.below hbH
  have hWD := hWC.below hbH
  clear hSC hWC hBC hD hb16 hbH
  go_wp2_with fail
  refine (are_any vS vW S _ hSD hWD (by omega)).mono ?_
  rintro e wD ⟨rfl, hbI⟩
  have hb18 := hb17.trans (hbI.mono hb17.size)
  clear hSD hWD hb17 hbI
  go_wp2_with fail
  go_ret
  exact ⟨rfl, hb18⟩
section flatStepsFrame
open Go.ChangeShapes Go.WideShapes Go.ChangeAt Go.RowKit Go.Joins
set_option maxRecDepth 100000 in
theorem flatSteps_contract (H : Type) (enc : TypeId × Value → H) (W : World) (base : Nat) (args : Array Value) (ds gs : List (DataW H)) (before : List MemPlace)
    (hval : ∀ (j : Nat) t v, Tryd.f3.params[j]? = some t → args[j]? = some v → Value.okWide Tryd.prog W .any base t v)
    (hW : DataW.Whole enc Tryd.prog Tryd.f3.params.toList Rows.flatStepsSpec.vars false W args.toList ds gs before) (hL : laidMetH Tryd.prog Rows.flatStepsRow.laid W) :
    Calls Tryd.prog 3 args W fun e W' => ∃ v, e = .returned v ∧ Rows.flatStepsSpec.post enc Tryd.prog Tryd.f3 false true false false W args v W' := by
  have hW' := hW
  obtain ⟨p, q, hA0, hV, rfl, hfz, hnd⟩ := hW
  have hA : DataW.TrodAll enc Tryd.prog W 0 (fun _ => true) true Tryd.f3.params.toList args.toList ds p := hA0
  rw [Tryd.params3] at hA hval
  obtain ⟨v0, vs0, d0, ds0, p0, q0, hargs, rfl, rfl, h0, r0⟩ := trodAll_cons hA
  obtain ⟨v1, vs1, d1, ds1, p1, q1, rfl, rfl, rfl, h1, r1⟩ := trodAll_cons r0
  obtain ⟨v2, vs2, d2, ds2, p2, q2, rfl, rfl, rfl, h2, r2⟩ := trodAll_cons r1
  obtain ⟨rfl, rfl, rfl⟩ := trodAll_nil r2
  obtain rfl : args = #[v0, v1, v2] := by cases args; simp_all
  obtain ⟨rfl, rfl⟩ := trodVars_none hV
  obtain ⟨xL, xB0, xB1, xS0, xS1, rfl, rfl, rfl, w_xL, w_xB0, w_xB1, w_xS0, w_xS1⟩ := open_raw (hval 0 25 v0 rfl rfl) h0
  obtain ⟨L1, hraw1, hlen1⟩ := open_cells (hval 1 26 v1 rfl rfl) h1
  obtain ⟨n, rfl, rfl, rfl, w_n⟩ := open_int Tryd.underlying3 (hval 2 3 v2 rfl rfl) h2
  refine (flatSteps_walk xL w_xL xB0 w_xB0 xB1 w_xB1 xS0 w_xS0 xS1 w_xS1 v1 L1 n w_n W (six_of_laid hL) hraw1 hlen1).mono fun e W' ⟨he, hb⟩ => ?_
  exact ⟨_, he, law_post laidOut rfl rfl Tryd.underlying4 (by kernel_rfl) hW' hb ⟨rfl, rfl, rfl⟩⟩
theorem flatSteps_met (os : Os) : laidMet Tryd.prog Rows.flatStepsRow.laid ((laidWorld os).forCall (fun _ _ => 0) ⟨#[], #[.agg #[.int .i64 0, .int .u64 0, .int .u64 0, .int .u64 0, .int .u64 0], .slice none 0 0, .int .i64 0], []⟩).memory :=
  laidMet_of_run' 8 (by kernel_rfl) (by kernel_rfl)
theorem flatSteps_reads (os : Os) {H : Type} (enc : TypeId × Value → H) : ∃ places, DataW.whole enc Tryd.prog ((laidWorld os).forCall (fun _ _ => 0) ⟨#[], #[.agg #[.int .i64 0, .int .u64 0, .int .u64 0, .int .u64 0, .int .u64 0], .slice none 0 0, .int .i64 0], []⟩).memory Tryd.f3.params.toList Rows.flatStepsSpec.vars false #[(.agg #[.int .i64 0, .int .u64 0, .int .u64 0, .int .u64 0, .int .u64 0] : Value), (.slice none 0 0 : Value), (.int .i64 0 : Value)].toList 8 = some ([.agg [.lit (.int .i64 0), .agg [.lit (.int .u64 0), .lit (.int .u64 0)], .agg [.lit (.int .u64 0), .lit (.int .u64 0)]], .nil, .lit (.int .i64 0)], [], places) :=
  ⟨[], by kernel_rfl⟩
set_option maxRecDepth 100000 in
theorem flatSteps_lifted (os : Os) (started : os.Started) (H : Type) (enc : TypeId × Value → H) (F : Stop.Interp) :
    ReturnsInHanded {} Tryd.checked os 3 .any ((OpenSpec.ofChange Rows.flatStepsSpec).preRow enc Tryd.prog Tryd.f3 Rows.flatStepsRow.domain false Rows.flatStepsRow.laid) (((OpenSpec.ofChange Rows.flatStepsSpec).at F).post enc Tryd.prog Tryd.f3 false true false false) := by
  obtain ⟨places, hx⟩ := flatSteps_reads os enc
  refine returnsInHanded_of_row (C := Tryd.checked) (s := OpenSpec.ofChange Rows.flatStepsSpec) own started (by kernel_rfl) Tryd.func3
    (witness_row_at (enc := enc) (C := Tryd.checked) false (laidWorld os) #[.agg #[.int .i64 0, .int .u64 0, .int .u64 0, .int .u64 0, .int .u64 0], .slice none 0 0, .int .i64 0] rfl (by kernel_rfl) (by kernel_rfl) (by kernel_rfl)
      (OpenSpec.preRow_of_cond 8 hx (by kernel_rfl) (fun k hk => by cases hk) (by kernel_rfl) (flatSteps_met os))) ?_
  intro W base args ds gs before hval hW _ _ _ hL _ _
  exact flatSteps_contract H enc W base args ds gs before hval hW hL
theorem flatSteps_said : Rows.FlatStepsSaid :=
  OpenClaim.holds_of_cond 3 Tryd.f3 rfl rfl rfl rfl rfl rfl rfl ⟨rfl, rfl, rfl, rfl, rfl⟩ rfl rfl rfl rfl rfl (by kernel_rfl) Tryd.func3 (by kernel_rfl)
    (of_decide_eq_true (by kernel_rfl)) (by unfold Func.isWrapper; first | (rw [if_pos (by decide +kernel)]; kernel_rfl) | (rw [if_neg (by decide +kernel)]; exact ⟨rfl, rfl⟩))
    (fun os started H enc _ F => by rw [OpenClaim.pre_eq_preRow]; exact flatSteps_lifted os started H enc F)
theorem flatSteps_plain (f : FuncId) (fn : Func) (hf : Tryd.pinned.checked.prog.funcNamed "honeycomb/honeycomblaw08.FlatSteps" = some f) (hfn : Tryd.pinned.checked.prog.funcs[f]? = some fn) :
    false = Tryd.pinned.checked.prog.looks [] ∧ ∀ (j : Nat) t, fn.params[j]? = some t → Tryd.pinned.checked.prog.wantsStandIn t = false := by
  obtain rfl : f = 3 := Option.some.inj ((show Tryd.prog.funcNamed "honeycomb/honeycomblaw08.FlatSteps" = some 3 by kernel_rfl).symm.trans hf) |>.symm
  obtain rfl : fn = Tryd.f3 := (Option.some.inj (Tryd.func3.symm.trans hfn)).symm
  refine ⟨by kernel_rfl, fun j t ht => ?_⟩
  have hall : (Tryd.f3.params.toList.all fun t => !Tryd.prog.wantsStandIn t) = true := by kernel_rfl
  have hm : t ∈ Tryd.f3.params.toList := by simpa using Array.mem_of_getElem? ht
  have := List.all_eq_true.1 hall t hm
  exact (show Tryd.prog.wantsStandIn t = false by simpa using this)
end flatStepsFrame
/-- FlatSteps: the card: for every input the law answers true. -/
theorem flatSteps_card : Rows.FlatStepsCardSaid :=
  Claim7.holds_tied_plain_at .later [] _ _ _ _ flatSteps_said (fun _ h => by cases h) (by kernel_rfl) (fun _ h => by cases h) flatSteps_row_tie rfl ⟨rfl, rfl⟩ (by kernel_rfl) rfl flatSteps_plain (by kernel_rfl)
end Go.Proofs.YtjongkbjhiblmaaDoor.Fl
namespace Go.Proofs.YtjongkbjhiblmaaDoor
theorem flatSteps_proved : Rows.FlatStepsCardSaid := Fl.flatSteps_card
#print axioms flatSteps_proved
end Go.Proofs.YtjongkbjhiblmaaDoor
