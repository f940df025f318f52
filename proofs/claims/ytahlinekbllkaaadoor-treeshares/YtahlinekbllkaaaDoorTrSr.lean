/-
  TreeShares: for any two lists of cells it answers true: the sets of both, built in one arena, are there with their cells, the same roots when built again, without a node more, and one root just where they are one set.
  Conditions: the listed table (math/bits.deBruijn32tab) reads as the card says.
-/
import Derived.Test.YtahlinekbllkaaaDoorTrK2
import Derived.Test.YtahlinekbllkaaaDoorTrK3
import Derived.Test.YtahlinekbllkaaaDoorTrW14
import Derived.Test.YtahlinekbllkaaaDoorTrU
import Derived.Test.YtahlinekbllkaaaDoorSeA2
import Derived.Test.YtahlinekbllkaaaDoorBsT
import Derived.Deep.DeepHandedRow
import Derived.Lib.SmallJoins
namespace Go.Proofs.YtahlinekbllkaaaDoor.Tr
open Go.RowKit Go.Proofs.YtahlinekbllkaaaDoor.Ba Go.Proofs.YtahlinekbllkaaaDoor.Ar Go.Lib
open Go.Proofs.YtahlinekbllkaaaDoor.Si (DebIs)
open Go.Proofs.YtahlinekbllkaaaDoor.Se (RawAt SetAt ofL own4_any set_of_own are_gen rising_ofL Rising boxL)

set_option maxRecDepth 100000 in
set_option maxHeartbeats 2000000 in
theorem treeShares_walk (v0 : Value) (L0 : List C) (v1 : Value) (L1 : List C) (w : World) (hD : DebIs w) (h0 : RawAt w v0 L0) (hL0 : L0.length ≤ maxLen) (h1 : RawAt w v1 L1) (hL1 : L1.length ≤ maxLen) :
    Calls Tryd.prog 3 #[v0, v1] w fun e w' => e = .returned (.bool true) ∧ Below w.heap.size w w' := by
  have HD := Lib.hid hD
  have HR0 := Lib.hid h0
  have HR1 := Lib.hid h1
  have HL0 := Lib.hid hL0
  have HL1 := Lib.hid hL1
  clear hD h0 h1 hL0 hL1
  go_enter Tryd.func3, Tryd.ntmps3
  go_wp2_with fail
  refine (awake_any _).mono ?_
  rintro e w1 ⟨rfl, hb1⟩
  have HB1 := Lib.hid hb1
  have hwi := wide_any v0 L0 w1 (HR0.out.below hb1) HL0.out
  clear hb1
  go_wp2_with fail
  refine hwi.mono ?_
  rintro e w2 ⟨vs, rfl, hs2, hb2⟩
  have HB2 := Lib.hid (HB1.out.trans (hb2.mono HB1.out.size))
  have hwj := wide_any v1 L1 w2 (HR1.out.below HB2.out) HL1.out
  clear hwi hb2
  go_wp2_with fail
  refine hwj.mono ?_
  rintro e w3 ⟨vt, rfl, ht3, hb3⟩
  have HB3 := Lib.hid (HB2.out.trans (hb3.mono HB2.out.size))
  have hs3 := hs2.below hb3
  have HS := Lib.hid hs3
  have HT := Lib.hid ht3
  have HKi : Hid (∀ c ∈ wideS L0, (-2199023255552 < c.1 ∧ c.1 < 2199023255552) ∧ (-2199023255552 < c.2.1 ∧ c.2.1 < 2199023255552) ∧ (c.2.2 = 0 ∨ c.2.2 = 1)) := Lib.hid fun c hc => wide_in hc
  have HMi : Hid (∀ c ∈ wideS L1, (-2199023255552 < c.1 ∧ c.1 < 2199023255552) ∧ (-2199023255552 < c.2.1 ∧ c.2.1 < 2199023255552) ∧ (c.2.2 = 0 ∨ c.2.2 = 1)) := Lib.hid fun c hc => wide_in hc
  have hKl := wide_len L0
  have hMl := wide_len L1
  have HKr : Hid (Rising (wideS L0)) := Lib.hid (rising_ofL _)
  have HMr : Hid (Rising (wideS L1)) := Lib.hid (rising_ofL _)
  clear hwj hb3 hs2 hs3 ht3
  generalize wideS L0 = K at *
  generalize wideS L1 = M at *
  have hmk := make_any vs K w3 (set_raw HS.out) (fun c hc => ins44 (by have := HKi.out c hc; omega) (by have := HKi.out c hc; omega)) (fun c hc => (HKi.out c hc).2.2) (by omega)
  go_wp2_with fail
  refine hmk.mono ?_
  rintro e w4 ⟨x, d, S1, rfl, hB1, hA4, hb4⟩
  obtain ⟨h, hh⟩ : ∃ h, w3.heap.size = h := ⟨_, rfl⟩
  rw [hh] at hA4 hb4 ⊢
  have HH := Lib.hid hh
  have HC4 := Lib.hid hb4
  have hz0 : ne (newS 1048576).N = 0 := by decide
  have hm1 : 800000 ≤ S1.more := by rw [hB1.ext.more]; decide
  have hn1 := hB1.len
  rw [hz0] at hn1
  have HRx : Hid (Rt S1 d x K) := Lib.hid (Rt.of hB1 HKr.out)
  have HLx : Hid (Lst (boxL K) (d + 2)) := Lib.hid hB1.lv
  have hd1 := hB1.pos
  have hd2 : d ≤ 42 := by have := hB1.lv.hi; omega
  have hsz4 : h ≤ w4.heap.size := by have := hb4.size; omega
  have hot := own4_any vt M w4 (set_raw (HT.out.below (by rw [HH.out]; exact hb4))) (by unfold maxLen; omega)
  rw [List.take_of_length_le (by omega)] at hot
  clear hmk hB1 hb4 hz0 hh
  go_wp2_with fail
  refine hot.mono ?_
  rintro e w5 ⟨u, rfl, hu, hb5⟩
  have HC5 := Lib.hid (HC4.out.trans (hb5.mono hsz4))
  have hA5 := hA4.under hb5
  have hsz5 : h ≤ w5.heap.size := Nat.le_trans hsz4 hb5.size
  have hbu := build_top u M h S1 (fun k => h ≤ k) w5 (set_of_own hu) (fun c hc => ins44 (by have := HMi.out c hc; omega) (by have := HMi.out c hc; omega)) (fun c hc => (HMi.out c hc).2.2) (by omega) hA5 (fun k hk => Nat.le_trans hsz5 hk) HRx.out.tw (by omega)
  clear hot hu hb5 hA4 hA5
  go_wp2_with fail
  refine hbu.mono ?_
  rintro e w6 ⟨y, er, S2, d2, rfl, hB2, hA6, ho6⟩
  obtain rfl : er = none := bt_room hB2 (by omega) hm1
  have HC6 := Lib.hid (HC5.out.trans (ho6.below hsz5 (fun b hb => hb)))
  have hn2 := hB2.len
  have HRx2 : Hid (Rt S2 d x K) := Lib.hid (HRx.out.ext hB2.ext)
  have HRy : Hid (Rt S2 d2 y M) := Lib.hid (Rt.of hB2 HMr.out)
  have HLy : Hid (Lst (boxL M) (d2 + 2)) := Lib.hid hB2.lv
  have he1 := hB2.pos
  have he2 : d2 ≤ 42 := by have := hB2.lv.hi; omega
  have hN2 := bt_le hB2
  have hsz6 : h ≤ w6.heap.size := Nat.le_trans hsz5 ho6.size
  have hos := own4_any vs K w6 (set_raw (HS.out.below (by rw [HH.out]; exact HC6.out))) (by unfold maxLen; omega)
  rw [List.take_of_length_le (by omega)] at hos
  clear hbu hB2 ho6 HRx
  unfold errV
  go_wp2_with fail
  refine hos.mono ?_
  rintro e w7 ⟨u7, rfl, hu, hb7⟩
  have HC7 := Lib.hid (HC6.out.trans (hb7.mono hsz6))
  have hA7 := hA6.under hb7
  have hsz7 : h ≤ w7.heap.size := Nat.le_trans hsz6 hb7.size
  have hbu := build_top u7 K h S2 (fun k => h ≤ k) w7 (set_of_own hu) (fun c hc => ins44 (by have := HKi.out c hc; omega) (by have := HKi.out c hc; omega)) (fun c hc => (HKi.out c hc).2.2) (by omega) hA7 (fun k hk => Nat.le_trans hsz7 hk) HRx2.out.tw (by omega)
  clear hos hu hb7 hA6 hA7
  go_wp2_with fail
  refine hbu.mono ?_
  rintro e w8 ⟨z, er, S3, d3, rfl, hB3, hA8, ho8⟩
  obtain ⟨rfl, rfl, rfl, rfl⟩ := bt_same HRx2.out HLx.out hB3
  have HC8 := Lib.hid (HC7.out.trans (ho8.below hsz7 (fun b hb => hb)))
  have hsz8 : h ≤ w8.heap.size := Nat.le_trans hsz7 ho8.size
  have hln := fun W hW => Ar.len_any h S2 (fun k => h ≤ k) W hW (by omega)
  generalize ((S2.N.length + 1 : Nat) : Int) = len at *
  have hot := own4_any vt M w8 (set_raw (HT.out.below (by rw [HH.out]; exact HC8.out))) (by unfold maxLen; omega)
  rw [List.take_of_length_le (by omega)] at hot
  clear hbu hB3 ho8
  unfold errV
  go_wp2_with fail
  refine (hln _ hA8).mono ?_
  rintro e w' ⟨rfl, rfl⟩
  go_wp2_with fail
  refine hot.mono ?_
  rintro e w9 ⟨u9, rfl, hu, hb9⟩
  have HC9 := Lib.hid (HC8.out.trans (hb9.mono hsz8))
  have hA9 := hA8.under hb9
  have hsz9 : h ≤ w9.heap.size := Nat.le_trans hsz8 hb9.size
  have hbu := build_top u9 M h S2 (fun k => h ≤ k) w9 (set_of_own hu) (fun c hc => ins44 (by have := HMi.out c hc; omega) (by have := HMi.out c hc; omega)) (fun c hc => (HMi.out c hc).2.2) (by omega) hA9 (fun k hk => Nat.le_trans hsz9 hk) HRx2.out.tw (by omega)
  clear hot hu hb9 hA8 hA9
  go_wp2_with fail
  refine hbu.mono ?_
  rintro e wA ⟨z, er, S4, d4, rfl, hB4, hAA, hoA⟩
  obtain ⟨rfl, rfl, rfl, rfl⟩ := bt_same HRy.out HLy.out hB4
  have HCA := Lib.hid (HC9.out.trans (hoA.below hsz9 (fun b hb => hb)))
  have hszA : h ≤ wA.heap.size := Nat.le_trans hsz9 hoA.size
  have HDA := Lib.hid (HD.out.below (HB3.out.trans ((show Below w3.heap.size w3 wA by rw [HH.out]; exact HCA.out).mono HB3.out.size)))
  have hcx := cells_root h x d 100 S2 _ wA hAA HRx2.out.lv hd1 hd2 HRx2.out.tw (by omega) HDA.out (by decide) (by decide) (by have := HRx2.out.count; omega) (by have := HRx2.out.len; omega)
  rw [HRx2.out.ofL] at hcx
  have hcy := fun W hW hDW => cells_root h y d2 100 S2 (fun k => h ≤ k) W hW HRy.out.lv he1 he2 HRy.out.tw (by omega) hDW (by decide) (by decide) (by have := HRy.out.count; omega) (by have := HRy.out.len; omega)
  rw [HRy.out.ofL] at hcy
  clear hbu hB4 hoA
  unfold errV
  go_wp2_with fail
  refine hcx.mono ?_
  rintro e wB ⟨one, rfl, hs1, hbB⟩
  have HCB := Lib.hid (HCA.out.trans (hbB.mono hszA))
  have hAB := hAA.under hbB
  have hszB : h ≤ wB.heap.size := Nat.le_trans hszA hbB.size
  have hDB := HDA.out.below hbB
  clear hcx hbB hAA
  go_wp2_with fail
  refine (hcy _ hAB hDB).mono ?_
  rintro e wC ⟨two, rfl, hs2, hbC⟩
  have HCC := Lib.hid (HCB.out.trans (hbC.mono hszB))
  have hAC := hAB.under hbC
  have HS1 := Lib.hid (hs1.below hbC)
  have HS2 := Lib.hid hs2
  have hszC : h ≤ wC.heap.size := Nat.le_trans hszB hbC.size
  clear hcy hbC hAB hDB hs1 hs2
  go_wp2_with fail
  refine (hln _ hAC).mono ?_
  rintro e w' ⟨rfl, rfl⟩
  have hos := own4_any vs K wC (set_raw (HS.out.below (by rw [HH.out]; exact HCC.out))) (by unfold maxLen; omega)
  rw [List.take_of_length_le (by omega)] at hos
  clear hln hAC
  go_wp2_with fail
  refine hos.mono ?_
  rintro e wD ⟨uD, rfl, hu, hbD⟩
  have HCD := Lib.hid (HCC.out.trans (hbD.mono hszC))
  have hszD : h ≤ wD.heap.size := Nat.le_trans hszC hbD.size
  have hsD := set_of_own hu
  have hgn := are_gen uD vt K M wD hsD (HT.out.below (by rw [HH.out]; exact HCD.out)) (by omega) (by omega)
  have HS1D := Lib.hid (HS1.out.below hbD)
  have HS2D := Lib.hid (HS2.out.below hbD)
  have HEq := Lib.hid (rt_eq HRx2.out HRy.out HLx.out HLy.out)
  clear hos hu hbD hsD
  have hall : ∀ wE, Below wD.heap.size wD wE → Calls Tryd.prog 11 #[one, vs] wE fun e w' => e = .returned (.int .i64 0) ∧ Below wE.heap.size wE w' := fun wE hb => by
    have := are_gen one vs K K wE (HS1D.out.below hb) (HS.out.below (by rw [HH.out]; exact HCD.out.trans (hb.mono hszD))) (by omega) (by omega)
    rwa [if_pos rfl] at this
  have hall2 : ∀ wE, Below wD.heap.size wD wE → Calls Tryd.prog 11 #[two, vt] wE fun e w' => e = .returned (.int .i64 0) ∧ Below wE.heap.size wE w' := fun wE hb => by
    have := are_gen two vt M M wE (HS2D.out.below hb) (HT.out.below (by rw [HH.out]; exact HCD.out.trans (hb.mono hszD))) (by omega) (by omega)
    rwa [if_pos rfl] at this
  have hfin : ∀ wE, Below wD.heap.size wD wE → Below w.heap.size w wE := fun wE hb => HB3.out.trans ((show Below w3.heap.size w3 wE by rw [HH.out]; exact HCD.out.trans (hb.mono hszD)).mono HB3.out.size)
  have HAl := Lib.hid hall
  have HAl2 := Lib.hid hall2
  have HFi := Lib.hid hfin
  clear hall hall2 hfin
  by_cases hKM : K = M
  · have hxy := HEq.out.2 hKM
    rw [if_pos hKM] at hgn
    clear hKM HEq
    subst hxy
    go_wp2_with fail
    refine hgn.mono ?_
    rintro e wE ⟨rfl, hbE⟩
    have h1 := HAl.out _ hbE
    clear hgn
    go_wp2_with fail
    refine h1.mono ?_
    rintro e wF ⟨rfl, hbF⟩
    have hbF' := hbE.trans (hbF.mono hbE.size)
    have h2 := HAl2.out _ hbF'
    clear h1 hbF hbE
    go_wp2_with fail
    refine h2.mono ?_
    rintro e wG ⟨rfl, hbG⟩
    have HZ := Lib.hid (HFi.out _ (hbF'.trans (hbG.mono hbF'.size)))
    clear h2 hbG hbF'
    go_wp2_with fail
    go_ret
    exact ⟨rfl, HZ.out⟩
  · have hxy : ((x : Int) == (y : Int)) = false := by
      rw [beq_eq_false_iff_ne]
      intro e
      exact hKM (HEq.out.1 (by omega))
    have hxy2 : ¬ x = y := fun e => hKM (HEq.out.1 e)
    rw [if_neg hKM] at hgn
    clear hKM HEq
    go_wp2_with fail
    refine hgn.mono ?_
    rintro e wE ⟨rfl, hbE⟩
    have h1 := HAl.out _ hbE
    clear hgn
    go_wp2_with fail
    refine h1.mono ?_
    rintro e wF ⟨rfl, hbF⟩
    have hbF' := hbE.trans (hbF.mono hbE.size)
    have h2 := HAl2.out _ hbF'
    clear h1 hbF hbE
    go_wp2_with fail
    refine h2.mono ?_
    rintro e wG ⟨rfl, hbG⟩
    have HZ := Lib.hid (HFi.out _ (hbF'.trans (hbG.mono hbF'.size)))
    clear h2 hbG hbF'
    go_wp2_with fail
    go_ret
    exact ⟨rfl, HZ.out⟩
open Go.Proofs.YtahlinekbllkaaaDoor.Si Go.Proofs.YtahlinekbllkaaaDoor.Se
section treeSharesFrame
open Go.ChangeShapes Go.WideShapes Go.ChangeAt Go.RowKit Go.Joins
set_option maxRecDepth 100000 in
theorem treeShares_contract (H : Type) (enc : TypeId × Value → H) (W : World) (base : Nat) (args : Array Value) (ds gs : List (DataW H)) (before : List MemPlace)
    (hval : ∀ (j : Nat) t v, Tryd.f3.params[j]? = some t → args[j]? = some v → Value.okWide Tryd.prog W .any base t v)
    (hW : DataW.Whole enc Tryd.prog Tryd.f3.params.toList Rows.treeSharesSpec.vars false W args.toList ds gs before) (hL : laidMetH Tryd.prog Rows.treeSharesRow.laid W) :
    Calls Tryd.prog 3 args W fun e W' => ∃ v, e = .returned v ∧ Rows.treeSharesSpec.post enc Tryd.prog Tryd.f3 false true false false W args v W' := by
  have hW' := hW
  obtain ⟨p, q, hA0, hV, rfl, hfz, hnd⟩ := hW
  have hA : DataW.TrodAll enc Tryd.prog W 0 (fun _ => true) true Tryd.f3.params.toList args.toList ds p := hA0
  rw [Tryd.params3] at hA hval
  obtain ⟨v0, vs0, d0, ds0, p0, q0, hargs, rfl, rfl, h0, r0⟩ := trodAll_cons hA
  obtain ⟨v1, vs1, d1, ds1, p1, q1, rfl, rfl, rfl, h1, r1⟩ := trodAll_cons r0
  obtain ⟨rfl, rfl, rfl⟩ := trodAll_nil r1
  obtain rfl : args = #[v0, v1] := by cases args; simp_all
  obtain ⟨rfl, rfl⟩ := trodVars_none hV
  obtain ⟨L0, hraw0, hlen0⟩ := open_cells (hval 0 22 v0 rfl rfl) h0
  obtain ⟨L1, hraw1, hlen1⟩ := open_cells (hval 1 22 v1 rfl rfl) h1
  refine (treeShares_walk v0 L0 v1 L1 W (deb_of_laid hL) hraw0 hlen0 hraw1 hlen1).mono fun e W' ⟨he, hb⟩ => ?_
  exact ⟨_, he, law_post laidOut rfl rfl Tryd.underlying4 (by kernel_rfl) hW' hb ⟨rfl, rfl, rfl⟩⟩
theorem treeShares_met (os : Os) : laidMet Tryd.prog Rows.treeSharesRow.laid ((laidWorldT os).forCall (fun _ _ => 0) ⟨#[], #[.slice none 0 0, .slice none 0 0], []⟩).memory :=
  laidMet_of_run' 8 (by kernel_rfl) (by kernel_rfl)
theorem treeShares_reads (os : Os) {H : Type} (enc : TypeId × Value → H) : ∃ places, DataW.whole enc Tryd.prog ((laidWorldT os).forCall (fun _ _ => 0) ⟨#[], #[.slice none 0 0, .slice none 0 0], []⟩).memory Tryd.f3.params.toList Rows.treeSharesSpec.vars false #[(.slice none 0 0 : Value), (.slice none 0 0 : Value)].toList 8 = some ([.nil, .nil], [], places) :=
  ⟨[], by kernel_rfl⟩
set_option maxRecDepth 100000 in
theorem treeShares_lifted (os : Os) (started : os.Started) (H : Type) (enc : TypeId × Value → H) (F : Stop.Interp) :
    ReturnsInHanded {} Tryd.checked os 3 .any ((OpenSpec.ofChange Rows.treeSharesSpec).preRow enc Tryd.prog Tryd.f3 Rows.treeSharesRow.domain false Rows.treeSharesRow.laid) (((OpenSpec.ofChange Rows.treeSharesSpec).at F).post enc Tryd.prog Tryd.f3 false true false false) := by
  obtain ⟨places, hx⟩ := treeShares_reads os enc
  refine returnsInHanded_of_row (C := Tryd.checked) (s := OpenSpec.ofChange Rows.treeSharesSpec) own started (by kernel_rfl) Tryd.func3
    (witness_row_at (enc := enc) (C := Tryd.checked) false (laidWorldT os) #[.slice none 0 0, .slice none 0 0] rfl (by kernel_rfl) (by kernel_rfl) (by kernel_rfl)
      (OpenSpec.preRow_of_cond 8 hx (by kernel_rfl) (fun k hk => by cases hk) (by kernel_rfl) (treeShares_met os))) ?_
  intro W base args ds gs before hval hW _ _ _ hL _ _
  exact treeShares_contract H enc W base args ds gs before hval hW hL
theorem treeShares_said : Rows.TreeSharesSaid :=
  OpenClaim.holds_of_cond 3 Tryd.f3 rfl rfl rfl rfl rfl rfl rfl ⟨rfl, rfl, rfl, rfl, rfl⟩ rfl rfl rfl rfl rfl (by kernel_rfl) Tryd.func3 (by kernel_rfl)
    (of_decide_eq_true (by kernel_rfl)) (by unfold Func.isWrapper; first | (rw [if_pos (by decide +kernel)]; kernel_rfl) | (rw [if_neg (by decide +kernel)]; exact ⟨rfl, rfl⟩))
    (fun os started H enc _ F => by rw [OpenClaim.pre_eq_preRow]; exact treeShares_lifted os started H enc F)
theorem treeShares_plain (f : FuncId) (fn : Func) (hf : Tryd.pinned.checked.prog.funcNamed "honeycomb/honeycomblaw13.TreeShares" = some f) (hfn : Tryd.pinned.checked.prog.funcs[f]? = some fn) :
    false = Tryd.pinned.checked.prog.looks [] ∧ ∀ (j : Nat) t, fn.params[j]? = some t → Tryd.pinned.checked.prog.wantsStandIn t = false := by
  obtain rfl : f = 3 := Option.some.inj ((show Tryd.prog.funcNamed "honeycomb/honeycomblaw13.TreeShares" = some 3 by kernel_rfl).symm.trans hf) |>.symm
  obtain rfl : fn = Tryd.f3 := (Option.some.inj (Tryd.func3.symm.trans hfn)).symm
  refine ⟨by kernel_rfl, fun j t ht => ?_⟩
  have hall : (Tryd.f3.params.toList.all fun t => !Tryd.prog.wantsStandIn t) = true := by kernel_rfl
  have hm : t ∈ Tryd.f3.params.toList := by simpa using Array.mem_of_getElem? ht
  have := List.all_eq_true.1 hall t hm
  exact (show Tryd.prog.wantsStandIn t = false by simpa using this)
end treeSharesFrame
/-- TreeShares: the card: for every input the law answers true. -/
theorem treeShares_card : Rows.TreeSharesCardSaid :=
  Claim7.holds_tied_plain_at .later [] _ _ _ _ treeShares_said (fun _ h => by cases h) (by kernel_rfl) (fun _ h => by cases h) treeShares_row_tie rfl ⟨rfl, rfl⟩ (by kernel_rfl) rfl treeShares_plain (by kernel_rfl)
end Go.Proofs.YtahlinekbllkaaaDoor.Tr
namespace Go.Proofs.YtahlinekbllkaaaDoor
theorem treeShares_proved : Rows.TreeSharesCardSaid := Tr.treeShares_card
#print axioms treeShares_proved
end Go.Proofs.YtahlinekbllkaaaDoor
