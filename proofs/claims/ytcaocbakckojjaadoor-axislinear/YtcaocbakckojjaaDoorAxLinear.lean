/- AxisLinear: for any two good points whose sum is good an operator brings the sum to the sum of where it brings each. No conditions. -/
import Derived.Test.YtcaocbakckojjaaDoorAxR
import Derived.BigRegion
import Derived.Deep.DeepCutAuto
namespace Go.Proofs.YtcaocbakckojjaaDoor.Ax
open Go.RowKit

theorem six_cases {k : Nat} (h : k < 6) : k = 0 ∨ k = 1 ∨ k = 2 ∨ k = 3 ∨ k = 4 ∨ k = 5 := by omega
theorem op_bd (o a b M : Int) (h0 : 0 ≤ o) (a0 : -M ≤ a) (a1 : a ≤ M) (b0 : -M ≤ b) (b1 : b ≤ M) :
    (-(2 * M) ≤ opA o a b ∧ opA o a b ≤ 2 * M) ∧ (-(2 * M) ≤ opB o a b ∧ opB o a b ≤ 2 * M) := by
  have hk : (o % 6).toNat < 6 := by omega
  unfold opA opB
  rcases six_cases hk with h | h | h | h | h | h <;> rw [h] <;> simp only [tn] <;> split <;> omega
theorem op_add (o a b c d : Int) (h0 : 0 ≤ o) : opA o (a + c) (b + d) = opA o a b + opA o c d ∧ opB o (a + c) (b + d) = opB o a b + opB o c d := by
  have hk : (o % 6).toNat < 6 := by omega
  unfold opA opB
  rcases six_cases hk with h | h | h | h | h | h <;> rw [h] <;> simp only [tn] <;> split <;> omega

theorem and255 (o : Int) : 0 ≤ bits .and .i64 o 255 ∧ bits .and .i64 o 255 ≤ 255 := by
  have h : (BitVec.ofInt 64 o &&& BitVec.ofInt 64 255).toNat ≤ 255 := by
    rw [BitVec.toNat_and]
    exact Nat.le_trans Nat.and_le_right (by decide)
  show 0 ≤ IntKind.i64.wrap ((BitVec.ofInt 64 o &&& BitVec.ofInt 64 255).toNat : Int) ∧ IntKind.i64.wrap ((BitVec.ofInt 64 o &&& BitVec.ofInt 64 255).toNat : Int) ≤ 255
  rw [IntKind.wrap_i64]
  omega
theorem op12 (o : Int) : 0 ≤ (bits .and .i64 o 255).tmod 12 ∧ (bits .and .i64 o 255).tmod 12 < 12 := by
  obtain ⟨h0, h1⟩ := and255 o
  generalize bits .and .i64 o 255 = u at *
  rw [Int.tmod_eq_emod_of_nonneg h0]
  omega
theorem mod38 (a : Int) : -274877906944 < a.tmod 274877906944 ∧ a.tmod 274877906944 < 274877906944 := by
  have h1 := Int.tmod_lt_of_pos a (show (0 : Int) < 274877906944 by decide)
  have h2 := Int.lt_tmod_of_pos a (show (0 : Int) < 274877906944 by decide)
  omega

set_option maxRecDepth 100000 in
set_option maxHeartbeats 1000000 in
theorem axisLinear_walk (o : Int) (wo : (Lit.int .i64 o).wf = true) (pA : Int) (wpA : (Lit.int .i64 pA).wf = true) (pB : Int) (wpB : (Lit.int .i64 pB).wf = true) (qA : Int) (wqA : (Lit.int .i64 qA).wf = true) (qB : Int) (wqB : (Lit.int .i64 qB).wf = true) (w : World) (hs : SixIs w) :
    Calls Tryd.prog 8 #[.int .i64 o, Pt pA pB, Pt qA qB] w fun e w' => e = .returned (.bool true) ∧ Below w.heap.size w w' := by
  go_enter Tryd.func8, Tryd.ntmps8
  go_wp2_with fail
  refine (awake_any _ (hs.below (by go_grown))).mono ?_
  rintro e w1 ⟨rfl, hb⟩
  have bp : Box2 w.heap.size w1 pA pB := box2_below (by simp [Box2, go_sem]) hb
  have bq : Box2 (w.heap.size + 1) w1 qA qB := box2_below (by simp [Box2, go_sem]) hb
  obtain ⟨hc_w1, hf_w1⟩ := bcell hb; have hz_w1 := hb.size; (try simp at hz_w1); have hb_w1 := below_call (B := w.heap.size) (w := w) hb (by go_grown) (by go_size); clear hb
  clear hc_w1 hf_w1
  obtain ⟨p1, p2, p3, p4, p5⟩ := bp
  obtain ⟨q1, q2, q3, q4, q5⟩ := bq
  go_upto_region 4 with fail
  obtain ⟨u0, u1⟩ := op12 o
  obtain ⟨a0, a1⟩ := mod38 pA
  obtain ⟨b0, b1⟩ := mod38 pB
  obtain ⟨c0, c1⟩ := mod38 qA
  obtain ⟨d0, d1⟩ := mod38 qB
  generalize (bits BinOp.and IntKind.i64 o 255).tmod 12 = u at *
  go_cut [] (fun wx => Below w.heap.size w wx ∧ Box2 w.heap.size wx (pA.tmod 274877906944) (pB.tmod 274877906944) ∧ Box2 (w.heap.size + 1) wx (qA.tmod 274877906944) (qB.tmod 274877906944))
  case first =>
    go_region
    go_wp2_with fail
    go_meet
    exact ⟨by go_grown, by simp [Box2, go_sem, *], by simp [Box2, go_sem, *]⟩
  case rest =>
    obtain ⟨hb0, ⟨x1, x2, x3, x4, x5⟩, y1, y2, y3, y4, y5⟩ := hcut
    clear p1 p2 p3 p4 p5 q1 q2 q3 q4 q5 hb_w1 hz_w1
    generalize pA.tmod 274877906944 = a at *
    generalize pB.tmod 274877906944 = b at *
    generalize qA.tmod 274877906944 = c at *
    generalize qB.tmod 274877906944 = d at *
    obtain ⟨⟨e1, e2⟩, e3, e4⟩ := op_bd u a b 274877906944 u0 (by omega) (by omega) (by omega) (by omega)
    obtain ⟨⟨f1, f2⟩, f3, f4⟩ := op_bd u c d 274877906944 u0 (by omega) (by omega) (by omega) (by omega)
    obtain ⟨g1, g2⟩ := op_add u a b c d u0
    have G1 := Lib.hid g1
    have G2 := Lib.hid g2
    clear g1 g2
    go_wp2_with fail
    refine (plus_good _ _ _ _ _ (goodB_iff.2 (by omega)) (goodB_iff.2 (by omega)) (goodB_iff.2 (by omega))).mono ?_
    rintro e w2 ⟨rfl, hb⟩
    obtain ⟨hc_w2, hf_w2⟩ := bcell hb; have hz_w2 := hb.size; (try simp at hz_w2); have hb_w2 := below_call (B := w.heap.size) (w := w) hb (by go_grown) (by go_size); clear hb
    have l20 : w.heap.size < w2.heap.size := by omega
    have l21 : w.heap.size + 1 < w2.heap.size := by omega
    clear hf_w2
    go_wp2_with fail
    refine (on_yes _ _ _ _ u0 u1 (goodB_iff.2 (by omega)) (goodB_iff.2 (by omega))).mono ?_
    rintro e w3 ⟨rfl, hb⟩
    obtain ⟨hc_w3, hf_w3⟩ := bcell hb; have hz_w3 := hb.size; (try simp at hz_w3); have hb_w3 := below_call (B := w.heap.size) (w := w) hb (by go_grown) (by go_size); clear hb
    have l30 : w.heap.size < w3.heap.size := by omega
    have l31 : w.heap.size + 1 < w3.heap.size := by omega
    have l32 : w2.heap.size < w3.heap.size := by omega
    clear hf_w3
    go_wp2_with fail
    refine (on_yes _ _ _ _ u0 u1 (goodB_iff.2 (by omega)) (goodB_iff.2 (by omega))).mono ?_
    rintro e w4 ⟨rfl, hb⟩
    obtain ⟨hc_w4, hf_w4⟩ := bcell hb; have hz_w4 := hb.size; (try simp at hz_w4); have hb_w4 := below_call (B := w.heap.size) (w := w) hb (by go_grown) (by go_size); clear hb
    have l40 : w.heap.size < w4.heap.size := by omega
    have l41 : w.heap.size + 1 < w4.heap.size := by omega
    have l42 : w2.heap.size < w4.heap.size := by omega
    have l43 : w3.heap.size < w4.heap.size := by omega
    clear hf_w4
    go_wp2_with fail
    refine (on_yes _ _ _ _ u0 u1 (goodB_iff.2 (by omega)) (goodB_iff.2 (by rw [G1.out, G2.out]; omega))).mono ?_
    rintro e w5 ⟨rfl, hb⟩
    obtain ⟨hc_w5, hf_w5⟩ := bcell hb; have hz_w5 := hb.size; (try simp at hz_w5); have hb_w5 := below_call (B := w.heap.size) (w := w) hb (by go_grown) (by go_size); clear hb
    have l50 : w.heap.size < w5.heap.size := by omega
    have l51 : w.heap.size + 1 < w5.heap.size := by omega
    have l52 : w2.heap.size < w5.heap.size := by omega
    have l53 : w3.heap.size < w5.heap.size := by omega
    have l54 : w4.heap.size < w5.heap.size := by omega
    clear hf_w5
    rw [G1.out, G2.out]
    generalize opA u a b = m1 at *
    generalize opB u a b = m2 at *
    generalize opA u c d = m3 at *
    generalize opB u c d = m4 at *
    go_wp2_with fail
    refine (plus_good _ _ _ _ _ (goodB_iff.2 (by omega)) (goodB_iff.2 (by omega)) (goodB_iff.2 (by omega))).mono ?_
    rintro e w6 ⟨rfl, hb⟩
    obtain ⟨hc_w6, hf_w6⟩ := bcell hb; have hz_w6 := hb.size; (try simp at hz_w6); have hb_w6 := below_call (B := w.heap.size) (w := w) hb (by go_grown) (by go_size); clear hb
    have l60 : w.heap.size < w6.heap.size := by omega
    have l61 : w.heap.size + 1 < w6.heap.size := by omega
    have l62 : w2.heap.size < w6.heap.size := by omega
    have l63 : w3.heap.size < w6.heap.size := by omega
    have l64 : w4.heap.size < w6.heap.size := by omega
    have l65 : w5.heap.size < w6.heap.size := by omega
    clear hf_w6
    go_wp2
    go_ret
    exact ⟨rfl, by go_grown⟩

section axisLinearFrame
open Go.ChangeShapes Go.WideShapes Go.ChangeAt Go.RowKit Go.Joins
theorem axisLinear_contract (H : Type) (enc : TypeId × Value → H) (W : World) (base : Nat) (args : Array Value) (ds gs : List (DataW H)) (before : List MemPlace)
    (hval : ∀ (j : Nat) t v, Tryd.f8.params[j]? = some t → args[j]? = some v → Value.okWide Tryd.prog W .any base t v)
    (hW : DataW.Whole enc Tryd.prog Tryd.f8.params.toList Rows.axisLinearSpec.vars false W args.toList ds gs before) (hL : laidMetH Tryd.prog Rows.axisLinearRow.laid W) :
    Calls Tryd.prog 8 args W fun e W' => ∃ v, e = .returned v ∧ Rows.axisLinearSpec.post enc Tryd.prog Tryd.f8 false true false false W args v W' := by
  have hW' := hW
  obtain ⟨p, q, hA0, hV, rfl, hfz, hnd⟩ := hW
  have hA : DataW.TrodAll enc Tryd.prog W 0 (fun _ => true) true Tryd.f8.params.toList args.toList ds p := hA0
  rw [Tryd.params8] at hA hval
  obtain ⟨v0, vs0, d0, ds0, p0, q0, hargs, rfl, rfl, h0, r0⟩ := trodAll_cons hA
  obtain ⟨v1, vs1, d1, ds1, p1, q1, rfl, rfl, rfl, h1, r1⟩ := trodAll_cons r0
  obtain ⟨v2, vs2, d2, ds2, p2, q2, rfl, rfl, rfl, h2, r2⟩ := trodAll_cons r1
  obtain ⟨rfl, rfl, rfl⟩ := trodAll_nil r2
  obtain rfl : args = #[v0, v1, v2] := by cases args; simp_all
  obtain ⟨rfl, rfl⟩ := trodVars_none hV
  obtain ⟨o, rfl, rfl, rfl, w_o⟩ := open_int Tryd.underlying3 (hval 0 3 v0 rfl rfl) h0
  obtain ⟨c10, c11, y10, y11, m1, rfl, rfl, rfl, hy10, hy11⟩ := open_agg2 Tryd.underlying27 (by kernel_rfl) cellsPt (hval 1 27 v1 rfl rfl) h1
  obtain ⟨pA, e10, rfl, w_pA⟩ := DataW.trod_int Tryd.underlying2 hy10
  simp at e10; subst e10
  obtain ⟨pB, e11, rfl, w_pB⟩ := DataW.trod_int Tryd.underlying2 hy11
  simp at e11; subst e11
  obtain ⟨c20, c21, y20, y21, m2, rfl, rfl, rfl, hy20, hy21⟩ := open_agg2 Tryd.underlying27 (by kernel_rfl) cellsPt (hval 2 27 v2 rfl rfl) h2
  obtain ⟨qA, e20, rfl, w_qA⟩ := DataW.trod_int Tryd.underlying2 hy20
  simp at e20; subst e20
  obtain ⟨qB, e21, rfl, w_qB⟩ := DataW.trod_int Tryd.underlying2 hy21
  simp at e21; subst e21
  refine (axisLinear_walk o w_o pA w_pA pB w_pB qA w_qA qB w_qB W (six_of_laid hL)).mono fun e W' ⟨he, hb⟩ => ?_
  exact ⟨_, he, law_post laidOut rfl rfl Tryd.underlying4 (by kernel_rfl) hW' hb ⟨rfl, rfl, rfl⟩⟩
theorem axisLinear_met (os : Os) : laidMet Tryd.prog Rows.axisLinearRow.laid ((laidWorld os).forCall (fun _ _ => 0) ⟨#[], #[.int .i64 0, .agg #[.int .i64 0, .int .i64 0], .agg #[.int .i64 0, .int .i64 0]], []⟩).memory :=
  laidMet_of_run' 8 (by kernel_rfl) (by kernel_rfl)
theorem axisLinear_reads (os : Os) {H : Type} (enc : TypeId × Value → H) : ∃ places, DataW.whole enc Tryd.prog ((laidWorld os).forCall (fun _ _ => 0) ⟨#[], #[.int .i64 0, .agg #[.int .i64 0, .int .i64 0], .agg #[.int .i64 0, .int .i64 0]], []⟩).memory Tryd.f8.params.toList Rows.axisLinearSpec.vars false #[(.int .i64 0 : Value), (.agg #[.int .i64 0, .int .i64 0] : Value), (.agg #[.int .i64 0, .int .i64 0] : Value)].toList 8 = some ([.lit (.int .i64 0), .agg [.lit (.int .i64 0), .lit (.int .i64 0)], .agg [.lit (.int .i64 0), .lit (.int .i64 0)]], [], places) :=
  ⟨[], by kernel_rfl⟩
set_option maxRecDepth 100000 in
theorem axisLinear_lifted (os : Os) (started : os.Started) (H : Type) (enc : TypeId × Value → H) (F : Stop.Interp) :
    ReturnsInHanded {} Tryd.checked os 8 .any ((OpenSpec.ofChange Rows.axisLinearSpec).preRow enc Tryd.prog Tryd.f8 Rows.axisLinearRow.domain false Rows.axisLinearRow.laid) (((OpenSpec.ofChange Rows.axisLinearSpec).at F).post enc Tryd.prog Tryd.f8 false true false false) := by
  obtain ⟨places, hx⟩ := axisLinear_reads os enc
  refine returnsInHanded_of_row (C := Tryd.checked) (s := OpenSpec.ofChange Rows.axisLinearSpec) own started (by kernel_rfl) Tryd.func8
    (witness_row_at (enc := enc) (C := Tryd.checked) false (laidWorld os) #[.int .i64 0, .agg #[.int .i64 0, .int .i64 0], .agg #[.int .i64 0, .int .i64 0]] rfl (by kernel_rfl) (by kernel_rfl) (by kernel_rfl)
      (OpenSpec.preRow_of_cond 8 hx (by kernel_rfl) (fun k hk => by cases hk) (by kernel_rfl) (axisLinear_met os))) ?_
  intro W base args ds gs before hval hW _ _ _ hL _ _
  exact axisLinear_contract H enc W base args ds gs before hval hW hL
theorem axisLinear_said : Rows.AxisLinearSaid :=
  OpenClaim.holds_of_cond 8 Tryd.f8 rfl rfl rfl rfl rfl rfl rfl ⟨rfl, rfl, rfl, rfl, rfl⟩ rfl rfl rfl rfl rfl (by kernel_rfl) Tryd.func8 (by kernel_rfl)
    (of_decide_eq_true (by kernel_rfl)) (by unfold Func.isWrapper; first | (rw [if_pos (by decide +kernel)]; kernel_rfl) | (rw [if_neg (by decide +kernel)]; exact ⟨rfl, rfl⟩))
    (fun os started H enc _ F => by rw [OpenClaim.pre_eq_preRow]; exact axisLinear_lifted os started H enc F)
theorem axisLinear_plain (f : FuncId) (fn : Func) (hf : Tryd.pinned.checked.prog.funcNamed "honeycomb/honeycomblaw01.AxisLinear" = some f) (hfn : Tryd.pinned.checked.prog.funcs[f]? = some fn) :
    true = Tryd.pinned.checked.prog.looks [] ∧ ∀ (j : Nat) t, fn.params[j]? = some t → Tryd.pinned.checked.prog.wantsStandIn t = false := by
  obtain rfl : f = 8 := Option.some.inj ((show Tryd.prog.funcNamed "honeycomb/honeycomblaw01.AxisLinear" = some 8 by kernel_rfl).symm.trans hf) |>.symm
  obtain rfl : fn = Tryd.f8 := (Option.some.inj (Tryd.func8.symm.trans hfn)).symm
  refine ⟨by kernel_rfl, fun j t ht => ?_⟩
  have hall : (Tryd.f8.params.toList.all fun t => !Tryd.prog.wantsStandIn t) = true := by kernel_rfl
  have hm : t ∈ Tryd.f8.params.toList := by simpa using Array.mem_of_getElem? ht
  have := List.all_eq_true.1 hall t hm
  exact (show Tryd.prog.wantsStandIn t = false by simpa using this)
end axisLinearFrame
/-- AxisLinear: the card: for every input the law answers true. -/
theorem axisLinear_card : Rows.AxisLinearCardSaid :=
  Claim7.holds_tied_plain_at .later [] _ _ _ _ axisLinear_said (fun _ h => by cases h) (by kernel_rfl) (fun _ h => by cases h) axisLinear_row_tie rfl ⟨rfl, rfl⟩ (by kernel_rfl) rfl axisLinear_plain (by kernel_rfl)
end Go.Proofs.YtcaocbakckojjaaDoor.Ax
namespace Go.Proofs.YtcaocbakckojjaaDoor
theorem axisLinear_proved : Rows.AxisLinearCardSaid := Ax.axisLinear_card
#print axioms axisLinear_proved
end Go.Proofs.YtcaocbakckojjaaDoor
