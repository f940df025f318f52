/- AxisOrder: of any three points: Less is an order, and a shift of two keeps which is ahead. No conditions. -/
import Derived.Test.YtcaocbakckojjaaDoorAxR
import Derived.BigRegion
import Derived.Deep.RegionHeld3
namespace Go.Proofs.YtcaocbakckojjaaDoor.Ax
open Go.RowKit

theorem less_self (a b : Int) : lessB a b a b = false := by unfold lessB; simp
theorem less_sum (a b c d x y : Int) : lessB (a + x) (b + y) (c + x) (d + y) = lessB a b c d := by
  unfold lessB; rw [decide_eq_decide]; omega
theorem four (a b c d e f : Int) :
    (lessB a b c d = true ∧ lessB c d a b = false ∧ (!(a == c && b == d)) = true ∧ lessB c d e f = true ∧ lessB a b e f = true) ∨
    (lessB a b c d = true ∧ lessB c d a b = false ∧ (!(a == c && b == d)) = true ∧ lessB c d e f = false) ∨
    (lessB a b c d = false ∧ lessB c d a b = true ∧ (!(a == c && b == d)) = true) ∨
    (lessB a b c d = false ∧ lessB c d a b = false ∧ (!(a == c && b == d)) = false) := by
  unfold lessB
  simp only [decide_eq_true_eq, decide_eq_false_iff_not, Bool.not_eq_true', Bool.not_eq_false', Bool.and_eq_true, Bool.and_eq_false_iff, beq_iff_eq, beq_eq_false_iff_ne]
  omega

set_option maxHeartbeats 2000000 in
theorem axisOrder_walk (pA : Int) (wpA : (Lit.int .i64 pA).wf = true) (pB : Int) (wpB : (Lit.int .i64 pB).wf = true) (qA : Int) (wqA : (Lit.int .i64 qA).wf = true) (qB : Int) (wqB : (Lit.int .i64 qB).wf = true)
    (rA : Int) (wrA : (Lit.int .i64 rA).wf = true) (rB : Int) (wrB : (Lit.int .i64 rB).wf = true) (nA : Int) (wnA : (Lit.int .i64 nA).wf = true) (nB : Int) (wnB : (Lit.int .i64 nB).wf = true) (w : World) (hs : SixIs w) :
    Calls Tryd.prog 7 #[Pt pA pB, Pt qA qB, Pt rA rB, Pt nA nB] w fun e w' => e = .returned (.bool true) ∧ Below w.heap.size w w' := by
  clear wpA wpB wqA wqB wrA wrB wnA wnB
  have hpp := less_self pA pB
  have hne := neq_pt pA pB qA qB
  rcases four pA pB qA qB rA rB with ⟨t1, t2, t3, t4, t5⟩ | ⟨t1, t2, t3, t4⟩ | ⟨t1, t2, t3⟩ | ⟨t1, t2, t3⟩
  all_goals
    rw [t3] at hne
    clear t3
    (go_enter Tryd.func7, Tryd.ntmps7; go_wp2_with fail; refine (awake_any _ (hs.below (by go_grown))).mono ?_; rintro e w3 ⟨rfl, hb⟩; have hb0 := below_call (B := w.heap.size) (w := w) hb (by go_grown) (by go_size); have bp : Box2 w.heap.size w3 pA pB := box2_below (by simp [Box2, go_sem]) hb; have bq : Box2 (w.heap.size + 1) w3 qA qB := box2_below (by simp [Box2, go_sem]) hb; have br : Box2 (w.heap.size + 1 + 1) w3 rA rB := box2_below (by simp [Box2, go_sem]) hb; have bn : Box2 (w.heap.size + 1 + 1 + 1) w3 nA nB := box2_below (by simp [Box2, go_sem]) hb; obtain ⟨p1, p2, _, _, p5⟩ := id bp; obtain ⟨q1, q2, _, _, q5⟩ := id bq; obtain ⟨r1, r2, _, _, r5⟩ := id br; obtain ⟨n1, n2, _, _, n5⟩ := id bn; clear hb; go_wp2_with (go_at_call 14; refine (less_any _ _ _ _ _).mono ?_; rintro e w3 ⟨rfl, hb⟩; have hb0 := hb0.trans (hb.mono hb0.size); have bp := box2_below bp hb; have bq := box2_below bq hb; have br := box2_below br hb; have bn := box2_below bn hb; obtain ⟨p1, p2, _, _, p5⟩ := id bp; obtain ⟨q1, q2, _, _, q5⟩ := id bq; obtain ⟨r1, r2, _, _, r5⟩ := id br; obtain ⟨n1, n2, _, _, n5⟩ := id bn; clear hb))
    cases g1 : plusB pA pB nA nB
    · refine (plus_no _ _ _ _ _ g1).mono ?_
      rintro e w5 ⟨rfl, hb⟩
      have hb0 := hb0.trans (hb.mono hb0.size); have bp := box2_below bp hb; have bq := box2_below bq hb; have bn := box2_below bn hb; obtain ⟨p1, p2, _, _, p5⟩ := id bp; obtain ⟨q1, q2, _, _, q5⟩ := id bq; obtain ⟨n1, n2, _, _, n5⟩ := id bn; clear hb
      go_wp2_with fail
      cases g2 : plusB qA qB nA nB
      · refine (plus_no _ _ _ _ _ g2).mono ?_
        rintro e w6 ⟨rfl, hb⟩
        have hb6 := below_call (B := w.heap.size) (w := w) hb (by go_grown) (by have := hb0.size; simp; omega); have s6 := hb6.size
        clear hb
        go_wp2_with fail
        (go_region; all_goals (go_wp2; go_ret; exact ⟨rfl, by go_grown⟩))
      · refine (plus_yes _ _ _ _ _ g2).mono ?_
        rintro e w6 ⟨rfl, hb⟩
        have hb6 := below_call (B := w.heap.size) (w := w) hb (by go_grown) (by have := hb0.size; simp; omega); have s6 := hb6.size
        clear hb
        go_wp2_with fail
        (go_region; all_goals (go_wp2; go_ret; exact ⟨rfl, by go_grown⟩))
    · refine (plus_yes _ _ _ _ _ g1).mono ?_
      rintro e w5 ⟨rfl, hb⟩
      have hb0 := hb0.trans (hb.mono hb0.size); have bp := box2_below bp hb; have bq := box2_below bq hb; have bn := box2_below bn hb; obtain ⟨p1, p2, _, _, p5⟩ := id bp; obtain ⟨q1, q2, _, _, q5⟩ := id bq; obtain ⟨n1, n2, _, _, n5⟩ := id bn; clear hb
      go_wp2_with fail
      cases g2 : plusB qA qB nA nB
      · refine (plus_no _ _ _ _ _ g2).mono ?_
        rintro e w6 ⟨rfl, hb⟩
        have hb6 := below_call (B := w.heap.size) (w := w) hb (by go_grown) (by have := hb0.size; simp; omega); have s6 := hb6.size
        clear hb
        go_wp2_with fail
        (go_region; all_goals (go_wp2; go_ret; exact ⟨rfl, by go_grown⟩))
      · refine (plus_yes _ _ _ _ _ g2).mono ?_
        rintro e w6 ⟨rfl, hb⟩
        have hb6 := below_call (B := w.heap.size) (w := w) hb (by go_grown) (by have := hb0.size; simp; omega); have s6 := hb6.size
        have bp6 : Box2 w.heap.size w6 pA pB := box2_below (by simp [Box2, go_sem, *]) hb
        have bq6 : Box2 (w.heap.size + 1) w6 qA qB := box2_below (by simp [Box2, go_sem, *]) hb
        have ba6 : Box2 w5.heap.size w6 (pA + nA) (pB + nB) := box2_below (by simp [Box2, go_sem]) hb
        clear hb
        have za : Box2 w5.heap.size (w6.alloc (.cells #[.int .i64 (qA + nA), .int .i64 (qB + nB)] 27)).drew (pA + nA) (pB + nB) := box2_below ba6 (by go_grown)
        have zp : Box2 w.heap.size (w6.alloc (.cells #[.int .i64 (qA + nA), .int .i64 (qB + nB)] 27)).drew pA pB := box2_below bp6 (by go_grown)
        have zq : Box2 (w.heap.size + 1) (w6.alloc (.cells #[.int .i64 (qA + nA), .int .i64 (qB + nB)] 27)).drew qA qB := box2_below bq6 (by go_grown)
        have zb : Box2 w6.heap.size (w6.alloc (.cells #[.int .i64 (qA + nA), .int .i64 (qB + nB)] 27)).drew (qA + nA) (qB + nB) := by simp [Box2, go_sem]
        have hz0 : Below w.heap.size w (w6.alloc (.cells #[.int .i64 (qA + nA), .int .i64 (qB + nB)] 27)).drew := by go_grown
        have hsum := less_sum pA pB qA qB nA nB
        rw [t1] at hsum
        go_wp2_with fail
        (go_region_held3 (fun w' => w'.cell? ⟨w5.heap.size, 0, none⟩ = some (.int .i64 (pA + nA)) ∧ w'.cell? ⟨w5.heap.size, 1, none⟩ = some (.int .i64 (pB + nB)) ∧ w'.cell? ⟨w6.heap.size, 0, none⟩ = some (.int .i64 (qA + nA)) ∧ w'.cell? ⟨w6.heap.size, 1, none⟩ = some (.int .i64 (qB + nB)) ∧ w'.cell? ⟨w.heap.size, 0, none⟩ = some (.int .i64 pA) ∧ w'.cell? ⟨w.heap.size, 1, none⟩ = some (.int .i64 pB) ∧ w'.cell? ⟨w.heap.size + 1, 0, none⟩ = some (.int .i64 qA) ∧ w'.cell? ⟨w.heap.size + 1, 1, none⟩ = some (.int .i64 qB) ∧ w5.heap.size < w'.heap.size ∧ w6.heap.size < w'.heap.size ∧ w.heap.size < w'.heap.size ∧ w.heap.size + 1 < w'.heap.size ∧ Below w.heap.size w w') (first | exact ⟨za.1, za.2.1, zb.1, zb.2.1, zp.1, zp.2.1, zq.1, zq.2.1, za.2.2.2.2, zb.2.2.2.2, zp.2.2.2.2, zq.2.2.2.2, hz0⟩) (first | (go_at_call 14; refine (less_any _ _ _ _ _).mono ?_; rintro e w7 ⟨rfl, hb7⟩; have za := box2_below za hb7; have zb := box2_below zb hb7; have zp := box2_below zp hb7; have zq := box2_below zq hb7; have hz0 := hz0.trans (hb7.mono hz0.size))))
        all_goals (go_wp2; go_ret; exact ⟨rfl, hz0⟩)

section axisOrderFrame
open Go.ChangeShapes Go.WideShapes Go.ChangeAt Go.RowKit Go.Joins
theorem axisOrder_contract (H : Type) (enc : TypeId × Value → H) (W : World) (base : Nat) (args : Array Value) (ds gs : List (DataW H)) (before : List MemPlace)
    (hval : ∀ (j : Nat) t v, Tryd.f7.params[j]? = some t → args[j]? = some v → Value.okWide Tryd.prog W .any base t v)
    (hW : DataW.Whole enc Tryd.prog Tryd.f7.params.toList Rows.axisOrderSpec.vars false W args.toList ds gs before) (hL : laidMetH Tryd.prog Rows.axisOrderRow.laid W) :
    Calls Tryd.prog 7 args W fun e W' => ∃ v, e = .returned v ∧ Rows.axisOrderSpec.post enc Tryd.prog Tryd.f7 false true false false W args v W' := by
  have hW' := hW
  obtain ⟨p, q, hA0, hV, rfl, hfz, hnd⟩ := hW
  have hA : DataW.TrodAll enc Tryd.prog W 0 (fun _ => true) true Tryd.f7.params.toList args.toList ds p := hA0
  rw [Tryd.params7] at hA hval
  obtain ⟨v0, vs0, d0, ds0, p0, q0, hargs, rfl, rfl, h0, r0⟩ := trodAll_cons hA
  obtain ⟨v1, vs1, d1, ds1, p1, q1, rfl, rfl, rfl, h1, r1⟩ := trodAll_cons r0
  obtain ⟨v2, vs2, d2, ds2, p2, q2, rfl, rfl, rfl, h2, r2⟩ := trodAll_cons r1
  obtain ⟨v3, vs3, d3, ds3, p3, q3, rfl, rfl, rfl, h3, r3⟩ := trodAll_cons r2
  obtain ⟨rfl, rfl, rfl⟩ := trodAll_nil r3
  obtain rfl : args = #[v0, v1, v2, v3] := by cases args; simp_all
  obtain ⟨rfl, rfl⟩ := trodVars_none hV
  obtain ⟨c00, c01, y00, y01, m0, rfl, rfl, rfl, hy00, hy01⟩ := open_agg2 Tryd.underlying27 (by kernel_rfl) cellsPt (hval 0 27 v0 rfl rfl) h0
  obtain ⟨pA, e00, rfl, w_pA⟩ := DataW.trod_int Tryd.underlying2 hy00
  simp at e00; subst e00
  obtain ⟨pB, e01, rfl, w_pB⟩ := DataW.trod_int Tryd.underlying2 hy01
  simp at e01; subst e01
  obtain ⟨c10, c11, y10, y11, m1, rfl, rfl, rfl, hy10, hy11⟩ := open_agg2 Tryd.underlying27 (by kernel_rfl) cellsPt (hval 1 27 v1 rfl rfl) h1
  obtain ⟨qA, e10, rfl, w_qA⟩ := DataW.trod_int Tryd.underlying2 hy10
  simp at e10; subst e10
  obtain ⟨qB, e11, rfl, w_qB⟩ := DataW.trod_int Tryd.underlying2 hy11
  simp at e11; subst e11
  obtain ⟨c20, c21, y20, y21, m2, rfl, rfl, rfl, hy20, hy21⟩ := open_agg2 Tryd.underlying27 (by kernel_rfl) cellsPt (hval 2 27 v2 rfl rfl) h2
  obtain ⟨rA, e20, rfl, w_rA⟩ := DataW.trod_int Tryd.underlying2 hy20
  simp at e20; subst e20
  obtain ⟨rB, e21, rfl, w_rB⟩ := DataW.trod_int Tryd.underlying2 hy21
  simp at e21; subst e21
  obtain ⟨c30, c31, y30, y31, m3, rfl, rfl, rfl, hy30, hy31⟩ := open_agg2 Tryd.underlying27 (by kernel_rfl) cellsPt (hval 3 27 v3 rfl rfl) h3
  obtain ⟨nA, e30, rfl, w_nA⟩ := DataW.trod_int Tryd.underlying2 hy30
  simp at e30; subst e30
  obtain ⟨nB, e31, rfl, w_nB⟩ := DataW.trod_int Tryd.underlying2 hy31
  simp at e31; subst e31
  refine (axisOrder_walk pA w_pA pB w_pB qA w_qA qB w_qB rA w_rA rB w_rB nA w_nA nB w_nB W (six_of_laid hL)).mono fun e W' ⟨he, hb⟩ => ?_
  exact ⟨_, he, law_post laidOut rfl rfl Tryd.underlying4 (by kernel_rfl) hW' hb ⟨rfl, rfl, rfl⟩⟩
theorem axisOrder_met (os : Os) : laidMet Tryd.prog Rows.axisOrderRow.laid ((laidWorld os).forCall (fun _ _ => 0) ⟨#[], #[.agg #[.int .i64 0, .int .i64 0], .agg #[.int .i64 0, .int .i64 0], .agg #[.int .i64 0, .int .i64 0], .agg #[.int .i64 0, .int .i64 0]], []⟩).memory :=
  laidMet_of_run' 8 (by kernel_rfl) (by kernel_rfl)
theorem axisOrder_reads (os : Os) {H : Type} (enc : TypeId × Value → H) : ∃ places, DataW.whole enc Tryd.prog ((laidWorld os).forCall (fun _ _ => 0) ⟨#[], #[.agg #[.int .i64 0, .int .i64 0], .agg #[.int .i64 0, .int .i64 0], .agg #[.int .i64 0, .int .i64 0], .agg #[.int .i64 0, .int .i64 0]], []⟩).memory Tryd.f7.params.toList Rows.axisOrderSpec.vars false #[(.agg #[.int .i64 0, .int .i64 0] : Value), (.agg #[.int .i64 0, .int .i64 0] : Value), (.agg #[.int .i64 0, .int .i64 0] : Value), (.agg #[.int .i64 0, .int .i64 0] : Value)].toList 8 = some ([.agg [.lit (.int .i64 0), .lit (.int .i64 0)], .agg [.lit (.int .i64 0), .lit (.int .i64 0)], .agg [.lit (.int .i64 0), .lit (.int .i64 0)], .agg [.lit (.int .i64 0), .lit (.int .i64 0)]], [], places) :=
  ⟨[], by kernel_rfl⟩
set_option maxRecDepth 100000 in
theorem axisOrder_lifted (os : Os) (started : os.Started) (H : Type) (enc : TypeId × Value → H) (F : Stop.Interp) :
    ReturnsInHanded {} Tryd.checked os 7 .any ((OpenSpec.ofChange Rows.axisOrderSpec).preRow enc Tryd.prog Tryd.f7 Rows.axisOrderRow.domain false Rows.axisOrderRow.laid) (((OpenSpec.ofChange Rows.axisOrderSpec).at F).post enc Tryd.prog Tryd.f7 false true false false) := by
  obtain ⟨places, hx⟩ := axisOrder_reads os enc
  refine returnsInHanded_of_row (C := Tryd.checked) (s := OpenSpec.ofChange Rows.axisOrderSpec) own started (by kernel_rfl) Tryd.func7
    (witness_row_at (enc := enc) (C := Tryd.checked) false (laidWorld os) #[.agg #[.int .i64 0, .int .i64 0], .agg #[.int .i64 0, .int .i64 0], .agg #[.int .i64 0, .int .i64 0], .agg #[.int .i64 0, .int .i64 0]] rfl (by kernel_rfl) (by kernel_rfl) (by kernel_rfl)
      (OpenSpec.preRow_of_cond 8 hx (by kernel_rfl) (fun k hk => by cases hk) (by kernel_rfl) (axisOrder_met os))) ?_
  intro W base args ds gs before hval hW _ _ _ hL _ _
  exact axisOrder_contract H enc W base args ds gs before hval hW hL
theorem axisOrder_said : Rows.AxisOrderSaid :=
  OpenClaim.holds_of_cond 7 Tryd.f7 rfl rfl rfl rfl rfl rfl rfl ⟨rfl, rfl, rfl, rfl, rfl⟩ rfl rfl rfl rfl rfl (by kernel_rfl) Tryd.func7 (by kernel_rfl)
    (of_decide_eq_true (by kernel_rfl)) (by unfold Func.isWrapper; first | (rw [if_pos (by decide +kernel)]; kernel_rfl) | (rw [if_neg (by decide +kernel)]; exact ⟨rfl, rfl⟩))
    (fun os started H enc _ F => by rw [OpenClaim.pre_eq_preRow]; exact axisOrder_lifted os started H enc F)
theorem axisOrder_plain (f : FuncId) (fn : Func) (hf : Tryd.pinned.checked.prog.funcNamed "honeycomb/honeycomblaw01.AxisOrder" = some f) (hfn : Tryd.pinned.checked.prog.funcs[f]? = some fn) :
    true = Tryd.pinned.checked.prog.looks [] ∧ ∀ (j : Nat) t, fn.params[j]? = some t → Tryd.pinned.checked.prog.wantsStandIn t = false := by
  obtain rfl : f = 7 := Option.some.inj ((show Tryd.prog.funcNamed "honeycomb/honeycomblaw01.AxisOrder" = some 7 by kernel_rfl).symm.trans hf) |>.symm
  obtain rfl : fn = Tryd.f7 := (Option.some.inj (Tryd.func7.symm.trans hfn)).symm
  refine ⟨by kernel_rfl, fun j t ht => ?_⟩
  have hall : (Tryd.f7.params.toList.all fun t => !Tryd.prog.wantsStandIn t) = true := by kernel_rfl
  have hm : t ∈ Tryd.f7.params.toList := by simpa using Array.mem_of_getElem? ht
  have := List.all_eq_true.1 hall t hm
  exact (show Tryd.prog.wantsStandIn t = false by simpa using this)
end axisOrderFrame
/-- AxisOrder: the card: for every input the law answers true. -/
theorem axisOrder_card : Rows.AxisOrderCardSaid :=
  Claim7.holds_tied_plain_at .later [] _ _ _ _ axisOrder_said (fun _ h => by cases h) (by kernel_rfl) (fun _ h => by cases h) axisOrder_row_tie rfl ⟨rfl, rfl⟩ (by kernel_rfl) rfl axisOrder_plain (by kernel_rfl)
end Go.Proofs.YtcaocbakckojjaaDoor.Ax
namespace Go.Proofs.YtcaocbakckojjaaDoor
theorem axisOrder_proved : Rows.AxisOrderCardSaid := Ax.axisOrder_card
#print axioms axisOrder_proved
end Go.Proofs.YtcaocbakckojjaaDoor
