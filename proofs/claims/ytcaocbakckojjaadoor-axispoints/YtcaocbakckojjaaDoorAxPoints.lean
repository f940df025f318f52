/- AxisPoints: for any two points: Good, Plus and Less answer as the document says. No conditions. -/
import Derived.Test.YtcaocbakckojjaaDoorAxR
namespace Go.Proofs.YtcaocbakckojjaaDoor.Ax
open Go.RowKit

/-- Two points stand in one of five ways. -/
theorem five (a b c d : Int) : (lessB a b c d = true ∧ lessB c d a b = false ∧ decide (b < d) = true) ∨
    (lessB a b c d = true ∧ lessB c d a b = false ∧ decide (b < d) = false ∧ (b == d) = true ∧ decide (a < c) = true) ∨
    (lessB a b c d = false ∧ lessB c d a b = false ∧ decide (b < d) = false ∧ (b == d) = true ∧ decide (a < c) = false ∧ (a == c) = true) ∨
    (lessB a b c d = false ∧ lessB c d a b = true ∧ decide (b < d) = false ∧ (b == d) = true ∧ decide (a < c) = false) ∨
    (lessB a b c d = false ∧ lessB c d a b = true ∧ decide (b < d) = false ∧ (b == d) = false) := by
  unfold lessB
  simp only [decide_eq_true_eq, decide_eq_false_iff_not, beq_iff_eq, beq_eq_false_iff_ne]
  omega

set_option maxHeartbeats 2000000 in
theorem axisPoints_walk (a : Int) (wa : (Lit.int .i64 a).wf = true) (b : Int) (wb : (Lit.int .i64 b).wf = true) (c : Int) (wc : (Lit.int .i64 c).wf = true) (d : Int) (wd : (Lit.int .i64 d).wf = true) (w : World) (hs : SixIs w) :
    Calls Tryd.prog 4 #[.int .i64 a, .int .i64 b, .int .i64 c, .int .i64 d] w fun e w' => e = .returned (.bool true) ∧ Below w.heap.size w w' := by
  have hn6 : ∀ w, (binOp .neq 29 (Er 6) (Er 6)).run Tryd.prog w = .ok (.bool false) w := fun _ => by kernel_rfl
  cases g1 : goodB a b
  · (go_enter Tryd.func4, Tryd.ntmps4; go_wp2_with fail; refine (awake_any _ hs).mono ?_; rintro e w1 ⟨rfl, hb⟩; obtain ⟨hc_w1, _⟩ := bcell hb; have hz_w1 := hb.size; (try simp only [World.size_alloc, World.size_setCell, World.size_drew] at hz_w1); have hb_w1 := below_call (B := w.heap.size) (w := w) hb (by go_grown) (by go_size); clear hb; clear hc_w1; go_wp2_with fail; refine (plus_bad _ _ _ _ _ (by rw [g1]; rfl)).mono ?_; rintro e w2 ⟨rfl, hb⟩; obtain ⟨hc_w2, _⟩ := bcell hb; have hz_w2 := hb.size; (try simp only [World.size_alloc, World.size_setCell, World.size_drew] at hz_w2); have hb_w2 := below_call (B := w.heap.size) (w := w) hb (by go_grown) (by go_size); clear hb; (have ha_w2 : w1.heap.size < w2.heap.size := by omega); (have hd_w2 : w1.heap.size + 1 < w2.heap.size := by omega); (try have he_w2 : w2.heap.size < w2.heap.size := by omega); go_wp2_with (first | (go_at_call 12; refine (refgood_any _ _ _).mono ?_; rintro e w' ⟨rfl, rfl⟩) | (go_at_call 13; refine (pgood_any _ _ _).mono ?_; rintro e w3 ⟨rfl, hb⟩; obtain ⟨hc_w3, _⟩ := bcell hb; have hz_w3 := hb.size; (try simp only [World.size_alloc, World.size_setCell, World.size_drew] at hz_w3); have hb_w3 := below_call (B := w.heap.size) (w := w) hb (by go_grown) (by go_size); clear hb; (have ha_w3 : w1.heap.size < w3.heap.size := by omega); (have hd_w3 : w1.heap.size + 1 < w3.heap.size := by omega); (try have he_w3 : w2.heap.size < w3.heap.size := by omega))))
    rcases five a b c d with ⟨t1, t2, t3⟩ | ⟨t1, t2, t3, t4, t5⟩ | ⟨t1, t2, t3, t4, t5, t6⟩ | ⟨t1, t2, t3, t4, t5⟩ | ⟨t1, t2, t3, t4⟩
    all_goals (go_wp2_with (go_at_call 14; refine (less_any _ _ _ _ _).mono ?_; rintro e w4 ⟨rfl, hb⟩; obtain ⟨hc_w4, _⟩ := bcell hb; have hz_w4 := hb.size; (try simp only [World.size_alloc, World.size_setCell, World.size_drew] at hz_w4); have hb_w4 := below_call (B := w.heap.size) (w := w) hb (by go_grown) (by go_size); clear hb; (have ha_w4 : w1.heap.size < w4.heap.size := by omega); (have hd_w4 : w1.heap.size + 1 < w4.heap.size := by omega); (try have he_w4 : w2.heap.size < w4.heap.size := by omega)); go_ret; exact ⟨rfl, by assumption⟩)
  · cases g2 : goodB c d
    · (go_enter Tryd.func4, Tryd.ntmps4; go_wp2_with fail; refine (awake_any _ hs).mono ?_; rintro e w1 ⟨rfl, hb⟩; obtain ⟨hc_w1, _⟩ := bcell hb; have hz_w1 := hb.size; (try simp only [World.size_alloc, World.size_setCell, World.size_drew] at hz_w1); have hb_w1 := below_call (B := w.heap.size) (w := w) hb (by go_grown) (by go_size); clear hb; clear hc_w1; go_wp2_with fail; refine (plus_bad _ _ _ _ _ (by rw [g1, g2]; rfl)).mono ?_; rintro e w2 ⟨rfl, hb⟩; obtain ⟨hc_w2, _⟩ := bcell hb; have hz_w2 := hb.size; (try simp only [World.size_alloc, World.size_setCell, World.size_drew] at hz_w2); have hb_w2 := below_call (B := w.heap.size) (w := w) hb (by go_grown) (by go_size); clear hb; (have ha_w2 : w1.heap.size < w2.heap.size := by omega); (have hd_w2 : w1.heap.size + 1 < w2.heap.size := by omega); (try have he_w2 : w2.heap.size < w2.heap.size := by omega); go_wp2_with (first | (go_at_call 12; refine (refgood_any _ _ _).mono ?_; rintro e w' ⟨rfl, rfl⟩) | (go_at_call 13; refine (pgood_any _ _ _).mono ?_; rintro e w3 ⟨rfl, hb⟩; obtain ⟨hc_w3, _⟩ := bcell hb; have hz_w3 := hb.size; (try simp only [World.size_alloc, World.size_setCell, World.size_drew] at hz_w3); have hb_w3 := below_call (B := w.heap.size) (w := w) hb (by go_grown) (by go_size); clear hb; (have ha_w3 : w1.heap.size < w3.heap.size := by omega); (have hd_w3 : w1.heap.size + 1 < w3.heap.size := by omega); (try have he_w3 : w2.heap.size < w3.heap.size := by omega))))
      rcases five a b c d with ⟨t1, t2, t3⟩ | ⟨t1, t2, t3, t4, t5⟩ | ⟨t1, t2, t3, t4, t5, t6⟩ | ⟨t1, t2, t3, t4, t5⟩ | ⟨t1, t2, t3, t4⟩
      all_goals (go_wp2_with (go_at_call 14; refine (less_any _ _ _ _ _).mono ?_; rintro e w4 ⟨rfl, hb⟩; obtain ⟨hc_w4, _⟩ := bcell hb; have hz_w4 := hb.size; (try simp only [World.size_alloc, World.size_setCell, World.size_drew] at hz_w4); have hb_w4 := below_call (B := w.heap.size) (w := w) hb (by go_grown) (by go_size); clear hb; (have ha_w4 : w1.heap.size < w4.heap.size := by omega); (have hd_w4 : w1.heap.size + 1 < w4.heap.size := by omega); (try have he_w4 : w2.heap.size < w4.heap.size := by omega)); go_ret; exact ⟨rfl, by assumption⟩)
    · obtain ⟨⟨a1, a2⟩, b1, b2⟩ := goodB_iff.1 g1
      obtain ⟨⟨c1, c2⟩, d1, d2⟩ := goodB_iff.1 g2
      cases g3 : goodB (a + c) (b + d)
      · (go_enter Tryd.func4, Tryd.ntmps4; go_wp2_with fail; refine (awake_any _ hs).mono ?_; rintro e w1 ⟨rfl, hb⟩; obtain ⟨hc_w1, _⟩ := bcell hb; have hz_w1 := hb.size; (try simp only [World.size_alloc, World.size_setCell, World.size_drew] at hz_w1); have hb_w1 := below_call (B := w.heap.size) (w := w) hb (by go_grown) (by go_size); clear hb; clear hc_w1; go_wp2_with fail; refine (plus_out _ _ _ _ _ g1 g2 g3).mono ?_; rintro e w2 ⟨rfl, hb⟩; obtain ⟨hc_w2, _⟩ := bcell hb; have hz_w2 := hb.size; (try simp only [World.size_alloc, World.size_setCell, World.size_drew] at hz_w2); have hb_w2 := below_call (B := w.heap.size) (w := w) hb (by go_grown) (by go_size); clear hb; (have ha_w2 : w1.heap.size < w2.heap.size := by omega); (have hd_w2 : w1.heap.size + 1 < w2.heap.size := by omega); (try have he_w2 : w2.heap.size < w2.heap.size := by omega); go_wp2_with (first | (go_at_call 12; refine (refgood_any _ _ _).mono ?_; rintro e w' ⟨rfl, rfl⟩) | (go_at_call 13; refine (pgood_any _ _ _).mono ?_; rintro e w3 ⟨rfl, hb⟩; obtain ⟨hc_w3, _⟩ := bcell hb; have hz_w3 := hb.size; (try simp only [World.size_alloc, World.size_setCell, World.size_drew] at hz_w3); have hb_w3 := below_call (B := w.heap.size) (w := w) hb (by go_grown) (by go_size); clear hb; (have ha_w3 : w1.heap.size < w3.heap.size := by omega); (have hd_w3 : w1.heap.size + 1 < w3.heap.size := by omega); (try have he_w3 : w2.heap.size < w3.heap.size := by omega))))
        rcases five a b c d with ⟨t1, t2, t3⟩ | ⟨t1, t2, t3, t4, t5⟩ | ⟨t1, t2, t3, t4, t5, t6⟩ | ⟨t1, t2, t3, t4, t5⟩ | ⟨t1, t2, t3, t4⟩
        all_goals (go_wp2_with (go_at_call 14; refine (less_any _ _ _ _ _).mono ?_; rintro e w4 ⟨rfl, hb⟩; obtain ⟨hc_w4, _⟩ := bcell hb; have hz_w4 := hb.size; (try simp only [World.size_alloc, World.size_setCell, World.size_drew] at hz_w4); have hb_w4 := below_call (B := w.heap.size) (w := w) hb (by go_grown) (by go_size); clear hb; (have ha_w4 : w1.heap.size < w4.heap.size := by omega); (have hd_w4 : w1.heap.size + 1 < w4.heap.size := by omega); (try have he_w4 : w2.heap.size < w4.heap.size := by omega)); go_ret; exact ⟨rfl, by assumption⟩)
      · (go_enter Tryd.func4, Tryd.ntmps4; go_wp2_with fail; refine (awake_any _ hs).mono ?_; rintro e w1 ⟨rfl, hb⟩; obtain ⟨hc_w1, _⟩ := bcell hb; have hz_w1 := hb.size; (try simp only [World.size_alloc, World.size_setCell, World.size_drew] at hz_w1); have hb_w1 := below_call (B := w.heap.size) (w := w) hb (by go_grown) (by go_size); clear hb; clear hc_w1; go_wp2_with fail; refine (plus_good _ _ _ _ _ g1 g2 g3).mono ?_; rintro e w2 ⟨rfl, hb⟩; obtain ⟨hc_w2, _⟩ := bcell hb; have hz_w2 := hb.size; (try simp only [World.size_alloc, World.size_setCell, World.size_drew] at hz_w2); have hb_w2 := below_call (B := w.heap.size) (w := w) hb (by go_grown) (by go_size); clear hb; (have ha_w2 : w1.heap.size < w2.heap.size := by omega); (have hd_w2 : w1.heap.size + 1 < w2.heap.size := by omega); (try have he_w2 : w2.heap.size < w2.heap.size := by omega); go_wp2_with (first | (go_at_call 12; refine (refgood_any _ _ _).mono ?_; rintro e w' ⟨rfl, rfl⟩) | (go_at_call 13; refine (pgood_any _ _ _).mono ?_; rintro e w3 ⟨rfl, hb⟩; obtain ⟨hc_w3, _⟩ := bcell hb; have hz_w3 := hb.size; (try simp only [World.size_alloc, World.size_setCell, World.size_drew] at hz_w3); have hb_w3 := below_call (B := w.heap.size) (w := w) hb (by go_grown) (by go_size); clear hb; (have ha_w3 : w1.heap.size < w3.heap.size := by omega); (have hd_w3 : w1.heap.size + 1 < w3.heap.size := by omega); (try have he_w3 : w2.heap.size < w3.heap.size := by omega))))
        rcases five a b c d with ⟨t1, t2, t3⟩ | ⟨t1, t2, t3, t4, t5⟩ | ⟨t1, t2, t3, t4, t5, t6⟩ | ⟨t1, t2, t3, t4, t5⟩ | ⟨t1, t2, t3, t4⟩
        all_goals (go_wp2_with (go_at_call 14; refine (less_any _ _ _ _ _).mono ?_; rintro e w4 ⟨rfl, hb⟩; obtain ⟨hc_w4, _⟩ := bcell hb; have hz_w4 := hb.size; (try simp only [World.size_alloc, World.size_setCell, World.size_drew] at hz_w4); have hb_w4 := below_call (B := w.heap.size) (w := w) hb (by go_grown) (by go_size); clear hb; (have ha_w4 : w1.heap.size < w4.heap.size := by omega); (have hd_w4 : w1.heap.size + 1 < w4.heap.size := by omega); (try have he_w4 : w2.heap.size < w4.heap.size := by omega)); go_ret; exact ⟨rfl, by assumption⟩)

section axisPointsFrame
open Go.ChangeShapes Go.WideShapes Go.ChangeAt Go.RowKit Go.Joins
theorem axisPoints_contract (H : Type) (enc : TypeId × Value → H) (W : World) (base : Nat) (args : Array Value) (ds gs : List (DataW H)) (before : List MemPlace)
    (hval : ∀ (j : Nat) t v, Tryd.f4.params[j]? = some t → args[j]? = some v → Value.okWide Tryd.prog W .any base t v)
    (hW : DataW.Whole enc Tryd.prog Tryd.f4.params.toList Rows.axisPointsSpec.vars false W args.toList ds gs before) (hL : laidMetH Tryd.prog Rows.axisPointsRow.laid W) :
    Calls Tryd.prog 4 args W fun e W' => ∃ v, e = .returned v ∧ Rows.axisPointsSpec.post enc Tryd.prog Tryd.f4 false true false false W args v W' := by
  have hW' := hW
  obtain ⟨p, q, hA0, hV, rfl, hfz, hnd⟩ := hW
  have hA : DataW.TrodAll enc Tryd.prog W 0 (fun _ => true) true Tryd.f4.params.toList args.toList ds p := hA0
  rw [Tryd.params4] at hA hval
  obtain ⟨v0, vs0, d0, ds0, p0, q0, hargs, rfl, rfl, h0, r0⟩ := trodAll_cons hA
  obtain ⟨v1, vs1, d1, ds1, p1, q1, rfl, rfl, rfl, h1, r1⟩ := trodAll_cons r0
  obtain ⟨v2, vs2, d2, ds2, p2, q2, rfl, rfl, rfl, h2, r2⟩ := trodAll_cons r1
  obtain ⟨v3, vs3, d3, ds3, p3, q3, rfl, rfl, rfl, h3, r3⟩ := trodAll_cons r2
  obtain ⟨rfl, rfl, rfl⟩ := trodAll_nil r3
  obtain rfl : args = #[v0, v1, v2, v3] := by cases args; simp_all
  obtain ⟨rfl, rfl⟩ := trodVars_none hV
  obtain ⟨a, rfl, rfl, rfl, w_a⟩ := open_int Tryd.underlying2 (hval 0 2 v0 rfl rfl) h0
  obtain ⟨b, rfl, rfl, rfl, w_b⟩ := open_int Tryd.underlying2 (hval 1 2 v1 rfl rfl) h1
  obtain ⟨c, rfl, rfl, rfl, w_c⟩ := open_int Tryd.underlying2 (hval 2 2 v2 rfl rfl) h2
  obtain ⟨d, rfl, rfl, rfl, w_d⟩ := open_int Tryd.underlying2 (hval 3 2 v3 rfl rfl) h3
  refine (axisPoints_walk a w_a b w_b c w_c d w_d W (six_of_laid hL)).mono fun e W' ⟨he, hb⟩ => ?_
  exact ⟨_, he, law_post laidOut rfl rfl Tryd.underlying4 (by kernel_rfl) hW' hb ⟨rfl, rfl, rfl⟩⟩
theorem axisPoints_met (os : Os) : laidMet Tryd.prog Rows.axisPointsRow.laid ((laidWorld os).forCall (fun _ _ => 0) ⟨#[], #[.int .i64 0, .int .i64 0, .int .i64 0, .int .i64 0], []⟩).memory :=
  laidMet_of_run' 8 (by kernel_rfl) (by kernel_rfl)
theorem axisPoints_reads (os : Os) {H : Type} (enc : TypeId × Value → H) : ∃ places, DataW.whole enc Tryd.prog ((laidWorld os).forCall (fun _ _ => 0) ⟨#[], #[.int .i64 0, .int .i64 0, .int .i64 0, .int .i64 0], []⟩).memory Tryd.f4.params.toList Rows.axisPointsSpec.vars false #[(.int .i64 0 : Value), (.int .i64 0 : Value), (.int .i64 0 : Value), (.int .i64 0 : Value)].toList 8 = some ([.lit (.int .i64 0), .lit (.int .i64 0), .lit (.int .i64 0), .lit (.int .i64 0)], [], places) :=
  ⟨[], by kernel_rfl⟩
set_option maxRecDepth 100000 in
theorem axisPoints_lifted (os : Os) (started : os.Started) (H : Type) (enc : TypeId × Value → H) (F : Stop.Interp) :
    ReturnsInHanded {} Tryd.checked os 4 .any ((OpenSpec.ofChange Rows.axisPointsSpec).preRow enc Tryd.prog Tryd.f4 Rows.axisPointsRow.domain false Rows.axisPointsRow.laid) (((OpenSpec.ofChange Rows.axisPointsSpec).at F).post enc Tryd.prog Tryd.f4 false true false false) := by
  obtain ⟨places, hx⟩ := axisPoints_reads os enc
  refine returnsInHanded_of_row (C := Tryd.checked) (s := OpenSpec.ofChange Rows.axisPointsSpec) own started (by kernel_rfl) Tryd.func4
    (witness_row_at (enc := enc) (C := Tryd.checked) false (laidWorld os) #[.int .i64 0, .int .i64 0, .int .i64 0, .int .i64 0] rfl (by kernel_rfl) (by kernel_rfl) (by kernel_rfl)
      (OpenSpec.preRow_of_cond 8 hx (by kernel_rfl) (fun k hk => by cases hk) (by kernel_rfl) (axisPoints_met os))) ?_
  intro W base args ds gs before hval hW _ _ _ hL _ _
  exact axisPoints_contract H enc W base args ds gs before hval hW hL
theorem axisPoints_said : Rows.AxisPointsSaid :=
  OpenClaim.holds_of_cond 4 Tryd.f4 rfl rfl rfl rfl rfl rfl rfl ⟨rfl, rfl, rfl, rfl, rfl⟩ rfl rfl rfl rfl rfl (by kernel_rfl) Tryd.func4 (by kernel_rfl)
    (of_decide_eq_true (by kernel_rfl)) (by unfold Func.isWrapper; first | (rw [if_pos (by decide +kernel)]; kernel_rfl) | (rw [if_neg (by decide +kernel)]; exact ⟨rfl, rfl⟩))
    (fun os started H enc _ F => by rw [OpenClaim.pre_eq_preRow]; exact axisPoints_lifted os started H enc F)
theorem axisPoints_plain (f : FuncId) (fn : Func) (hf : Tryd.pinned.checked.prog.funcNamed "honeycomb/honeycomblaw01.AxisPoints" = some f) (hfn : Tryd.pinned.checked.prog.funcs[f]? = some fn) :
    true = Tryd.pinned.checked.prog.looks [] ∧ ∀ (j : Nat) t, fn.params[j]? = some t → Tryd.pinned.checked.prog.wantsStandIn t = false := by
  obtain rfl : f = 4 := Option.some.inj ((show Tryd.prog.funcNamed "honeycomb/honeycomblaw01.AxisPoints" = some 4 by kernel_rfl).symm.trans hf) |>.symm
  obtain rfl : fn = Tryd.f4 := (Option.some.inj (Tryd.func4.symm.trans hfn)).symm
  refine ⟨by kernel_rfl, fun j t ht => ?_⟩
  have hall : (Tryd.f4.params.toList.all fun t => !Tryd.prog.wantsStandIn t) = true := by kernel_rfl
  have hm : t ∈ Tryd.f4.params.toList := by simpa using Array.mem_of_getElem? ht
  have := List.all_eq_true.1 hall t hm
  exact (show Tryd.prog.wantsStandIn t = false by simpa using this)
end axisPointsFrame
/-- AxisPoints: the card: for every input the law answers true. -/
theorem axisPoints_card : Rows.AxisPointsCardSaid :=
  Claim7.holds_tied_plain_at .later [] _ _ _ _ axisPoints_said (fun _ h => by cases h) (by kernel_rfl) (fun _ h => by cases h) axisPoints_row_tie rfl ⟨rfl, rfl⟩ (by kernel_rfl) rfl axisPoints_plain (by kernel_rfl)
end Go.Proofs.YtcaocbakckojjaaDoor.Ax
namespace Go.Proofs.YtcaocbakckojjaaDoor
theorem axisPoints_proved : Rows.AxisPointsCardSaid := Ax.axisPoints_card
#print axioms axisPoints_proved
end Go.Proofs.YtcaocbakckojjaaDoor
