/- AxisTurns: for any number as an operator and any point, On answers where the operator brings the point, or the error that the document names. No conditions. -/
import Derived.Test.YtcaocbakckojjaaDoorAxR
namespace Go.Proofs.YtcaocbakckojjaaDoor.Ax
open Go.RowKit

theorem axisTurns_walk (o : Int) (wo : (Lit.int .i64 o).wf = true) (a : Int) (wa : (Lit.int .i64 a).wf = true) (b : Int) (wb : (Lit.int .i64 b).wf = true) (w : World) (hs : SixIs w) :
    Calls Tryd.prog 5 #[.int .i64 o, .int .i64 a, .int .i64 b] w fun e w' => e = .returned (.bool true) ∧ Below w.heap.size w w' := by
  have he4 : ∀ w, (binOp .eql 29 (Er 4) (Er 4)).run Tryd.prog w = .ok (.bool true) w := fun _ => by kernel_rfl
  have he6 : ∀ w, (binOp .eql 29 (Er 6) (Er 6)).run Tryd.prog w = .ok (.bool true) w := fun _ => by kernel_rfl
  by_cases h0 : o < 0
  · (go_enter Tryd.func5, Tryd.ntmps5; go_wp2_with fail; refine (awake_any _ hs).mono ?_; rintro e w1 ⟨rfl, hb⟩; obtain ⟨hc_w1, _⟩ := bcell hb; have hz_w1 := hb.size; (try simp at hz_w1); have hb_w1 := below_call (B := w.heap.size) (w := w) hb (by go_grown) (by go_size); clear hb; clear hc_w1; go_wp2_with fail; refine (on_arg _ _ _ _ (Or.inl h0)).mono ?_; rintro e w2 ⟨rfl, hb⟩; obtain ⟨hc_w2, _⟩ := bcell hb; have hz_w2 := hb.size; (try simp at hz_w2); have hb_w2 := below_call (B := w.heap.size) (w := w) hb (by go_grown) (by go_size); clear hb; go_wp2_with (first | (go_at_call 12; refine (refgood_any _ _ _).mono ?_; rintro e w' ⟨rfl, rfl⟩)  | (go_at_call 16; refine (opgood_no _ _ (Or.inl h0)).mono ?_; rintro e w' ⟨rfl, rfl⟩)); go_ret; exact ⟨rfl, by go_grown⟩)
  · by_cases h1 : 11 < o
    · (go_enter Tryd.func5, Tryd.ntmps5; go_wp2_with fail; refine (awake_any _ hs).mono ?_; rintro e w1 ⟨rfl, hb⟩; obtain ⟨hc_w1, _⟩ := bcell hb; have hz_w1 := hb.size; (try simp at hz_w1); have hb_w1 := below_call (B := w.heap.size) (w := w) hb (by go_grown) (by go_size); clear hb; clear hc_w1; go_wp2_with fail; refine (on_arg _ _ _ _ (Or.inr h1)).mono ?_; rintro e w2 ⟨rfl, hb⟩; obtain ⟨hc_w2, _⟩ := bcell hb; have hz_w2 := hb.size; (try simp at hz_w2); have hb_w2 := below_call (B := w.heap.size) (w := w) hb (by go_grown) (by go_size); clear hb; go_wp2_with (first | (go_at_call 12; refine (refgood_any _ _ _).mono ?_; rintro e w' ⟨rfl, rfl⟩)  | (go_at_call 16; refine (opgood_no _ _ (Or.inr h1)).mono ?_; rintro e w' ⟨rfl, rfl⟩)); go_ret; exact ⟨rfl, by go_grown⟩)
    · have p0 : 0 ≤ o := by omega
      have p1 : o < 12 := by omega
      cases g1 : goodB a b
      · (go_enter Tryd.func5, Tryd.ntmps5; go_wp2_with fail; refine (awake_any _ hs).mono ?_; rintro e w1 ⟨rfl, hb⟩; obtain ⟨hc_w1, _⟩ := bcell hb; have hz_w1 := hb.size; (try simp at hz_w1); have hb_w1 := below_call (B := w.heap.size) (w := w) hb (by go_grown) (by go_size); clear hb; clear hc_w1; go_wp2_with fail; refine (on_range _ _ _ _ p0 p1 g1).mono ?_; rintro e w2 ⟨rfl, hb⟩; obtain ⟨hc_w2, _⟩ := bcell hb; have hz_w2 := hb.size; (try simp at hz_w2); have hb_w2 := below_call (B := w.heap.size) (w := w) hb (by go_grown) (by go_size); clear hb; go_wp2_with (first | (go_at_call 12; refine (refgood_any _ _ _).mono ?_; rintro e w' ⟨rfl, rfl⟩)  ); go_ret; exact ⟨rfl, by go_grown⟩)
      · obtain ⟨⟨a1, a2⟩, b1, b2⟩ := goodB_iff.1 g1
        cases g2 : goodB (opA o a b) (opB o a b)
        · (go_enter Tryd.func5, Tryd.ntmps5; go_wp2_with fail; refine (awake_any _ hs).mono ?_; rintro e w1 ⟨rfl, hb⟩; obtain ⟨hc_w1, _⟩ := bcell hb; have hz_w1 := hb.size; (try simp at hz_w1); have hb_w1 := below_call (B := w.heap.size) (w := w) hb (by go_grown) (by go_size); clear hb; clear hc_w1; go_wp2_with fail; refine (on_out _ _ _ _ p0 p1 g1 g2).mono ?_; rintro e w2 ⟨rfl, hb⟩; obtain ⟨hc_w2, _⟩ := bcell hb; have hz_w2 := hb.size; (try simp at hz_w2); have hb_w2 := below_call (B := w.heap.size) (w := w) hb (by go_grown) (by go_size); clear hb; go_wp2_with (first | (go_at_call 12; refine (refgood_any _ _ _).mono ?_; rintro e w' ⟨rfl, rfl⟩)  | (go_at_call 17; refine (refon_any _ _ _ _ p0 p1 ⟨a1, a2⟩ ⟨b1, b2⟩).mono ?_; rintro e w' ⟨rfl, rfl⟩)); go_ret; exact ⟨rfl, by go_grown⟩)
        · (go_enter Tryd.func5, Tryd.ntmps5; go_wp2_with fail; refine (awake_any _ hs).mono ?_; rintro e w1 ⟨rfl, hb⟩; obtain ⟨hc_w1, _⟩ := bcell hb; have hz_w1 := hb.size; (try simp at hz_w1); have hb_w1 := below_call (B := w.heap.size) (w := w) hb (by go_grown) (by go_size); clear hb; clear hc_w1; go_wp2_with fail; refine (on_yes _ _ _ _ p0 p1 g1 g2).mono ?_; rintro e w2 ⟨rfl, hb⟩; obtain ⟨hc_w2, _⟩ := bcell hb; have hz_w2 := hb.size; (try simp at hz_w2); have hb_w2 := below_call (B := w.heap.size) (w := w) hb (by go_grown) (by go_size); clear hb; go_wp2_with (first | (go_at_call 12; refine (refgood_any _ _ _).mono ?_; rintro e w' ⟨rfl, rfl⟩)  | (go_at_call 17; refine (refon_any _ _ _ _ p0 p1 ⟨a1, a2⟩ ⟨b1, b2⟩).mono ?_; rintro e w' ⟨rfl, rfl⟩)); go_ret; exact ⟨rfl, by go_grown⟩)

section axisTurnsFrame
open Go.ChangeShapes Go.WideShapes Go.ChangeAt Go.RowKit Go.Joins
theorem axisTurns_contract (H : Type) (enc : TypeId × Value → H) (W : World) (base : Nat) (args : Array Value) (ds gs : List (DataW H)) (before : List MemPlace)
    (hval : ∀ (j : Nat) t v, Tryd.f5.params[j]? = some t → args[j]? = some v → Value.okWide Tryd.prog W .any base t v)
    (hW : DataW.Whole enc Tryd.prog Tryd.f5.params.toList Rows.axisTurnsSpec.vars false W args.toList ds gs before) (hL : laidMetH Tryd.prog Rows.axisTurnsRow.laid W) :
    Calls Tryd.prog 5 args W fun e W' => ∃ v, e = .returned v ∧ Rows.axisTurnsSpec.post enc Tryd.prog Tryd.f5 false true false false W args v W' := by
  have hW' := hW
  obtain ⟨p, q, hA0, hV, rfl, hfz, hnd⟩ := hW
  have hA : DataW.TrodAll enc Tryd.prog W 0 (fun _ => true) true Tryd.f5.params.toList args.toList ds p := hA0
  rw [Tryd.params5] at hA hval
  obtain ⟨v0, vs0, d0, ds0, p0, q0, hargs, rfl, rfl, h0, r0⟩ := trodAll_cons hA
  obtain ⟨v1, vs1, d1, ds1, p1, q1, rfl, rfl, rfl, h1, r1⟩ := trodAll_cons r0
  obtain ⟨v2, vs2, d2, ds2, p2, q2, rfl, rfl, rfl, h2, r2⟩ := trodAll_cons r1
  obtain ⟨rfl, rfl, rfl⟩ := trodAll_nil r2
  obtain rfl : args = #[v0, v1, v2] := by cases args; simp_all
  obtain ⟨rfl, rfl⟩ := trodVars_none hV
  obtain ⟨o, rfl, rfl, rfl, w_o⟩ := open_int Tryd.underlying3 (hval 0 3 v0 rfl rfl) h0
  obtain ⟨a, rfl, rfl, rfl, w_a⟩ := open_int Tryd.underlying2 (hval 1 2 v1 rfl rfl) h1
  obtain ⟨b, rfl, rfl, rfl, w_b⟩ := open_int Tryd.underlying2 (hval 2 2 v2 rfl rfl) h2
  refine (axisTurns_walk o w_o a w_a b w_b W (six_of_laid hL)).mono fun e W' ⟨he, hb⟩ => ?_
  exact ⟨_, he, law_post laidOut rfl rfl Tryd.underlying4 (by kernel_rfl) hW' hb ⟨rfl, rfl, rfl⟩⟩
theorem axisTurns_met (os : Os) : laidMet Tryd.prog Rows.axisTurnsRow.laid ((laidWorld os).forCall (fun _ _ => 0) ⟨#[], #[.int .i64 0, .int .i64 0, .int .i64 0], []⟩).memory :=
  laidMet_of_run' 8 (by kernel_rfl) (by kernel_rfl)
theorem axisTurns_reads (os : Os) {H : Type} (enc : TypeId × Value → H) : ∃ places, DataW.whole enc Tryd.prog ((laidWorld os).forCall (fun _ _ => 0) ⟨#[], #[.int .i64 0, .int .i64 0, .int .i64 0], []⟩).memory Tryd.f5.params.toList Rows.axisTurnsSpec.vars false #[(.int .i64 0 : Value), (.int .i64 0 : Value), (.int .i64 0 : Value)].toList 8 = some ([.lit (.int .i64 0), .lit (.int .i64 0), .lit (.int .i64 0)], [], places) :=
  ⟨[], by kernel_rfl⟩
set_option maxRecDepth 100000 in
theorem axisTurns_lifted (os : Os) (started : os.Started) (H : Type) (enc : TypeId × Value → H) (F : Stop.Interp) :
    ReturnsInHanded {} Tryd.checked os 5 .any ((OpenSpec.ofChange Rows.axisTurnsSpec).preRow enc Tryd.prog Tryd.f5 Rows.axisTurnsRow.domain false Rows.axisTurnsRow.laid) (((OpenSpec.ofChange Rows.axisTurnsSpec).at F).post enc Tryd.prog Tryd.f5 false true false false) := by
  obtain ⟨places, hx⟩ := axisTurns_reads os enc
  refine returnsInHanded_of_row (C := Tryd.checked) (s := OpenSpec.ofChange Rows.axisTurnsSpec) own started (by kernel_rfl) Tryd.func5
    (witness_row_at (enc := enc) (C := Tryd.checked) false (laidWorld os) #[.int .i64 0, .int .i64 0, .int .i64 0] rfl (by kernel_rfl) (by kernel_rfl) (by kernel_rfl)
      (OpenSpec.preRow_of_cond 8 hx (by kernel_rfl) (fun k hk => by cases hk) (by kernel_rfl) (axisTurns_met os))) ?_
  intro W base args ds gs before hval hW _ _ _ hL _ _
  exact axisTurns_contract H enc W base args ds gs before hval hW hL
theorem axisTurns_said : Rows.AxisTurnsSaid :=
  OpenClaim.holds_of_cond 5 Tryd.f5 rfl rfl rfl rfl rfl rfl rfl ⟨rfl, rfl, rfl, rfl, rfl⟩ rfl rfl rfl rfl rfl (by kernel_rfl) Tryd.func5 (by kernel_rfl)
    (of_decide_eq_true (by kernel_rfl)) (by unfold Func.isWrapper; first | (rw [if_pos (by decide +kernel)]; kernel_rfl) | (rw [if_neg (by decide +kernel)]; exact ⟨rfl, rfl⟩))
    (fun os started H enc _ F => by rw [OpenClaim.pre_eq_preRow]; exact axisTurns_lifted os started H enc F)
theorem axisTurns_plain (f : FuncId) (fn : Func) (hf : Tryd.pinned.checked.prog.funcNamed "honeycomb/honeycomblaw01.AxisTurns" = some f) (hfn : Tryd.pinned.checked.prog.funcs[f]? = some fn) :
    true = Tryd.pinned.checked.prog.looks [] ∧ ∀ (j : Nat) t, fn.params[j]? = some t → Tryd.pinned.checked.prog.wantsStandIn t = false := by
  obtain rfl : f = 5 := Option.some.inj ((show Tryd.prog.funcNamed "honeycomb/honeycomblaw01.AxisTurns" = some 5 by kernel_rfl).symm.trans hf) |>.symm
  obtain rfl : fn = Tryd.f5 := (Option.some.inj (Tryd.func5.symm.trans hfn)).symm
  refine ⟨by kernel_rfl, fun j t ht => ?_⟩
  have hall : (Tryd.f5.params.toList.all fun t => !Tryd.prog.wantsStandIn t) = true := by kernel_rfl
  have hm : t ∈ Tryd.f5.params.toList := by simpa using Array.mem_of_getElem? ht
  have := List.all_eq_true.1 hall t hm
  exact (show Tryd.prog.wantsStandIn t = false by simpa using this)
end axisTurnsFrame
/-- AxisTurns: the card: for every input the law answers true. -/
theorem axisTurns_card : Rows.AxisTurnsCardSaid :=
  Claim7.holds_tied_plain_at .later [] _ _ _ _ axisTurns_said (fun _ h => by cases h) (by kernel_rfl) (fun _ h => by cases h) axisTurns_row_tie rfl ⟨rfl, rfl⟩ (by kernel_rfl) rfl axisTurns_plain (by kernel_rfl)
end Go.Proofs.YtcaocbakckojjaaDoor.Ax
namespace Go.Proofs.YtcaocbakckojjaaDoor
theorem axisTurns_proved : Rows.AxisTurnsCardSaid := Ax.axisTurns_card
#print axioms axisTurns_proved
end Go.Proofs.YtcaocbakckojjaaDoor
