/- AxisSums: for any two numbers axis.Sum answers their sum modulo 2^64, and whether that is their sum. No conditions. -/
import Derived.Test.YtcaocbakckojjaaDoorAxR
namespace Go.Proofs.YtcaocbakckojjaaDoor.Ax
open Go.RowKit

theorem sum_over (a b : Int) (a0 : -9223372036854775808 ≤ a) (a1 : a ≤ 9223372036854775807) (b0 : -9223372036854775808 ≤ b) (b1 : b ≤ 9223372036854775807)
    (h : 9223372036854775807 < a + b ∨ a + b < -9223372036854775808) : (decide (a < wrap64 (a + b)) == decide (0 < b)) = false := by
  unfold wrap64
  rw [beq_eq_false_iff_ne, Ne, decide_eq_decide]
  omega
theorem sum_fits (a b : Int) (h : ¬ (9223372036854775807 < a + b ∨ a + b < -9223372036854775808)) : (decide (a < wrap64 (a + b)) == decide (0 < b)) = true := by
  unfold wrap64
  rw [beq_iff_eq, decide_eq_decide]
  omega

theorem axisSums_walk (a : Int) (wa : (Lit.int .i64 a).wf = true) (b : Int) (wb : (Lit.int .i64 b).wf = true) (w : World) (hs : SixIs w) :
    Calls Tryd.prog 3 #[.int .i64 a, .int .i64 b] w fun e w' => e = .returned (.bool true) ∧ Below w.heap.size w w' := by
  obtain ⟨a0, a1⟩ := bounds_i64 wa
  obtain ⟨b0, b1⟩ := bounds_i64 wb
  by_cases c1 : 0 < a
  · by_cases c2 : 9223372036854775807 - a < b
    · have e1 := Lib.hid (sum_over a b a0 a1 b0 b1 (by omega))
      (go_enter Tryd.func3, Tryd.ntmps3; go_wp2_with (first | (go_at_call 10; refine (awake_any _ hs).mono ?_; rintro e w1 ⟨rfl, hb⟩; obtain ⟨hc_w1, hf_w1⟩ := bcell hb; have hz_w1 := hb.size; (try simp only [World.size_alloc, World.size_setCell, World.size_drew] at hz_w1); have hb_w1 := below_call (B := w.heap.size) (w := w) hb (by go_grown) (by go_size); clear hb) | go_in); go_ret; exact ⟨by first | (simp [e1.out]; done) | (simp; omega), hb_w1⟩)
    · have e1 := Lib.hid (sum_fits a b (by omega))
      have c3 : ¬ a < 0 := by omega
      (go_enter Tryd.func3, Tryd.ntmps3; go_wp2_with (first | (go_at_call 10; refine (awake_any _ hs).mono ?_; rintro e w1 ⟨rfl, hb⟩; obtain ⟨hc_w1, hf_w1⟩ := bcell hb; have hz_w1 := hb.size; (try simp only [World.size_alloc, World.size_setCell, World.size_drew] at hz_w1); have hb_w1 := below_call (B := w.heap.size) (w := w) hb (by go_grown) (by go_size); clear hb) | go_in); go_ret; exact ⟨by first | (simp [e1.out]; done) | (simp; omega), hb_w1⟩)
  · by_cases c2 : a < 0
    · by_cases c3 : b < -9223372036854775808 - a
      · have e1 := Lib.hid (sum_over a b a0 a1 b0 b1 (by omega))
        (go_enter Tryd.func3, Tryd.ntmps3; go_wp2_with (first | (go_at_call 10; refine (awake_any _ hs).mono ?_; rintro e w1 ⟨rfl, hb⟩; obtain ⟨hc_w1, hf_w1⟩ := bcell hb; have hz_w1 := hb.size; (try simp only [World.size_alloc, World.size_setCell, World.size_drew] at hz_w1); have hb_w1 := below_call (B := w.heap.size) (w := w) hb (by go_grown) (by go_size); clear hb) | go_in); go_ret; exact ⟨by first | (simp [e1.out]; done) | (simp; omega), hb_w1⟩)
      · have e1 := Lib.hid (sum_fits a b (by omega))
        (go_enter Tryd.func3, Tryd.ntmps3; go_wp2_with (first | (go_at_call 10; refine (awake_any _ hs).mono ?_; rintro e w1 ⟨rfl, hb⟩; obtain ⟨hc_w1, hf_w1⟩ := bcell hb; have hz_w1 := hb.size; (try simp only [World.size_alloc, World.size_setCell, World.size_drew] at hz_w1); have hb_w1 := below_call (B := w.heap.size) (w := w) hb (by go_grown) (by go_size); clear hb) | go_in); go_ret; exact ⟨by first | (simp [e1.out]; done) | (simp; omega), hb_w1⟩)
    · have e1 := Lib.hid (sum_fits a b (by omega))
      (go_enter Tryd.func3, Tryd.ntmps3; go_wp2_with (first | (go_at_call 10; refine (awake_any _ hs).mono ?_; rintro e w1 ⟨rfl, hb⟩; obtain ⟨hc_w1, hf_w1⟩ := bcell hb; have hz_w1 := hb.size; (try simp only [World.size_alloc, World.size_setCell, World.size_drew] at hz_w1); have hb_w1 := below_call (B := w.heap.size) (w := w) hb (by go_grown) (by go_size); clear hb) | go_in); go_ret; exact ⟨by first | (simp [e1.out]; done) | (simp; omega), hb_w1⟩)

section axisSumsFrame
open Go.ChangeShapes Go.WideShapes Go.ChangeAt Go.RowKit Go.Joins
theorem axisSums_contract (H : Type) (enc : TypeId × Value → H) (W : World) (base : Nat) (args : Array Value) (ds gs : List (DataW H)) (before : List MemPlace)
    (hval : ∀ (j : Nat) t v, Tryd.f3.params[j]? = some t → args[j]? = some v → Value.okWide Tryd.prog W .any base t v)
    (hW : DataW.Whole enc Tryd.prog Tryd.f3.params.toList Rows.axisSumsSpec.vars false W args.toList ds gs before) (hL : laidMetH Tryd.prog Rows.axisSumsRow.laid W) :
    Calls Tryd.prog 3 args W fun e W' => ∃ v, e = .returned v ∧ Rows.axisSumsSpec.post enc Tryd.prog Tryd.f3 false true false false W args v W' := by
  have hW' := hW
  obtain ⟨p, q, hA0, hV, rfl, hfz, hnd⟩ := hW
  have hA : DataW.TrodAll enc Tryd.prog W 0 (fun _ => true) true Tryd.f3.params.toList args.toList ds p := hA0
  rw [Tryd.params3] at hA hval
  obtain ⟨v0, vs0, d0, ds0, p0, q0, hargs, rfl, rfl, h0, r0⟩ := trodAll_cons hA
  obtain ⟨v1, vs1, d1, ds1, p1, q1, rfl, rfl, rfl, h1, r1⟩ := trodAll_cons r0
  obtain ⟨rfl, rfl, rfl⟩ := trodAll_nil r1
  obtain rfl : args = #[v0, v1] := by cases args; simp_all
  obtain ⟨rfl, rfl⟩ := trodVars_none hV
  obtain ⟨a, rfl, rfl, rfl, w_a⟩ := open_int Tryd.underlying2 (hval 0 2 v0 rfl rfl) h0
  obtain ⟨b, rfl, rfl, rfl, w_b⟩ := open_int Tryd.underlying2 (hval 1 2 v1 rfl rfl) h1
  refine (axisSums_walk a w_a b w_b W (six_of_laid hL)).mono fun e W' ⟨he, hb⟩ => ?_
  exact ⟨_, he, law_post laidOut rfl rfl Tryd.underlying4 (by kernel_rfl) hW' hb ⟨rfl, rfl, rfl⟩⟩
theorem axisSums_met (os : Os) : laidMet Tryd.prog Rows.axisSumsRow.laid ((laidWorld os).forCall (fun _ _ => 0) ⟨#[], #[.int .i64 0, .int .i64 0], []⟩).memory :=
  laidMet_of_run' 8 (by kernel_rfl) (by kernel_rfl)
theorem axisSums_reads (os : Os) {H : Type} (enc : TypeId × Value → H) : ∃ places, DataW.whole enc Tryd.prog ((laidWorld os).forCall (fun _ _ => 0) ⟨#[], #[.int .i64 0, .int .i64 0], []⟩).memory Tryd.f3.params.toList Rows.axisSumsSpec.vars false #[(.int .i64 0 : Value), (.int .i64 0 : Value)].toList 8 = some ([.lit (.int .i64 0), .lit (.int .i64 0)], [], places) :=
  ⟨[], by kernel_rfl⟩
set_option maxRecDepth 100000 in
theorem axisSums_lifted (os : Os) (started : os.Started) (H : Type) (enc : TypeId × Value → H) (F : Stop.Interp) :
    ReturnsInHanded {} Tryd.checked os 3 .any ((OpenSpec.ofChange Rows.axisSumsSpec).preRow enc Tryd.prog Tryd.f3 Rows.axisSumsRow.domain false Rows.axisSumsRow.laid) (((OpenSpec.ofChange Rows.axisSumsSpec).at F).post enc Tryd.prog Tryd.f3 false true false false) := by
  obtain ⟨places, hx⟩ := axisSums_reads os enc
  refine returnsInHanded_of_row (C := Tryd.checked) (s := OpenSpec.ofChange Rows.axisSumsSpec) own started (by kernel_rfl) Tryd.func3
    (witness_row_at (enc := enc) (C := Tryd.checked) false (laidWorld os) #[.int .i64 0, .int .i64 0] rfl (by kernel_rfl) (by kernel_rfl) (by kernel_rfl)
      (OpenSpec.preRow_of_cond 8 hx (by kernel_rfl) (fun k hk => by cases hk) (by kernel_rfl) (axisSums_met os))) ?_
  intro W base args ds gs before hval hW _ _ _ hL _ _
  exact axisSums_contract H enc W base args ds gs before hval hW hL
theorem axisSums_said : Rows.AxisSumsSaid :=
  OpenClaim.holds_of_cond 3 Tryd.f3 rfl rfl rfl rfl rfl rfl rfl ⟨rfl, rfl, rfl, rfl, rfl⟩ rfl rfl rfl rfl rfl (by kernel_rfl) Tryd.func3 (by kernel_rfl)
    (of_decide_eq_true (by kernel_rfl)) (by unfold Func.isWrapper; first | (rw [if_pos (by decide +kernel)]; kernel_rfl) | (rw [if_neg (by decide +kernel)]; exact ⟨rfl, rfl⟩))
    (fun os started H enc _ F => by rw [OpenClaim.pre_eq_preRow]; exact axisSums_lifted os started H enc F)
theorem axisSums_plain (f : FuncId) (fn : Func) (hf : Tryd.pinned.checked.prog.funcNamed "honeycomb/honeycomblaw01.AxisSums" = some f) (hfn : Tryd.pinned.checked.prog.funcs[f]? = some fn) :
    true = Tryd.pinned.checked.prog.looks [] ∧ ∀ (j : Nat) t, fn.params[j]? = some t → Tryd.pinned.checked.prog.wantsStandIn t = false := by
  obtain rfl : f = 3 := Option.some.inj ((show Tryd.prog.funcNamed "honeycomb/honeycomblaw01.AxisSums" = some 3 by kernel_rfl).symm.trans hf) |>.symm
  obtain rfl : fn = Tryd.f3 := (Option.some.inj (Tryd.func3.symm.trans hfn)).symm
  refine ⟨by kernel_rfl, fun j t ht => ?_⟩
  have hall : (Tryd.f3.params.toList.all fun t => !Tryd.prog.wantsStandIn t) = true := by kernel_rfl
  have hm : t ∈ Tryd.f3.params.toList := by simpa using Array.mem_of_getElem? ht
  have := List.all_eq_true.1 hall t hm
  exact (show Tryd.prog.wantsStandIn t = false by simpa using this)
end axisSumsFrame
/-- AxisSums: the card: for every input the law answers true. -/
theorem axisSums_card : Rows.AxisSumsCardSaid :=
  Claim7.holds_tied_plain_at .later [] _ _ _ _ axisSums_said (fun _ h => by cases h) (by kernel_rfl) (fun _ h => by cases h) axisSums_row_tie rfl ⟨rfl, rfl⟩ (by kernel_rfl) rfl axisSums_plain (by kernel_rfl)
end Go.Proofs.YtcaocbakckojjaaDoor.Ax
namespace Go.Proofs.YtcaocbakckojjaaDoor
theorem axisSums_proved : Rows.AxisSumsCardSaid := Ax.axisSums_card
#print axioms axisSums_proved
end Go.Proofs.YtcaocbakckojjaaDoor
