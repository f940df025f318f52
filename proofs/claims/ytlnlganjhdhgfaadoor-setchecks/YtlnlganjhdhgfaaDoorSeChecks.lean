/- SetChecks: any 40 cells, in any order or as a set, of any lattice: may they be, or the first that may not. No conditions. -/
import Derived.Test.YtlnlganjhdhgfaaDoorSeC2
import Derived.Test.YtlnlganjhdhgfaaDoorSeW9
import Derived.Test.YtlnlganjhdhgfaaDoorSeO
import Derived.Test.YtlnlganjhdhgfaaDoorBsE
import Derived.Deep.DeepHandedRow
import Derived.Lib.SmallJoins
namespace Go.Proofs.YtlnlganjhdhgfaaDoor.Se
open Go.RowKit Go.Proofs.YtlnlganjhdhgfaaDoor.Ax Go.Proofs.YtlnlganjhdhgfaaDoor.Ba Go.Lib

set_option maxRecDepth 100000 in
set_option maxHeartbeats 1000000 in
theorem setChecks_walk (l : Int) (_w0 : (Lit.int .i64 l).wf = true) (v : Value) (L : List C) (tidy : Bool) (w : World) (hE : ErrIs w) (h : RawAt w v L) (hL : L.length ≤ maxLen) :
    Calls Tryd.prog 3 #[.int .i64 l, v, .bool tidy] w fun e w' => e = .returned (.bool true) ∧ Below w.heap.size w w' := by
  have H40 := Lib.hid (show (L.take 40).length ≤ 40 by rw [List.length_take]; omega)
  have HE := Lib.hid hE
  have HH := Lib.hid h
  have HL := Lib.hid hL
  clear hE h hL _w0
  cases tidy
  all_goals
    go_enter Tryd.func3, Tryd.ntmps3
    go_wp2_with fail
    refine (awake4_any _).mono ?_
    rintro e w1 ⟨rfl, hb1⟩
    go_wp2_with fail
    refine (own4_any v L _ (HH.out.below hb1) HL.out).mono ?_
    rintro e w2 ⟨v2, rfl, hown, hb2⟩
    have hs2 := set_of_own hown
    have hbw2 := hb1.trans (hb2.mono hb1.size)
    clear hown hb2 hb1
    obtain ⟨M, hM⟩ : ∃ M, M = L.take 40 := ⟨_, rfl⟩
    rw [← hM] at hs2 H40
    have hM40 := H40.out
    clear hM
  · go_wp2_with fail
    refine (told4_any v2 M _ hs2 (by omega)).mono ?_
    rintro e w3 ⟨v3, rfl, hs3, hb3⟩
    have hs23 := hs2.below hb3
    have hbw3 := hbw2.trans (hb3.mono hbw2.size)
    clear hb3 hbw2 hs2
    go_wp2_with fail
    refine (refcheck4_any l v3 M _ hs3 (by omega)).mono ?_
    rintro e w4 ⟨rfl, hb4⟩
    have hs4 := hs23.below hb4
    have hbw4 := hbw3.trans (hb4.mono hbw3.size)
    clear hb4 hbw3 hs23 hs3
    go_wp2_with fail
    refine (check4_any l v2 M _ hs4 (by omega)).mono ?_
    rintro e w5 ⟨u, rfl, hu, hb5⟩
    have hbw5 := hbw4.trans (hb5.mono hbw4.size)
    clear hb5 hbw4 hs4
    go_wp2_with fail
    refine (fails_any u (outI l M) _ (HE.out.below hbw5) hu).mono ?_
    rintro e w6 ⟨rfl, hb6⟩
    have hbw6 := hbw5.trans (hb6.mono hbw5.size)
    clear hb6 hbw5 hu
    go_wp2_with fail
    go_ret
    exact ⟨rfl, hbw6⟩
  · go_wp2_with fail
    refine (of_any v2 M _ hs2 (by omega)).mono ?_
    rintro e w2' ⟨v2', rfl, hs2', hb2'⟩
    have hbw2' := hbw2.trans (hb2'.mono hbw2.size)
    have hN40 := Nat.le_trans (ofL_len M) hM40
    clear hb2' hbw2 hs2
    go_wp2_with fail
    refine (told4_any v2' (ofL M) _ hs2' (by omega)).mono ?_
    rintro e w3 ⟨v3, rfl, hs3, hb3⟩
    have hs23 := hs2'.below hb3
    have hbw3 := hbw2'.trans (hb3.mono hbw2'.size)
    clear hb3 hbw2' hs2'
    go_wp2_with fail
    refine (refcheck4_any l v3 (ofL M) _ hs3 (by omega)).mono ?_
    rintro e w4 ⟨rfl, hb4⟩
    have hs4 := hs23.below hb4
    have hbw4 := hbw3.trans (hb4.mono hbw3.size)
    clear hb4 hbw3 hs23 hs3
    go_wp2_with fail
    refine (check4_any l v2' (ofL M) _ hs4 (by omega)).mono ?_
    rintro e w5 ⟨u, rfl, hu, hb5⟩
    have hbw5 := hbw4.trans (hb5.mono hbw4.size)
    clear hb5 hbw4 hs4
    go_wp2_with fail
    refine (fails_any u (outI l (ofL M)) _ (HE.out.below hbw5) hu).mono ?_
    rintro e w6 ⟨rfl, hb6⟩
    have hbw6 := hbw5.trans (hb6.mono hbw5.size)
    clear hb6 hbw5 hu
    go_wp2_with fail
    go_ret
    exact ⟨rfl, hbw6⟩
section setChecksFrame
open Go.ChangeShapes Go.WideShapes Go.ChangeAt Go.RowKit Go.Joins
set_option maxRecDepth 100000 in
theorem setChecks_contract (H : Type) (enc : TypeId × Value → H) (W : World) (base : Nat) (args : Array Value) (ds gs : List (DataW H)) (before : List MemPlace)
    (hval : ∀ (j : Nat) t v, Tryd.f3.params[j]? = some t → args[j]? = some v → Value.okWide Tryd.prog W .any base t v)
    (hW : DataW.Whole enc Tryd.prog Tryd.f3.params.toList Rows.setChecksSpec.vars false W args.toList ds gs before) (hL : laidMetH Tryd.prog Rows.setChecksRow.laid W) :
    Calls Tryd.prog 3 args W fun e W' => ∃ v, e = .returned v ∧ Rows.setChecksSpec.post enc Tryd.prog Tryd.f3 false true false false W args v W' := by
  have hW' := hW
  obtain ⟨p, q, hA0, hV, rfl, hfz, hnd⟩ := hW
  have hA : DataW.TrodAll enc Tryd.prog W 0 (fun _ => true) true Tryd.f3.params.toList args.toList ds p := hA0
  rw [Tryd.params3] at hA hval
  obtain ⟨v0, vs0, d0, ds0, p0, q0, hargs, rfl, rfl, h0, r0⟩ := trodAll_cons hA
  obtain ⟨v1, vs1, d1, ds1, p1, q1, rfl, rfl, rfl, h1, r1⟩ := trodAll_cons r0
  obtain ⟨v2, vs2, d2, ds2, p2, q2, rfl, rfl, rfl, h2, r2⟩ := trodAll_cons r1
  obtain ⟨rfl, rfl, rfl⟩ := trodAll_nil r2
  obtain rfl : args = #[v0, v1, v2] := by cases args; simp_all
  obtain ⟨rfl, rfl⟩ := trodVars_none hV
  obtain ⟨l, rfl, rfl, rfl, w_l⟩ := open_int Tryd.underlying3 (hval 0 3 v0 rfl rfl) h0
  obtain ⟨L1, hraw1, hlen1⟩ := open_cells (hval 1 22 v1 rfl rfl) h1
  obtain ⟨tidy, rfl, rfl, rfl⟩ := open_bool Tryd.underlying4 (hval 2 4 v2 rfl rfl) h2
  refine (setChecks_walk l w_l v1 L1 tidy W (one_of_laid hL) hraw1 hlen1).mono fun e W' ⟨he, hb⟩ => ?_
  exact ⟨_, he, law_post laidOut rfl rfl Tryd.underlying4 (by kernel_rfl) hW' hb ⟨rfl, rfl, rfl⟩⟩
theorem setChecks_met (os : Os) : laidMetH Tryd.prog Rows.setChecksRow.laid ((laidWorldE os).forCall (fun _ _ => 0) ⟨#[], #[.int .i64 0, .slice none 0 0, .bool false], []⟩).memory :=
  laidMetH_of_parts (laidMet_of_run' 8 (by kernel_rfl) (by kernel_rfl)) (by kernel_rfl)
theorem setChecks_reads (os : Os) {H : Type} (enc : TypeId × Value → H) : ∃ places, DataW.whole enc Tryd.prog ((laidWorldE os).forCall (fun _ _ => 0) ⟨#[], #[.int .i64 0, .slice none 0 0, .bool false], []⟩).memory Tryd.f3.params.toList Rows.setChecksSpec.vars false #[(.int .i64 0 : Value), (.slice none 0 0 : Value), (.bool false : Value)].toList 8 = some ([.lit (.int .i64 0), .nil, .lit (.bool false)], [], places) :=
  ⟨[], by kernel_rfl⟩
set_option maxRecDepth 100000 in
theorem setChecks_lifted (os : Os) (started : os.Started) (H : Type) (enc : TypeId × Value → H) (F : Stop.Interp) :
    ReturnsInHanded {} Tryd.checked os 3 .any ((OpenSpec.ofChange Rows.setChecksSpec).preRow enc Tryd.prog Tryd.f3 Rows.setChecksRow.domain false Rows.setChecksRow.laid) (((OpenSpec.ofChange Rows.setChecksSpec).at F).post enc Tryd.prog Tryd.f3 false true false false) := by
  obtain ⟨places, hx⟩ := setChecks_reads os enc
  refine returnsInHanded_of_row (C := Tryd.checked) (s := OpenSpec.ofChange Rows.setChecksSpec) own started (by kernel_rfl) Tryd.func3
    (witness_row_at (enc := enc) (C := Tryd.checked) false (laidWorldE os) #[.int .i64 0, .slice none 0 0, .bool false] rfl (by kernel_rfl) (by kernel_rfl) (by kernel_rfl)
      (OpenSpec.preRow_of_cond 8 hx (by kernel_rfl) (fun k hk => by cases hk) (by kernel_rfl) (setChecks_met os))) ?_
  intro W base args ds gs before hval hW _ _ _ hL _ _
  exact setChecks_contract H enc W base args ds gs before hval hW hL
theorem setChecks_said : Rows.SetChecksSaid :=
  OpenClaim.holds_of_cond 3 Tryd.f3 rfl rfl rfl rfl rfl rfl rfl ⟨rfl, rfl, rfl, rfl, rfl⟩ rfl rfl rfl rfl rfl (by kernel_rfl) Tryd.func3 (by kernel_rfl)
    (of_decide_eq_true (by kernel_rfl)) (by unfold Func.isWrapper; first | (rw [if_pos (by decide +kernel)]; kernel_rfl) | (rw [if_neg (by decide +kernel)]; exact ⟨rfl, rfl⟩))
    (fun os started H enc _ F => by rw [OpenClaim.pre_eq_preRow]; exact setChecks_lifted os started H enc F)
theorem setChecks_plain (f : FuncId) (fn : Func) (hf : Tryd.pinned.checked.prog.funcNamed "honeycomb/honeycomblaw04.SetChecks" = some f) (hfn : Tryd.pinned.checked.prog.funcs[f]? = some fn) :
    true = Tryd.pinned.checked.prog.looks [] ∧ ∀ (j : Nat) t, fn.params[j]? = some t → Tryd.pinned.checked.prog.wantsStandIn t = false := by
  obtain rfl : f = 3 := Option.some.inj ((show Tryd.prog.funcNamed "honeycomb/honeycomblaw04.SetChecks" = some 3 by kernel_rfl).symm.trans hf) |>.symm
  obtain rfl : fn = Tryd.f3 := (Option.some.inj (Tryd.func3.symm.trans hfn)).symm
  refine ⟨by kernel_rfl, fun j t ht => ?_⟩
  have hall : (Tryd.f3.params.toList.all fun t => !Tryd.prog.wantsStandIn t) = true := by kernel_rfl
  have hm : t ∈ Tryd.f3.params.toList := by simpa using Array.mem_of_getElem? ht
  have := List.all_eq_true.1 hall t hm
  exact (show Tryd.prog.wantsStandIn t = false by simpa using this)
end setChecksFrame
/-- SetChecks: the card: for every input the law answers true. -/
theorem setChecks_card : Rows.SetChecksCardSaid :=
  Claim7.holds_tied_plain_at .later [] _ _ _ _ setChecks_said (fun _ h => by cases h) (by kernel_rfl) (fun _ h => by cases h) setChecks_row_tie rfl ⟨rfl, rfl⟩ (by kernel_rfl) rfl setChecks_plain (by kernel_rfl)
end Go.Proofs.YtlnlganjhdhgfaaDoor.Se
namespace Go.Proofs.YtlnlganjhdhgfaaDoor
theorem setChecks_proved : Rows.SetChecksCardSaid := Se.setChecks_card
#print axioms setChecks_proved
end Go.Proofs.YtlnlganjhdhgfaaDoor
