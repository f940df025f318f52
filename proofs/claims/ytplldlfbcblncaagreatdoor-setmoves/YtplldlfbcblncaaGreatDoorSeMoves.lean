/- SetMoves: any cells as a set, by any point, by any operator of any lattice: what Shift and Turn answer is the document's set, or its error at the first cell that can't be brought there. No conditions. -/
import Derived.Test.YtplldlfbcblncaaGreatDoorSeMv2
import Derived.Test.YtplldlfbcblncaaGreatDoorSeW9
import Derived.Test.YtplldlfbcblncaaGreatDoorSeO
import Derived.Test.YtplldlfbcblncaaGreatDoorSeA
import Derived.Test.YtplldlfbcblncaaGreatDoorBsE
import Derived.Deep.DeepHandedRow
import Derived.Lib.SmallJoins
namespace Go.Proofs.YtplldlfbcblncaaGreatDoor.Se
open Go.RowKit Go.Proofs.YtplldlfbcblncaaGreatDoor.Ba Go.Lib

theorem mv_len (f : Mv) (L : List C) : (mvOut f L).1.length ≤ L.length := by
  unfold mvOut
  split
  · exact Nat.le_trans (ofL_len _) (by simp)
  · simp
set_option maxRecDepth 100000 in
set_option maxHeartbeats 1000000 in
theorem setMoves_walk (l : Int) (_w0 : (Lit.int .i64 l).wf = true) (o : Int) (_w1 : (Lit.int .i64 o).wf = true) (v : Value) (L : List C) (a : Int) (wa : (Lit.int .i64 a).wf = true) (b : Int) (wb : (Lit.int .i64 b).wf = true) (w : World) (hE : ErrIs w) (h : RawAt w v L) (hL : L.length ≤ maxLen) :
    Calls Tryz.prog 3 #[.int .i64 l, .int .i64 o, v, .int .i64 a, .int .i64 b] w fun e w' => e = .returned (.bool true) ∧ Below w.heap.size w w' := by
  have H40 := Lib.hid (show (L.take 40).length ≤ 40 by rw [List.length_take]; omega)
  have HE := Lib.hid hE
  have HH := Lib.hid h
  have HL := Lib.hid hL
  have ba := bounds_i64 wa
  have bb := bounds_i64 wb
  clear hE h hL _w0 _w1 wa wb
  go_enter Tryz.func3, Tryz.ntmps3
  go_wp2_with fail
  refine (awake4_any _).mono ?_
  rintro e w1 ⟨rfl, hb1⟩
  go_wp2_with fail
  refine (own4_any v L _ (HH.out.below hb1) HL.out).mono ?_
  rintro e w2 ⟨v2, rfl, hown, hb2⟩
  have hs2 := set_of_own hown
  have hbw2 := hb1.trans (hb2.mono hb1.size)
  clear hown hb2 hb1
  obtain ⟨M, hM⟩ : ∃ M, M = L.take 40 := ⟨_, rfl⟩
  rw [← hM] at hs2 H40
  have hM40 := H40.out
  clear hM
  go_wp2_with fail
  refine (of_any v2 M _ hs2 (by omega)).mono ?_
  rintro e w3 ⟨v3, rfl, hs3, hb3⟩
  have hbw3 := hbw2.trans (hb3.mono hbw2.size)
  have hN40 := Nat.le_trans (ofL_len M) hM40
  clear hb3 hbw2 hs2
  generalize ofL M = S at *
  go_wp2_with fail
  refine (told4_any v3 S _ hs3 (by omega)).mono ?_
  rintro e w4 ⟨v4, rfl, hs4, hb4⟩
  have ht4 := hs3.below hb4
  have hbw4 := hbw3.trans (hb4.mono hbw3.size)
  clear hb4 hbw3 hs3
  have m1 := mv_len (shM a b) S
  have m2 := mv_len (tnM l o) S
  go_wp2_with fail
  refine (shiftm_any v3 S a b _ ht4 (by omega)).mono ?_
  rintro e w5 ⟨v5, E5, rfl, hs5, hE5, hb5⟩
  have hs45 := hs4.below hb5
  have ht5 := ht4.below hb5
  have hbw5 := hbw4.trans (hb5.mono hbw4.size)
  clear hb5 hbw4 hs4 ht4
  go_wp2_with fail
  refine (refshiftm_any v4 S a b _ hs45 (by omega) (by omega) (by omega)).mono ?_
  rintro e w6 ⟨v6, rfl, hs6, hb6⟩
  have hs46 := hs45.below hb6
  have ht6 := ht5.below hb6
  have hs56 := hs5.below hb6
  have hE6 := hE5.below hb6
  have hbw6 := hbw5.trans (hb6.mono hbw5.size)
  clear hb6 hbw5 hs45 ht5 hs5 hE5
  go_wp2_with fail
  refine (turnm_any v3 S l o _ ht6 (by omega)).mono ?_
  rintro e w7 ⟨v7, E7, rfl, hs7, hF7, hb7⟩
  have hs47 := hs46.below hb7
  have ht7 := ht6.below hb7
  have hs57 := hs56.below hb7
  have hs67 := hs6.below hb7
  have hE7 := hE6.below hb7
  have hbw7 := hbw6.trans (hb7.mono hbw6.size)
  clear hb7 hbw6 hs46 ht6 hs56 hs6 hE6
  go_wp2_with fail
  refine (refturnm_any v4 S l o _ hs47 (by omega)).mono ?_
  rintro e w8 ⟨v8, rfl, hs8, hb8⟩
  have hs48 := hs47.below hb8
  have ht8 := ht7.below hb8
  have hs58 := hs57.below hb8
  have hs68 := hs67.below hb8
  have hs78 := hs7.below hb8
  have hE8 := hE7.below hb8
  have hF8 := hF7.below hb8
  have hbw8 := hbw7.trans (hb8.mono hbw7.size)
  clear hb8 hbw7 hs47 ht7 hs57 hs67 hs7 hE7 hF7
  generalize mvOut (shM a b) S = X at *
  generalize mvOut (tnM l o) S = Y at *
  go_wp2_with fail
  refine (are_any v5 v6 X.1 _ hs58 hs68 (by omega)).mono ?_
  rintro e w9 ⟨rfl, hb9⟩
  have hs49 := hs48.below hb9
  have ht9 := ht8.below hb9
  have hs79 := hs78.below hb9
  have hs89 := hs8.below hb9
  have hE9 := hE8.below hb9
  have hF9 := hF8.below hb9
  have hbw9 := hbw8.trans (hb9.mono hbw8.size)
  clear hb9 hbw8 hs48 ht8 hs58 hs68 hs78 hs8 hE8 hF8
  go_wp2_with fail
  refine (fails_any E5 X.2 _ (HE.out.below hbw9) hE9).mono ?_
  rintro e wA ⟨rfl, hbA⟩
  have hs4A := hs49.below hbA
  have htA := ht9.below hbA
  have hs7A := hs79.below hbA
  have hs8A := hs89.below hbA
  have hFA := hF9.below hbA
  have hbwA := hbw9.trans (hbA.mono hbw9.size)
  clear hbA hbw9 hs49 ht9 hs79 hs89 hE9 hF9
  go_wp2_with fail
  refine (are_any v7 v8 Y.1 _ hs7A hs8A (by omega)).mono ?_
  rintro e wB ⟨rfl, hbB⟩
  have hs4B := hs4A.below hbB
  have htB := htA.below hbB
  have hFB := hFA.below hbB
  have hbwB := hbwA.trans (hbB.mono hbwA.size)
  clear hbB hbwA hs4A htA hs7A hs8A hFA
  go_wp2_with fail
  refine (fails_any E7 Y.2 _ (HE.out.below hbwB) hFB).mono ?_
  rintro e wC ⟨rfl, hbC⟩
  have hs4C := hs4B.below hbC
  have htC := htB.below hbC
  have hbwC := hbwB.trans (hbC.mono hbwB.size)
  clear hbC hbwB hs4B htB hFB
  go_wp2_with fail
  refine (are_any v3 v4 S _ htC hs4C (by omega)).mono ?_
  rintro e wD ⟨rfl, hbD⟩
  have hbwD := hbwC.trans (hbD.mono hbwC.size)
  clear hbD hbwC hs4C htC
  go_wp2_with fail
  go_ret
  exact ⟨rfl, hbwD⟩
section setMovesFrame
open Go.ChangeShapes Go.WideShapes Go.ChangeAt Go.RowKit Go.Joins
set_option maxRecDepth 100000 in
theorem setMoves_contract (H : Type) (enc : TypeId × Value → H) (W : World) (base : Nat) (args : Array Value) (ds gs : List (DataW H)) (before : List MemPlace)
    (hval : ∀ (j : Nat) t v, Tryz.f3.params[j]? = some t → args[j]? = some v → Value.okWide Tryz.prog W .any base t v)
    (hW : DataW.Whole enc Tryz.prog Tryz.f3.params.toList Rows.setMovesSpec.vars false W args.toList ds gs before) (hL : laidMetH Tryz.prog Rows.setMovesRow.laid W) :
    Calls Tryz.prog 3 args W fun e W' => ∃ v, e = .returned v ∧ Rows.setMovesSpec.post enc Tryz.prog Tryz.f3 false true false false W args v W' := by
  have hW' := hW
  obtain ⟨p, q, hA0, hV, rfl, hfz, hnd⟩ := hW
  have hA : DataW.TrodAll enc Tryz.prog W 0 (fun _ => true) true Tryz.f3.params.toList args.toList ds p := hA0
  rw [Tryz.params3] at hA hval
  obtain ⟨v0, vs0, d0, ds0, p0, q0, hargs, rfl, rfl, h0, r0⟩ := trodAll_cons hA
  obtain ⟨v1, vs1, d1, ds1, p1, q1, rfl, rfl, rfl, h1, r1⟩ := trodAll_cons r0
  obtain ⟨v2, vs2, d2, ds2, p2, q2, rfl, rfl, rfl, h2, r2⟩ := trodAll_cons r1
  obtain ⟨v3, vs3, d3, ds3, p3, q3, rfl, rfl, rfl, h3, r3⟩ := trodAll_cons r2
  obtain ⟨v4, vs4, d4, ds4, p4, q4, rfl, rfl, rfl, h4, r4⟩ := trodAll_cons r3
  obtain ⟨rfl, rfl, rfl⟩ := trodAll_nil r4
  obtain rfl : args = #[v0, v1, v2, v3, v4] := by cases args; simp_all
  obtain ⟨rfl, rfl⟩ := trodVars_none hV
  obtain ⟨lattice, rfl, rfl, rfl, w_lattice⟩ := open_int Tryz.underlying3 (hval 0 3 v0 rfl rfl) h0
  obtain ⟨o, rfl, rfl, rfl, w_o⟩ := open_int Tryz.underlying3 (hval 1 3 v1 rfl rfl) h1
  obtain ⟨L2, hraw2, hlen2⟩ := open_cells (hval 2 22 v2 rfl rfl) h2
  obtain ⟨a, rfl, rfl, rfl, w_a⟩ := open_int Tryz.underlying2 (hval 3 2 v3 rfl rfl) h3
  obtain ⟨b, rfl, rfl, rfl, w_b⟩ := open_int Tryz.underlying2 (hval 4 2 v4 rfl rfl) h4
  refine (setMoves_walk lattice w_lattice o w_o v2 L2 a w_a b w_b W (one_of_laid hL) hraw2 hlen2).mono fun e W' ⟨he, hb⟩ => ?_
  exact ⟨_, he, law_post laidOut rfl rfl Tryz.underlying4 (by kernel_rfl) hW' hb ⟨rfl, rfl, rfl⟩⟩
theorem setMoves_met (os : Os) : laidMetH Tryz.prog Rows.setMovesRow.laid ((laidWorldE os).forCall (fun _ _ => 0) ⟨#[], #[.int .i64 0, .int .i64 0, .slice none 0 0, .int .i64 0, .int .i64 0], []⟩).memory :=
  laidMetH_of_parts (laidMet_of_run' 8 (by kernel_rfl) (by kernel_rfl)) (by kernel_rfl)
theorem setMoves_reads (os : Os) {H : Type} (enc : TypeId × Value → H) : ∃ places, DataW.whole enc Tryz.prog ((laidWorldE os).forCall (fun _ _ => 0) ⟨#[], #[.int .i64 0, .int .i64 0, .slice none 0 0, .int .i64 0, .int .i64 0], []⟩).memory Tryz.f3.params.toList Rows.setMovesSpec.vars false #[(.int .i64 0 : Value), (.int .i64 0 : Value), (.slice none 0 0 : Value), (.int .i64 0 : Value), (.int .i64 0 : Value)].toList 8 = some ([.lit (.int .i64 0), .lit (.int .i64 0), .nil, .lit (.int .i64 0), .lit (.int .i64 0)], [], places) :=
  ⟨[], by kernel_rfl⟩
set_option maxRecDepth 100000 in
theorem setMoves_lifted (os : Os) (started : os.Started) (H : Type) (enc : TypeId × Value → H) (F : Stop.Interp) :
    ReturnsInHanded {} Tryz.checked os 3 .any ((OpenSpec.ofChange Rows.setMovesSpec).preRow enc Tryz.prog Tryz.f3 Rows.setMovesRow.domain false Rows.setMovesRow.laid) (((OpenSpec.ofChange Rows.setMovesSpec).at F).post enc Tryz.prog Tryz.f3 false true false false) := by
  obtain ⟨places, hx⟩ := setMoves_reads os enc
  refine returnsInHanded_of_row (C := Tryz.checked) (s := OpenSpec.ofChange Rows.setMovesSpec) own started (by kernel_rfl) Tryz.func3
    (witness_row_at (enc := enc) (C := Tryz.checked) false (laidWorldE os) #[.int .i64 0, .int .i64 0, .slice none 0 0, .int .i64 0, .int .i64 0] rfl (by kernel_rfl) (by kernel_rfl) (by kernel_rfl)
      (OpenSpec.preRow_of_cond 8 hx (by kernel_rfl) (fun k hk => by cases hk) (by kernel_rfl) (setMoves_met os))) ?_
  intro W base args ds gs before hval hW _ _ _ hL _ _
  exact setMoves_contract H enc W base args ds gs before hval hW hL
theorem setMoves_said : Rows.SetMovesSaid :=
  OpenClaim.holds_of_cond 3 Tryz.f3 rfl rfl rfl rfl rfl rfl rfl ⟨rfl, rfl, rfl, rfl, rfl⟩ rfl rfl rfl rfl rfl (by kernel_rfl) Tryz.func3 (by kernel_rfl)
    (of_decide_eq_true (by kernel_rfl)) (by unfold Func.isWrapper; first | (rw [if_pos (by decide +kernel)]; kernel_rfl) | (rw [if_neg (by decide +kernel)]; exact ⟨rfl, rfl⟩))
    (fun os started H enc _ F => by rw [OpenClaim.pre_eq_preRow]; exact setMoves_lifted os started H enc F)
theorem setMoves_plain (f : FuncId) (fn : Func) (hf : Tryz.pinned.checked.prog.funcNamed "honeycomb/honeycomblaw04.SetMoves" = some f) (hfn : Tryz.pinned.checked.prog.funcs[f]? = some fn) :
    true = Tryz.pinned.checked.prog.looks [] ∧ ∀ (j : Nat) t, fn.params[j]? = some t → Tryz.pinned.checked.prog.wantsStandIn t = false := by
  obtain rfl : f = 3 := Option.some.inj ((show Tryz.prog.funcNamed "honeycomb/honeycomblaw04.SetMoves" = some 3 by kernel_rfl).symm.trans hf) |>.symm
  obtain rfl : fn = Tryz.f3 := (Option.some.inj (Tryz.func3.symm.trans hfn)).symm
  refine ⟨by kernel_rfl, fun j t ht => ?_⟩
  have hall : (Tryz.f3.params.toList.all fun t => !Tryz.prog.wantsStandIn t) = true := by kernel_rfl
  have hm : t ∈ Tryz.f3.params.toList := by simpa using Array.mem_of_getElem? ht
  have := List.all_eq_true.1 hall t hm
  exact (show Tryz.prog.wantsStandIn t = false by simpa using this)
end setMovesFrame
/-- SetMoves: the card: for every input the law answers true. -/
theorem setMoves_card : Rows.SetMovesCardSaid :=
  Claim7.holds_tied_plain_at .later [] _ _ _ _ setMoves_said (fun _ h => by cases h) (by kernel_rfl) (fun _ h => by cases h) setMoves_row_tie rfl ⟨rfl, rfl⟩ (by kernel_rfl) rfl setMoves_plain (by kernel_rfl)
end Go.Proofs.YtplldlfbcblncaaGreatDoor.Se
namespace Go.Proofs.YtplldlfbcblncaaGreatDoor
theorem setMoves_proved : Rows.SetMovesCardSaid := Se.setMoves_card
#print axioms setMoves_proved
end Go.Proofs.YtplldlfbcblncaaGreatDoor
