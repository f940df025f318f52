/- ArenaNone: of any number that is no node's nothing is told. No condition on the number. -/
import Derived.Test.YtlmkakgbpdbeiaaDoorArL
import Derived.Test.YtlmkakgbpdbeiaaDoorBsE
namespace Go.Proofs.YtlmkakgbpdbeiaaDoor.Ar
open Go.RowKit Go.Proofs.YtlmkakgbpdbeiaaDoor.Ba Go.Proofs.YtlmkakgbpdbeiaaDoor.Mp Go.Lib Go.Maps

theorem none_join (i : Nat) (h : i ≠ 0) : joinR (newS 0) (0, 0, i, 0) = (0, some 4, newS 0) := by
  have ha : aboveR [] (0, 0, i, 0) = (nd0, some 4) := by
    unfold aboveR
    rw [if_neg]
    simp [kli, kidOk, ndAt, h]
  unfold joinR newS
  dsimp only
  rw [ha]
theorem none_nd (i : Nat) (h : i ≠ 0) : ndAt (newS 0).N i = (nd0, false) := by simp [ndAt, newS, h]
theorem u32_nat {i : Int} (h : (Lit.int .u32 i).wf = true) : ∃ n : Nat, i = n ∧ okU n := by
  simp [Lit.wf, IntKind.min, IntKind.max, IntKind.signed, IntKind.bits] at h
  exact ⟨i.toNat, by omega, by show _ < _; omega⟩
set_option maxRecDepth 100000 in
theorem arenaNone_walk (i : Int) (w_i : (Lit.int .u32 i).wf = true) (w : World) (hE : ErrIs w) :
    Calls Tryd.prog 4 #[.int .u32 i] w fun e w' => e = .returned (.bool true) ∧ Below w.heap.size w w' := by
  obtain ⟨n, rfl, hn⟩ := u32_nat w_i
  clear w_i
  by_cases h0 : n = 0
  · subst h0
    go_enter Tryd.func4, Tryd.ntmps4
    go_wp2_with fail
    refine (awake_true _).mono ?_
    rintro e w1 ⟨rfl, hb1⟩
    go_wp2_with fail
    refine (new_any 0 (by decide) _).mono ?_
    rintro e w2 ⟨rfl, h2, hb2⟩
    have hb3 := hb1.trans (hb2.mono hb1.size)
    go_wp2_with fail
    refine (level_any _ 0 _ _ _ h2 (by decide) (by decide)).mono ?_
    rintro e w3 ⟨rfl, hb⟩
    have h3 := h2.under hb
    have hb4 := hb3.trans (hb.mono hb3.size)
    rw [show levelOf (newS 0).N 0 = 2 from rfl]
    go_wp2_with fail
    refine (len_any _ _ _ _ h3 (by decide)).mono ?_
    rintro e w4 ⟨rfl, rfl⟩
    rw [show (((newS 0).N.length + 1 : Nat) : Int) = 1 from rfl]
    go_wp2
    go_ret
    exact ⟨rfl, hb4⟩
  · have hne : (n : Int) ≠ 0 := by omega
    have hnb : ((n : Int) == 0) = false := by simpa using hne
    have hq : ∀ W : World, (Op.equalIn 10000 46 (.agg #[.int .u32 0, .int .u32 0, .int .u32 0, .int .u32 0]) (.agg #[.int .u32 0, .int .u32 0, .int .u32 0, .int .u32 0])).run Tryd.prog W = .ok true W := fun W => by have := equal_k4 0 0 0 0 0 0 0 0 W; simpa using this
    go_enter Tryd.func4, Tryd.ntmps4
    go_wp2_with fail
    refine (awake_true _).mono ?_
    rintro e w1 ⟨rfl, hb1⟩
    go_wp2_with fail
    refine (new_any 0 (by decide) _).mono ?_
    rintro e w2 ⟨rfl, h2, hb2⟩
    have hb3 := hb1.trans (hb2.mono hb1.size)
    have h2 := h2.weak (P' := fun b => w1.heap.size ≤ b) (fun b hb _ => by omega)
    have hj := join_any w1.heap.size (0, 0, n, 0) (newS 0) _ w2 h2 ⟨show 0 < 4294967296 by decide, show 0 < 4294967296 by decide, hn, show 0 < 4294967296 by decide⟩ (fun b hb => Nat.le_trans hb2.size hb) (by decide)
    rw [none_join n h0] at hj
    unfold errV at hj
    go_wp2_with fail
    refine hj.mono ?_
    rintro e w3 ⟨rfl, h3, o3⟩
    have hb4 := hb3.trans (o3.below hb3.size (fun b hb => Nat.le_trans hb1.size hb))
    clear hj o3 h2 hb3 hb2 hb1
    go_wp2_with fail
    refine (level_any _ n _ _ _ h3 hn (by decide)).mono ?_
    rintro e w4 ⟨rfl, hb⟩
    have h4 := h3.under hb
    have hb5 := hb4.trans (hb.mono hb4.size)
    clear hb h3 hb4
    rw [show levelOf (newS 0).N n = -1 by unfold levelOf; rw [none_nd n h0]; rfl]
    go_wp2_with fail
    refine (bits_any _ n _ _ _ h4 hn (by decide)).mono ?_
    rintro e w5 ⟨rfl, hb⟩
    have h5 := h4.under hb
    have hb6 := hb5.trans (hb.mono hb5.size)
    clear hb h4 hb5
    rw [none_nd n h0, show ((((nd0, false) : Nd × Bool).1.bits : Nat) : Int) = 0 from rfl]
    go_wp2_with fail
    refine (kids_any _ n _ _ _ h5 hn (by decide)).mono ?_
    rintro e w6 ⟨rfl, hb⟩
    have h6 := h5.under hb
    have hb7 := hb6.trans (hb.mono hb6.size)
    clear hb h5 hb6
    rw [none_nd n h0, show KV ((nd0, false) : Nd × Bool).1.k = .agg #[.int .u32 0, .int .u32 0, .int .u32 0, .int .u32 0] from rfl]
    go_wp2_with fail
    refine (count_any _ n _ _ _ h6 hn (by decide)).mono ?_
    rintro e w7 ⟨rfl, hb⟩
    have h7 := h6.under hb
    have hb8 := hb7.trans (hb.mono hb7.size)
    clear hb h6 hb7
    rw [none_nd n h0, show ((((nd0, false) : Nd × Bool).1.count : Nat) : Int) = 0 from rfl]
    go_wp2_with fail
    refine (codeOf_er 4 _ (hE.below hb8)).mono ?_
    rintro e w8 ⟨rfl, hb⟩
    have h8 := h7.under hb
    have hb9 := hb8.trans (hb.mono hb8.size)
    clear hb h7 hb8
    go_wp2_with fail
    refine (len_any _ _ _ _ h8 (by decide)).mono ?_
    rintro e w9 ⟨rfl, rfl⟩
    rw [show (((newS 0).N.length + 1 : Nat) : Int) = 1 from rfl]
    go_wp2
    go_ret
    exact ⟨rfl, hb9⟩
section arenaNoneFrame
open Go.ChangeShapes Go.WideShapes Go.ChangeAt Go.RowKit Go.Joins
set_option maxRecDepth 100000 in
theorem arenaNone_contract (H : Type) (enc : TypeId × Value → H) (W : World) (base : Nat) (args : Array Value) (ds gs : List (DataW H)) (before : List MemPlace)
    (hval : ∀ (j : Nat) t v, Tryd.f4.params[j]? = some t → args[j]? = some v → Value.okWide Tryd.prog W .any base t v)
    (hW : DataW.Whole enc Tryd.prog Tryd.f4.params.toList Rows.arenaNoneSpec.vars false W args.toList ds gs before) (hL : laidMetH Tryd.prog Rows.arenaNoneRow.laid W) :
    Calls Tryd.prog 4 args W fun e W' => ∃ v, e = .returned v ∧ Rows.arenaNoneSpec.post enc Tryd.prog Tryd.f4 false true false false W args v W' := by
  have hW' := hW
  obtain ⟨p, q, hA0, hV, rfl, hfz, hnd⟩ := hW
  have hA : DataW.TrodAll enc Tryd.prog W 0 (fun _ => true) true Tryd.f4.params.toList args.toList ds p := hA0
  rw [Tryd.params4] at hA hval
  obtain ⟨v0, vs0, d0, ds0, p0, q0, hargs, rfl, rfl, h0, r0⟩ := trodAll_cons hA
  obtain ⟨rfl, rfl, rfl⟩ := trodAll_nil r0
  obtain rfl : args = #[v0] := by cases args; simp_all
  obtain ⟨rfl, rfl⟩ := trodVars_none hV
  obtain ⟨i, rfl, rfl, rfl, w_i⟩ := open_int Tryd.underlying31 (hval 0 31 v0 rfl rfl) h0
  refine (arenaNone_walk i w_i W (one_of_laid hL)).mono fun e W' ⟨he, hb⟩ => ?_
  exact ⟨_, he, law_post laidOut rfl rfl Tryd.underlying4 (by kernel_rfl) hW' hb ⟨rfl, rfl, rfl⟩⟩
theorem arenaNone_met (os : Os) : laidMetH Tryd.prog Rows.arenaNoneRow.laid ((laidWorldE os).forCall (fun _ _ => 0) ⟨#[], #[.int .u32 0], []⟩).memory :=
  laidMetH_of_parts (laidMet_of_run' 8 (by kernel_rfl) (by kernel_rfl)) (by kernel_rfl)
theorem arenaNone_reads (os : Os) {H : Type} (enc : TypeId × Value → H) : ∃ places, DataW.whole enc Tryd.prog ((laidWorldE os).forCall (fun _ _ => 0) ⟨#[], #[.int .u32 0], []⟩).memory Tryd.f4.params.toList Rows.arenaNoneSpec.vars false #[(.int .u32 0 : Value)].toList 8 = some ([.lit (.int .u32 0)], [], places) :=
  ⟨[], by kernel_rfl⟩
set_option maxRecDepth 100000 in
theorem arenaNone_lifted (os : Os) (started : os.Started) (H : Type) (enc : TypeId × Value → H) (F : Stop.Interp) :
    ReturnsInHanded {} Tryd.checked os 4 .any ((OpenSpec.ofChange Rows.arenaNoneSpec).preRow enc Tryd.prog Tryd.f4 Rows.arenaNoneRow.domain false Rows.arenaNoneRow.laid) (((OpenSpec.ofChange Rows.arenaNoneSpec).at F).post enc Tryd.prog Tryd.f4 false true false false) := by
  obtain ⟨places, hx⟩ := arenaNone_reads os enc
  refine returnsInHanded_of_row (C := Tryd.checked) (s := OpenSpec.ofChange Rows.arenaNoneSpec) own started (by kernel_rfl) Tryd.func4
    (witness_row_at (enc := enc) (C := Tryd.checked) false (laidWorldE os) #[.int .u32 0] rfl (by kernel_rfl) (by kernel_rfl) (by kernel_rfl)
      (OpenSpec.preRow_of_cond 8 hx (by kernel_rfl) (fun k hk => by cases hk) (by kernel_rfl) (arenaNone_met os))) ?_
  intro W base args ds gs before hval hW _ _ _ hL _ _
  exact arenaNone_contract H enc W base args ds gs before hval hW hL
theorem arenaNone_said : Rows.ArenaNoneSaid :=
  OpenClaim.holds_of_cond 4 Tryd.f4 rfl rfl rfl rfl rfl rfl rfl ⟨rfl, rfl, rfl, rfl, rfl⟩ rfl rfl rfl rfl rfl (by kernel_rfl) Tryd.func4 (by kernel_rfl)
    (of_decide_eq_true (by kernel_rfl)) (by unfold Func.isWrapper; first | (rw [if_pos (by decide +kernel)]; kernel_rfl) | (rw [if_neg (by decide +kernel)]; exact ⟨rfl, rfl⟩))
    (fun os started H enc _ F => by rw [OpenClaim.pre_eq_preRow]; exact arenaNone_lifted os started H enc F)
theorem arenaNone_plain (f : FuncId) (fn : Func) (hf : Tryd.pinned.checked.prog.funcNamed "honeycomb/honeycomblaw12.ArenaNone" = some f) (hfn : Tryd.pinned.checked.prog.funcs[f]? = some fn) :
    true = Tryd.pinned.checked.prog.looks [] ∧ ∀ (j : Nat) t, fn.params[j]? = some t → Tryd.pinned.checked.prog.wantsStandIn t = false := by
  obtain rfl : f = 4 := Option.some.inj ((show Tryd.prog.funcNamed "honeycomb/honeycomblaw12.ArenaNone" = some 4 by kernel_rfl).symm.trans hf) |>.symm
  obtain rfl : fn = Tryd.f4 := (Option.some.inj (Tryd.func4.symm.trans hfn)).symm
  refine ⟨by kernel_rfl, fun j t ht => ?_⟩
  have hall : (Tryd.f4.params.toList.all fun t => !Tryd.prog.wantsStandIn t) = true := by kernel_rfl
  have hm : t ∈ Tryd.f4.params.toList := by simpa using Array.mem_of_getElem? ht
  have := List.all_eq_true.1 hall t hm
  exact (show Tryd.prog.wantsStandIn t = false by simpa using this)
end arenaNoneFrame
/-- ArenaNone: the card: for every input the law answers true. -/
theorem arenaNone_card : Rows.ArenaNoneCardSaid :=
  Claim7.holds_tied_plain_at .later [] _ _ _ _ arenaNone_said (fun _ h => by cases h) (by kernel_rfl) (fun _ h => by cases h) arenaNone_row_tie rfl ⟨rfl, rfl⟩ (by kernel_rfl) rfl arenaNone_plain (by kernel_rfl)
end Go.Proofs.YtlmkakgbpdbeiaaDoor.Ar
namespace Go.Proofs.YtlmkakgbpdbeiaaDoor
theorem arenaNone_proved : Rows.ArenaNoneCardSaid := Ar.arenaNone_card
#print axioms arenaNone_proved
end Go.Proofs.YtlmkakgbpdbeiaaDoor
