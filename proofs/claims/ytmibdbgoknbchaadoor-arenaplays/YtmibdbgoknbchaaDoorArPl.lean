/- ArenaPlays: any calls of an arena do what they should: at most 60 calls, any list of acts, any number of nodes that there may be. No condition on them. -/
import Derived.Test.YtmibdbgoknbchaaDoorArQ7
import Derived.Test.YtmibdbgoknbchaaDoorArQ8
import Derived.Test.YtmibdbgoknbchaaDoorArO
namespace Go.Proofs.YtmibdbgoknbchaaDoor.Ar
open Go.RowKit Go.Proofs.YtmibdbgoknbchaaDoor.Ba Go.Proofs.YtmibdbgoknbchaaDoor.Mp Go.Lib Go.Maps

def ApR (w0 : World) (wd g : Nat) (n : Nat) (t6 : Value) (wr : World) : Prop := ∃ (i : Nat) (S : Sta), i ≤ n ∧ i ≤ 60 ∧ t6 = .int .i64 i ∧ EmW w0 wd g (44 * i) S wr
theorem EmW.below {w0 w w' : World} {wd g n : Nat} {S : Sta} (h : EmW w0 wd g n S w) (hb : Below w.heap.size w w') : EmW w0 wd g n S w' := by
  obtain ⟨⟨P, gx, cx, G, cap, hA, hP, hw, hx, ho, hd, hd2⟩, h1, h2, h3, h4⟩ := h
  exact ⟨⟨P, gx, cx, G, cap, hA.under hb, fun b hq => ⟨Nat.lt_of_lt_of_le (hP b hq).1 hb.size, (hP b hq).2⟩, hw.under hb, hx.below hb, own_below ho hb, hd, hd2⟩, h1, h2, h3, h4.trans (hb.mono h4.size)⟩
theorem new_inv {most : Int} {w1 w2 w3 : World} {gx cx : Nat} (hb1 : Below w1.heap.size w1 w2) (hA : ArAt w2 w1.heap.size (newS most) (fun b => b = w1.heap.size)) (hb2 : Below w2.heap.size w2 w3) (hr : RAt w3 gx cx [⟨2, 0, 0, 0, 0, 0, 0⟩]) (hgx : gx ≠ w1.heap.size) :
    EmW w1 (w3.heap.size + 1) w1.heap.size 0 (newS most) ((w3.alloc (.cells #[.int .u32 0] 31)).alloc (.cells #[Pt w1.heap.size, .slice (some ⟨gx, 0, none⟩) 1 cx, .int .i64 (max most 64), .slice (some ⟨w3.heap.size, 0, none⟩) 1 1] 34)) := by
  have hlt := hA.lt
  have hs2 := hb2.size
  have hs1 := hb1.size
  have hgl := hr.2.2
  have hbA : Below w3.heap.size w3 ((w3.alloc (.cells #[.int .u32 0] 31)).alloc (.cells #[Pt w1.heap.size, .slice (some ⟨gx, 0, none⟩) 1 cx, .int .i64 (max most 64), .slice (some ⟨w3.heap.size, 0, none⟩) 1 1] 34)) := ((Below.refl _ _).alloc (Nat.le_refl _) _).alloc (by simp) _
  have hsz := hbA.size
  refine ⟨⟨fun b => b = w1.heap.size, gx, cx, w3.heap.size, 1, (hA.under hb2).under hbA, fun b hb => ?_, ?_, hr.below hbA, ?_, by omega, trivial⟩, new_wf most, fun d hd => by simp [newS] at hd, Nat.le_refl _, (hb1.trans (hb2.mono hb1.size)).trans (hbA.mono (by omega))⟩
  · subst hb
    exact ⟨by omega, Nat.le_refl _, by omega, fun e => hgx e.symm, by omega⟩
  · have hk := Blk.newAt (w3.alloc (.cells #[.int .u32 0] 31)) 34 #[Pt w1.heap.size, .slice (some ⟨gx, 0, none⟩) 1 cx, .int .i64 (max most 64), .slice (some ⟨w3.heap.size, 0, none⟩) 1 1] (w3.heap.size + 1) (by simp)
    have e : (64 : Int) + (newS most).more = max most 64 := by show 64 + (max most 64 - 64) = max most 64; omega
    rw [e]
    exact hk
  · have hk := (Blk.newAt w3 31 #[.int .u32 0] _ rfl).alloc (.cells #[Pt w1.heap.size, .slice (some ⟨gx, 0, none⟩) 1 cx, .int .i64 (max most 64), .slice (some ⟨w3.heap.size, 0, none⟩) 1 1] 34)
    exact ⟨rfl, .inr ⟨w3.heap.size, 1, #[.int .u32 0], rfl, by omega, hk, Nat.le_refl _, by decide, rfl, rfl⟩⟩
set_option maxRecDepth 100000 in
set_option maxHeartbeats 1000000 in
theorem arenaPlays_walk (most : Int) (w_most : (Lit.int .i64 most).wf = true) (v : Value) (A : List Ac) (w : World) (hE : ErrIs w) (hraw : ActsAt w v A) (hok : A.length ≤ maxLen ∧ ∀ c ∈ A, okA c) :
    Calls Tryd.prog 3 #[.int .i64 most, v] w fun e w' => e = .returned (.bool true) ∧ Below w.heap.size w w' := by
  have hmost : -9223372036854775808 ≤ most ∧ most ≤ 9223372036854775807 := by
    simp [Lit.wf, IntKind.min, IntKind.max, IntKind.signed, IntKind.bits] at w_most
    omega
  clear w_most
  obtain ⟨hlen, hok⟩ := hok
  unfold maxLen at hlen
  have HOK := Lib.hid hok
  have HR := Lib.hid hraw
  have key : ∃ p cap, v = .slice p A.length cap := by
    rcases hraw with ⟨p, cap, rfl, rfl⟩ | ⟨g, o, cap, rfl, _, _⟩
    · exact ⟨p, cap, rfl⟩
    · exact ⟨_, _, rfl⟩
  obtain ⟨p, cap, rfl⟩ := key
  clear hraw hok
  have hn := fun W => new_any most hmost W
  have hr := fun W => refnew_any most W
  unfold AV at hr
  go_enter Tryd.func3, Tryd.ntmps3
  go_wp2_with fail
  refine (awake_true _).mono ?_
  rintro e w1 ⟨rfl, hb1⟩
  go_wp2_with fail
  refine (hn _).mono ?_
  rintro e w2 ⟨rfl, hA2, hb2⟩
  go_wp2_with fail
  refine (hr _).mono ?_
  rintro e w3 ⟨gx, cx, rfl, hr3, hb3⟩
  have hgx : gx ≠ w1.heap.size := by
    intro e
    obtain ⟨s, lv, jn, kb, _⟩ := hA2
    have kb3 := kb.under hb3
    obtain ⟨cs, fr, hty⟩ := hr3.1.2
    unfold Blk at kb3
    rw [e, kb3] at hty
    simp at hty
  have hEm := new_inv hb2 hA2 hb3 hr3 hgx
  have hE1 := hE.below hb1
  have hb13 := hb1
  clear hn hr hA2 hr3 hgx hb2 hb3
  go_wp2_with fail
  change Code.wp _ _ _ _ ((w3.alloc (.cells #[.int .u32 0] 31)).alloc (.cells #[Pt w1.heap.size, .slice (some ⟨gx, 0, none⟩) 1 cx, .int .i64 (max most 64), .slice (some ⟨w3.heap.size, 0, none⟩) 1 1] 34))
  generalize (w3.alloc (.cells #[.int .u32 0] 31)).alloc (.cells #[Pt w1.heap.size, .slice (some ⟨gx, 0, none⟩) 1 cx, .int .i64 (max most 64), .slice (some ⟨w3.heap.size, 0, none⟩) 1 1] 34) = w4 at *
  generalize w3.heap.size + 1 = wd at *
  generalize hgg : w1.heap.size = g at *
  go_loopw [6] (fun t6 wr => ApR w1 wd g A.length t6 wr) (fun t6 _ => 60 - (intOf t6).toNat)
  case atStart => exact ⟨0, _, by omega, by omega, rfl, hEm⟩
  case round =>
    clear hEm
    obtain ⟨i, S, hi, hi60, rfl, hEm⟩ := hrel
    have hbw := hb13.trans (hEm.2.2.2.2.mono hb13.size)
    by_cases hlt : i < A.length
    · by_cases h60 : i < 60
      · obtain ⟨c, hc⟩ : ∃ c, A[i]? = some c := ⟨_, List.getElem?_eq_getElem hlt⟩
        have hca := HOK.out c (List.mem_of_getElem? hc)
        have hraw := HR.out.below hbw
        rcases hraw with ⟨_, _, _, hnil⟩ | ⟨G, o, cap', hv, hcs, hG⟩
        · subst hnil; simp at hlt
        · injection hv with hv1 hv2 hv3
          subst hv1 hv3
          clear hv2
          obtain ⟨c0, c1, c2, c3, c4, c5, c6⟩ := hcs i c hc
          have hdo := does_any w1 wd g S c hca.2 hca.1 wr ⟨hEm.1, hEm.2.1, hEm.2.2.1, Nat.le_trans hEm.2.2.2.1 (by omega), hEm.2.2.2.2⟩ hE1
          have hNl := hEm.2.2.2.1
          have hi1 : (i : Int) < (A.length : Int) := by omega
          have hi2 : (i : Int) < 60 := by omega
          clear hcs hc hca hEm hlt
          go_wp2_with fail
          refine hdo.mono ?_
          rintro e w5 ⟨rfl, S', hE5⟩
          clear hdo c0 c1 c2 c3 c4 c5 c6
          go_wp2_with fail
          obtain ⟨q1, q2, q3, q4, q5⟩ := hE5
          refine ⟨⟨i + 1, S', by omega, by omega, by go_num, q1, q2, q3, by omega, q5⟩, by simp [intOf]; omega⟩
      · obtain rfl : i = 60 := by omega
        have hsa := same_any _ wd g S wr hEm.1 hEm.2.1 (by have := hEm.2.2.2.1; omega)
        have hi1 : (60 : Int) < (A.length : Int) := by omega
        clear hEm
        go_wp2_with fail
        refine hsa.mono ?_
        rintro e w5 ⟨rfl, hb5⟩
        go_wp2
        exact bodyPost_ret (v := .bool true) (by simp [results, Tryd.results3, go_sem]) rfl ⟨rfl, hbw.trans (hb5.mono hbw.size)⟩
    · obtain rfl : i = A.length := by omega
      have hsa := same_any _ wd g S wr hEm.1 hEm.2.1 (by have := hEm.2.2.2.1; omega)
      have hd1 : decide ((A.length : Int) < (A.length : Int)) = false := by simp
      clear hEm
      go_wp2_with fail
      refine hsa.mono ?_
      rintro e w5 ⟨rfl, hb5⟩
      go_wp2
      exact bodyPost_ret (v := .bool true) (by simp [results, Tryd.results3, go_sem]) rfl ⟨rfl, hbw.trans (hb5.mono hbw.size)⟩
section arenaPlaysFrame
open Go.ChangeShapes Go.WideShapes Go.ChangeAt Go.RowKit Go.Joins
set_option maxRecDepth 100000 in
theorem arenaPlays_contract (H : Type) (enc : TypeId × Value → H) (W : World) (base : Nat) (args : Array Value) (ds gs : List (DataW H)) (before : List MemPlace)
    (hval : ∀ (j : Nat) t v, Tryd.f3.params[j]? = some t → args[j]? = some v → Value.okWide Tryd.prog W .any base t v)
    (hW : DataW.Whole enc Tryd.prog Tryd.f3.params.toList Rows.arenaPlaysSpec.vars false W args.toList ds gs before) (hL : laidMetH Tryd.prog Rows.arenaPlaysRow.laid W) :
    Calls Tryd.prog 3 args W fun e W' => ∃ v, e = .returned v ∧ Rows.arenaPlaysSpec.post enc Tryd.prog Tryd.f3 false true false false W args v W' := by
  have hW' := hW
  obtain ⟨p, q, hA0, hV, rfl, hfz, hnd⟩ := hW
  have hA : DataW.TrodAll enc Tryd.prog W 0 (fun _ => true) true Tryd.f3.params.toList args.toList ds p := hA0
  rw [Tryd.params3] at hA hval
  obtain ⟨v0, vs0, d0, ds0, p0, q0, hargs, rfl, rfl, h0, r0⟩ := trodAll_cons hA
  obtain ⟨v1, vs1, d1, ds1, p1, q1, rfl, rfl, rfl, h1, r1⟩ := trodAll_cons r0
  obtain ⟨rfl, rfl, rfl⟩ := trodAll_nil r1
  obtain rfl : args = #[v0, v1] := by cases args; simp_all
  obtain ⟨rfl, rfl⟩ := trodVars_none hV
  obtain ⟨most, rfl, rfl, rfl, w_most⟩ := open_int Tryd.underlying3 (hval 0 3 v0 rfl rfl) h0
  obtain ⟨L1, hraw1, hlen1⟩ := open_acts (hval 1 22 v1 rfl rfl) h1
  refine (arenaPlays_walk most w_most v1 L1 W (one_of_laid hL) hraw1 hlen1).mono fun e W' ⟨he, hb⟩ => ?_
  exact ⟨_, he, law_post laidOut rfl rfl Tryd.underlying4 (by kernel_rfl) hW' hb ⟨rfl, rfl, rfl⟩⟩
theorem arenaPlays_met (os : Os) : laidMetH Tryd.prog Rows.arenaPlaysRow.laid ((laidWorldE os).forCall (fun _ _ => 0) ⟨#[], #[.int .i64 0, .slice none 0 0], []⟩).memory :=
  laidMetH_of_parts (laidMet_of_run' 8 (by kernel_rfl) (by kernel_rfl)) (by kernel_rfl)
theorem arenaPlays_reads (os : Os) {H : Type} (enc : TypeId × Value → H) : ∃ places, DataW.whole enc Tryd.prog ((laidWorldE os).forCall (fun _ _ => 0) ⟨#[], #[.int .i64 0, .slice none 0 0], []⟩).memory Tryd.f3.params.toList Rows.arenaPlaysSpec.vars false #[(.int .i64 0 : Value), (.slice none 0 0 : Value)].toList 8 = some ([.lit (.int .i64 0), .nil], [], places) :=
  ⟨[], by kernel_rfl⟩
set_option maxRecDepth 100000 in
theorem arenaPlays_lifted (os : Os) (started : os.Started) (H : Type) (enc : TypeId × Value → H) (F : Stop.Interp) :
    ReturnsInHanded {} Tryd.checked os 3 .any ((OpenSpec.ofChange Rows.arenaPlaysSpec).preRow enc Tryd.prog Tryd.f3 Rows.arenaPlaysRow.domain false Rows.arenaPlaysRow.laid) (((OpenSpec.ofChange Rows.arenaPlaysSpec).at F).post enc Tryd.prog Tryd.f3 false true false false) := by
  obtain ⟨places, hx⟩ := arenaPlays_reads os enc
  refine returnsInHanded_of_row (C := Tryd.checked) (s := OpenSpec.ofChange Rows.arenaPlaysSpec) own started (by kernel_rfl) Tryd.func3
    (witness_row_at (enc := enc) (C := Tryd.checked) false (laidWorldE os) #[.int .i64 0, .slice none 0 0] rfl (by kernel_rfl) (by kernel_rfl) (by kernel_rfl)
      (OpenSpec.preRow_of_cond 8 hx (by kernel_rfl) (fun k hk => by cases hk) (by kernel_rfl) (arenaPlays_met os))) ?_
  intro W base args ds gs before hval hW _ _ _ hL _ _
  exact arenaPlays_contract H enc W base args ds gs before hval hW hL
theorem arenaPlays_said : Rows.ArenaPlaysSaid :=
  OpenClaim.holds_of_cond 3 Tryd.f3 rfl rfl rfl rfl rfl rfl rfl ⟨rfl, rfl, rfl, rfl, rfl⟩ rfl rfl rfl rfl rfl (by kernel_rfl) Tryd.func3 (by kernel_rfl)
    (of_decide_eq_true (by kernel_rfl)) (by unfold Func.isWrapper; first | (rw [if_pos (by decide +kernel)]; kernel_rfl) | (rw [if_neg (by decide +kernel)]; exact ⟨rfl, rfl⟩))
    (fun os started H enc _ F => by rw [OpenClaim.pre_eq_preRow]; exact arenaPlays_lifted os started H enc F)
theorem arenaPlays_plain (f : FuncId) (fn : Func) (hf : Tryd.pinned.checked.prog.funcNamed "honeycomb/honeycomblaw12.ArenaPlays" = some f) (hfn : Tryd.pinned.checked.prog.funcs[f]? = some fn) :
    true = Tryd.pinned.checked.prog.looks [] ∧ ∀ (j : Nat) t, fn.params[j]? = some t → Tryd.pinned.checked.prog.wantsStandIn t = false := by
  obtain rfl : f = 3 := Option.some.inj ((show Tryd.prog.funcNamed "honeycomb/honeycomblaw12.ArenaPlays" = some 3 by kernel_rfl).symm.trans hf) |>.symm
  obtain rfl : fn = Tryd.f3 := (Option.some.inj (Tryd.func3.symm.trans hfn)).symm
  refine ⟨by kernel_rfl, fun j t ht => ?_⟩
  have hall : (Tryd.f3.params.toList.all fun t => !Tryd.prog.wantsStandIn t) = true := by kernel_rfl
  have hm : t ∈ Tryd.f3.params.toList := by simpa using Array.mem_of_getElem? ht
  have := List.all_eq_true.1 hall t hm
  exact (show Tryd.prog.wantsStandIn t = false by simpa using this)
end arenaPlaysFrame
/-- ArenaPlays: the card: for every input the law answers true. -/
theorem arenaPlays_card : Rows.ArenaPlaysCardSaid :=
  Claim7.holds_tied_plain_at .later [] _ _ _ _ arenaPlays_said (fun _ h => by cases h) (by kernel_rfl) (fun _ h => by cases h) arenaPlays_row_tie rfl ⟨rfl, rfl⟩ (by kernel_rfl) rfl arenaPlays_plain (by kernel_rfl)
end Go.Proofs.YtmibdbgoknbchaaDoor.Ar
namespace Go.Proofs.YtmibdbgoknbchaaDoor
theorem arenaPlays_proved : Rows.ArenaPlaysCardSaid := Ar.arenaPlays_card
#print axioms arenaPlays_proved
end Go.Proofs.YtmibdbgoknbchaaDoor
