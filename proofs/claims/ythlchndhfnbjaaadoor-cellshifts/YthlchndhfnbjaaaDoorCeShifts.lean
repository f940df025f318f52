/- CellShifts: those beside a cell of small coordinates that is shifted are those beside it, shifted. No conditions. -/
import Derived.Test.YthlchndhfnbjaaaDoorCeL
import Derived.Test.YthlchndhfnbjaaaDoorAxR
import Derived.Deep.RegionHeld3
import Derived.Deep.DeepCutAuto
import Derived.BigQuiet
import Derived.Deep.QuietTactic
namespace Go.Proofs.YthlchndhfnbjaaaDoor.Ce
open Go.RowKit Go.Proofs.YthlchndhfnbjaaaDoor.Ax

def ShR (w : World) (g g2 A P : Nat) (L L2 : List C) (a b h x y : Int) (i : Value) (wr : World) : Prop :=
  ∃ k : Nat, k ≤ L.length ∧ i = .int .i64 k ∧ Below w.heap.size w wr ∧ Row wr g L ∧ Row wr g2 L2 ∧ Blk wr A 36 #[.int .i64 a, .int .i64 b, .int .i64 h] ∧ Blk wr P 34 #[.int .i64 x, .int .i64 y]
theorem bes_by (l a b h x y : Int) : besAll l (a + x) (b + y) h = (besAll l a b h).map (sh x y) := by
  rw [besAll_shift l (a + x), besAll_shift l a, List.map_map]
  congr 1
  funext d
  simp only [sh, Function.comp, Prod.mk.injEq, and_true]
  omega
theorem keep4 {W w' : World} {g P i : Nat} {r s x y : Int} (hg : g < W.heap.size) (hP : P < W.heap.size) (p0 : W.cell? ⟨g, i * 3, none⟩ = some (.int .i64 r)) (p1 : W.cell? ⟨g, i * 3 + 1, none⟩ = some (.int .i64 s))
    (b0 : W.cell? ⟨P, 0, none⟩ = some (.int .i64 x)) (b1 : W.cell? ⟨P, 1, none⟩ = some (.int .i64 y)) (hb : Below W.heap.size W w') :
    w'.cell? ⟨g, i * 3, none⟩ = some (.int .i64 r) ∧ w'.cell? ⟨g, i * 3 + 1, none⟩ = some (.int .i64 s) ∧ w'.cell? ⟨P, 0, none⟩ = some (.int .i64 x) ∧ w'.cell? ⟨P, 1, none⟩ = some (.int .i64 y) :=
  ⟨(hb.cell (p := ⟨g, i * 3, none⟩) hg).trans p0, (hb.cell (p := ⟨g, i * 3 + 1, none⟩) hg).trans p1, (hb.cell (p := ⟨P, 0, none⟩) hP).trans b0, (hb.cell (p := ⟨P, 1, none⟩) hP).trans b1⟩
theorem boxd {W w5 : World} {t : TypeId} (hb : Below (W.alloc (.cells #[.int .i64 0, .int .i64 0] t)).drew.heap.size (W.alloc (.cells #[.int .i64 0, .int .i64 0] t)).drew w5) : Box2 W.heap.size w5 0 0 :=
  box2_below (by simp [Box2, go_sem]) hb
def Rel14 (W : World) (x y : Int) (v n : Value) (wx : World) : Prop := ∃ f, v = .pointer (some ⟨f, 0, none⟩) ∧ n = .nilIface ∧ Box2 f wx x y ∧ Below W.heap.size W wx
set_option maxRecDepth 100000 in
set_option maxHeartbeats 8000000 in
theorem cellShifts_walk (n : Int) (_wn : (Lit.int .i64 n).wf = true) (rA : Int) (_wrA : (Lit.int .i64 rA).wf = true) (rB : Int) (_wrB : (Lit.int .i64 rB).wf = true) (rH : Int) (_wrH : (Lit.int .i64 rH).wf = true)
    (u : Int) (_wu : (Lit.int .i64 u).wf = true) (v : Int) (_wv : (Lit.int .i64 v).wf = true) (w : World) (hs : SixIs w) :
    Calls Tryd.prog 8 #[.int .i64 n, Ce rA rB rH, .int .i64 u, .int .i64 v] w fun e w' => e = .returned (.bool true) ∧ Below w.heap.size w w' := by
  go_enter Tryd.func8, Tryd.ntmps8
  go_wp2_with fail
  refine (awake_any _ (hs.below (by go_grown))).mono ?_
  rintro e w1 ⟨rfl, hb⟩
  have k1 := (Blk.newAt w 23 #[.int .i64 rA, .int .i64 rB, .int .i64 rH] _ rfl).below hb (by simp)
  have hb1 := below_call (B := w.heap.size) (w := w) hb (by go_grown) (by go_size)
  clear hb
  obtain ⟨c0, c1, c2, hl1⟩ := k1.ce
  go_wp2_with (go_at_call 26; refine (lattice_any _ _).mono ?_; rintro e w' ⟨rfl, rfl⟩)
  refine (some_any _ _ _ _ _).mono ?_
  rintro e w2 ⟨rfl, hb⟩
  have hb2 := below_call (B := w.heap.size) (w := w) hb hb1 hb1.size
  have hz2 := hb2.size
  clear hb c0 c1 c2 k1 hl1
  have hl := latV_cases n
  generalize latV n = l at *
  obtain ⟨h0, h1⟩ := someH_bd l rH
  generalize someH l rH = h at *
  have ha := tmod_bd rA 100 (by decide)
  have hbb := tmod_bd rB 100 (by decide)
  generalize rA.tmod 100 = a at *
  generalize rB.tmod 100 = b at *
  go_wp2_with fail
  have hu := tmod_bd u 1000000 (by decide)
  have hv := tmod_bd v 1000000 (by decide)
  generalize u.tmod 1000000 = x at *
  generalize v.tmod 1000000 = y at *
  have g1 : plusB a b x y = true := by
    unfold plusB
    rw [goodB_iff.2 (by omega), goodB_iff.2 (by omega), goodB_iff.2 (by omega)]
    rfl
  refine (plus_yes a b x y _ g1).mono ?_
  rintro e w3 ⟨rfl, hb⟩
  have kc := ((Blk.newAt w2 36 #[.int .i64 a, .int .i64 b, .int .i64 h] _ rfl).alloc (.cells #[.int .i64 x, .int .i64 y] 34)).below hb (by simp; omega)
  have kp := (Blk.newAt (w2.alloc (.cells #[.int .i64 a, .int .i64 b, .int .i64 h] 36)) 34 #[.int .i64 x, .int .i64 y] (w2.heap.size + 1) (by simp)).below hb (by simp)
  have hb3 := below_call (B := w.heap.size) (w := w) hb (by go_grown) (by go_size)
  clear hb g1
  generalize w2.heap.size + 1 = P at *
  generalize w2.heap.size = A at *
  have hz3 := hb3.size
  obtain ⟨a0, a1, a2, hal⟩ := kc.ce
  go_wp2_with fail
  refine (beside_yes l a b h _ hl h0 h1 (by omega) (by omega) (hs.below (by go_grown))).mono ?_
  rintro e w4 ⟨g, cap, rfl, hcap, hg, hrow, hb⟩
  have kc4 := (kc.alloc _).below hb (by simp; omega)
  have kp4 := (kp.alloc _).below hb (by have := kp.lt; simp; omega)
  have kq4 := (Blk.newAt w3 34 #[.int .i64 (a + x), .int .i64 (b + y)] _ rfl).below hb (by simp)
  have hb4 := below_call (B := w.heap.size) (w := w) hb (by go_grown) (by go_size)
  clear hb hg kc kp hb3 hz3 a0 a1 a2 hal
  generalize w3.heap.size = Q at *
  have hz4 := hb4.size
  obtain ⟨a0, a1, a2, hal⟩ := kc4.ce
  obtain ⟨q0, q1, hql⟩ := kq4.pt
  go_wp2_with fail
  refine (beside_yes l (a + x) (b + y) h _ hl h0 h1 (by omega) (by omega) (hs.below (by go_grown))).mono ?_
  rintro e w5 ⟨g2, cap2, rfl, hcap2, hg2, hrow2, hb⟩
  have kc5 := kc4.below hb hal
  have kp5 := kp4.below hb kp4.lt
  have hrow5 := hrow.below hb
  have hb5 := below_call (B := w.heap.size) (w := w) hb hb4 hb4.size
  clear hb hg2 kc4 kp4 kq4 hrow hb4 hz4 a0 a1 a2 hal q0 q1 hql
  have HN := Lib.hid (show ∀ d ∈ besAll l a b h, (a - 1 ≤ d.1 ∧ d.1 ≤ a + 1) ∧ (b - 1 ≤ d.2.1 ∧ d.2.1 ≤ b + 1) ∧ 0 ≤ d.2.2 ∧ d.2.2 < halvesV l from fun d hd => near_of hl h0 h1 hd)
  have hlen := (bes_some' (a := a) (b := b) hl h0 h1).2
  rw [bes_by] at hrow2 hcap2
  have e12 : (besAll l (a + x) (b + y) h).length = (besAll l a b h).length := by rw [bes_by, List.length_map]
  rw [e12]
  clear e12
  rw [List.length_map] at hcap2
  generalize besAll l a b h = L at *
  go_wp2_with fail
  go_loopw [74] (fun i wr => ShR w g g2 A P L (L.map (sh x y)) a b h x y i wr) (fun i _ => L.length - (intOf i).toNat)
  case atStart => exact ⟨0, by omega, rfl, hb5, hrow5, hrow2, kc5, kp5⟩
  case round =>
    clear hb5 hrow5 hrow2 kc5 kp5
    obtain ⟨k, hk, rfl, hb5, hrow5, hrow2, kc5, kp5⟩ := hrel
    have hz5 := hb5.size
    by_cases hlt : k < L.length
    · obtain ⟨d, hd⟩ : ∃ d, L[k]? = some d := ⟨_, List.getElem?_eq_getElem hlt⟩
      obtain ⟨r, s, t⟩ := d
      obtain ⟨p0, p1, p2⟩ := hrow5.1 k _ hd
      obtain ⟨q0, q1, q2⟩ := hrow2.1 k (sh x y (r, s, t)) (by rw [List.getElem?_map, hd]; rfl)
      have HM := HN.out (r, s, t) (List.mem_of_getElem? hd)
      simp only [sh] at p0 p1 p2 q0 q1 q2 HM
      clear hd
      obtain ⟨b0, b1, hpl⟩ := kp5.pt
      have hgl := hrow5.2
      have hgl2 := hrow2.2
      have g1 : plusB r s x y = true := by
        unfold plusB
        rw [goodB_iff.2 (by omega), goodB_iff.2 (by omega), goodB_iff.2 (by omega)]
        rfl
      go_upto_region 14 with fail
      go_cut [19, 20] (fun v n wx => Rel14 wr (r + x) (s + y) v n wx)
      case first =>
        have hkb : Below wr.heap.size wr wr := Below.refl _ _
        go_region_held3 (fun w' => w'.cell? ⟨g, k * 3, none⟩ = some (.int .i64 r) ∧ w'.cell? ⟨g, k * 3 + 1, none⟩ = some (.int .i64 s) ∧ w'.cell? ⟨P, 0, none⟩ = some (.int .i64 x) ∧ w'.cell? ⟨P, 1, none⟩ = some (.int .i64 y)) (first | (refine keep4 hgl hpl p0 p1 b0 b1 ?_; go_grown; done))
          (first | (go_at_call 33; refine (plus_yes _ _ _ _ _ g1).mono ?_; rintro e w5 ⟨rfl, hb⟩; (try (have bz := boxd hb; obtain ⟨o1, o2, o3, o4, o5⟩ := id bz)); have hkb : Below wr.heap.size wr w5 := below_call hb (by go_grown) (by simp); have hkz := hkb.size; clear hb))
        all_goals go_wp2_with fail
        all_goals go_meet
        all_goals first
          | exact ⟨w5.heap.size, rfl, rfl, by simp [Box2, go_sem], by go_grown⟩
          | exact ⟨_, rfl, rfl, box2_set bz _ _, by go_grown⟩
      case rest =>
        obtain ⟨f, rfl, rfl, bf, hk5⟩ := hcut
        obtain ⟨f0, f1, _, _, f5⟩ := id bf
        have q0 := (hk5.cell (p := ⟨g2, k * 3, none⟩) hgl2).trans q0
        have q1 := (hk5.cell (p := ⟨g2, k * 3 + 1, none⟩) hgl2).trans q1
        have q2 := (hk5.cell (p := ⟨g2, k * 3 + 1 + 1, none⟩) hgl2).trans q2
        have p2 := (hk5.cell (p := ⟨g, k * 3 + 1 + 1, none⟩) hgl).trans p2
        rw [Int.add_comm] at q0 q1
        have hb6 := below_call (B := w.heap.size) (w := w) hk5 hb5 hb5.size
        have hr6 := hrow5.below hk5
        have hr7 := hrow2.below hk5
        have kc6 := kc5.below hk5 kc5.lt
        have kp6 := kp5.below hk5 kp5.lt
        have hne : ∀ w, (binOp .neq 34 (Pt (r + x) (s + y)) (Pt (r + x) (s + y))).run Tryd.prog w = .ok (.bool false) w := fun w => by rw [neq_pt]; simp
        have htt : (t != t) = false := by simp
        go_wp2_with fail
        go_quiet (fail)
        go_wp2
        go_roundw
        case rel => exact ⟨k + 1, by omega, by go_num, below_dr _ hb6, hr6.below (below_dr _ (Below.refl _ _)), hr7.below (below_dr _ (Below.refl _ _)), kc6.drewN _, kp6.drewN _⟩
        case measure => simp [intOf]; omega
    · go_wp2
      go_ret
      exact ⟨rfl, hb5⟩
section cellShiftsFrame
open Go.ChangeShapes Go.WideShapes Go.ChangeAt Go.RowKit Go.Joins
set_option maxRecDepth 100000 in
theorem cellShifts_contract (H : Type) (enc : TypeId × Value → H) (W : World) (base : Nat) (args : Array Value) (ds gs : List (DataW H)) (before : List MemPlace)
    (hval : ∀ (j : Nat) t v, Tryd.f8.params[j]? = some t → args[j]? = some v → Value.okWide Tryd.prog W .any base t v)
    (hW : DataW.Whole enc Tryd.prog Tryd.f8.params.toList Rows.cellShiftsSpec.vars false W args.toList ds gs before) (hL : laidMetH Tryd.prog Rows.cellShiftsRow.laid W) :
    Calls Tryd.prog 8 args W fun e W' => ∃ v, e = .returned v ∧ Rows.cellShiftsSpec.post enc Tryd.prog Tryd.f8 false true false false W args v W' := by
  have hW' := hW
  obtain ⟨p, q, hA0, hV, rfl, hfz, hnd⟩ := hW
  have hA : DataW.TrodAll enc Tryd.prog W 0 (fun _ => true) true Tryd.f8.params.toList args.toList ds p := hA0
  rw [Tryd.params8] at hA hval
  obtain ⟨v0, vs0, d0, ds0, p0, q0, hargs, rfl, rfl, h0, r0⟩ := trodAll_cons hA
  obtain ⟨v1, vs1, d1, ds1, p1, q1, rfl, rfl, rfl, h1, r1⟩ := trodAll_cons r0
  obtain ⟨v2, vs2, d2, ds2, p2, q2, rfl, rfl, rfl, h2, r2⟩ := trodAll_cons r1
  obtain ⟨v3, vs3, d3, ds3, p3, q3, rfl, rfl, rfl, h3, r3⟩ := trodAll_cons r2
  obtain ⟨rfl, rfl, rfl⟩ := trodAll_nil r3
  obtain rfl : args = #[v0, v1, v2, v3] := by cases args; simp_all
  obtain ⟨rfl, rfl⟩ := trodVars_none hV
  obtain ⟨n, rfl, rfl, rfl, w_n⟩ := open_int Tryd.underlying3 (hval 0 3 v0 rfl rfl) h0
  obtain ⟨c10, c11, c12, y10, y11, y12, m1, rfl, rfl, rfl, hy10, hy11, hy12⟩ := open_agg3 Tryd.underlying23 (by kernel_rfl) (by kernel_rfl) (hval 1 23 v1 rfl rfl) h1
  obtain ⟨rawA, e10, rfl, w_rawA⟩ := DataW.trod_int Tryd.underlying2 hy10
  simp at e10; subst e10
  obtain ⟨rawB, e11, rfl, w_rawB⟩ := DataW.trod_int Tryd.underlying2 hy11
  simp at e11; subst e11
  obtain ⟨rawH, e12, rfl, w_rawH⟩ := DataW.trod_int Tryd.underlying3 hy12
  simp at e12; subst e12
  obtain ⟨a, rfl, rfl, rfl, w_a⟩ := open_int Tryd.underlying2 (hval 2 2 v2 rfl rfl) h2
  obtain ⟨b, rfl, rfl, rfl, w_b⟩ := open_int Tryd.underlying2 (hval 3 2 v3 rfl rfl) h3
  refine (cellShifts_walk n w_n rawA w_rawA rawB w_rawB rawH w_rawH a w_a b w_b W (six_of_laid hL)).mono fun e W' ⟨he, hb⟩ => ?_
  exact ⟨_, he, law_post laidOut rfl rfl Tryd.underlying4 (by kernel_rfl) hW' hb ⟨rfl, rfl, rfl⟩⟩
theorem cellShifts_met (os : Os) : laidMet Tryd.prog Rows.cellShiftsRow.laid ((laidWorld os).forCall (fun _ _ => 0) ⟨#[], #[.int .i64 0, .agg #[.int .i64 0, .int .i64 0, .int .i64 0], .int .i64 0, .int .i64 0], []⟩).memory :=
  laidMet_of_run' 8 (by kernel_rfl) (by kernel_rfl)
theorem cellShifts_reads (os : Os) {H : Type} (enc : TypeId × Value → H) : ∃ places, DataW.whole enc Tryd.prog ((laidWorld os).forCall (fun _ _ => 0) ⟨#[], #[.int .i64 0, .agg #[.int .i64 0, .int .i64 0, .int .i64 0], .int .i64 0, .int .i64 0], []⟩).memory Tryd.f8.params.toList Rows.cellShiftsSpec.vars false #[(.int .i64 0 : Value), (.agg #[.int .i64 0, .int .i64 0, .int .i64 0] : Value), (.int .i64 0 : Value), (.int .i64 0 : Value)].toList 8 = some ([.lit (.int .i64 0), .agg [.lit (.int .i64 0), .lit (.int .i64 0), .lit (.int .i64 0)], .lit (.int .i64 0), .lit (.int .i64 0)], [], places) :=
  ⟨[], by kernel_rfl⟩
set_option maxRecDepth 100000 in
theorem cellShifts_lifted (os : Os) (started : os.Started) (H : Type) (enc : TypeId × Value → H) (F : Stop.Interp) :
    ReturnsInHanded {} Tryd.checked os 8 .any ((OpenSpec.ofChange Rows.cellShiftsSpec).preRow enc Tryd.prog Tryd.f8 Rows.cellShiftsRow.domain false Rows.cellShiftsRow.laid) (((OpenSpec.ofChange Rows.cellShiftsSpec).at F).post enc Tryd.prog Tryd.f8 false true false false) := by
  obtain ⟨places, hx⟩ := cellShifts_reads os enc
  refine returnsInHanded_of_row (C := Tryd.checked) (s := OpenSpec.ofChange Rows.cellShiftsSpec) own started (by kernel_rfl) Tryd.func8
    (witness_row_at (enc := enc) (C := Tryd.checked) false (laidWorld os) #[.int .i64 0, .agg #[.int .i64 0, .int .i64 0, .int .i64 0], .int .i64 0, .int .i64 0] rfl (by kernel_rfl) (by kernel_rfl) (by kernel_rfl)
      (OpenSpec.preRow_of_cond 8 hx (by kernel_rfl) (fun k hk => by cases hk) (by kernel_rfl) (cellShifts_met os))) ?_
  intro W base args ds gs before hval hW _ _ _ hL _ _
  exact cellShifts_contract H enc W base args ds gs before hval hW hL
theorem cellShifts_said : Rows.CellShiftsSaid :=
  OpenClaim.holds_of_cond 8 Tryd.f8 rfl rfl rfl rfl rfl rfl rfl ⟨rfl, rfl, rfl, rfl, rfl⟩ rfl rfl rfl rfl rfl (by kernel_rfl) Tryd.func8 (by kernel_rfl)
    (of_decide_eq_true (by kernel_rfl)) (by unfold Func.isWrapper; first | (rw [if_pos (by decide +kernel)]; kernel_rfl) | (rw [if_neg (by decide +kernel)]; exact ⟨rfl, rfl⟩))
    (fun os started H enc _ F => by rw [OpenClaim.pre_eq_preRow]; exact cellShifts_lifted os started H enc F)
theorem cellShifts_plain (f : FuncId) (fn : Func) (hf : Tryd.pinned.checked.prog.funcNamed "honeycomb/honeycomblaw03.CellShifts" = some f) (hfn : Tryd.pinned.checked.prog.funcs[f]? = some fn) :
    true = Tryd.pinned.checked.prog.looks [] ∧ ∀ (j : Nat) t, fn.params[j]? = some t → Tryd.pinned.checked.prog.wantsStandIn t = false := by
  obtain rfl : f = 8 := Option.some.inj ((show Tryd.prog.funcNamed "honeycomb/honeycomblaw03.CellShifts" = some 8 by kernel_rfl).symm.trans hf) |>.symm
  obtain rfl : fn = Tryd.f8 := (Option.some.inj (Tryd.func8.symm.trans hfn)).symm
  refine ⟨by kernel_rfl, fun j t ht => ?_⟩
  have hall : (Tryd.f8.params.toList.all fun t => !Tryd.prog.wantsStandIn t) = true := by kernel_rfl
  have hm : t ∈ Tryd.f8.params.toList := by simpa using Array.mem_of_getElem? ht
  have := List.all_eq_true.1 hall t hm
  exact (show Tryd.prog.wantsStandIn t = false by simpa using this)
end cellShiftsFrame
/-- CellShifts: the card: for every input the law answers true. -/
theorem cellShifts_card : Rows.CellShiftsCardSaid :=
  Claim7.holds_tied_plain_at .later [] _ _ _ _ cellShifts_said (fun _ h => by cases h) (by kernel_rfl) (fun _ h => by cases h) cellShifts_row_tie rfl ⟨rfl, rfl⟩ (by kernel_rfl) rfl cellShifts_plain (by kernel_rfl)
end Go.Proofs.YthlchndhfnbjaaaDoor.Ce
namespace Go.Proofs.YthlchndhfnbjaaaDoor
theorem cellShifts_proved : Rows.CellShiftsCardSaid := Ce.cellShifts_card
#print axioms cellShifts_proved
end Go.Proofs.YthlchndhfnbjaaaDoor
