/- CellMutual: of any cell that may be, each one beside it has it beside itself, and it is not beside itself. No conditions. -/
import Derived.Test.YthlchndhfnbjaaaDoorCeL
import Derived.Test.YthlchndhfnbjaaaDoorAxR
namespace Go.Proofs.YthlchndhfnbjaaaDoor.Ce
open Go.RowKit Go.Proofs.YthlchndhfnbjaaaDoor.Ax

theorem mutual_fin : ∀ l ∈ [1, 2, 3], ∀ h ∈ [(0 : Int), 1], h < (if l = 1 then 1 else 2) → ∀ d ∈ besAll l 0 0 h, (-d.1, -d.2.1, h) ∈ besAll l 0 0 d.2.2 ∧ (d.1 ≠ 0 ∨ d.2.1 ≠ 0 ∨ d.2.2 ≠ h) := by decide +kernel
theorem mutual_of {l a b h : Int} (hl : l = 1 ∨ l = 2 ∨ l = 3) (h0 : 0 ≤ h) (h1 : h < halvesV l) {d : C} (hd : d ∈ besAll l a b h) :
    (a, b, h) ∈ besAll l d.1 d.2.1 d.2.2 ∧ d ≠ (a, b, h) := by
  have hh : h = 0 ∨ h = 1 := by unfold halvesV at h1; split at h1 <;> omega
  rw [besAll_shift, List.mem_map] at hd
  obtain ⟨c, hc, rfl⟩ := hd
  obtain ⟨m1, m2⟩ := mutual_fin l (by rcases hl with rfl | rfl | rfl <;> simp) h (by rcases hh with rfl | rfl <;> simp) h1 c hc
  constructor
  · rw [besAll_shift, List.mem_map]
    exact ⟨_, m1, by simp only [sh, Prod.mk.injEq, and_true]; omega⟩
  · simp only [sh, ne_eq, Prod.mk.injEq]
    omega
def MuOut (w : World) (g A : Nat) (L : List C) (a b h : Int) (i : Value) (wr : World) : Prop :=
  ∃ k : Nat, k ≤ L.length ∧ i = .int .i64 k ∧ Below w.heap.size w wr ∧ Row wr g L ∧ Blk wr A 36 #[.int .i64 a, .int .i64 b, .int .i64 h]
def MuIn (w : World) (g g2 A D : Nat) (L L2 : List C) (a b h x y z : Int) (t j : Value) (wr : World) : Prop :=
  ∃ k : Nat, k ≤ L2.length ∧ j = .int .i64 k ∧ t = .bool (anyB L2 (a, b, h) k) ∧ Below w.heap.size w wr ∧ Row wr g L ∧ Row wr g2 L2 ∧ Blk wr A 36 #[.int .i64 a, .int .i64 b, .int .i64 h] ∧ Blk wr D 36 #[.int .i64 x, .int .i64 y, .int .i64 z]

set_option maxRecDepth 100000 in
set_option maxHeartbeats 4000000 in
theorem cellMutual_walk (n : Int) (_wn : (Lit.int .i64 n).wf = true) (rA : Int) (_wrA : (Lit.int .i64 rA).wf = true) (rB : Int) (_wrB : (Lit.int .i64 rB).wf = true) (rH : Int) (_wrH : (Lit.int .i64 rH).wf = true) (w : World) (hs : SixIs w) :
    Calls Tryd.prog 5 #[.int .i64 n, Ce rA rB rH] w fun e w' => e = .returned (.bool true) ∧ Below w.heap.size w w' := by
  have ec := eql_ce
  go_enter Tryd.func5, Tryd.ntmps5
  go_wp2_with fail
  refine (awake_any _ (hs.below (by go_grown))).mono ?_
  rintro e w1 ⟨rfl, hb⟩
  have k1 := (Blk.newAt w 23 #[.int .i64 rA, .int .i64 rB, .int .i64 rH] _ rfl).below hb (by simp)
  have hb1 := below_call (B := w.heap.size) (w := w) hb (by go_grown) (by go_size)
  clear hb
  obtain ⟨c0, c1, c2, hl1⟩ := k1.ce
  go_wp2_with (go_at_call 26; refine (lattice_any _ _).mono ?_; rintro e w' ⟨rfl, rfl⟩)
  refine (some_any _ _ _ _ _).mono ?_
  rintro e w2 ⟨rfl, hb⟩
  have hb2 := below_call (B := w.heap.size) (w := w) hb hb1 hb1.size
  have hz2 := hb2.size
  clear hb c0 c1 c2 k1 hl1
  have hl := latV_cases n
  generalize latV n = l at *
  obtain ⟨h0, h1⟩ := someH_bd l rH
  generalize someH l rH = h at *
  have ha := tmod_bd rA 100 (by decide)
  have hbb := tmod_bd rB 100 (by decide)
  generalize rA.tmod 100 = a at *
  generalize rB.tmod 100 = b at *
  go_wp2_with fail
  refine (beside_yes l a b h _ hl h0 h1 (by omega) (by omega) (hs.below (by go_grown))).mono ?_
  rintro e w3 ⟨g, cap, rfl, hcap, hg, hrow, hb⟩
  have kc := (Blk.newAt w2 36 #[.int .i64 a, .int .i64 b, .int .i64 h] _ rfl).below hb (by simp)
  have hb3 := below_call (B := w.heap.size) (w := w) hb (by go_grown) (by go_size)
  clear hb hg
  have hlen := (bes_some' (a := a) (b := b) hl h0 h1).2
  have HL := Lib.hid (show ∀ d ∈ besAll l a b h, ((a - 1 ≤ d.1 ∧ d.1 ≤ a + 1) ∧ (b - 1 ≤ d.2.1 ∧ d.2.1 ≤ b + 1) ∧ 0 ≤ d.2.2 ∧ d.2.2 < halvesV l) ∧ (a, b, h) ∈ besAll l d.1 d.2.1 d.2.2 ∧ d ≠ (a, b, h) from fun d hd => ⟨near_of hl h0 h1 hd, mutual_of hl h0 h1 hd⟩)
  generalize besAll l a b h = L at *
  generalize w2.heap.size = A at *
  go_wp2_with fail
  go_loopw [33] (fun i wr => MuOut w g A L a b h i wr) (fun i _ => L.length - (intOf i).toNat)
  case atStart => exact ⟨0, by omega, rfl, hb3, hrow, kc⟩
  case round =>
    clear hb3 hrow kc
    obtain ⟨k, hk, rfl, hb3, hrow, kc⟩ := hrel
    have hz3 := hb3.size
    obtain ⟨a0, a1, a2, hal⟩ := kc.ce
    by_cases hlt : k < L.length
    · obtain ⟨d, hd⟩ : ∃ d, L[k]? = some d := ⟨_, List.getElem?_eq_getElem hlt⟩
      obtain ⟨x, y, z⟩ := d
      obtain ⟨p0, p1, p2⟩ := hrow.1 k _ hd
      have HM := HL.out (x, y, z) (List.mem_of_getElem? hd)
      dsimp only at p0 p1 p2 HM
      obtain ⟨⟨hx, hy, hz0, hz1⟩, hmem, hne⟩ := HM
      have HD := Lib.hid hd
      clear hd
      have hgl := hrow.2
      go_wp2_with fail
      refine (beside_yes l x y z _ hl hz0 hz1 (by omega) (by omega) (hs.below (by go_grown))).mono ?_
      rintro e w5 ⟨g2, cap2, rfl, hcap2, hg2, hrow2, hb⟩
      have kd := (Blk.newAt wr 36 #[.int .i64 x, .int .i64 y, .int .i64 z] _ rfl).below hb (by simp)
      have kc5 := (kc.alloc _).below hb (by simp; omega)
      have hrow5 := (hrow.below ((Below.refl _ _).alloc (Nat.le_refl _) (.cells #[.int .i64 x, .int .i64 y, .int .i64 z] 36))).below hb
      have hb5 := below_call (B := w.heap.size) (w := w) hb (by go_grown) (by go_size)
      clear hb hg2 p0 p1 p2 a0 a1 a2 hal hgl
      have hlen2 := (bes_some' (a := x) (b := y) hl hz0 hz1).2
      have HT := Lib.hid (any_all hmem)
      have HN := Lib.hid (eqC_no hne)
      clear hmem hne
      generalize besAll l x y z = L2 at *
      generalize wr.heap.size = D at *
      go_wp2_with fail
      go_loopw [13, 45] (fun t j wq => MuIn w g g2 A D L L2 a b h x y z t j wq) (fun _ j _ => L2.length - (intOf j).toNat)
      case atStart => exact ⟨0, by omega, rfl, rfl, hb5, hrow5, hrow2, kc5, kd⟩
      case round =>
        clear hb5 hrow5 hrow2 kc5 kd hrow kc
        obtain ⟨j, hj, rfl, rfl, hb5, hrow5, hrow2, kc5, kd⟩ := hrel
        obtain ⟨a0, a1, a2, hal⟩ := kc5.ce
        obtain ⟨d0, d1, d2, hdl⟩ := kd.ce
        have hz5 := hb5.size
        have hgl := hrow2.2
        by_cases hlt2 : j < L2.length
        · obtain ⟨d, hd⟩ : ∃ d, L2[j]? = some d := ⟨_, List.getElem?_eq_getElem hlt2⟩
          obtain ⟨u, v, s⟩ := d
          obtain ⟨p0, p1, p2⟩ := hrow2.1 j _ hd
          dsimp only at p0 p1 p2
          have HS := Lib.hid (any_succ (c := (a, b, h)) hd)
          clear hd
          cases g1 : anyB L2 (a, b, h) j
          · cases g2 : (u == a && (v == b && s == h))
            all_goals
              go_wp2
              go_roundw
              case rel => exact ⟨j + 1, by omega, by go_num, by rw [HS.out, g1]; simp only [eqC, g2]; rfl, by go_grown, hrow5.below (by go_grown), hrow2.below (by go_grown), kc5.alloc _, kd.alloc _⟩
              case measure => simp [intOf]; omega
          · go_wp2
            go_roundw
            case rel => exact ⟨j + 1, by omega, by go_num, by rw [HS.out, g1]; rfl, by go_grown, hrow5.below (by go_grown), hrow2.below (by go_grown), kc5.alloc _, kd.alloc _⟩
            case measure => simp [intOf]; omega
        · have ej : j = L2.length := by omega
          have EJ := Lib.hid ej
          have g1 : anyB L2 (a, b, h) j = true := by rw [EJ.out]; exact HT.out
          have g2 : (x == a && (y == b && z == h)) = false := HN.out
          clear ej
          go_wp2
          go_roundw
          case rel => exact ⟨k + 1, by omega, by go_num, hb5, hrow5, kc5⟩
          case measure => simp [intOf]; omega
    · go_wp2
      go_ret
      exact ⟨rfl, hb3⟩
section cellMutualFrame
open Go.ChangeShapes Go.WideShapes Go.ChangeAt Go.RowKit Go.Joins
set_option maxRecDepth 100000 in
theorem cellMutual_contract (H : Type) (enc : TypeId × Value → H) (W : World) (base : Nat) (args : Array Value) (ds gs : List (DataW H)) (before : List MemPlace)
    (hval : ∀ (j : Nat) t v, Tryd.f5.params[j]? = some t → args[j]? = some v → Value.okWide Tryd.prog W .any base t v)
    (hW : DataW.Whole enc Tryd.prog Tryd.f5.params.toList Rows.cellMutualSpec.vars false W args.toList ds gs before) (hL : laidMetH Tryd.prog Rows.cellMutualRow.laid W) :
    Calls Tryd.prog 5 args W fun e W' => ∃ v, e = .returned v ∧ Rows.cellMutualSpec.post enc Tryd.prog Tryd.f5 false true false false W args v W' := by
  have hW' := hW
  obtain ⟨p, q, hA0, hV, rfl, hfz, hnd⟩ := hW
  have hA : DataW.TrodAll enc Tryd.prog W 0 (fun _ => true) true Tryd.f5.params.toList args.toList ds p := hA0
  rw [Tryd.params5] at hA hval
  obtain ⟨v0, vs0, d0, ds0, p0, q0, hargs, rfl, rfl, h0, r0⟩ := trodAll_cons hA
  obtain ⟨v1, vs1, d1, ds1, p1, q1, rfl, rfl, rfl, h1, r1⟩ := trodAll_cons r0
  obtain ⟨rfl, rfl, rfl⟩ := trodAll_nil r1
  obtain rfl : args = #[v0, v1] := by cases args; simp_all
  obtain ⟨rfl, rfl⟩ := trodVars_none hV
  obtain ⟨n, rfl, rfl, rfl, w_n⟩ := open_int Tryd.underlying3 (hval 0 3 v0 rfl rfl) h0
  obtain ⟨c10, c11, c12, y10, y11, y12, m1, rfl, rfl, rfl, hy10, hy11, hy12⟩ := open_agg3 Tryd.underlying23 (by kernel_rfl) (by kernel_rfl) (hval 1 23 v1 rfl rfl) h1
  obtain ⟨rawA, e10, rfl, w_rawA⟩ := DataW.trod_int Tryd.underlying2 hy10
  simp at e10; subst e10
  obtain ⟨rawB, e11, rfl, w_rawB⟩ := DataW.trod_int Tryd.underlying2 hy11
  simp at e11; subst e11
  obtain ⟨rawH, e12, rfl, w_rawH⟩ := DataW.trod_int Tryd.underlying3 hy12
  simp at e12; subst e12
  refine (cellMutual_walk n w_n rawA w_rawA rawB w_rawB rawH w_rawH W (six_of_laid hL)).mono fun e W' ⟨he, hb⟩ => ?_
  exact ⟨_, he, law_post laidOut rfl rfl Tryd.underlying4 (by kernel_rfl) hW' hb ⟨rfl, rfl, rfl⟩⟩
theorem cellMutual_met (os : Os) : laidMet Tryd.prog Rows.cellMutualRow.laid ((laidWorld os).forCall (fun _ _ => 0) ⟨#[], #[.int .i64 0, .agg #[.int .i64 0, .int .i64 0, .int .i64 0]], []⟩).memory :=
  laidMet_of_run' 8 (by kernel_rfl) (by kernel_rfl)
theorem cellMutual_reads (os : Os) {H : Type} (enc : TypeId × Value → H) : ∃ places, DataW.whole enc Tryd.prog ((laidWorld os).forCall (fun _ _ => 0) ⟨#[], #[.int .i64 0, .agg #[.int .i64 0, .int .i64 0, .int .i64 0]], []⟩).memory Tryd.f5.params.toList Rows.cellMutualSpec.vars false #[(.int .i64 0 : Value), (.agg #[.int .i64 0, .int .i64 0, .int .i64 0] : Value)].toList 8 = some ([.lit (.int .i64 0), .agg [.lit (.int .i64 0), .lit (.int .i64 0), .lit (.int .i64 0)]], [], places) :=
  ⟨[], by kernel_rfl⟩
set_option maxRecDepth 100000 in
theorem cellMutual_lifted (os : Os) (started : os.Started) (H : Type) (enc : TypeId × Value → H) (F : Stop.Interp) :
    ReturnsInHanded {} Tryd.checked os 5 .any ((OpenSpec.ofChange Rows.cellMutualSpec).preRow enc Tryd.prog Tryd.f5 Rows.cellMutualRow.domain false Rows.cellMutualRow.laid) (((OpenSpec.ofChange Rows.cellMutualSpec).at F).post enc Tryd.prog Tryd.f5 false true false false) := by
  obtain ⟨places, hx⟩ := cellMutual_reads os enc
  refine returnsInHanded_of_row (C := Tryd.checked) (s := OpenSpec.ofChange Rows.cellMutualSpec) own started (by kernel_rfl) Tryd.func5
    (witness_row_at (enc := enc) (C := Tryd.checked) false (laidWorld os) #[.int .i64 0, .agg #[.int .i64 0, .int .i64 0, .int .i64 0]] rfl (by kernel_rfl) (by kernel_rfl) (by kernel_rfl)
      (OpenSpec.preRow_of_cond 8 hx (by kernel_rfl) (fun k hk => by cases hk) (by kernel_rfl) (cellMutual_met os))) ?_
  intro W base args ds gs before hval hW _ _ _ hL _ _
  exact cellMutual_contract H enc W base args ds gs before hval hW hL
theorem cellMutual_said : Rows.CellMutualSaid :=
  OpenClaim.holds_of_cond 5 Tryd.f5 rfl rfl rfl rfl rfl rfl rfl ⟨rfl, rfl, rfl, rfl, rfl⟩ rfl rfl rfl rfl rfl (by kernel_rfl) Tryd.func5 (by kernel_rfl)
    (of_decide_eq_true (by kernel_rfl)) (by unfold Func.isWrapper; first | (rw [if_pos (by decide +kernel)]; kernel_rfl) | (rw [if_neg (by decide +kernel)]; exact ⟨rfl, rfl⟩))
    (fun os started H enc _ F => by rw [OpenClaim.pre_eq_preRow]; exact cellMutual_lifted os started H enc F)
theorem cellMutual_plain (f : FuncId) (fn : Func) (hf : Tryd.pinned.checked.prog.funcNamed "honeycomb/honeycomblaw03.CellMutual" = some f) (hfn : Tryd.pinned.checked.prog.funcs[f]? = some fn) :
    true = Tryd.pinned.checked.prog.looks [] ∧ ∀ (j : Nat) t, fn.params[j]? = some t → Tryd.pinned.checked.prog.wantsStandIn t = false := by
  obtain rfl : f = 5 := Option.some.inj ((show Tryd.prog.funcNamed "honeycomb/honeycomblaw03.CellMutual" = some 5 by kernel_rfl).symm.trans hf) |>.symm
  obtain rfl : fn = Tryd.f5 := (Option.some.inj (Tryd.func5.symm.trans hfn)).symm
  refine ⟨by kernel_rfl, fun j t ht => ?_⟩
  have hall : (Tryd.f5.params.toList.all fun t => !Tryd.prog.wantsStandIn t) = true := by kernel_rfl
  have hm : t ∈ Tryd.f5.params.toList := by simpa using Array.mem_of_getElem? ht
  have := List.all_eq_true.1 hall t hm
  exact (show Tryd.prog.wantsStandIn t = false by simpa using this)
end cellMutualFrame
/-- CellMutual: the card: for every input the law answers true. -/
theorem cellMutual_card : Rows.CellMutualCardSaid :=
  Claim7.holds_tied_plain_at .later [] _ _ _ _ cellMutual_said (fun _ h => by cases h) (by kernel_rfl) (fun _ h => by cases h) cellMutual_row_tie rfl ⟨rfl, rfl⟩ (by kernel_rfl) rfl cellMutual_plain (by kernel_rfl)
end Go.Proofs.YthlchndhfnbjaaaDoor.Ce
namespace Go.Proofs.YthlchndhfnbjaaaDoor
theorem cellMutual_proved : Rows.CellMutualCardSaid := Ce.cellMutual_card
#print axioms cellMutual_proved
end Go.Proofs.YthlchndhfnbjaaaDoor
