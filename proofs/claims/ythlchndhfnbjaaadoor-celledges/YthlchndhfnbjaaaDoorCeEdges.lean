/- CellEdges: of any triangle those across its edges are at its corners too, and point the other way; of those at its corners six have its own half. No conditions. -/
import Derived.Test.YthlchndhfnbjaaaDoorCeL
import Derived.Test.YthlchndhfnbjaaaDoorAxR
namespace Go.Proofs.YthlchndhfnbjaaaDoor.Ce
open Go.RowKit Go.Proofs.YthlchndhfnbjaaaDoor.Ax

/-- How many of the first j cells have this half. -/
def ownN (L : List C) (h : Int) (j : Nat) : Int := ((L.take j).countP fun d => d.2.2 == h : Nat)
theorem ownN_succ {L : List C} {h : Int} {d : C} {j : Nat} (hd : L[j]? = some d) : ownN L h (j + 1) = ownN L h j + (if (d.2.2 == h) = true then 1 else 0) := by
  unfold ownN
  rw [List.take_add_one, hd, List.countP_append]
  cases hh : (d.2.2 == h) <;> simp [hh]
theorem ownN_bd (L : List C) (h : Int) (j : Nat) : 0 ≤ ownN L h j ∧ ownN L h j ≤ j := by
  unfold ownN
  have := List.countP_le_length (p := fun d : C => d.2.2 == h) (l := L.take j)
  have := List.length_take_le j L
  omega
theorem ownN_shift (L : List C) (a b h : Int) (j : Nat) : ownN (L.map (sh a b)) h j = ownN L h j := by
  unfold ownN
  rw [← List.map_take, List.countP_map]
  rfl
theorem edges_fin : ∀ h ∈ [(0 : Int), 1], ((besAll 2 0 0 h).length = 3 ∧ (besAll 3 0 0 h).length = 12 ∧ ownN (besAll 3 0 0 h) h 12 = 6) ∧ ∀ d ∈ besAll 2 0 0 h, d ∈ besAll 3 0 0 h ∧ d.2.2 ≠ h := by decide +kernel
theorem edges_of (a b h : Int) (hh : h = 0 ∨ h = 1) : ((besAll 2 a b h).length = 3 ∧ (besAll 3 a b h).length = 12 ∧ ownN (besAll 3 a b h) h 12 = 6) ∧ ∀ d ∈ besAll 2 a b h, d ∈ besAll 3 a b h ∧ d.2.2 ≠ h := by
  obtain ⟨⟨h1, h2, h3⟩, h4⟩ := edges_fin h (by rcases hh with rfl | rfl <;> simp)
  rw [besAll_shift 2, besAll_shift 3]
  refine ⟨⟨by simpa using h1, by simpa using h2, by rw [ownN_shift]; exact h3⟩, fun d hd => ?_⟩
  rw [List.mem_map] at hd
  obtain ⟨c, hc, rfl⟩ := hd
  exact ⟨List.mem_map_of_mem (h4 c hc).1, (h4 c hc).2⟩
def EdA (w : World) (g g2 A : Nat) (L L2 : List C) (a b h : Int) (n i : Value) (wr : World) : Prop :=
  ∃ k : Nat, k ≤ 12 ∧ i = .int .i64 k ∧ n = .int .i64 (ownN L2 h k) ∧ Below w.heap.size w wr ∧ Row wr g L ∧ Row wr g2 L2 ∧ Blk wr A 36 #[.int .i64 a, .int .i64 b, .int .i64 h]
def EdB (w : World) (g g2 A : Nat) (L L2 : List C) (a b h : Int) (i : Value) (wr : World) : Prop :=
  ∃ k : Nat, k ≤ 3 ∧ i = .int .i64 k ∧ Below w.heap.size w wr ∧ Row wr g L ∧ Row wr g2 L2 ∧ Blk wr A 36 #[.int .i64 a, .int .i64 b, .int .i64 h]
def EdC (w : World) (g g2 A D : Nat) (L L2 : List C) (a b h x y z : Int) (t j : Value) (wr : World) : Prop :=
  ∃ k : Nat, k ≤ 12 ∧ j = .int .i64 k ∧ t = .bool (anyB L2 (x, y, z) k) ∧ Below w.heap.size w wr ∧ Row wr g L ∧ Row wr g2 L2 ∧ Blk wr A 36 #[.int .i64 a, .int .i64 b, .int .i64 h] ∧ Blk wr D 36 #[.int .i64 x, .int .i64 y, .int .i64 z]

set_option maxRecDepth 100000 in
set_option maxHeartbeats 8000000 in
theorem cellEdges_walk (rA : Int) (_wrA : (Lit.int .i64 rA).wf = true) (rB : Int) (_wrB : (Lit.int .i64 rB).wf = true) (rH : Int) (_wrH : (Lit.int .i64 rH).wf = true) (w : World) (hs : SixIs w) :
    Calls Tryd.prog 9 #[Ce rA rB rH] w fun e w' => e = .returned (.bool true) ∧ Below w.heap.size w w' := by
  have ec := eql_ce
  go_enter Tryd.func9, Tryd.ntmps9
  go_wp2_with fail
  refine (awake_any _ (hs.below (by go_grown))).mono ?_
  rintro e w1 ⟨rfl, hb⟩
  have k1 := (Blk.newAt w 23 #[.int .i64 rA, .int .i64 rB, .int .i64 rH] _ rfl).below hb (by simp)
  have hb1 := below_call (B := w.heap.size) (w := w) hb (by go_grown) (by go_size)
  clear hb
  obtain ⟨c0, c1, c2, hl1⟩ := k1.ce
  go_wp2_with fail
  refine (some_any _ _ _ _ _).mono ?_
  rintro e w2 ⟨rfl, hb⟩
  have hb2 := below_call (B := w.heap.size) (w := w) hb hb1 hb1.size
  have hz2 := hb2.size
  clear hb c0 c1 c2 k1 hl1
  have hh : someH 2 rH = 0 ∨ someH 2 rH = 1 := by unfold someH; simp; omega
  generalize someH 2 rH = h at *
  have ha := tmod_bd rA 100 (by decide)
  have hbb := tmod_bd rB 100 (by decide)
  generalize rA.tmod 100 = a at *
  generalize rB.tmod 100 = b at *
  have h0 : 0 ≤ h := by omega
  have h2 : h < halvesV 2 := by simp [halvesV]; omega
  have h3 : h < halvesV 3 := by simp [halvesV]; omega
  go_wp2_with fail
  refine (beside_yes 2 a b h _ (by decide) h0 h2 (by omega) (by omega) (hs.below (by go_grown))).mono ?_
  rintro e w3 ⟨g, cap, rfl, hcap, hg, hrow, hb⟩
  have kc := (Blk.newAt w2 36 #[.int .i64 a, .int .i64 b, .int .i64 h] _ rfl).below hb (by simp)
  have hb3 := below_call (B := w.heap.size) (w := w) hb (by go_grown) (by go_size)
  clear hb hg
  generalize w2.heap.size = A at *
  have hz3 := hb3.size
  obtain ⟨a0, a1, a2, hal⟩ := kc.ce
  go_wp2_with fail
  refine (beside_yes 3 a b h _ (by decide) h0 h3 (by omega) (by omega) (hs.below (by go_grown))).mono ?_
  rintro e w4 ⟨g2, cap2, rfl, hcap2, hg2, hrow2, hb⟩
  have kc4 := kc.below hb hal
  have hrow4 := hrow.below hb
  have hb4 := below_call (B := w.heap.size) (w := w) hb hb3 hb3.size
  clear hb hg2 a0 a1 a2 hal hrow kc hb3 h0 h2 h3
  obtain ⟨⟨E1, E2, E3⟩, E4⟩ := edges_of a b h hh
  generalize besAll 2 a b h = L at *
  generalize besAll 3 a b h = L2 at *
  have f1 : L.length ≤ 3 := by omega
  have f2 : L2.length ≤ 12 := by omega
  have H1 := Lib.hid E1
  have H2 := Lib.hid E2
  have H3 := Lib.hid E3
  have H4 := Lib.hid E4
  rw [E1, E2]
  clear E1 E2 E3 E4
  go_wp2_with fail
  go_loopw [8, 48] (fun n i wr => EdA w g g2 A L L2 a b h n i wr) (fun _ i _ => 12 - (intOf i).toNat)
  case atStart => exact ⟨0, by omega, rfl, rfl, hb4, hrow4, hrow2, kc4⟩
  case round =>
    clear hb4 hrow4 hrow2 kc4
    obtain ⟨k, hk, rfl, rfl, hb4, hrow4, hrow2, kc4⟩ := hrel
    obtain ⟨a0, a1, a2, hal⟩ := kc4.ce
    have hz4 := hb4.size
    have hgl := hrow2.2
    obtain ⟨n0, n1⟩ := ownN_bd L2 h k
    by_cases hlt : k < 12
    · obtain ⟨d, hd⟩ : ∃ d, L2[k]? = some d := ⟨_, List.getElem?_eq_getElem (by rw [H2.out]; exact hlt)⟩
      obtain ⟨x, y, z⟩ := d
      obtain ⟨p0, p1, p2⟩ := hrow2.1 k _ hd
      have HS := Lib.hid (ownN_succ (h := h) hd)
      dsimp only at p0 p1 p2 HS
      clear hd
      cases g1 : (z == h)
      all_goals
        go_wp2
        go_roundw
        case rel => exact ⟨k + 1, by omega, by go_num, by rw [HS.out, g1]; simp, by go_grown, hrow4.below (by go_grown), hrow2.below (by go_grown), kc4.alloc _⟩
        case measure => simp [intOf]; omega
    · have ek : k = 12 := by omega
      subst ek
      have H6 := Lib.hid (show ownN L2 h 12 = 6 from H3.out)
      clear n0 n1
      go_wp2_with fail
      go_loopw [62] (fun i wr => EdB w g g2 A L L2 a b h i wr) (fun i _ => 3 - (intOf i).toNat)
      case atStart => exact ⟨0, by omega, rfl, hb4, hrow4, hrow2, kc4⟩
      case round =>
        clear hb4 hrow4 hrow2 kc4 a0 a1 a2 hal hgl hz4
        obtain ⟨k, hk, rfl, hb4, hrow4, hrow2, kc4⟩ := hrel
        obtain ⟨a0, a1, a2, hal⟩ := kc4.ce
        have hz4 := hb4.size
        have hgl := hrow4.2
        by_cases hlt : k < 3
        · obtain ⟨d, hd⟩ : ∃ d, L[k]? = some d := ⟨_, List.getElem?_eq_getElem (by rw [H1.out]; exact hlt)⟩
          obtain ⟨x, y, z⟩ := d
          obtain ⟨p0, p1, p2⟩ := hrow4.1 k _ hd
          obtain ⟨hmem, hne⟩ := H4.out _ (List.mem_of_getElem? hd)
          dsimp only at p0 p1 p2 hne
          have HT := Lib.hid (show anyB L2 (x, y, z) 12 = true from by rw [← H2.out]; exact any_all hmem)
          have HN := Lib.hid (show (z == h) = false by simpa using hne)
          clear hd hmem hne
          go_wp2_with fail
          obtain ⟨D, hD⟩ : ∃ D, D = wr.heap.size := ⟨_, rfl⟩
          have kd : Blk (wr.alloc (.cells #[.int .i64 x, .int .i64 y, .int .i64 z] 36)) D 36 #[.int .i64 x, .int .i64 y, .int .i64 z] := Blk.newAt _ _ _ _ hD
          have kc5 := kc4.alloc (.cells #[.int .i64 x, .int .i64 y, .int .i64 z] 36)
          have r5 : Row (wr.alloc (.cells #[.int .i64 x, .int .i64 y, .int .i64 z] 36)) g L := hrow4.below (by go_grown)
          have r6 : Row (wr.alloc (.cells #[.int .i64 x, .int .i64 y, .int .i64 z] 36)) g2 L2 := hrow2.below (by go_grown)
          have hb5 : Below w.heap.size w (wr.alloc (.cells #[.int .i64 x, .int .i64 y, .int .i64 z] 36)) := by go_grown
          rw [← hD]
          clear hD a0 a1 a2 hal hgl hz4 p0 p1 p2 hrow4 hrow2 kc4
          generalize (wr.alloc (.cells #[.int .i64 x, .int .i64 y, .int .i64 z] 36)) = w6 at *
          go_loopw [13, 68] (fun t j wq => EdC w g g2 A D L L2 a b h x y z t j wq) (fun _ j _ => 12 - (intOf j).toNat)
          case atStart => exact ⟨0, by omega, rfl, rfl, hb5, r5, r6, kc5, kd⟩
          case round =>
            clear hb5 r5 r6 kc5 kd
            obtain ⟨j, hj, rfl, rfl, hb5, r5, r6, kc5, kd⟩ := hrel
            obtain ⟨a0, a1, a2, hal⟩ := kc5.ce
            obtain ⟨d0, d1, d2, hdl⟩ := kd.ce
            have hz5 := hb5.size
            have hgl := r6.2
            by_cases hlt2 : j < 12
            · obtain ⟨d, hd⟩ : ∃ d, L2[j]? = some d := ⟨_, List.getElem?_eq_getElem (by rw [H2.out]; exact hlt2)⟩
              obtain ⟨u, v, s⟩ := d
              obtain ⟨p0, p1, p2⟩ := r6.1 j _ hd
              dsimp only at p0 p1 p2
              have HS := Lib.hid (any_succ (c := (x, y, z)) hd)
              clear hd
              cases g1 : anyB L2 (x, y, z) j
              · cases g2 : (u == x && (v == y && s == z))
                all_goals
                  go_wp2
                  go_roundw
                  case rel => exact ⟨j + 1, by omega, by go_num, by rw [HS.out, g1]; simp only [eqC, g2]; rfl, by go_grown, r5.below (by go_grown), r6.below (by go_grown), kc5.alloc _, kd.alloc _⟩
                  case measure => simp [intOf]; omega
              · go_wp2
                go_roundw
                case rel => exact ⟨j + 1, by omega, by go_num, by rw [HS.out, g1]; rfl, by go_grown, r5.below (by go_grown), r6.below (by go_grown), kc5.alloc _, kd.alloc _⟩
                case measure => simp [intOf]; omega
            · have ej : j = 12 := by omega
              subst ej
              have g1 : anyB L2 (x, y, z) 12 = true := HT.out
              have g2 : (z == h) = false := HN.out
              go_wp2
              go_roundw
              case rel => exact ⟨k + 1, by omega, by go_num, hb5, r5, r6, kc5⟩
              case measure => simp [intOf]; omega
        · rw [H6.out]
          go_wp2
          go_ret
          exact ⟨rfl, hb4⟩
section cellEdgesFrame
open Go.ChangeShapes Go.WideShapes Go.ChangeAt Go.RowKit Go.Joins
set_option maxRecDepth 100000 in
theorem cellEdges_contract (H : Type) (enc : TypeId × Value → H) (W : World) (base : Nat) (args : Array Value) (ds gs : List (DataW H)) (before : List MemPlace)
    (hval : ∀ (j : Nat) t v, Tryd.f9.params[j]? = some t → args[j]? = some v → Value.okWide Tryd.prog W .any base t v)
    (hW : DataW.Whole enc Tryd.prog Tryd.f9.params.toList Rows.cellEdgesSpec.vars false W args.toList ds gs before) (hL : laidMetH Tryd.prog Rows.cellEdgesRow.laid W) :
    Calls Tryd.prog 9 args W fun e W' => ∃ v, e = .returned v ∧ Rows.cellEdgesSpec.post enc Tryd.prog Tryd.f9 false true false false W args v W' := by
  have hW' := hW
  obtain ⟨p, q, hA0, hV, rfl, hfz, hnd⟩ := hW
  have hA : DataW.TrodAll enc Tryd.prog W 0 (fun _ => true) true Tryd.f9.params.toList args.toList ds p := hA0
  rw [Tryd.params9] at hA hval
  obtain ⟨v0, vs0, d0, ds0, p0, q0, hargs, rfl, rfl, h0, r0⟩ := trodAll_cons hA
  obtain ⟨rfl, rfl, rfl⟩ := trodAll_nil r0
  obtain rfl : args = #[v0] := by cases args; simp_all
  obtain ⟨rfl, rfl⟩ := trodVars_none hV
  obtain ⟨c00, c01, c02, y00, y01, y02, m0, rfl, rfl, rfl, hy00, hy01, hy02⟩ := open_agg3 Tryd.underlying23 (by kernel_rfl) (by kernel_rfl) (hval 0 23 v0 rfl rfl) h0
  obtain ⟨rawA, e00, rfl, w_rawA⟩ := DataW.trod_int Tryd.underlying2 hy00
  simp at e00; subst e00
  obtain ⟨rawB, e01, rfl, w_rawB⟩ := DataW.trod_int Tryd.underlying2 hy01
  simp at e01; subst e01
  obtain ⟨rawH, e02, rfl, w_rawH⟩ := DataW.trod_int Tryd.underlying3 hy02
  simp at e02; subst e02
  refine (cellEdges_walk rawA w_rawA rawB w_rawB rawH w_rawH W (six_of_laid hL)).mono fun e W' ⟨he, hb⟩ => ?_
  exact ⟨_, he, law_post laidOut rfl rfl Tryd.underlying4 (by kernel_rfl) hW' hb ⟨rfl, rfl, rfl⟩⟩
theorem cellEdges_met (os : Os) : laidMet Tryd.prog Rows.cellEdgesRow.laid ((laidWorld os).forCall (fun _ _ => 0) ⟨#[], #[.agg #[.int .i64 0, .int .i64 0, .int .i64 0]], []⟩).memory :=
  laidMet_of_run' 8 (by kernel_rfl) (by kernel_rfl)
theorem cellEdges_reads (os : Os) {H : Type} (enc : TypeId × Value → H) : ∃ places, DataW.whole enc Tryd.prog ((laidWorld os).forCall (fun _ _ => 0) ⟨#[], #[.agg #[.int .i64 0, .int .i64 0, .int .i64 0]], []⟩).memory Tryd.f9.params.toList Rows.cellEdgesSpec.vars false #[(.agg #[.int .i64 0, .int .i64 0, .int .i64 0] : Value)].toList 8 = some ([.agg [.lit (.int .i64 0), .lit (.int .i64 0), .lit (.int .i64 0)]], [], places) :=
  ⟨[], by kernel_rfl⟩
set_option maxRecDepth 100000 in
theorem cellEdges_lifted (os : Os) (started : os.Started) (H : Type) (enc : TypeId × Value → H) (F : Stop.Interp) :
    ReturnsInHanded {} Tryd.checked os 9 .any ((OpenSpec.ofChange Rows.cellEdgesSpec).preRow enc Tryd.prog Tryd.f9 Rows.cellEdgesRow.domain false Rows.cellEdgesRow.laid) (((OpenSpec.ofChange Rows.cellEdgesSpec).at F).post enc Tryd.prog Tryd.f9 false true false false) := by
  obtain ⟨places, hx⟩ := cellEdges_reads os enc
  refine returnsInHanded_of_row (C := Tryd.checked) (s := OpenSpec.ofChange Rows.cellEdgesSpec) own started (by kernel_rfl) Tryd.func9
    (witness_row_at (enc := enc) (C := Tryd.checked) false (laidWorld os) #[.agg #[.int .i64 0, .int .i64 0, .int .i64 0]] rfl (by kernel_rfl) (by kernel_rfl) (by kernel_rfl)
      (OpenSpec.preRow_of_cond 8 hx (by kernel_rfl) (fun k hk => by cases hk) (by kernel_rfl) (cellEdges_met os))) ?_
  intro W base args ds gs before hval hW _ _ _ hL _ _
  exact cellEdges_contract H enc W base args ds gs before hval hW hL
theorem cellEdges_said : Rows.CellEdgesSaid :=
  OpenClaim.holds_of_cond 9 Tryd.f9 rfl rfl rfl rfl rfl rfl rfl ⟨rfl, rfl, rfl, rfl, rfl⟩ rfl rfl rfl rfl rfl (by kernel_rfl) Tryd.func9 (by kernel_rfl)
    (of_decide_eq_true (by kernel_rfl)) (by unfold Func.isWrapper; first | (rw [if_pos (by decide +kernel)]; kernel_rfl) | (rw [if_neg (by decide +kernel)]; exact ⟨rfl, rfl⟩))
    (fun os started H enc _ F => by rw [OpenClaim.pre_eq_preRow]; exact cellEdges_lifted os started H enc F)
theorem cellEdges_plain (f : FuncId) (fn : Func) (hf : Tryd.pinned.checked.prog.funcNamed "honeycomb/honeycomblaw03.CellEdges" = some f) (hfn : Tryd.pinned.checked.prog.funcs[f]? = some fn) :
    true = Tryd.pinned.checked.prog.looks [] ∧ ∀ (j : Nat) t, fn.params[j]? = some t → Tryd.pinned.checked.prog.wantsStandIn t = false := by
  obtain rfl : f = 9 := Option.some.inj ((show Tryd.prog.funcNamed "honeycomb/honeycomblaw03.CellEdges" = some 9 by kernel_rfl).symm.trans hf) |>.symm
  obtain rfl : fn = Tryd.f9 := (Option.some.inj (Tryd.func9.symm.trans hfn)).symm
  refine ⟨by kernel_rfl, fun j t ht => ?_⟩
  have hall : (Tryd.f9.params.toList.all fun t => !Tryd.prog.wantsStandIn t) = true := by kernel_rfl
  have hm : t ∈ Tryd.f9.params.toList := by simpa using Array.mem_of_getElem? ht
  have := List.all_eq_true.1 hall t hm
  exact (show Tryd.prog.wantsStandIn t = false by simpa using this)
end cellEdgesFrame
/-- CellEdges: the card: for every input the law answers true. -/
theorem cellEdges_card : Rows.CellEdgesCardSaid :=
  Claim7.holds_tied_plain_at .later [] _ _ _ _ cellEdges_said (fun _ h => by cases h) (by kernel_rfl) (fun _ h => by cases h) cellEdges_row_tie rfl ⟨rfl, rfl⟩ (by kernel_rfl) rfl cellEdges_plain (by kernel_rfl)
end Go.Proofs.YthlchndhfnbjaaaDoor.Ce
namespace Go.Proofs.YthlchndhfnbjaaaDoor
theorem cellEdges_proved : Rows.CellEdgesCardSaid := Ce.cellEdges_card
#print axioms cellEdges_proved
end Go.Proofs.YthlchndhfnbjaaaDoor
