/- TableChecks: any table: may it be; what becomes of any cell; and a table that may be is one: as the document says. No conditions. -/
import Derived.Test.YtlblfnmmmkfodaaDoorTbC5
import Derived.Test.YtlblfnmmmkfodaaDoorTbW4
import Derived.Test.YtlblfnmmmkfodaaDoorTbW8
import Derived.Test.YtlblfnmmmkfodaaDoorBsE
namespace Go.Proofs.YtlblfnmmmkfodaaDoor.Tb
open Go.RowKit Go.Proofs.YtlblfnmmmkfodaaDoor.Ba

theorem keep55 {W w' : World} {G E : Nat} {t u : TypeId} {a b c d e p q r s x : Value} (kg : Blk W G t #[a, b, c, d, e]) (ke : Blk W E u #[p, q, r, s, x]) (hb : Below W.heap.size W w') :
    w'.cell? ⟨G, 0, none⟩ = some a ∧ w'.cell? ⟨G, 1, none⟩ = some b ∧ w'.cell? ⟨G, 2, none⟩ = some c ∧ w'.cell? ⟨G, 3, none⟩ = some d ∧ w'.cell? ⟨G, 4, none⟩ = some e ∧
    w'.cell? ⟨E, 0, none⟩ = some p ∧ w'.cell? ⟨E, 1, none⟩ = some q ∧ w'.cell? ⟨E, 2, none⟩ = some r ∧ w'.cell? ⟨E, 3, none⟩ = some s ∧ w'.cell? ⟨E, 4, none⟩ = some x :=
  ⟨(kg.under hb).cell 0, (kg.under hb).cell 1, (kg.under hb).cell 2, (kg.under hb).cell 3, (kg.under hb).cell 4, (ke.under hb).cell 0, (ke.under hb).cell 1, (ke.under hb).cell 2, (ke.under hb).cell 3, (ke.under hb).cell 4⟩
set_option maxRecDepth 100000 in
set_option maxHeartbeats 8000000 in
theorem tableChecks_walk (xL : Int) (_w0 : (Lit.int .i64 xL).wf = true) (xB0 : Int) (w1 : (Lit.int .u64 xB0).wf = true) (xB1 : Int) (w2 : (Lit.int .u64 xB1).wf = true) (xS0 : Int) (w3 : (Lit.int .u64 xS0).wf = true) (xS1 : Int) (w4 : (Lit.int .u64 xS1).wf = true)
    (half : Int) (_w5 : (Lit.int .i64 half).wf = true) (live : Bool) (n : Int) (_w6 : (Lit.int .i64 n).wf = true) (w : World) (hE : ErrIs w) :
    Calls Tryd.prog 3 #[.agg #[.int .i64 xL, .int .u64 xB0, .int .u64 xB1, .int .u64 xS0, .int .u64 xS1], .int .i64 half, .bool live, .int .i64 n] w fun e w' => e = .returned (.bool true) ∧ Below w.heap.size w w' := by
  have g1 := bounds_u64 w1
  have g2 := bounds_u64 w2
  have g3 := bounds_u64 w3
  have g4 := bounds_u64 w4
  obtain ⟨b0, rfl⟩ : ∃ k : Nat, xB0 = k := ⟨xB0.toNat, by omega⟩
  obtain ⟨b1, rfl⟩ : ∃ k : Nat, xB1 = k := ⟨xB1.toNat, by omega⟩
  obtain ⟨s0, rfl⟩ : ∃ k : Nat, xS0 = k := ⟨xS0.toNat, by omega⟩
  obtain ⟨s1, rfl⟩ : ∃ k : Nat, xS1 = k := ⟨xS1.toNat, by omega⟩
  have q0 : b0 < 2 ^ 64 := by omega
  have q1 : b1 < 2 ^ 64 := by omega
  have q2 : s0 < 2 ^ 64 := by omega
  have q3 : s1 < 2 ^ 64 := by omega
  clear g1 g2 g3 g4 w1 w2 w3 w4 _w0 _w5 _w6
  have Hso := Lib.hid (some_fine xL b0 b1 s0 s1 q0 q1 q2 q3)
  have Hck := chk_any xL b0 b1 s0 s1 q0 q1 q2 q3
  have Hrc := refchk_any xL b0 b1 s0 s1 q0 q1 q2 q3
  have Hnx := next_all xL b0 b1 s0 s1 q0 q1 q2 q3 half live n
  have Hrn := refnext_any b0 b1 s0 s1 q0 q1 q2 q3 half live n xL
  generalize chk xL b0 b1 s0 s1 = C at *
  generalize nextB b0 b1 s0 s1 half live n = B at *
  have Hck := Lib.hid Hck
  have Hrc := Lib.hid Hrc
  have Hnx := Lib.hid Hnx
  have Hrn := Lib.hid Hrn
  clear q0 q1 q2 q3
  have e1 : ((C : Int) == C) = true := by simp
  have e2 : (B == B) = true := by simp
  go_enter Tryd.func3, Tryd.ntmps3
  go_wp2_with fail
  refine (awake_any _).mono ?_
  rintro e w1 ⟨rfl, hb⟩
  have hb1 := below_call (B := w.heap.size) (w := w) hb (by go_grown) (by go_size)
  have kx : Blk w1 w.heap.size 25 #[.int .i64 xL, .int .u64 b0, .int .u64 b1, .int .u64 s0, .int .u64 s1] := (Blk.newAt w _ _ _ rfl).under hb
  have x0 := kx.cell 0
  have x1 := kx.cell 1
  have x2 := kx.cell 2
  have x3 := kx.cell 3
  have x4 := kx.cell 4
  simp only [List.getElem?_toArray, List.getElem?_cons_zero, List.getElem?_cons_succ] at x0 x1 x2 x3 x4
  have hxl := kx.lt
  clear hb
  go_wp2_with fail
  refine (own_any _ _ _ _ _ _).mono ?_
  rintro e w2 ⟨rfl, hb⟩
  have hb2 := below_call hb hb1 hb1.size
  have hz2 := hb2.size
  have kx2 := kx.under hb
  clear hb hb1 x0 x1 x2 x3 x4 hxl kx
  go_wp2_with fail
  have kt : Blk (w2.alloc (.cells #[.int .i64 xL, .int .u64 b0, .int .u64 b1, .int .u64 s0, .int .u64 s1] 29)) w2.heap.size 29 #[.int .i64 xL, .int .u64 b0, .int .u64 b1, .int .u64 s0, .int .u64 s1] := Blk.newAt _ _ _ _ rfl
  have kx := kx2.alloc (.cells #[.int .i64 xL, .int .u64 b0, .int .u64 b1, .int .u64 s0, .int .u64 s1] 29)
  have hbr : Below w.heap.size w (w2.alloc (.cells #[.int .i64 xL, .int .u64 b0, .int .u64 b1, .int .u64 s0, .int .u64 s1] 29)) := hb2.alloc hz2 _
  generalize w2.alloc (.cells #[.int .i64 xL, .int .u64 b0, .int .u64 b1, .int .u64 s0, .int .u64 s1] 29) = wr at *
  have hEr := hE.below hbr
  clear kx2 hb2 hz2 hE
  generalize w2.heap.size = TB at *
  have hkb : Below wr.heap.size wr wr := Below.refl _ _
  (go_region_held3 (fun w' => w'.cell? ⟨TB, 0, none⟩ = some (.int .i64 xL) ∧ w'.cell? ⟨TB, 1, none⟩ = some (.int .u64 b0) ∧ w'.cell? ⟨TB, 2, none⟩ = some (.int .u64 b1) ∧ w'.cell? ⟨TB, 3, none⟩ = some (.int .u64 s0) ∧ w'.cell? ⟨TB, 4, none⟩ = some (.int .u64 s1) ∧ w'.cell? ⟨w.heap.size, 0, none⟩ = some (.int .i64 xL) ∧ w'.cell? ⟨w.heap.size, 1, none⟩ = some (.int .u64 b0) ∧ w'.cell? ⟨w.heap.size, 2, none⟩ = some (.int .u64 b1) ∧ w'.cell? ⟨w.heap.size, 3, none⟩ = some (.int .u64 s0) ∧ w'.cell? ⟨w.heap.size, 4, none⟩ = some (.int .u64 s1)) (first | (refine keep55 kt kx ?_; go_grown; done)) (first | (go_at_call 7; (with_reducible refine (Hck.out _).mono ?_); rintro e w7 ⟨rfl, hb⟩; have hkb : Below wr.heap.size wr w7 := below_call hb (by go_grown) (by have := hkb.size; first | omega | (simp; done) | (simp; omega)); clear hb) | (go_at_call 7; (with_reducible refine (check_nil _ _ _ _ _ (by assumption) (by assumption) (by assumption) (by assumption) (by assumption) (by assumption) _).mono ?_); rintro e w7 ⟨rfl, hb⟩; have hkb : Below wr.heap.size wr w7 := below_call hb (by go_grown) (by have := hkb.size; first | omega | (simp; done) | (simp; omega)); clear hb) | (go_at_call 6; (with_reducible refine (codeOf_any _ _ (hEr.below (by go_grown))).mono ?_); rintro e w7 ⟨rfl, hb⟩; have hkb : Below wr.heap.size wr w7 := below_call hb (by go_grown) (by have := hkb.size; first | omega | (simp; done) | (simp; omega)); clear hb) | (go_at_call 9; (with_reducible refine (told_any _ _ _ _ _ _).mono ?_); rintro e w7 ⟨rfl, hT, hb⟩; have hkb : Below wr.heap.size wr w7 := below_call hb (by go_grown) (by have := hkb.size; first | omega | (simp; done) | (simp; omega)); clear hb) | (go_at_call 8; (with_reducible refine (Hrc.out _ _ (by assumption)).mono ?_); rintro e w7 ⟨rfl, hb⟩; have hkb : Below wr.heap.size wr w7 := below_call hb (by go_grown) (by have := hkb.size; first | omega | (simp; done) | (simp; omega)); clear hb) | (go_at_call 10; (with_reducible refine (Hnx.out _).mono ?_); rintro e w7 ⟨rfl, hb⟩; have hkb : Below wr.heap.size wr w7 := below_call hb (by go_grown) (by have := hkb.size; first | omega | (simp; done) | (simp; omega)); clear hb) | (go_at_call 11; (with_reducible refine (Hrn.out _ _ (by assumption)).mono ?_); rintro e w7 ⟨rfl, hb⟩; have hkb : Below wr.heap.size wr w7 := below_call hb (by go_grown) (by have := hkb.size; first | omega | (simp; done) | (simp; omega)); clear hb) | (go_at_call 12; (with_reducible refine (Hso.out _).mono ?_); rintro e w7 ⟨l', c0, c1, d0, d1, hl', z0, z1, z2, z3, hf, rfl, hb⟩; have hkb : Below wr.heap.size wr w7 := below_call hb (by go_grown) (by have := hkb.size; first | omega | (simp; done) | (simp; omega)); clear hb)))
  all_goals
    go_wp2
    go_ret
    exact ⟨rfl, hbr.trans (hkb.mono hbr.size)⟩
section tableChecksFrame
open Go.ChangeShapes Go.WideShapes Go.ChangeAt Go.RowKit Go.Joins
set_option maxRecDepth 100000 in
theorem tableChecks_contract (H : Type) (enc : TypeId × Value → H) (W : World) (base : Nat) (args : Array Value) (ds gs : List (DataW H)) (before : List MemPlace)
    (hval : ∀ (j : Nat) t v, Tryd.f3.params[j]? = some t → args[j]? = some v → Value.okWide Tryd.prog W .any base t v)
    (hW : DataW.Whole enc Tryd.prog Tryd.f3.params.toList Rows.tableChecksSpec.vars false W args.toList ds gs before) (hL : laidMetH Tryd.prog Rows.tableChecksRow.laid W) :
    Calls Tryd.prog 3 args W fun e W' => ∃ v, e = .returned v ∧ Rows.tableChecksSpec.post enc Tryd.prog Tryd.f3 false true false false W args v W' := by
  have hW' := hW
  obtain ⟨p, q, hA0, hV, rfl, hfz, hnd⟩ := hW
  have hA : DataW.TrodAll enc Tryd.prog W 0 (fun _ => true) true Tryd.f3.params.toList args.toList ds p := hA0
  rw [Tryd.params3] at hA hval
  obtain ⟨v0, vs0, d0, ds0, p0, q0, hargs, rfl, rfl, h0, r0⟩ := trodAll_cons hA
  obtain ⟨v1, vs1, d1, ds1, p1, q1, rfl, rfl, rfl, h1, r1⟩ := trodAll_cons r0
  obtain ⟨v2, vs2, d2, ds2, p2, q2, rfl, rfl, rfl, h2, r2⟩ := trodAll_cons r1
  obtain ⟨v3, vs3, d3, ds3, p3, q3, rfl, rfl, rfl, h3, r3⟩ := trodAll_cons r2
  obtain ⟨rfl, rfl, rfl⟩ := trodAll_nil r3
  obtain rfl : args = #[v0, v1, v2, v3] := by cases args; simp_all
  obtain ⟨rfl, rfl⟩ := trodVars_none hV
  obtain ⟨xL, xB0, xB1, xS0, xS1, rfl, rfl, rfl, w_xL, w_xB0, w_xB1, w_xS0, w_xS1⟩ := open_raw (hval 0 25 v0 rfl rfl) h0
  obtain ⟨half, rfl, rfl, rfl, w_half⟩ := open_int Tryd.underlying3 (hval 1 3 v1 rfl rfl) h1
  obtain ⟨live, rfl, rfl, rfl⟩ := open_bool Tryd.underlying4 (hval 2 4 v2 rfl rfl) h2
  obtain ⟨n, rfl, rfl, rfl, w_n⟩ := open_int Tryd.underlying3 (hval 3 3 v3 rfl rfl) h3
  refine (tableChecks_walk xL w_xL xB0 w_xB0 xB1 w_xB1 xS0 w_xS0 xS1 w_xS1 half w_half live n w_n W (one_of_laid hL)).mono fun e W' ⟨he, hb⟩ => ?_
  exact ⟨_, he, law_post laidOut rfl rfl Tryd.underlying4 (by kernel_rfl) hW' hb ⟨rfl, rfl, rfl⟩⟩
theorem tableChecks_met (os : Os) : laidMetH Tryd.prog Rows.tableChecksRow.laid ((laidWorldE os).forCall (fun _ _ => 0) ⟨#[], #[.agg #[.int .i64 0, .int .u64 0, .int .u64 0, .int .u64 0, .int .u64 0], .int .i64 0, .bool false, .int .i64 0], []⟩).memory :=
  laidMetH_of_parts (laidMet_of_run' 8 (by kernel_rfl) (by kernel_rfl)) (by kernel_rfl)
theorem tableChecks_reads (os : Os) {H : Type} (enc : TypeId × Value → H) : ∃ places, DataW.whole enc Tryd.prog ((laidWorldE os).forCall (fun _ _ => 0) ⟨#[], #[.agg #[.int .i64 0, .int .u64 0, .int .u64 0, .int .u64 0, .int .u64 0], .int .i64 0, .bool false, .int .i64 0], []⟩).memory Tryd.f3.params.toList Rows.tableChecksSpec.vars false #[(.agg #[.int .i64 0, .int .u64 0, .int .u64 0, .int .u64 0, .int .u64 0] : Value), (.int .i64 0 : Value), (.bool false : Value), (.int .i64 0 : Value)].toList 8 = some ([.agg [.lit (.int .i64 0), .agg [.lit (.int .u64 0), .lit (.int .u64 0)], .agg [.lit (.int .u64 0), .lit (.int .u64 0)]], .lit (.int .i64 0), .lit (.bool false), .lit (.int .i64 0)], [], places) :=
  ⟨[], by kernel_rfl⟩
set_option maxRecDepth 100000 in
theorem tableChecks_lifted (os : Os) (started : os.Started) (H : Type) (enc : TypeId × Value → H) (F : Stop.Interp) :
    ReturnsInHanded {} Tryd.checked os 3 .any ((OpenSpec.ofChange Rows.tableChecksSpec).preRow enc Tryd.prog Tryd.f3 Rows.tableChecksRow.domain false Rows.tableChecksRow.laid) (((OpenSpec.ofChange Rows.tableChecksSpec).at F).post enc Tryd.prog Tryd.f3 false true false false) := by
  obtain ⟨places, hx⟩ := tableChecks_reads os enc
  refine returnsInHanded_of_row (C := Tryd.checked) (s := OpenSpec.ofChange Rows.tableChecksSpec) own started (by kernel_rfl) Tryd.func3
    (witness_row_at (enc := enc) (C := Tryd.checked) false (laidWorldE os) #[.agg #[.int .i64 0, .int .u64 0, .int .u64 0, .int .u64 0, .int .u64 0], .int .i64 0, .bool false, .int .i64 0] rfl (by kernel_rfl) (by kernel_rfl) (by kernel_rfl)
      (OpenSpec.preRow_of_cond 8 hx (by kernel_rfl) (fun k hk => by cases hk) (by kernel_rfl) (tableChecks_met os))) ?_
  intro W base args ds gs before hval hW _ _ _ hL _ _
  exact tableChecks_contract H enc W base args ds gs before hval hW hL
theorem tableChecks_said : Rows.TableChecksSaid :=
  OpenClaim.holds_of_cond 3 Tryd.f3 rfl rfl rfl rfl rfl rfl rfl ⟨rfl, rfl, rfl, rfl, rfl⟩ rfl rfl rfl rfl rfl (by kernel_rfl) Tryd.func3 (by kernel_rfl)
    (of_decide_eq_true (by kernel_rfl)) (by unfold Func.isWrapper; first | (rw [if_pos (by decide +kernel)]; kernel_rfl) | (rw [if_neg (by decide +kernel)]; exact ⟨rfl, rfl⟩))
    (fun os started H enc _ F => by rw [OpenClaim.pre_eq_preRow]; exact tableChecks_lifted os started H enc F)
theorem tableChecks_plain (f : FuncId) (fn : Func) (hf : Tryd.pinned.checked.prog.funcNamed "honeycomb/honeycomblaw05.TableChecks" = some f) (hfn : Tryd.pinned.checked.prog.funcs[f]? = some fn) :
    true = Tryd.pinned.checked.prog.looks [] ∧ ∀ (j : Nat) t, fn.params[j]? = some t → Tryd.pinned.checked.prog.wantsStandIn t = false := by
  obtain rfl : f = 3 := Option.some.inj ((show Tryd.prog.funcNamed "honeycomb/honeycomblaw05.TableChecks" = some 3 by kernel_rfl).symm.trans hf) |>.symm
  obtain rfl : fn = Tryd.f3 := (Option.some.inj (Tryd.func3.symm.trans hfn)).symm
  refine ⟨by kernel_rfl, fun j t ht => ?_⟩
  have hall : (Tryd.f3.params.toList.all fun t => !Tryd.prog.wantsStandIn t) = true := by kernel_rfl
  have hm : t ∈ Tryd.f3.params.toList := by simpa using Array.mem_of_getElem? ht
  have := List.all_eq_true.1 hall t hm
  exact (show Tryd.prog.wantsStandIn t = false by simpa using this)
end tableChecksFrame
/-- TableChecks: the card: for every input the law answers true. -/
theorem tableChecks_card : Rows.TableChecksCardSaid :=
  Claim7.holds_tied_plain_at .later [] _ _ _ _ tableChecks_said (fun _ h => by cases h) (by kernel_rfl) (fun _ h => by cases h) tableChecks_row_tie rfl ⟨rfl, rfl⟩ (by kernel_rfl) rfl tableChecks_plain (by kernel_rfl)
end Go.Proofs.YtlblfnmmmkfodaaDoor.Tb
namespace Go.Proofs.YtlblfnmmmkfodaaDoor
theorem tableChecks_proved : Rows.TableChecksCardSaid := Tb.tableChecks_card
#print axioms tableChecks_proved
end Go.Proofs.YtlblfnmmmkfodaaDoor
