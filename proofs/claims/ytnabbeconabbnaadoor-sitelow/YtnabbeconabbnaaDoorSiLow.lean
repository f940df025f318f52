/- SiteLow: of any point but those nearest to the ends the least point of its leaf; a cell there, put into any leaf, and taken out. No conditions. -/
import Derived.Test.YtnabbeconabbnaaDoorSiW3
import Derived.Test.YtnabbeconabbnaaDoorSiW6
import Derived.Test.YtnabbeconabbnaaDoorBsT
import Derived.Deep.DeepHandedRow
import Derived.Lib.SmallJoins
namespace Go.Proofs.YtnabbeconabbnaaDoor.Si
open Go.RowKit Go.Proofs.YtnabbeconabbnaaDoor.Ba Go.Proofs.YtnabbeconabbnaaDoor.Se Go.Proofs.YtnabbeconabbnaaDoor.Ax Go.Lib

def L1R (wx : World) (L : List C) (c : C) (t i : Value) (wr : World) : Prop := ∃ k : Nat, k ≤ L.length ∧ i = .int .i64 k ∧ t = .bool (decide (c ∈ L.take k)) ∧ Below wx.heap.size wx wr
def L2R (wx : World) (L : List C) (t i : Value) (wr : World) : Prop := ∃ k : Nat, k ≤ L.length ∧ i = .int .i64 k ∧ t = .bool true ∧ Below wx.heap.size wx wr
set_option maxRecDepth 100000 in
set_option maxHeartbeats 1000000 in
theorem siteLow_walk (a0 : Int) (_w0 : (Lit.int .i64 a0).wf = true) (b0 : Int) (_w1 : (Lit.int .i64 b0).wf = true) (half : Int) (_w2 : (Lit.int .i64 half).wf = true) (f0 : Int) (w3 : (Lit.int .u32 f0).wf = true) (w : World) (hD : DebIs w) :
    Calls Tryd.prog 4 #[.int .i64 a0, .int .i64 b0, .int .i64 half, .int .u32 f0] w fun e w' => e = .returned (.bool true) ∧ Below w.heap.size w w' := by
  obtain ⟨f, rfl, hf⟩ : ∃ f : Nat, f0 = (f : Int) ∧ f < 4294967296 := by
    have := u32_wf w3
    exact ⟨f0.toNat, by omega, by omega⟩
  have hba := tmod_bd a0 4611686018427387904 (by decide)
  have hbb := tmod_bd b0 4611686018427387904 (by decide)
  generalize ha : a0.tmod 4611686018427387904 = a at hba
  generalize hbm : b0.tmod 4611686018427387904 = b at hbb
  have h1 : bits .and .i64 half 1 = half % 2 := by
    have h127 : (BitVec.ofInt 64 1).toNat = 2 ^ 1 - 1 := by decide
    have key : (BitVec.ofInt 64 half &&& BitVec.ofInt 64 1).toNat = (half % ((2 ^ 64 : Nat) : Int)).toNat % 2 ^ 1 := by
      rw [BitVec.toNat_and, BitVec.toNat_ofInt, h127, Nat.and_two_pow_sub_one_eq_mod]
    show IntKind.i64.wrap ((BitVec.ofInt 64 half &&& BitVec.ofInt 64 1).toNat : Nat) = half % 2
    rw [key, IntKind.wrap_i64]
    omega
  obtain ⟨h, hh⟩ : ∃ h : Int, half % 2 = h := ⟨_, rfl⟩
  rw [hh] at h1
  have hh01 : h = 0 ∨ h = 1 := by omega
  clear hh w3 _w0 _w1 _w2
  have HC := Lib.hid (show ((a, b, h) : C) = (a, b, h) from rfl)
  have hl := fun W => low_any a b (by omega) (by omega) W
  have hw1 := fun W => with_any f (a, b, h) true hf (by dsimp only; omega) (by dsimp only; omega) hh01 W
  have hw2 := fun W => with_any f (a, b, h) false hf (by dsimp only; omega) (by dsimp only; omega) hh01 W
  simp only [if_true, Bool.false_eq_true, if_false] at hw1 hw2
  go_enter Tryd.func4, Tryd.ntmps4
  go_wp2_with fail
  refine (awake_any _).mono ?_
  rintro e w1 ⟨rfl, hb1⟩
  go_wp2_with fail
  refine (hl _).mono ?_
  rintro e w2 ⟨rfl, hb⟩
  have hb2 := below_call (B := w.heap.size) (w := w) hb (hb1.alloc hb1.size _) (by simp; have := hb1.size; omega)
  clear hb hb1
  go_wp2_with fail
  refine (own3_any (a, b, h) _).mono ?_
  rintro e w3 ⟨rfl, hb⟩
  have kl : Blk w3 w2.heap.size 24 #[.int .i64 (a - a % 4), .int .i64 (b - b % 4)] := (Blk.newAt w2 _ _ _ rfl).under hb
  have hb3 := below_call (B := w.heap.size) (w := w) hb (hb2.alloc hb2.size _) (by simp; have := hb2.size; omega)
  clear hb hb2 hl
  have kc := Blk.newAt w3 42 #[.int .i64 a, .int .i64 b, .int .i64 h] _ rfl
  have kl := kl.alloc (.cells #[.int .i64 a, .int .i64 b, .int .i64 h] 42)
  have hb4 := hb3.alloc hb3.size (.cells #[.int .i64 a, .int .i64 b, .int .i64 h] 42)
  clear hb3
  go_upto_region 8 with fail
  generalize w3.alloc (.cells #[.int .i64 a, .int .i64 b, .int .i64 h] 42) = w4 at *
  generalize w3.heap.size = X at *
  generalize w2.heap.size = Z at *
  have HIN := Lib.hid (there_in f a b h hh01)
  have HOUT := Lib.hid (there_out f a b h hh01)
  have hbt := bitAt_lt (a, b, h) hh01
  have HPC := Lib.hid (pcn_on f (bitAt (a, b, h)) hbt 32 (Nat.le_refl _))
  rw [if_pos hbt] at HPC
  have HOO := Lib.hid (on_off f (bitAt (a, b, h)) hf hbt)
  have hF1 := on_lt f (bitAt (a, b, h)) hf hbt
  have hF2 := off_lt f (bitAt (a, b, h)) hf
  generalize f ||| 2 ^ bitAt (a, b, h) = F1 at *
  generalize f &&& (4294967295 - 2 ^ bitAt (a, b, h)) = F2 at *
  obtain ⟨c0, c1, c2⟩ := keep3 kc (Below.refl _ _)
  have hcl := kc.lt
  go_cut [13, 14] (fun v u wx => v = .int .u32 F1 ∧ u = .int .u32 F2 ∧ Below w4.heap.size w4 wx)
  case first =>
    have hkb : Below w4.heap.size w4 w4 := Below.refl _ _
    go_region_held3 (fun w' => w'.cell? ⟨X, 0, none⟩ = some (.int .i64 a) ∧ w'.cell? ⟨X, 1, none⟩ = some (.int .i64 b) ∧ w'.cell? ⟨X, 2, none⟩ = some (.int .i64 h)) (first | (refine keep3 kc ?_; go_grown; done))
      (first
        | (go_at_call 18; with_reducible refine (hw1 _).mono ?_; rintro e w6 ⟨rfl, hb⟩; have hkb : Below w4.heap.size w4 w6 := below_call hb (by go_grown) (by first | exact Nat.le_refl _ | exact hkb.size | go_size); clear hb)
        | (go_at_call 18; with_reducible refine (hw2 _).mono ?_; rintro e w6 ⟨rfl, hb⟩; have hkb : Below w4.heap.size w4 w6 := below_call hb (by go_grown) (by first | exact Nat.le_refl _ | exact hkb.size | go_size); clear hb))
    all_goals go_wp2_with fail
    all_goals go_meet
    all_goals exact ⟨rfl, rfl, by go_grown⟩
  case rest =>
    obtain ⟨rfl, rfl, hb5⟩ := hcut
    have kl := kl.under hb5
    have kc := kc.under hb5
    have hbw := hb4.trans (hb5.mono hb4.size)
    clear hw1 hw2 hb4 hb5 c0 c1 c2 hcl
    generalize wc = w5 at *
    obtain ⟨l0, l1⟩ := keep2 kl (Below.refl _ _)
    have hll := kl.lt
    have hD5 := hD.below hbw
    go_wp2_with fail
    refine (cells_any F1 _ _ hF1 (by omega) (by omega) _ hD5).mono ?_
    rintro e w6 ⟨v, rfl, hset, hb6⟩
    have kl6 := kl.under hb6
    have kc6 := kc.under hb6
    have hbw6 := hbw.trans (hb6.mono hbw.size)
    have hD6 := hD5.below hb6
    clear hb6 kl kc hbw hD5 l0 l1 hll
    have eqc := fun x W => eql_c x (a, b, h) W
    have nec := fun x W => neq_c x (a, b, h) W
    dsimp only at eqc nec
    have HS := Lib.hid hset
    obtain ⟨p, cap, hv⟩ := set_slice hset
    clear hset
    have hll := pos_le F1
    rw [← List.length_map (f := cAt (a - a % 4) (b - b % 4))] at hll
    generalize (pos F1 32).map (cAt (a - a % 4) (b - b % 4)) = L1 at *
    subst hv
    go_wp2_with fail
    go_loopw [15, 48] (fun t i wr => L1R w6 L1 (a, b, h) t i wr) (fun _ i _ => L1.length - (intOf i).toNat)
    case atStart => exact ⟨0, Nat.zero_le _, rfl, by simp, Below.refl _ _⟩
    case round =>
      obtain ⟨k, hk, rfl, rfl, hb⟩ := hrel
      have hz := hb.size
      by_cases hlt : k < L1.length
      · obtain ⟨x, hx⟩ : ∃ x, L1[k]? = some x := ⟨_, List.getElem?_eq_getElem hlt⟩
        rcases HS.out.below hb with ⟨_, hnil⟩ | ⟨g, cap', hv, _, hr⟩
        · subst hnil; simp at hlt
        · injection hv with hv1 hv2 hv3
          subst hv1 hv3
          clear hv2
          obtain ⟨c0, c1, c2⟩ := hr.1 k x hx
          have hgl := hr.2
          have HT := Lib.hid (mem_take_next (c := (a, b, h)) hx)
          obtain ⟨d0, d1, d2⟩ := keep3 kc6 hb
          have hcl := (kc6.under hb).lt
          have eqx := eqc x
          clear hx hr eqc nec
          cases ht : decide (((a, b, h) : C) ∈ L1.take k)
          · rw [ht, Bool.false_or] at HT
            clear ht
            go_wp2_with fail
            exact ⟨⟨k + 1, by omega, by go_num, by rw [HT.out], hb.alloc hz _⟩, by simp [intOf]; omega⟩
          · rw [ht, Bool.true_or] at HT
            clear ht
            go_wp2_with fail
            exact ⟨⟨k + 1, by omega, by go_num, by rw [HT.out], hb.alloc hz _⟩, by simp [intOf]; omega⟩
      · obtain rfl : k = L1.length := by omega
        rw [List.take_length, show decide (((a, b, h) : C) ∈ L1) = true from decide_eq_true HIN.out]
        have kl := kl6.under hb
        have kc := kc6.under hb
        have hbw := hbw6.trans (hb.mono hbw6.size)
        have hD7 := hD6.below hb
        clear kl6 kc6 hbw6 hD6 HS HIN eqc hb hz hlt hk hll
        generalize wr = w7 at *
        obtain ⟨l0, l1⟩ := keep2 kl (Below.refl _ _)
        have hll := kl.lt
        go_wp2_with fail
        refine (cells_any F2 _ _ hF2 (by omega) (by omega) _ hD7).mono ?_
        rintro e w8 ⟨v, rfl, hset, hb8⟩
        have kl6 := kl.under hb8
        have kc6 := kc.under hb8
        have hbw6 := hbw.trans (hb8.mono hbw.size)
        clear hb8 kl kc hbw hD7 l0 l1 hll
        have HS := Lib.hid hset
        obtain ⟨p, cap, hv⟩ := set_slice hset
        clear hset
        have hll := pos_le F2
        rw [← List.length_map (f := cAt (a - a % 4) (b - b % 4))] at hll
        generalize (pos F2 32).map (cAt (a - a % 4) (b - b % 4)) = L2 at *
        subst hv
        go_wp2_with fail
        go_loopw [15, 63] (fun t i wr => L2R w8 L2 t i wr) (fun _ i _ => L2.length - (intOf i).toNat)
        case atStart => exact ⟨0, Nat.zero_le _, rfl, rfl, Below.refl _ _⟩
        case round =>
          obtain ⟨k, hk, rfl, rfl, hb⟩ := hrel
          have hz := hb.size
          by_cases hlt : k < L2.length
          · obtain ⟨x, hx⟩ : ∃ x, L2[k]? = some x := ⟨_, List.getElem?_eq_getElem hlt⟩
            rcases HS.out.below hb with ⟨_, hnil⟩ | ⟨g, cap', hv, _, hr⟩
            · subst hnil; simp at hlt
            · injection hv with hv1 hv2 hv3
              subst hv1 hv3
              clear hv2
              obtain ⟨c0, c1, c2⟩ := hr.1 k x hx
              have hgl := hr.2
              obtain ⟨d0, d1, d2⟩ := keep3 kc6 hb
              have hcl := (kc6.under hb).lt
              have hxc : x ≠ (a, b, h) := fun e => HOUT.out (e ▸ List.mem_of_getElem? hx)
              have nex := nec x
              rw [show decide (x = ((a, b, h) : C)) = false from decide_eq_false hxc] at nex
              clear hx hr nec hxc
              go_wp2_with fail
              exact ⟨⟨k + 1, by omega, by go_num, rfl, hb.alloc hz _⟩, by simp [intOf]; omega⟩
          · obtain rfl : k = L2.length := by omega
            have kl := kl6.under hb
            have hbw := hbw6.trans (hb.mono hbw6.size)
            clear kl6 kc6 hbw6 HS HOUT nec hb hz hlt hk hll
            generalize wr = w9 at *
            obtain ⟨l0, l1⟩ := keep2 kl (Below.refl _ _)
            have hll := kl.lt
            have hr1 := fun W => reflow_any a (by omega) W
            have hr2 := fun W => reflow_any b (by omega) W
            have hp1 := fun W => count_any F1 hF1 W
            have hp2 := fun W => count_any F2 hF2 W
            have hpc := HPC.out
            have hle : pcn F2 32 ≤ 32 := by have := pos_le F2; rw [pos_len] at this; exact this
            generalize pcn F2 32 = P2 at *
            rw [hpc] at hp1
            clear hpc HPC
            by_cases e1 : F1 = f
            · subst e1
              go_wp2_with fail
              go_quiet (first | with_reducible exact q_first hr1 | with_reducible exact q_first hr2 | with_reducible exact Calls.quiet_of (hp1 _) | with_reducible exact Calls.quiet_of (hp2 _))
              go_wp2
              go_ret
              exact ⟨rfl, below_dr _ hbw⟩
            · have e2 : F2 = f := (HOO.out).resolve_left e1
              subst e2
              have ne1 : ((F1 : Int) == (F2 : Int)) = false := by simp; omega
              go_wp2_with fail
              go_quiet (first | with_reducible exact q_first hr1 | with_reducible exact q_first hr2 | with_reducible exact Calls.quiet_of (hp1 _) | with_reducible exact Calls.quiet_of (hp2 _))
              go_wp2
              go_ret
              exact ⟨rfl, below_dr _ hbw⟩
section siteLowFrame
open Go.ChangeShapes Go.WideShapes Go.ChangeAt Go.RowKit Go.Joins
set_option maxRecDepth 100000 in
theorem siteLow_contract (H : Type) (enc : TypeId × Value → H) (W : World) (base : Nat) (args : Array Value) (ds gs : List (DataW H)) (before : List MemPlace)
    (hval : ∀ (j : Nat) t v, Tryd.f4.params[j]? = some t → args[j]? = some v → Value.okWide Tryd.prog W .any base t v)
    (hW : DataW.Whole enc Tryd.prog Tryd.f4.params.toList Rows.siteLowSpec.vars false W args.toList ds gs before) (hL : laidMetH Tryd.prog Rows.siteLowRow.laid W) :
    Calls Tryd.prog 4 args W fun e W' => ∃ v, e = .returned v ∧ Rows.siteLowSpec.post enc Tryd.prog Tryd.f4 false true false false W args v W' := by
  have hW' := hW
  obtain ⟨p, q, hA0, hV, rfl, hfz, hnd⟩ := hW
  have hA : DataW.TrodAll enc Tryd.prog W 0 (fun _ => true) true Tryd.f4.params.toList args.toList ds p := hA0
  rw [Tryd.params4] at hA hval
  obtain ⟨v0, vs0, d0, ds0, p0, q0, hargs, rfl, rfl, h0, r0⟩ := trodAll_cons hA
  obtain ⟨v1, vs1, d1, ds1, p1, q1, rfl, rfl, rfl, h1, r1⟩ := trodAll_cons r0
  obtain ⟨v2, vs2, d2, ds2, p2, q2, rfl, rfl, rfl, h2, r2⟩ := trodAll_cons r1
  obtain ⟨v3, vs3, d3, ds3, p3, q3, rfl, rfl, rfl, h3, r3⟩ := trodAll_cons r2
  obtain ⟨rfl, rfl, rfl⟩ := trodAll_nil r3
  obtain rfl : args = #[v0, v1, v2, v3] := by cases args; simp_all
  obtain ⟨rfl, rfl⟩ := trodVars_none hV
  obtain ⟨a0, rfl, rfl, rfl, w_a0⟩ := open_int Tryd.underlying2 (hval 0 2 v0 rfl rfl) h0
  obtain ⟨b0, rfl, rfl, rfl, w_b0⟩ := open_int Tryd.underlying2 (hval 1 2 v1 rfl rfl) h1
  obtain ⟨half, rfl, rfl, rfl, w_half⟩ := open_int Tryd.underlying3 (hval 2 3 v2 rfl rfl) h2
  obtain ⟨f0, rfl, rfl, rfl, w_f0⟩ := open_int Tryd.underlying22 (hval 3 22 v3 rfl rfl) h3
  refine (siteLow_walk a0 w_a0 b0 w_b0 half w_half f0 w_f0 W (deb_of_laid hL)).mono fun e W' ⟨he, hb⟩ => ?_
  exact ⟨_, he, law_post laidOut rfl rfl Tryd.underlying4 (by kernel_rfl) hW' hb ⟨rfl, rfl, rfl⟩⟩
theorem siteLow_met (os : Os) : laidMet Tryd.prog Rows.siteLowRow.laid ((laidWorldT os).forCall (fun _ _ => 0) ⟨#[], #[.int .i64 0, .int .i64 0, .int .i64 0, .int .u32 0], []⟩).memory :=
  laidMet_of_run' 8 (by kernel_rfl) (by kernel_rfl)
theorem siteLow_reads (os : Os) {H : Type} (enc : TypeId × Value → H) : ∃ places, DataW.whole enc Tryd.prog ((laidWorldT os).forCall (fun _ _ => 0) ⟨#[], #[.int .i64 0, .int .i64 0, .int .i64 0, .int .u32 0], []⟩).memory Tryd.f4.params.toList Rows.siteLowSpec.vars false #[(.int .i64 0 : Value), (.int .i64 0 : Value), (.int .i64 0 : Value), (.int .u32 0 : Value)].toList 8 = some ([.lit (.int .i64 0), .lit (.int .i64 0), .lit (.int .i64 0), .lit (.int .u32 0)], [], places) :=
  ⟨[], by kernel_rfl⟩
set_option maxRecDepth 100000 in
theorem siteLow_lifted (os : Os) (started : os.Started) (H : Type) (enc : TypeId × Value → H) (F : Stop.Interp) :
    ReturnsInHanded {} Tryd.checked os 4 .any ((OpenSpec.ofChange Rows.siteLowSpec).preRow enc Tryd.prog Tryd.f4 Rows.siteLowRow.domain false Rows.siteLowRow.laid) (((OpenSpec.ofChange Rows.siteLowSpec).at F).post enc Tryd.prog Tryd.f4 false true false false) := by
  obtain ⟨places, hx⟩ := siteLow_reads os enc
  refine returnsInHanded_of_row (C := Tryd.checked) (s := OpenSpec.ofChange Rows.siteLowSpec) own started (by kernel_rfl) Tryd.func4
    (witness_row_at (enc := enc) (C := Tryd.checked) false (laidWorldT os) #[.int .i64 0, .int .i64 0, .int .i64 0, .int .u32 0] rfl (by kernel_rfl) (by kernel_rfl) (by kernel_rfl)
      (OpenSpec.preRow_of_cond 8 hx (by kernel_rfl) (fun k hk => by cases hk) (by kernel_rfl) (siteLow_met os))) ?_
  intro W base args ds gs before hval hW _ _ _ hL _ _
  exact siteLow_contract H enc W base args ds gs before hval hW hL
theorem siteLow_said : Rows.SiteLowSaid :=
  OpenClaim.holds_of_cond 4 Tryd.f4 rfl rfl rfl rfl rfl rfl rfl ⟨rfl, rfl, rfl, rfl, rfl⟩ rfl rfl rfl rfl rfl (by kernel_rfl) Tryd.func4 (by kernel_rfl)
    (of_decide_eq_true (by kernel_rfl)) (by unfold Func.isWrapper; first | (rw [if_pos (by decide +kernel)]; kernel_rfl) | (rw [if_neg (by decide +kernel)]; exact ⟨rfl, rfl⟩))
    (fun os started H enc _ F => by rw [OpenClaim.pre_eq_preRow]; exact siteLow_lifted os started H enc F)
theorem siteLow_plain (f : FuncId) (fn : Func) (hf : Tryd.pinned.checked.prog.funcNamed "honeycomb/honeycomblaw09.SiteLow" = some f) (hfn : Tryd.pinned.checked.prog.funcs[f]? = some fn) :
    false = Tryd.pinned.checked.prog.looks [] ∧ ∀ (j : Nat) t, fn.params[j]? = some t → Tryd.pinned.checked.prog.wantsStandIn t = false := by
  obtain rfl : f = 4 := Option.some.inj ((show Tryd.prog.funcNamed "honeycomb/honeycomblaw09.SiteLow" = some 4 by kernel_rfl).symm.trans hf) |>.symm
  obtain rfl : fn = Tryd.f4 := (Option.some.inj (Tryd.func4.symm.trans hfn)).symm
  refine ⟨by kernel_rfl, fun j t ht => ?_⟩
  have hall : (Tryd.f4.params.toList.all fun t => !Tryd.prog.wantsStandIn t) = true := by kernel_rfl
  have hm : t ∈ Tryd.f4.params.toList := by simpa using Array.mem_of_getElem? ht
  have := List.all_eq_true.1 hall t hm
  exact (show Tryd.prog.wantsStandIn t = false by simpa using this)
end siteLowFrame
/-- SiteLow: the card: for every input the law answers true. -/
theorem siteLow_card : Rows.SiteLowCardSaid :=
  Claim7.holds_tied_plain_at .later [] _ _ _ _ siteLow_said (fun _ h => by cases h) (by kernel_rfl) (fun _ h => by cases h) siteLow_row_tie rfl ⟨rfl, rfl⟩ (by kernel_rfl) rfl siteLow_plain (by kernel_rfl)
end Go.Proofs.YtnabbeconabbnaaDoor.Si
namespace Go.Proofs.YtnabbeconabbnaaDoor
theorem siteLow_proved : Rows.SiteLowCardSaid := Si.siteLow_card
#print axioms siteLow_proved
end Go.Proofs.YtnabbeconabbnaaDoor
