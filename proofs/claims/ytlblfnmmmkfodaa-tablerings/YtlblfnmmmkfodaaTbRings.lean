/- TableRings: any number as a ring: its class, and which rings have that one, as the document says. No conditions. -/
import Derived.Test.YtlblfnmmmkfodaaTbW4
import Derived.Test.YtlblfnmmmkfodaaTbW5
import Derived.Test.YtlblfnmmmkfodaaBsR
namespace Go.Proofs.Ytlblfnmmmkfodaa.Tb
open Go.RowKit Go.Proofs.Ytlblfnmmmkfodaa.Ba

theorem lett_fin : ∀ r : Fin 64, lett r.val = 0 ∨ lett r.val = 111 ∨ lett r.val = 109 ∨ lett r.val = 112 := by decide +kernel
theorem shr_and (R i : Nat) (hR : R < 2 ^ 64) (b : Bool) (h : R.testBit i = b) : bits .and .u64 ((R : Int) / 2 ^ i) 1 = if b then 1 else 0 := by
  have e : ((R : Int) / 2 ^ i) = ((R / 2 ^ i : Nat) : Int) := by simp
  have hle : R / 2 ^ i < 2 ^ 64 := Nat.lt_of_le_of_lt (Nat.div_le_self _ _) hR
  have h2 : bits .and .u64 ((R / 2 ^ i : Nat) : Int) 1 = ((R / 2 ^ i &&& 1 : Nat) : Int) := u64_and _ 1 hle (by decide)
  rw [e, h2, Nat.and_one_is_mod]
  rw [Nat.testBit_eq_decide_div_mod_eq] at h
  subst h
  by_cases h1 : R / 2 ^ i % 2 = 1
  · simp [h1]
  · have h0 : R / 2 ^ i % 2 = 0 := by omega
    simp [h0]
def TrRel (w : World) (i : Value) (wr : World) : Prop := ∃ k : Nat, k ≤ 64 ∧ i = .int .i64 k ∧ Below w.heap.size w wr
theorem letS0 {r : Nat} (h : lett r = 0) : letS r = ⟨#[]⟩ := by unfold letS; rw [if_pos h]
theorem letS1 {r : Nat} (h : lett r = 111) : letS r = ⟨#[111]⟩ := by unfold letS; rw [h]; rfl
theorem letS2 {r : Nat} (h : lett r = 109) : letS r = ⟨#[109]⟩ := by unfold letS; rw [h]; rfl
theorem letS3 {r : Nat} (h : lett r = 112) : letS r = ⟨#[112]⟩ := by unfold letS; rw [h]; rfl
set_option maxRecDepth 100000 in
set_option maxHeartbeats 8000000 in
theorem tableRings_walk (ring : Int) (_w0 : (Lit.int .i64 ring).wf = true) (w : World) :
    Calls Try.prog 3 #[.int .i64 ring] w fun e w' => e = .returned (.bool true) ∧ Below w.heap.size w w' := by
  have h63 := i64_and63 ring
  obtain ⟨r, hr⟩ : ∃ r : Nat, ring % 64 = (r : Int) := ⟨(ring % 64).toNat, by omega⟩
  rw [hr] at h63
  have hr64 : r < 64 := by omega
  have hrr := ring_any ring
  rw [show (ring % 64).toNat = r by omega] at hrr
  have hrf := refRing_any r hr64
  have nn : ((oc r : Int) != (oc r : Int)) = false := by simp
  have hall := rings_any (oc r) (lett r)
  have hRb := fun i => ringsTo_bit (oc r) (lett r) i 64
  have hRl := ringsTo_lt (oc r) (lett r) 64
  generalize ringsTo (oc r) (lett r) 64 = R at *
  have HR := Lib.hid hRb
  clear hr hRb
  rcases lett_fin ⟨r, hr64⟩ with hl | hl | hl | hl
  all_goals
    dsimp only at hl
    first
      | rw [letS0 hl] at hrf
      | rw [letS1 hl] at hrf
      | rw [letS2 hl] at hrf
      | rw [letS3 hl] at hrf
    rw [hl] at hrr hall
    have HLr := Lib.hid hl
    clear hl
    go_enter Try.func3, Try.ntmps3
    go_wp2_with fail
    refine (awake_any _).mono ?_
    rintro e w1 ⟨rfl, hb1⟩
    have hz1 := hb1.size
    go_wp2_with fail
    refine (hrr _).mono ?_
    rintro e w2 ⟨rfl, hb⟩
    have hb2 := below_call hb hb1 hz1
    have hz2 := hb2.size
    clear hb hb1 hz1
    go_wp2_with fail
    refine (hrf _).mono ?_
    rintro e w3 ⟨rfl, hb⟩
    have kb := Blk.below (Blk.newAt w2 24 _ _ rfl) hb (by simp)
    have hb3 := below_call hb (hb2.alloc hz2 _) (by simp; omega)
    clear hb hb2
    have c0 := kb.cell 0
    have c1 := kb.cell 1
    simp only [List.getElem?_toArray, List.getElem?_cons_zero, List.getElem?_cons_succ] at c0 c1
    have hkl := kb.lt
    go_wp2_with fail
    go_quiet (fail)
    go_wp2_with fail
    refine (hall _).mono ?_
    rintro e w4 ⟨rfl, hb⟩
    have hb4 := below_call (B := w.heap.size) (w := w) hb (below_dr _ hb3) (by exact hb3.size)
    clear hb hb3 c0 c1 hkl kb
    go_wp2_with fail
    go_loopw [46] (fun i wr => TrRel w i wr) (fun i _ => 64 - (intOf i).toNat)
    case atStart => exact ⟨0, by omega, rfl, hb4⟩
    case round =>
      clear hb4
      obtain ⟨k, hk, rfl, hb4⟩ := hrel
      have hz4 := hb4.size
      by_cases hlt : k < 64
      · have hri := refRing_any k hlt
        rcases lett_fin ⟨k, hlt⟩ with hl | hl | hl | hl
        all_goals
          dsimp only at hl
          first
            | rw [letS0 hl] at hri
            | rw [letS1 hl] at hri
            | rw [letS2 hl] at hri
            | rw [letS3 hl] at hri
          cases eo : ((oc k : Int) == (oc r : Int))
          all_goals
            have ha := shr_and R k hRl _ (HR.out k)
            rw [HLr.out, hl, eo] at ha
            simp [hlt] at ha
            go_wp2_with fail
            refine (hri _).mono ?_
            rintro e w5 ⟨rfl, hb⟩
            have hb5 := below_call hb hb4 hz4
            clear hb
            go_wp2
            go_roundw
            case rel => exact ⟨k + 1, by omega, by go_num, hb5⟩
            case measure => simp [intOf]; omega
      · go_wp2
        go_ret
        exact ⟨rfl, hb4⟩
section tableRingsFrame
open Go.ChangeShapes Go.WideShapes Go.ChangeAt Go.RowKit
set_option maxRecDepth 100000 in
theorem tableRings_lifted (os : Os) (started : os.Started) (H : Type) (enc : TypeId × Value → H) :
    ReturnsInHanded {} Try.checked os 3 .any (Rows.tableRingsSpec.pre6 enc Try.prog Try.f3 Rows.tableRingsRow.domain false) (Rows.tableRingsSpec.post enc Try.prog Try.f3 false true false false) := by
  refine returnsInHanded_of_change (C := Try.checked) own started (by kernel_rfl) Try.func3
    (ChangeSpec.witness6 (enc := enc) (C := Try.checked) false ⟨#[], #[.int .i64 0], []⟩ 8 (by kernel_rfl) (by kernel_rfl) (by kernel_rfl) (by kernel_rfl)) ?_
  intro W base args ds gs before hval0 hW hcnd _
  have hval : ∀ (j : Nat) t v, Try.f3.params[j]? = some t → args[j]? = some v → Value.okWide Try.prog W .any base t v := hval0
  have hW' := hW
  obtain ⟨p, q, hA0, hV, rfl, hfz, hnd⟩ := hW
  have hA : DataW.TrodAll enc Try.prog W 0 (fun _ => true) true Try.f3.params.toList args.toList ds p := hA0
  rw [Try.params3] at hA hval
  obtain ⟨v0, vs0, d0, ds0, p0, q0, hargs, rfl, rfl, h0, r0⟩ := trodAll_cons hA
  obtain ⟨rfl, rfl, rfl⟩ := trodAll_nil r0
  obtain rfl : args = #[v0] := by cases args; simp_all
  obtain ⟨rfl, rfl⟩ := trodVars_none hV
  obtain ⟨ring, rfl, rfl, rfl, w_ring⟩ := open_int Try.underlying3 (hval 0 3 v0 rfl rfl) h0
  refine (tableRings_walk ring w_ring W).mono fun e W' ⟨he, hb⟩ => ?_
  exact ⟨_, he, law_post laidOut rfl rfl Try.underlying4 (by kernel_rfl) hW' hb ⟨rfl, rfl, rfl⟩⟩
theorem tableRings_said : Rows.TableRingsSaid :=
  OpenClaim.holds_of_wide 3 Try.f3 rfl rfl rfl rfl rfl rfl rfl ⟨rfl, rfl, rfl, rfl, rfl⟩ rfl rfl rfl rfl rfl (by kernel_rfl) Try.func3 (by kernel_rfl)
    (of_decide_eq_true (by kernel_rfl)) (by unfold Func.isWrapper; first | (rw [if_pos (by decide +kernel)]; kernel_rfl) | (rw [if_neg (by decide +kernel)]; exact ⟨rfl, rfl⟩))
    (fun os started H enc _ => tableRings_lifted os started H enc)
end tableRingsFrame
end Go.Proofs.Ytlblfnmmmkfodaa.Tb
namespace Go.Proofs.Ytlblfnmmmkfodaa
theorem tableRings_proved : Rows.TableRingsSaid := Tb.tableRings_said
#print axioms tableRings_proved
end Go.Proofs.Ytlblfnmmmkfodaa
