/- TableClasses: any ring, turned by any steps, mirrored or not, has the same class; all classes together have each ring once. No conditions. -/
import Derived.Test.YtlblfnmmmkfodaaTbW4
import Derived.Test.YtlblfnmmmkfodaaBsR
namespace Go.Proofs.Ytlblfnmmmkfodaa.Tb
open Go.RowKit Go.Proofs.Ytlblfnmmmkfodaa.Ba

theorem or_shI (R k : Nat) (hR : R < 64) (hk : k < 6) : bits .or .i64 (R : Int) (wrap64 (2 ^ k)) = ((R ||| 2 ^ k : Nat) : Int) := by
  have h2 : 2 ^ k < 2 ^ 6 := Nat.pow_lt_pow_right (by decide) hk
  have e : ((2 : Int) ^ k) = ((2 ^ k : Nat) : Int) := by simp
  have hw : ∀ n : Int, 0 ≤ n → n < 2 ^ 6 → IntKind.i64.wrap n = n := fun n h0 h1 => by rw [IntKind.wrap_i64]; omega
  have hw' : wrap64 ((2 ^ k : Nat) : Int) = ((2 ^ k : Nat) : Int) := by
    have : 2 ^ k < 64 := h2
    generalize 2 ^ k = y at *
    unfold wrap64; omega
  rw [e, hw']
  exact (bits_nat .i64 6 (by decide) hw R (2 ^ k) hR h2).2
theorem i64_and1' (x k : Nat) : bits .and .i64 ((x : Int) / 2 ^ k) 1 = ((x / 2 ^ k % 2 : Nat) : Int) := by
  rw [i64_and1]; simp
theorem all_lt : ∀ k : Fin 14, allTo k.val < 2 ^ 64 := by decide +kernel
theorem zero_or : bits .or .u64 0 0 = 0 := by decide
def lastC (k : Nat) : Int := if k = 0 then -1 else (cls.getD (k - 1) (0, 0)).1
def lastL (k : Nat) : Int := if k = 0 then 0 else (cls.getD (k - 1) (0, 0)).2
def T1Rel (m : Bool) (r t : Nat) (o i : Value) : Prop := ∃ k : Nat, k ≤ 6 ∧ i = .int .i64 k ∧ o = .int .i64 (turnTo m r t k)
def T2Rel (w : World) (g LB : Nat) (cur : Array Value) (a t i : Value) (wr : World) : Prop :=
  ∃ k : Nat, k ≤ 13 ∧ i = .int .i64 k ∧ a = .int .u64 (allTo k) ∧ t = .int .u64 0 ∧ Below w.heap.size w wr ∧ Blk wr g 24 cur ∧ Blk wr LB 24 #[.int .i64 (lastC k), .int .u8 (lastL k)]
set_option maxRecDepth 100000 in
set_option maxHeartbeats 4000000 in
theorem tableClasses_walk (ring : Int) (_w0 : (Lit.int .i64 ring).wf = true) (turn : Int) (_w1 : (Lit.int .i64 turn).wf = true) (mirror : Bool) (w : World) :
    Calls Try.prog 4 #[.int .i64 ring, .int .i64 turn, .bool mirror] w fun e w' => e = .returned (.bool true) ∧ Below w.heap.size w w' := by
  have ec := eql_cl
  have h63 := i64_and63 ring
  have h255 := i64_and255 turn
  obtain ⟨r, hr⟩ : ∃ r : Nat, ring % 64 = (r : Int) := ⟨(ring % 64).toNat, by omega⟩
  obtain ⟨t0, ht0⟩ : ∃ t0 : Nat, turn % 256 = (t0 : Int) := ⟨(turn % 256).toNat, by omega⟩
  rw [hr] at h63
  rw [ht0] at h255
  have hr64 : r < 64 := by omega
  obtain ⟨t, ht⟩ : ∃ t : Nat, (t0 : Int) % 6 = (t : Int) := ⟨t0 % 6, by omega⟩
  have ht6 : t < 6 := by omega
  have hrr := ring_any (r : Int)
  rw [show ((r : Int) % 64).toNat = r by omega] at hrr
  have hro := ring_any ((turnTo mirror r t 6 : Nat) : Int)
  rw [show (((turnTo mirror r t 6 : Nat) : Int) % 64).toNat = turnTo mirror r t 6 by have := turn_lt mirror r t 6; omega, (turn_fin mirror ⟨r, hr64⟩ ⟨t, ht6⟩).1, (turn_fin mirror ⟨r, hr64⟩ ⟨t, ht6⟩).2] at hro
  obtain rfl : t = t0 % 6 := by omega
  clear hr ht0 ht
  go_enter Try.func4, Try.ntmps4
  go_wp2_with fail
  refine (awake_any _).mono ?_
  rintro e w1 ⟨rfl, hb1⟩
  go_wp2_with fail
  clear h63 h255
  go_loop [7, 23] (fun o i => T1Rel mirror r (t0 % 6) o i) (fun _ i => 6 - (intOf i).toNat)
  case atStart => exact ⟨0, by omega, rfl, rfl⟩
  case round =>
    obtain ⟨k, hk, rfl, rfl⟩ := hrel
    by_cases hlt : k < 6
    · obtain ⟨q, hq⟩ : ∃ q : Nat, q = (k + t0) % 6 := ⟨_, rfl⟩
      have hq6 : q < 6 := by omega
      have HS := Lib.hid (show turnTo mirror r (t0 % 6) (k + 1) = if bitB r k = true then turnTo mirror r (t0 % 6) k ||| 2 ^ turnK mirror (t0 % 6) k else turnTo mirror r (t0 % 6) k from rfl)
      have hol := turn_lt mirror r (t0 % 6) k
      cases hbit : bitB r k
      all_goals
        have HB := Lib.hid hbit
        unfold bitB at hbit
        have ha1 := i64_and1' r k
        simp only [beq_iff_eq, beq_eq_false_iff_ne] at hbit
        first
          | rw [hbit] at ha1
          | rw [show r / 2 ^ k % 2 = 0 by omega] at ha1
        clear hbit
        cases mirror
        · have HO := Lib.hid (or_shI (turnTo false r (t0 % 6) k) ((k + t0) % 6) hol (by omega))
          have HK := Lib.hid (show turnK false (t0 % 6) k = (k + t0) % 6 by unfold turnK; simp)
          clear hq
          go_wp2
          go_round
          case rel => exact ⟨k + 1, by omega, by go_num, by rw [HS.out, HB.out]; first | rfl | (rw [HO.out, HK.out]; rfl)⟩
          case measure => simp [intOf]; omega
        · have HO := Lib.hid (or_shI (turnTo true r (t0 % 6) k) (5 - (k + t0) % 6) hol (by omega))
          have HK := Lib.hid (show turnK true (t0 % 6) k = 5 - (k + t0) % 6 by unfold turnK; simp)
          clear hq
          go_wp2
          go_round
          case rel => exact ⟨k + 1, by omega, by go_num, by rw [HS.out, HB.out]; first | rfl | (rw [HO.out, HK.out]; rfl)⟩
          case measure => simp [intOf]; omega
    · obtain rfl : k = 6 := by omega
      go_wp2_with fail
      refine (classes_yes _).mono ?_
      rintro e w3 ⟨g, cap, cur, rfl, hg, kg, hcur, hcap, hb⟩
      have kl : Blk w3 w1.heap.size 24 #[.int .i64 (-1), .int .u8 0] := Blk.below (Blk.newAt w1 _ _ _ rfl) hb (by simp)
      have hL := hb1.size
      have hb3 := below_call (B := w.heap.size) (w := w) hb (hb1.alloc hL _) (by simp; omega)
      simp at hg
      have hne : g ≠ w1.heap.size := by omega
      clear hb hb1
      generalize w1.heap.size = LB at *
      have HT := Lib.hid (show ((allTo 13 : Nat) : Int) = 18446744073709551615 by rw [all13]; rfl)
      go_wp2_with fail
      go_loopw [10, 11, 46] (fun a t i wr => T2Rel w g LB cur a t i wr) (fun _ _ i _ => 13 - (intOf i).toNat)
      case atStart => exact ⟨0, by omega, rfl, rfl, rfl, hb3, kg, kl⟩
      case round =>
        clear hb3 kg kl
        obtain ⟨k, hk, rfl, rfl, rfl, hb3, kg, kl⟩ := hrel
        have hz := hb3.size
        have hgl := kg.lt
        have hll := kl.lt
        by_cases hlt : k < 13
        · obtain ⟨f1, f2, f3, f4⟩ := cls_fin ⟨k, hlt⟩
          obtain ⟨e0, e1⟩ := hcur k hlt
          have p0 := (kg.cell (k * 2)).trans e0
          have p1 := (kg.cell (k * 2 + 1)).trans e1
          have HC := Lib.hid (show lastC (k + 1) = ((cls.getD k (0, 0)).1 : Int) by simp [lastC])
          have HL := Lib.hid (show lastL (k + 1) = ((cls.getD k (0, 0)).2 : Int) by simp [lastL])
          have hle : ¬ ((cls.getD k (0, 0)).1 : Int) < lastC k := by
            unfold lastC
            split
            · omega
            · rename_i h0
              rcases f4 with h | h
              · exact absurd h h0
              · dsimp only at h; omega
          have hA := all_lt ⟨k, by omega⟩
          dsimp only at f1 f2 f3 hA
          unfold rgs at f1 f2 f3
          clear e0 e1 f4
          have zo := zero_or
          generalize cls.getD k (0, 0) = c at *
          obtain ⟨c1, c2⟩ := c
          dsimp only at p0 p1 HC HL hle f1 f2 f3
          have hR := rings_any (c1 : Int) (c2 : Int)
          have hRl := ringsTo_lt c1 c2 64
          generalize ringsTo (c1 : Int) (c2 : Int) 64 = R at *
          have band := u64_and (allTo k) R hA hRl
          have bor := u64_or (allTo k) R hA hRl
          rw [f1] at band
          rw [← f2] at bor
          have nz : ((R : Int) == 0) = false := by simp; omega
          have ltf : decide ((c1 : Int) < lastC k) = false := by simpa using hle
          clear f1 f2 f3 hle hA hRl
          go_wp2_with fail
          refine (hR _).mono ?_
          rintro e w5 ⟨rfl, hb⟩
          have kc5 : Blk w5 wr.heap.size 24 #[.int .i64 c1, .int .u8 c2] := Blk.below (Blk.newAt wr _ _ _ rfl) hb (by simp)
          have kl5 := (kl.alloc (.cells #[.int .i64 c1, .int .u8 c2] 24)).under hb
          have kg5 := (kg.alloc (.cells #[.int .i64 c1, .int .u8 c2] 24)).under hb
          have hb5 := below_call (B := w.heap.size) (w := w) hb (hb3.alloc hz _) (by simp; omega)
          have c0 := kc5.cell 0
          have c1' := kc5.cell 1
          have l0 := kl5.cell 0
          have l1 := kl5.cell 1
          have x0 := kl5.frozen 0
          have x1 := kl5.frozen 1
          simp only [List.getElem?_toArray, List.getElem?_cons_zero, List.getElem?_cons_succ] at c0 c1' l0 l1
          have hcl := kc5.lt
          have hll5 := kl5.lt
          clear hb p0 p1 hgl kl kg hll hR
          go_wp2
          go_roundw
          case rel => exact ⟨k + 1, by omega, by go_num, rfl, rfl, (hb5.setCell hL _).setCell hL _, (kg5.far hne _).far hne _, by rw [HC.out, HL.out]; exact (kl5.set_ 0 _).set_ 1 _⟩
          case measure => simp [intOf]; omega
        · obtain rfl : k = 13 := by omega
          have hA := HT.out
          have z7 : ∀ w, Calls Try.prog 9 #[Cl 7 0] w fun e w' => e = .returned (.int .u64 0) ∧ Below w.heap.size w w' := fun w => by
            have h := rings_any 7 0 w
            rw [rgs7] at h
            exact h
          have ee : ∀ (a b : Int) (w : World), (binOp .eql 24 (.agg #[.int .i64 a, .int .u8 b]) (.agg #[.int .i64 a, .int .u8 b])).run Try.prog w = .ok (.bool true) w := fun a b w => by rw [eql_cl]; simp
          clear ec
          go_wp2_with fail
          refine (hrr _).mono ?_
          rintro e w5 ⟨rfl, hb⟩
          have hb5 := below_call hb hb3 hz
          clear hb
          go_wp2_with fail
          refine (hro _).mono ?_
          rintro e w6 ⟨rfl, hb⟩
          have hb6 := below_call hb hb5 hb5.size
          clear hb hb5
          go_wp2_with fail
          refine (z7 _).mono ?_
          rintro e w7 ⟨rfl, hb⟩
          have hb7 := below_call hb hb6 hb6.size
          clear hb hb6
          go_wp2
          go_ret
          exact ⟨rfl, hb7⟩
section tableClassesFrame
open Go.ChangeShapes Go.WideShapes Go.ChangeAt Go.RowKit
set_option maxRecDepth 100000 in
theorem tableClasses_lifted (os : Os) (started : os.Started) (H : Type) (enc : TypeId × Value → H) :
    ReturnsInHanded {} Try.checked os 4 .any (Rows.tableClassesSpec.pre6 enc Try.prog Try.f4 Rows.tableClassesRow.domain false) (Rows.tableClassesSpec.post enc Try.prog Try.f4 false true false false) := by
  refine returnsInHanded_of_change (C := Try.checked) own started (by kernel_rfl) Try.func4
    (ChangeSpec.witness6 (enc := enc) (C := Try.checked) false ⟨#[], #[.int .i64 0, .int .i64 0, .bool false], []⟩ 8 (by kernel_rfl) (by kernel_rfl) (by kernel_rfl) (by kernel_rfl)) ?_
  intro W base args ds gs before hval0 hW hcnd _
  have hval : ∀ (j : Nat) t v, Try.f4.params[j]? = some t → args[j]? = some v → Value.okWide Try.prog W .any base t v := hval0
  have hW' := hW
  obtain ⟨p, q, hA0, hV, rfl, hfz, hnd⟩ := hW
  have hA : DataW.TrodAll enc Try.prog W 0 (fun _ => true) true Try.f4.params.toList args.toList ds p := hA0
  rw [Try.params4] at hA hval
  obtain ⟨v0, vs0, d0, ds0, p0, q0, hargs, rfl, rfl, h0, r0⟩ := trodAll_cons hA
  obtain ⟨v1, vs1, d1, ds1, p1, q1, rfl, rfl, rfl, h1, r1⟩ := trodAll_cons r0
  obtain ⟨v2, vs2, d2, ds2, p2, q2, rfl, rfl, rfl, h2, r2⟩ := trodAll_cons r1
  obtain ⟨rfl, rfl, rfl⟩ := trodAll_nil r2
  obtain rfl : args = #[v0, v1, v2] := by cases args; simp_all
  obtain ⟨rfl, rfl⟩ := trodVars_none hV
  obtain ⟨ring, rfl, rfl, rfl, w_ring⟩ := open_int Try.underlying3 (hval 0 3 v0 rfl rfl) h0
  obtain ⟨turn, rfl, rfl, rfl, w_turn⟩ := open_int Try.underlying3 (hval 1 3 v1 rfl rfl) h1
  obtain ⟨mirror, rfl, rfl, rfl⟩ := open_bool Try.underlying4 (hval 2 4 v2 rfl rfl) h2
  refine (tableClasses_walk ring w_ring turn w_turn mirror W).mono fun e W' ⟨he, hb⟩ => ?_
  exact ⟨_, he, law_post laidOut rfl rfl Try.underlying4 (by kernel_rfl) hW' hb ⟨rfl, rfl, rfl⟩⟩
theorem tableClasses_said : Rows.TableClassesSaid :=
  OpenClaim.holds_of_wide 4 Try.f4 rfl rfl rfl rfl rfl rfl rfl ⟨rfl, rfl, rfl, rfl, rfl⟩ rfl rfl rfl rfl rfl (by kernel_rfl) Try.func4 (by kernel_rfl)
    (of_decide_eq_true (by kernel_rfl)) (by unfold Func.isWrapper; first | (rw [if_pos (by decide +kernel)]; kernel_rfl) | (rw [if_neg (by decide +kernel)]; exact ⟨rfl, rfl⟩))
    (fun os started H enc _ => tableClasses_lifted os started H enc)
end tableClassesFrame
end Go.Proofs.Ytlblfnmmmkfodaa.Tb
namespace Go.Proofs.Ytlblfnmmmkfodaa
theorem tableClasses_proved : Rows.TableClassesSaid := Tb.tableClasses_said
#print axioms tableClasses_proved
end Go.Proofs.Ytlblfnmmmkfodaa
