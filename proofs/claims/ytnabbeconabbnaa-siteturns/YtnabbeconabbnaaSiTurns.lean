/- SiteTurns: of any leaf's sixteen states, laid in any order, it comes to be again; each state laid is there, and no other one is another one. No conditions. -/
import Derived.Test.YtnabbeconabbnaaSiW3
import Derived.Test.YtnabbeconabbnaaBsR
namespace Go.Proofs.Ytnabbeconabbnaa.Si
open Go.RowKit Go.Proofs.Ytnabbeconabbnaa.Ba

/-- What lies in a leaf behind i states laid from the m-th on. -/
def Laid (f m i Y : Nat) : Prop := Y < 4294967296 ∧ ∀ n, n < 16 → st Y n = if (n + 16 - m) % 16 < i then st f n else 0
theorem laid_zero (f m : Nat) : Laid f m 0 0 := ⟨by decide, fun n _ => by simp [st]⟩
theorem laid_next {f m i Y k : Nat} (h : Laid f m i Y) (hm : m < 16) (hi : i < 16) (hk : k = (i + m) % 16) : Laid f m (i + 1) (pt Y k (st f k)) := by
  have hk16 : k < 16 := by omega
  refine ⟨pt_lt _ _ _ hk16 (st_lt _ _), fun n hn => ?_⟩
  rw [st_pt _ _ _ _ hk16 (st_lt _ _) hn]
  by_cases e : n = k
  · rw [if_pos e, e, if_pos (by omega)]
  · rw [if_neg e, h.2 n hn]
    by_cases e2 : (n + 16 - m) % 16 < i
    · rw [if_pos e2, if_pos (by omega)]
    · rw [if_neg e2, if_neg (by omega)]
theorem laid_all {f m Y : Nat} (h : Laid f m 16 Y) (hf : f < 4294967296) : Y = f :=
  st_ext _ _ h.1 hf fun j hj => by rw [h.2 j hj, if_pos (by omega)]
def TuRel (f m : Nat) (w : World) (y i : Value) (wr : World) : Prop := ∃ (k Y : Nat), k ≤ 16 ∧ i = .int .i64 k ∧ y = .int .u32 Y ∧ Laid f m k Y ∧ Below w.heap.size w wr
def TvRel (w : World) (j : Value) (wr : World) : Prop := ∃ k : Nat, k ≤ 16 ∧ j = .int .i64 k ∧ Below w.heap.size w wr
set_option maxRecDepth 100000 in
set_option maxHeartbeats 4000000 in
theorem siteTurns_walk (f0 : Int) (w0 : (Lit.int .u32 f0).wf = true) (from0 : Int) (_w1 : (Lit.int .i64 from0).wf = true) (w : World) :
    Calls Try.prog 3 #[.int .u32 f0, .int .i64 from0] w fun e w' => e = .returned (.bool true) ∧ Below w.heap.size w w' := by
  obtain ⟨f, rfl, hf⟩ : ∃ f : Nat, f0 = (f : Int) ∧ f < 4294967296 := by
    have := u32_wf w0
    exact ⟨f0.toNat, by omega, by omega⟩
  have h15 := i64_and15 from0
  obtain ⟨m, hm⟩ : ∃ m : Nat, from0 % 16 = (m : Int) := ⟨(from0 % 16).toNat, by omega⟩
  rw [hm] at h15
  have hm16 : m < 16 := by omega
  clear hm w0 _w1
  have HM := Lib.hid hm16
  have HF := Lib.hid hf
  clear hm16 hf
  go_enter Try.func3, Try.ntmps3
  go_wp2_with fail
  refine (awake_any _).mono ?_
  rintro e w1 ⟨rfl, hb1⟩
  go_wp2_with fail
  go_loopw [6, 15] (fun y i wr => TuRel f m w y i wr) (fun _ i _ => 16 - (intOf i).toNat)
  case atStart => exact ⟨0, 0, by omega, rfl, rfl, laid_zero f m, hb1⟩
  case round =>
    clear hb1
    obtain ⟨i, Y, hi, rfl, rfl, hY, hb⟩ := hrel
    by_cases hlt : i < 16
    · obtain ⟨k, hk⟩ : ∃ k : Nat, k = (i + m) % 16 := ⟨_, rfl⟩
      have hm16 := HM.out
      have hand : bits .and .i64 ((i : Int) + m) 15 = (k : Int) := by rw [i64_and15]; omega
      have h3 : bits .and .i64 (k : Int) 3 = ((k : Int) % 4) := i64_and3 _
      have hst := fun W => state_at f k ((k : Int) % 4) ((k : Int) / 4) HF.out (by omega) (by omega) (by omega) W
      have hpt := fun W => put_at Y k (st f k) ((k : Int) % 4) ((k : Int) / 4) (st f k) hY.1 (by omega) (by omega) (by omega) (by have := st_lt f k; omega) W
      have HY := Lib.hid hY
      have HK := Lib.hid hk
      have hk16 : k < 16 := by omega
      clear hY hk
      go_wp2_with fail
      with_reducible refine (hst _).mono ?_
      rintro e w' ⟨rfl, rfl⟩
      go_wp2_with fail
      with_reducible refine (hpt _).mono ?_
      rintro e w' ⟨rfl, rfl⟩
      clear hst hpt h3 hand
      have hN := Lib.hid (laid_next HY.out HM.out hlt HK.out)
      generalize pt Y k (st f k) = Y' at *
      go_wp2_with fail
      go_loopw [35] (fun j wr => TvRel w j wr) (fun j _ => 16 - (intOf j).toNat)
      case atStart => exact ⟨0, by omega, rfl, hb⟩
      case round =>
        clear hb
        obtain ⟨j, hj, rfl, hb⟩ := hrel
        by_cases hjl : j < 16
        · obtain ⟨n, hn⟩ : ∃ n : Nat, n = (j + m) % 16 := ⟨_, rfl⟩
          have hm16 := HM.out
          have hand : bits .and .i64 ((j : Int) + m) 15 = (n : Int) := by rw [i64_and15]; omega
          have h3 : bits .and .i64 (n : Int) 3 = ((n : Int) % 4) := i64_and3 _
          have hst := fun W => state_at f n ((n : Int) % 4) ((n : Int) / 4) HF.out (by omega) (by omega) (by omega) W
          have hsy := fun W => state_at Y' n ((n : Int) % 4) ((n : Int) / 4) hN.out.1 (by omega) (by omega) (by omega) W
          rw [hN.out.2 n (by omega)] at hsy
          have hn16 : n < 16 := by omega
          by_cases hle : j ≤ i
          · rw [if_pos (by omega)] at hsy
            clear hn
            go_wp2_with fail
            with_reducible refine (hst _).mono ?_
            rintro e w' ⟨rfl, rfl⟩
            go_wp2_with fail
            with_reducible refine (hsy _).mono ?_
            rintro e w' ⟨rfl, rfl⟩
            clear hst hsy
            go_wp2
            go_roundw
            case rel => exact ⟨j + 1, by omega, by go_num, hb⟩
            case measure => simp [intOf]; omega
          · rw [if_neg (by omega)] at hsy
            clear hn
            go_wp2_with fail
            with_reducible refine (hsy _).mono ?_
            rintro e w' ⟨rfl, rfl⟩
            clear hst hsy
            go_wp2
            go_roundw
            case rel => exact ⟨j + 1, by omega, by go_num, hb⟩
            case measure => simp [intOf]; omega
        · obtain rfl : j = 16 := by omega
          go_wp2
          go_roundw
          case rel => exact ⟨i + 1, Y', by omega, by go_num, rfl, hN.out, hb⟩
          case measure => simp [intOf]; omega
    · obtain rfl : i = 16 := by omega
      obtain rfl := laid_all hY HF.out
      go_wp2
      go_ret
      exact ⟨rfl, hb⟩
section siteTurnsFrame
open Go.ChangeShapes Go.WideShapes Go.ChangeAt Go.RowKit
set_option maxRecDepth 100000 in
theorem siteTurns_lifted (os : Os) (started : os.Started) (H : Type) (enc : TypeId × Value → H) :
    ReturnsInHanded {} Try.checked os 3 .any (Rows.siteTurnsSpec.pre6 enc Try.prog Try.f3 Rows.siteTurnsRow.domain false) (Rows.siteTurnsSpec.post enc Try.prog Try.f3 false true false false) := by
  refine returnsInHanded_of_change (C := Try.checked) own started (by kernel_rfl) Try.func3
    (ChangeSpec.witness6 (enc := enc) (C := Try.checked) false ⟨#[], #[.int .u32 0, .int .i64 0], []⟩ 8 (by kernel_rfl) (by kernel_rfl) (by kernel_rfl) (by kernel_rfl)) ?_
  intro W base args ds gs before hval0 hW hcnd _
  have hval : ∀ (j : Nat) t v, Try.f3.params[j]? = some t → args[j]? = some v → Value.okWide Try.prog W .any base t v := hval0
  have hW' := hW
  obtain ⟨p, q, hA0, hV, rfl, hfz, hnd⟩ := hW
  have hA : DataW.TrodAll enc Try.prog W 0 (fun _ => true) true Try.f3.params.toList args.toList ds p := hA0
  rw [Try.params3] at hA hval
  obtain ⟨v0, vs0, d0, ds0, p0, q0, hargs, rfl, rfl, h0, r0⟩ := trodAll_cons hA
  obtain ⟨v1, vs1, d1, ds1, p1, q1, rfl, rfl, rfl, h1, r1⟩ := trodAll_cons r0
  obtain ⟨rfl, rfl, rfl⟩ := trodAll_nil r1
  obtain rfl : args = #[v0, v1] := by cases args; simp_all
  obtain ⟨rfl, rfl⟩ := trodVars_none hV
  obtain ⟨f, rfl, rfl, rfl, w_f⟩ := open_int Try.underlying22 (hval 0 22 v0 rfl rfl) h0
  obtain ⟨from0, rfl, rfl, rfl, w_from0⟩ := open_int Try.underlying3 (hval 1 3 v1 rfl rfl) h1
  refine (siteTurns_walk f w_f from0 w_from0 W).mono fun e W' ⟨he, hb⟩ => ?_
  exact ⟨_, he, law_post laidOut rfl rfl Try.underlying4 (by kernel_rfl) hW' hb ⟨rfl, rfl, rfl⟩⟩
theorem siteTurns_said : Rows.SiteTurnsSaid :=
  OpenClaim.holds_of_wide 3 Try.f3 rfl rfl rfl rfl rfl rfl rfl ⟨rfl, rfl, rfl, rfl, rfl⟩ rfl rfl rfl rfl rfl (by kernel_rfl) Try.func3 (by kernel_rfl)
    (of_decide_eq_true (by kernel_rfl)) (by unfold Func.isWrapper; first | (rw [if_pos (by decide +kernel)]; kernel_rfl) | (rw [if_neg (by decide +kernel)]; exact ⟨rfl, rfl⟩))
    (fun os started H enc _ => siteTurns_lifted os started H enc)
end siteTurnsFrame
end Go.Proofs.Ytnabbeconabbnaa.Si
namespace Go.Proofs.Ytnabbeconabbnaa
theorem siteTurns_proved : Rows.SiteTurnsSaid := Si.siteTurns_said
#print axioms siteTurns_proved
end Go.Proofs.Ytnabbeconabbnaa
