/- The contract of the reference's own Then: the operator that does what two do, found by trying all twelve. -/
import Derived.Test.YtcaocbakckojjaaDoorAxW3
import Derived.BigQuiet
import Derived.Deep.QuietTactic
namespace Go.Proofs.YtcaocbakckojjaaDoor.Ax
open Go.RowKit

theorem six_cases {k : Nat} (h : k < 6) : k = 0 ∨ k = 1 ∨ k = 2 ∨ k = 3 ∨ k = 4 ∨ k = 5 := by omega
theorem op_bd (o a b M : Int) (a0 : -M ≤ a) (a1 : a ≤ M) (b0 : -M ≤ b) (b1 : b ≤ M) :
    (-(2 * M) ≤ opA o a b ∧ opA o a b ≤ 2 * M) ∧ (-(2 * M) ≤ opB o a b ∧ opB o a b ≤ 2 * M) := by
  have hk : (o % 6).toNat < 6 := by omega
  unfold opA opB
  rcases six_cases hk with h | h | h | h | h | h <;> rw [h] <;> simp only [tn] <;> split <;> omega

/-- Do o and p behind it bring a point where k does? -/
def mt (o p k x y : Int) : Bool := (opA p (opA o x y) (opB o x y) == opA k x y) && (opB p (opA o x y) (opB o x y) == opB k x y)
theorem then_fin : ∀ o p k : Fin 12, (mt o.val p.val k.val 1 0 && mt o.val p.val k.val 0 1) = decide ((k.val : Int) = thenV o.val p.val) := by decide +kernel
theorem then_spec (o p k : Int) (h0 : 0 ≤ o) (h1 : o < 12) (p0 : 0 ≤ p) (p1 : p < 12) (k0 : 0 ≤ k) (k1 : k < 12) : (mt o p k 1 0 && mt o p k 0 1) = decide (k = thenV o p) := by
  have h := then_fin ⟨o.toNat, by omega⟩ ⟨p.toNat, by omega⟩ ⟨k.toNat, by omega⟩
  simp only [Int.toNat_of_nonneg h0, Int.toNat_of_nonneg p0, Int.toNat_of_nonneg k0] at h
  exact h
theorem then_fin_bd : ∀ o p : Fin 12, 0 ≤ thenV o.val p.val ∧ thenV o.val p.val < 12 := by decide +kernel
theorem then_bd (o p : Int) (h0 : 0 ≤ o) (h1 : o < 12) (p0 : 0 ≤ p) (p1 : p < 12) : 0 ≤ thenV o p ∧ thenV o p < 12 := by
  have h := then_fin_bd ⟨o.toNat, by omega⟩ ⟨p.toNat, by omega⟩
  simp only [Int.toNat_of_nonneg h0, Int.toNat_of_nonneg p0] at h
  exact h
/-- 'same' behind i of the two points. -/
def sm (o p k : Int) : Nat → Bool
  | 0 => true
  | 1 => mt o p k 1 0
  | _ => mt o p k 1 0 && mt o p k 0 1

theorem q_first {P : Program} {f : FuncId} {args : Array Value} {w : World} {n : Nat} {v : Value} (h : ∀ W : World, Calls P f args W fun e w' => e = .returned v ∧ W = w') :
    Calls P f args (w.drewN n) fun e w'' => e = .returned v ∧ ∃ m, w'' = w.drewN m := (h _).mono fun _ _ ⟨he, hm⟩ => ⟨he, n, hm.symm⟩
theorem q_next {P : Program} {f : FuncId} {args : Array Value} {w : World} {a n : Nat} {v : Value} (h : ∀ W : World, Calls P f args W fun e w' => e = .returned v ∧ W = w') :
    Calls P f args (w.drewN (a + n)) fun e w'' => e = .returned v ∧ ∃ m, w'' = w.drewN (a + m) := (h _).mono fun _ _ ⟨he, hm⟩ => ⟨he, n, hm.symm⟩

/-- The two points (1, 0) and (0, 1) as a list of lists, from block B on. -/
def Rows2 (B : Nat) (w : World) : Prop :=
  w.cell? ⟨B, 0, none⟩ = some (.int .i64 1) ∧ w.cell? ⟨B, 1, none⟩ = some (.int .i64 0) ∧ w.cell? ⟨B + 1, 0, none⟩ = some (.int .i64 0) ∧ w.cell? ⟨B + 1, 1, none⟩ = some (.int .i64 1) ∧
  w.cell? ⟨B + 1 + 1, 0, none⟩ = some (.slice (some ⟨B, 0, none⟩) 2 2) ∧ w.cell? ⟨B + 1 + 1, 1, none⟩ = some (.slice (some ⟨B + 1, 0, none⟩) 2 2)
def ThenRel (w : World) (B : Nat) (o p k : Int) (s i : Value) (wq : World) : Prop :=
  ∃ j : Nat, j ≤ 2 ∧ i = .int .i64 j ∧ s = .bool (sm o p k j) ∧ Below w.heap.size w wq ∧ Rows2 B wq
theorem refon_at (o a b : Int) (h0 : 0 ≤ o) (h1 : o < 12) (ha : -2 ≤ a ∧ a ≤ 2) (hb : -2 ≤ b ∧ b ≤ 2) : ∀ w : World,
    Calls Tryd.prog 17 #[.int .i64 o, .int .i64 a, .int .i64 b] w fun e w' => e = .returned (.tuple #[.int .i64 (opA o a b), .int .i64 (opB o a b)]) ∧ w = w' :=
  fun w => refon_any o a b w h0 h1 (by omega) (by omega)

set_option maxRecDepth 100000 in
set_option maxHeartbeats 4000000 in
theorem refthen_any (o p : Int) (w : World) (h0 : 0 ≤ o) (h1 : o < 12) (p0 : 0 ≤ p) (p1 : p < 12) :
    Calls Tryd.prog 19 #[.int .i64 o, .int .i64 p] w fun e w' => e = .returned (.int .i64 (thenV o p)) ∧ Below w.heap.size w w' := by
  obtain ⟨t0, t1⟩ := then_bd o p h0 h1 p0 p1
  go_enter Tryd.func19, Tryd.ntmps19
  go_wp2
  go_loopw [5] (fun i wr => ∃ k : Nat, (k : Int) ≤ thenV o p ∧ i = .int .i64 k ∧ Below w.heap.size w wr) (fun i _ => 12 - (intOf i).toNat)
  case atStart => exact ⟨0, by omega, rfl, Below.refl _ _⟩
  case round =>
    obtain ⟨k, hk, rfl, hb⟩ := hrel
    have hk12 : (k : Int) < 12 := by omega
    have hsz := hb.size
    go_wp2
    go_loopw [6, 21] (fun s i wq => ThenRel w wr.heap.size o p k s i wq) (fun _ i _ => 2 - (intOf i).toNat)
    case atStart => exact ⟨0, by omega, rfl, rfl, by go_grown, by simp [Rows2, go_sem]⟩
    case round =>
      obtain ⟨j, hj, rfl, rfl, hq, r1, r2, r3, r4, r5, r6⟩ := hrel
      have hj' : j = 0 ∨ j = 1 ∨ j = 2 := by omega
      rcases hj' with rfl | rfl | rfl
      · obtain ⟨⟨x1, x2⟩, y1, y2⟩ := op_bd o 1 0 1 (by omega) (by omega) (by omega) (by omega)
        have HS := Lib.hid (show sm o p k (0 + 1) = (sm o p k 0 && mt o p k 1 0) from by simp [sm])
        cases hS : sm o p k 0 <;> cases g1 : (opA p (opA o 1 0) (opB o 1 0) == opA k 1 0) <;> cases g2 : (opB p (opA o 1 0) (opB o 1 0) == opB k 1 0)
        all_goals
          go_wp2_with fail
          go_quiet ((go_at_call 17; exact q_first (refon_at o 1 0 h0 h1 (by omega) (by omega))))
          go_wp2_with (go_at_call 17; refine (refon_at p _ _ p0 p1 (by omega) (by omega) _).mono ?_; rintro e w' ⟨rfl, rfl⟩)
          go_quiet ((go_at_call 17; exact q_next (refon_at k 1 0 (by omega) hk12 (by omega) (by omega))))
          go_wp2
          go_roundw
          case rel => exact ⟨0 + 1, by omega, by go_num, by rw [HS.out, hS]; simp [mt, g1, g2], by first | exact hq | exact (hq.trans ⟨rfl, rfl, rfl, Nat.le_refl _, fun _ _ => rfl⟩), r1, r2, r3, r4, r5, r6⟩
          case measure => simp [intOf]
      · obtain ⟨⟨x1, x2⟩, y1, y2⟩ := op_bd o 0 1 1 (by omega) (by omega) (by omega) (by omega)
        have HS := Lib.hid (show sm o p k (1 + 1) = (sm o p k 1 && mt o p k 0 1) from by simp [sm])
        cases hS : sm o p k 1 <;> cases g1 : (opA p (opA o 0 1) (opB o 0 1) == opA k 0 1) <;> cases g2 : (opB p (opA o 0 1) (opB o 0 1) == opB k 0 1)
        all_goals
          go_wp2_with fail
          go_quiet ((go_at_call 17; exact q_first (refon_at o 0 1 h0 h1 (by omega) (by omega))))
          go_wp2_with (go_at_call 17; refine (refon_at p _ _ p0 p1 (by omega) (by omega) _).mono ?_; rintro e w' ⟨rfl, rfl⟩)
          go_quiet ((go_at_call 17; exact q_next (refon_at k 0 1 (by omega) hk12 (by omega) (by omega))))
          go_wp2
          go_roundw
          case rel => exact ⟨1 + 1, by omega, by go_num, by rw [HS.out, hS]; simp [mt, g1, g2], by first | exact hq | exact (hq.trans ⟨rfl, rfl, rfl, Nat.le_refl _, fun _ _ => rfl⟩), r1, r2, r3, r4, r5, r6⟩
          case measure => simp [intOf]
      · have hsp := then_spec o p k h0 h1 p0 p1 (by omega) hk12
        have hS : sm o p k 2 = decide ((k : Int) = thenV o p) := hsp
        clear hsp
        by_cases e : (k : Int) = thenV o p
        · have hS' : sm o p k 2 = true := by rw [hS]; simp [e]
          clear hS
          have E := Lib.hid e
          clear e
          simp only [hS']
          go_wp2
          go_ret
          exact ⟨congrArg (fun n : Int => Ending.returned (.int .i64 n)) E.out, hq⟩
        · have hS' : sm o p k 2 = false := by rw [hS]; simp [e]
          clear hS
          simp only [hS']
          go_wp2
          go_roundw
          case rel => exact ⟨k + 1, by omega, by go_num, hq⟩
          case measure => simp [intOf]; omega
end Go.Proofs.YtcaocbakckojjaaDoor.Ax
