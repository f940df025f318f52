/- The statements of arena: awake; two arrays of four held against each other. -/
import Derived.Test.YtmibdbgoknbchaaDoorArW6
namespace Go.Proofs.YtmibdbgoknbchaaDoor.Ar
open Go.RowKit Go.Proofs.YtmibdbgoknbchaaDoor.Ba Go.Proofs.YtmibdbgoknbchaaDoor.Mp Go.Lib Go.Maps

set_option maxRecDepth 20000 in
set_option maxHeartbeats 1000000 in
theorem equal_k4 (a0 a1 a2 a3 b0 b1 b2 b3 : Int) (w : World) : (Op.equalIn 10000 59 (.agg #[.int .u32 a0, .int .u32 a1, .int .u32 a2, .int .u32 a3]) (.agg #[.int .u32 b0, .int .u32 b1, .int .u32 b2, .int .u32 b3])).run Tryd.prog w = .ok (a0 == b0 && (a1 == b1 && (a2 == b2 && a3 == b3))) w := by
  unfold Op.equalIn
  simp only [Sem.run_bind, run_underlying Tryd.underlying59, Result.andThen]
  have hs : (sizeOf 31).run Tryd.prog w = .ok 1 w := by kernel_rfl
  simp only [hs]
  have hp : ∀ (c0 c1 c2 c3 : Int) (W : World), (part 31 #[.int .u32 c0, .int .u32 c1, .int .u32 c2, .int .u32 c3] 0).run Tryd.prog W = .ok (.int .u32 c0) W ∧ (part 31 #[.int .u32 c0, .int .u32 c1, .int .u32 c2, .int .u32 c3] 1).run Tryd.prog W = .ok (.int .u32 c1) W ∧ (part 31 #[.int .u32 c0, .int .u32 c1, .int .u32 c2, .int .u32 c3] 2).run Tryd.prog W = .ok (.int .u32 c2) W ∧ (part 31 #[.int .u32 c0, .int .u32 c1, .int .u32 c2, .int .u32 c3] 3).run Tryd.prog W = .ok (.int .u32 c3) W := by
    intro c0 c1 c2 c3 W
    refine ⟨?_, ?_, ?_, ?_⟩
    all_goals kernel_rfl
  have he : ∀ (a b : Int) (W : World), (Op.equalIn 9999 31 (.int .u32 a) (.int .u32 b)).run Tryd.prog W = .ok (a == b) W := fun a b W => run_equalIn_int W 9998 31 .u32 .u32 a b Tryd.underlying31
  obtain ⟨p0, p1, p2, p3⟩ := hp a0 a1 a2 a3 w
  obtain ⟨q0, q1, q2, q3⟩ := hp b0 b1 b2 b3 w
  clear hp hs
  rw [Std.Legacy.Range.forIn_eq_forIn_range']
  simp only [Std.Legacy.Range.size, List.range', List.forIn_cons, Nat.mul_one]
  cases h0 : (a0 == b0)
  · simp [p0, q0, he, h0, Result.andThen]
  · cases h1 : (a1 == b1)
    · simp [p0, q0, p1, q1, he, h0, h1, Result.andThen]
    · cases h2 : (a2 == b2)
      · simp [p0, q0, p1, q1, p2, q2, he, h0, h1, h2, Result.andThen]
      · cases h3 : (a3 == b3)
        · simp [p0, q0, p1, q1, p2, q2, p3, q3, he, h0, h1, h2, h3, Result.andThen]
        · simp [p0, q0, p1, q1, p2, q2, p3, q3, he, h0, h1, h2, h3, Result.andThen]
theorem k4_beq (a b : K4) : (((a.1 : Int) == (b.1 : Int)) && (((a.2.1 : Int) == (b.2.1 : Int)) && (((a.2.2.1 : Int) == (b.2.2.1 : Int)) && ((a.2.2.2 : Int) == (b.2.2.2 : Int))))) = decide (a = b) := by
  obtain ⟨a0, a1, a2, a3⟩ := a
  obtain ⟨b0, b1, b2, b3⟩ := b
  rw [Bool.eq_iff_iff]
  simp only [Bool.and_eq_true, beq_iff_eq, decide_eq_true_eq, Prod.mk.injEq]
  omega
theorem eql_k4 (a b : K4) (w : World) : (binOp .eql 59 (KV a) (KV b)).run Tryd.prog w = .ok (.bool (decide (a = b))) w := by
  have h := equal_k4 a.1 a.2.1 a.2.2.1 a.2.2.2 b.1 b.2.1 b.2.2.1 b.2.2.2 w
  rw [k4_beq] at h
  simp only [go_sem]
  rw [h]
  rfl
theorem neq_k4 (a b : K4) (w : World) : (binOp .neq 59 (KV a) (KV b)).run Tryd.prog w = .ok (.bool (!decide (a = b))) w := by
  have h := equal_k4 a.1 a.2.1 a.2.2.1 a.2.2.2 b.1 b.2.1 b.2.2.1 b.2.2.2 w
  rw [k4_beq] at h
  simp only [go_sem]
  rw [h]
  rfl
theorem S1_leaf : leafR (newS 9) 1 = (1, none, leafS (newS 9) 1) := by
  have hf : ¬ full (newS 9) := by decide
  unfold leafR
  rw [if_neg (by decide)]
  show (if full (newS 9) then _ else _) = _
  rw [if_neg hf]
  rfl
theorem S1_again : leafR (leafS (newS 9) 1) 1 = (1, none, leafS (newS 9) 1) := by
  unfold leafR
  rw [if_neg (by decide)]
  simp [leafS, newS]
set_option maxRecDepth 100000 in
theorem awake_true (w : World) : Calls Tryd.prog 4 #[] w fun e w' => e = .returned (.bool true) ∧ Below w.heap.size w w' := by
  have hn := new_any 9 (by decide) w
  have hl1 := fun W hW hP => leaf_any w.heap.size 1 (newS 9) (fun b => w.heap.size ≤ b) W hW hP (by decide) (by decide)
  have hl2 := fun W hW hP => leaf_any w.heap.size 1 (leafS (newS 9) 1) (fun b => w.heap.size ≤ b) W hW hP (by decide) (by decide)
  rw [S1_leaf] at hl1
  rw [S1_again] at hl2
  have hm := fun W hW => most_any w.heap.size (leafS (newS 9) 1) (fun b => w.heap.size ≤ b) W hW
  have hle := fun W hW => len_any w.heap.size (leafS (newS 9) 1) (fun b => w.heap.size ≤ b) W hW (by decide)
  have hlv := fun W hW => level_any w.heap.size 0 (leafS (newS 9) 1) (fun b => w.heap.size ≤ b) W hW (by decide) (by decide)
  rw [show (64 : Int) + (leafS (newS 9) 1).more = 64 from rfl] at hm
  rw [show (((leafS (newS 9) 1).N.length + 1 : Nat) : Int) = 2 from rfl] at hle
  rw [show levelOf (leafS (newS 9) 1).N 0 = 2 from rfl] at hlv
  unfold errV at hl1 hl2
  dsimp only at hl1 hl2
  generalize leafS (newS 9) 1 = S1 at *
  go_enter Tryd.func4, Tryd.ntmps4
  go_wp2_with fail
  refine hn.mono ?_
  rintro e w1 ⟨rfl, h1, hb1⟩
  have h1 := h1.weak (P' := fun b => w.heap.size ≤ b) (fun b hb _ => by omega)
  clear hn
  go_wp2_with fail
  refine (hl1 _ h1 (fun b hb => Nat.le_trans hb1.size hb)).mono ?_
  rintro e w2 ⟨rfl, h2, o2⟩
  have hb2 := hb1.trans (o2.below hb1.size (fun b hb => hb))
  clear hl1 o2 h1 hb1
  go_wp2_with fail
  refine (hl2 _ h2 (fun b hb => Nat.le_trans hb2.size hb)).mono ?_
  rintro e w3 ⟨rfl, h3, o3⟩
  have hb3 := hb2.trans (o3.below hb2.size (fun b hb => hb))
  clear hl2 o3 h2 hb2
  go_wp2_with fail
  refine (hm _ h3).mono ?_
  rintro e w' ⟨rfl, rfl⟩
  go_wp2_with fail
  refine (hle _ h3).mono ?_
  rintro e w' ⟨rfl, rfl⟩
  go_wp2_with fail
  refine (hlv _ h3).mono ?_
  rintro e w4 ⟨rfl, hb4⟩
  have hb5 := hb3.trans (hb4.mono hb3.size)
  go_wp2
  go_ret
  exact ⟨rfl, hb5⟩
end Go.Proofs.YtmibdbgoknbchaaDoor.Ar
