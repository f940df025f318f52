/- Contracts for TableChecks: the law's Told; the document's Check and Next. -/
import Derived.Test.YtcmfkdhadmfgkaaDoorTbC2
namespace Go.Proofs.YtcmfkdhadmfgkaaDoor.Tb
open Go.RowKit Go.Proofs.YtcmfkdhadmfgkaaDoor.Ba

/-- The document's table over a block that holds the program's. -/
abbrev RT (L : Int) (g : Nat) : Value := .agg #[.int .i64 L, .slice (some ⟨g, 1, none⟩) 2 2, .slice (some ⟨g, 3, none⟩) 2 2]
def ToldPost (L : Int) (b0 b1 s0 s1 : Nat) (w : World) (e : Ending) (w' : World) : Prop :=
  e = .returned (RT L w.heap.size) ∧ Blk w' w.heap.size 47 #[.int .i64 L, .int .u64 b0, .int .u64 b1, .int .u64 s0, .int .u64 s1] ∧ Below w.heap.size w w'
set_option maxHeartbeats 1000000 in
theorem told_any (L : Int) (b0 b1 s0 s1 : Nat) (w : World) :
    Calls Tryd.prog 22 #[Tab L b0 b1 s0 s1] w (ToldPost L b0 b1 s0 s1 w) := by
  go_enter Tryd.func22, Tryd.ntmps22
  go_wp2
  go_region
  go_wp2
  exact bodyPost_ret (v := RT L w.heap.size) (by simp [results, Tryd.results22, go_sem]) rfl ⟨rfl, (Blk.newAt w _ _ _ rfl).alloc _, below_dr 1 (by go_grown)⟩
theorem refcheck_no (L : Int) (h : L < 1 ∨ 3 < L) (g : Nat) (w : World) :
    Calls Tryd.prog 21 #[RT L g] w fun e w' => e = .returned (.int .i64 11) ∧ Below w.heap.size w w' := by
  by_cases h1 : L < 1
  · clear h
    go_enter Tryd.func21, Tryd.ntmps21
    go_wp2
    go_ret
    exact ⟨rfl, by go_grown⟩
  · have h2 : decide (L < 1) = false := by simp; omega
    have h3 : 3 < L := by omega
    clear h h1
    go_enter Tryd.func21, Tryd.ntmps21
    go_wp2
    go_ret
    exact ⟨rfl, by go_grown⟩
/-- The document's words of one neighbourhood of a half. -/
def badAt (m b s n : Nat) : Bool := (bitB b n && (!m.testBit n || n == 0)) || (bitB s n && !m.testBit n)
theorem bad_wrong (m b s n : Nat) (hm : m < 2 ^ 64) (hn : n < 64) (h : badAt m b s n = true) : wrongH m b s = true := by
  have hc : (2 ^ 64 - 1 - m).testBit n = !m.testBit n := by
    rw [show 2 ^ 64 - 1 - m = 2 ^ 64 - (m + 1) by omega, Nat.testBit_two_pow_sub_succ hm, decide_eq_true hn, Bool.true_and]
  unfold badAt at h
  rw [bitB_test, bitB_test] at h
  unfold wrongH
  by_cases h0 : b &&& 1 = 0
  · have hb0 : b.testBit 0 = false := by rw [Nat.testBit_zero, ← Nat.and_one_is_mod, h0]; rfl
    have hx : ((b ||| s) &&& (2 ^ 64 - 1 - m)).testBit n = true := by
      rw [Nat.testBit_and, Nat.testBit_or, hc]
      by_cases hn0 : n = 0
      · subst hn0; rw [hb0] at h ⊢; simpa using h
      · have : (n == 0) = false := by simp [hn0]
        rw [this] at h
        revert h
        cases b.testBit n <;> cases s.testBit n <;> cases m.testBit n <;> decide
    have hne : (b ||| s) &&& (2 ^ 64 - 1 - m) ≠ 0 := fun e => by rw [e] at hx; simp at hx
    simp [hne]
  · have e : (b &&& 1 != 0) = true := by simpa using h0
    rw [e]; rfl
theorem fine_wrong (m b s : Nat) (hm : m < 2 ^ 64) (hb : b < 2 ^ 64) (hs : s < 2 ^ 64) (h : ∀ n, n < 64 → badAt m b s n = false) : wrongH m b s = false := by
  unfold wrongH
  have h0 : b &&& 1 = 0 := by
    have := h 0 (by decide)
    unfold badAt at this
    rw [bitB_test, bitB_test, Nat.testBit_zero] at this
    rw [Nat.and_one_is_mod]
    simp at this
    omega
  have h1 : (b ||| s) &&& (2 ^ 64 - 1 - m) = 0 := by
    apply Nat.eq_of_testBit_eq
    intro n
    rw [Nat.zero_testBit, Nat.testBit_and, Nat.testBit_or]
    by_cases hn : n < 64
    · have hc : (2 ^ 64 - 1 - m).testBit n = !m.testBit n := by
        rw [show 2 ^ 64 - 1 - m = 2 ^ 64 - (m + 1) by omega, Nat.testBit_two_pow_sub_succ hm, decide_eq_true hn, Bool.true_and]
      have := h n hn
      unfold badAt at this
      rw [bitB_test, bitB_test] at this
      rw [hc]
      revert this
      cases b.testBit n <;> cases s.testBit n <;> cases m.testBit n <;> simp
    · have hp : 2 ^ 64 ≤ 2 ^ n := Nat.pow_le_pow_right (by decide) (by omega)
      rw [Nat.testBit_lt_two_pow (Nat.lt_of_lt_of_le hb hp), Nat.testBit_lt_two_pow (Nat.lt_of_lt_of_le hs hp)]
      rfl
  simp [h0, h1]
/-- The greatest neighbourhood. -/
def mostOf (l : Nat) : Nat := if l = 1 then 63 else if l = 2 then 3 else 12
theorem nbv_bit (l h n : Nat) (hl : l = 1 ∨ l = 2 ∨ l = 3) (hh : h = 0 ∨ h = 1) (hn : n < 64) : (nbv l h).testBit n = (decide (n ≤ mostOf l) && (decide (h = 0) || decide (1 < l))) := by
  rcases hl with rfl | rfl | rfl
  · rcases hh with rfl | rfl
    · rw [show nbv 1 0 = 2 ^ 64 - 1 from rfl, Nat.testBit_two_pow_sub_one]; simp [mostOf]; omega
    · simp [nbv]
  · rw [show nbv 2 h = 2 ^ 4 - 1 by unfold nbv; rfl, Nat.testBit_two_pow_sub_one]
    rcases hh with rfl | rfl <;> simp [mostOf] <;> omega
  · rw [show nbv 3 h = 2 ^ 13 - 1 by unfold nbv; rfl, Nat.testBit_two_pow_sub_one]
    rcases hh with rfl | rfl <;> simp [mostOf] <;> omega
end Go.Proofs.YtcmfkdhadmfgkaaDoor.Tb
