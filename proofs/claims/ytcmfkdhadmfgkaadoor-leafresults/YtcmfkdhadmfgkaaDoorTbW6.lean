/- Contracts: what becomes of a cell (Next); the law's Own and Some. -/
import Derived.Test.YtcmfkdhadmfgkaaDoorTbW2
namespace Go.Proofs.YtcmfkdhadmfgkaaDoor.Tb
open Go.RowKit Go.Proofs.YtcmfkdhadmfgkaaDoor.Ba

abbrev Tab (l : Int) (b0 b1 s0 s1 : Nat) : Value := .agg #[.int .i64 l, .int .u64 b0, .int .u64 b1, .int .u64 s0, .int .u64 s1]
theorem shr_bit (R i : Nat) (hR : R < 2 ^ 64) (b : Bool) (h : R.testBit i = b) : bits .and .u64 ((R : Int) / 2 ^ i) 1 = if b then 1 else 0 := by
  have e : ((R : Int) / 2 ^ i) = ((R / 2 ^ i : Nat) : Int) := by simp
  have hle : R / 2 ^ i < 2 ^ 64 := Nat.lt_of_le_of_lt (Nat.div_le_self _ _) hR
  have h2 : bits .and .u64 ((R / 2 ^ i : Nat) : Int) 1 = ((R / 2 ^ i &&& 1 : Nat) : Int) := u64_and _ 1 hle (by decide)
  rw [e, h2, Nat.and_one_is_mod]
  rw [Nat.testBit_eq_decide_div_mod_eq] at h
  subst h
  by_cases h1 : R / 2 ^ i % 2 = 1
  · simp [h1]
  · have h0 : R / 2 ^ i % 2 = 0 := by omega
    simp [h0]
/-- The numbers that a half's cells go by, those that live or those that don't. -/
def sel (b0 b1 s0 s1 : Nat) (half : Nat) (live : Bool) : Nat := if live then (if half = 0 then s0 else s1) else (if half = 0 then b0 else b1)
theorem sel_lt {b0 b1 s0 s1 : Nat} (h0 : b0 < 2 ^ 64) (h1 : b1 < 2 ^ 64) (h2 : s0 < 2 ^ 64) (h3 : s1 < 2 ^ 64) (half : Nat) (live : Bool) : sel b0 b1 s0 s1 half live < 2 ^ 64 := by
  unfold sel; split <;> split <;> assumption
theorem own_any (l : Int) (b0 b1 s0 s1 : Nat) (w : World) :
    Calls Tryd.prog 19 #[Tab l b0 b1 s0 s1] w fun e w' => e = .returned (Tab l b0 b1 s0 s1) ∧ Below w.heap.size w w' := by
  go_enter Tryd.func19, Tryd.ntmps19
  go_wp2
  exact bodyPost_ret (v := Tab l b0 b1 s0 s1) (by simp [results, Tryd.results19, go_sem]) rfl ⟨rfl, by go_grown⟩
end Go.Proofs.YtcmfkdhadmfgkaaDoor.Tb
