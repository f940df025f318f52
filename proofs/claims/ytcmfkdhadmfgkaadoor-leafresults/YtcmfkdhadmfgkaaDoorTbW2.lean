/- Contracts: table.Ring, table.Rings, the document's bit. -/
import Derived.Test.YtcmfkdhadmfgkaaDoorTbW1
namespace Go.Proofs.YtcmfkdhadmfgkaaDoor.Tb
open Go.RowKit Go.Proofs.YtcmfkdhadmfgkaaDoor.Ba

abbrev Cl (c l : Int) : Value := .agg #[.int .i64 c, .int .u8 l]
theorem ring_and (n : Int) : bits .and .u64 (IntKind.u64.wrap n) 63 = (((n % 64).toNat : Nat) : Int) := by
  obtain ⟨a, ha, hlt⟩ : ∃ a : Nat, IntKind.u64.wrap n = (a : Int) ∧ a < 2 ^ 64 := ⟨(n % 18446744073709551616).toNat, by rw [IntKind.wrap_u64]; omega, by omega⟩
  rw [ha]
  have h : bits .and .u64 (a : Int) 63 = ((a &&& 63 : Nat) : Int) := u64_and a 63 hlt (by decide)
  rw [h, show (63 : Nat) = 2 ^ 6 - 1 from rfl, Nat.and_two_pow_sub_one_eq_mod]
  rw [IntKind.wrap_u64] at ha
  omega
theorem keep2 {W w' : World} {G : Nat} {t : TypeId} {x y : Value} (k : Blk W G t #[x, y]) (hb : Below W.heap.size W w') : w'.cell? ⟨G, 0, none⟩ = some x ∧ w'.cell? ⟨G, 1, none⟩ = some y :=
  ⟨(k.under hb).cell 0, (k.under hb).cell 1⟩
theorem or_sh (R k : Nat) (hR : R < 2 ^ 64) (hk : k < 64) : bits .or .u64 (R : Int) (IntKind.u64.wrap (2 ^ k)) = ((R ||| 2 ^ k : Nat) : Int) := by
  have h2 : 2 ^ k < 2 ^ 64 := Nat.pow_lt_pow_right (by decide) hk
  have e : ((2 : Int) ^ k) = ((2 ^ k : Nat) : Int) := by simp
  rw [e, wrapU _ h2]
  exact u64_or R (2 ^ k) hR h2
theorem pow_half (x k : Nat) : ((x / 2 ^ k : Nat) : Int) / 2 = ((x / 2 ^ (k + 1) : Nat) : Int) := by
  rw [Nat.pow_succ, ← Nat.div_div_eq_div_mul]
  omega
theorem bit_any (x n : Nat) (hx : x < 2 ^ 64) (hn : n ≤ 64) (w : World) :
    Calls Tryd.prog 53 #[.int .u64 x, .int .i64 n] w fun e w' => e = .returned (.int .i64 ((x / 2 ^ n % 2 : Nat) : Int)) ∧ w = w' := by
  go_enter Tryd.func53, Tryd.ntmps53
  go_wp2
  go_loop [0, 5] (fun v i => ∃ k : Nat, k ≤ n ∧ i = .int .i64 k ∧ v = .int .u64 ((x / 2 ^ k : Nat) : Int)) (fun _ i => n - (intOf i).toNat)
  case atStart => exact ⟨0, by omega, rfl, by simp⟩
  case round =>
    obtain ⟨k, hk, rfl, rfl⟩ := hrel
    have HP := Lib.hid (pow_half x k)
    by_cases hlt : k < n
    · have hle : x / 2 ^ k ≤ x := Nat.div_le_self _ _
      generalize x / 2 ^ k = y at *
      go_wp2
      go_round
      case rel => exact ⟨k + 1, by omega, by go_num, by rw [HP.out]⟩
      case measure => simp [intOf]; omega
    · obtain rfl : n = k := by omega
      have hle : x / 2 ^ n ≤ x := Nat.div_le_self _ _
      have HW := Lib.hid (show wrap64 (((x / 2 ^ n : Nat) : Int) % 2) = ((x / 2 ^ n % 2 : Nat) : Int) by generalize x / 2 ^ n = y at *; unfold wrap64; omega)
      go_wp2
      go_ret
      exact ⟨ret_int HW.out, rfl⟩
end Go.Proofs.YtcmfkdhadmfgkaaDoor.Tb
