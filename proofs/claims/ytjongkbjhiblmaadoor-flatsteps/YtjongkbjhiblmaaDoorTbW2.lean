/- Contracts: table.Ring, table.Rings, the document's bit. -/
import Derived.Test.YtjongkbjhiblmaaDoorTbW1
namespace Go.Proofs.YtjongkbjhiblmaaDoor.Tb
open Go.RowKit Go.Proofs.YtjongkbjhiblmaaDoor.Ba

abbrev Cl (c l : Int) : Value := .agg #[.int .i64 c, .int .u8 l]
theorem ring_and (n : Int) : bits .and .u64 (IntKind.u64.wrap n) 63 = (((n % 64).toNat : Nat) : Int) := by
  obtain ⟨a, ha, hlt⟩ : ∃ a : Nat, IntKind.u64.wrap n = (a : Int) ∧ a < 2 ^ 64 := ⟨(n % 18446744073709551616).toNat, by rw [IntKind.wrap_u64]; omega, by omega⟩
  rw [ha]
  have h : bits .and .u64 (a : Int) 63 = ((a &&& 63 : Nat) : Int) := u64_and a 63 hlt (by decide)
  rw [h, show (63 : Nat) = 2 ^ 6 - 1 from rfl, Nat.and_two_pow_sub_one_eq_mod]
  rw [IntKind.wrap_u64] at ha
  omega
theorem ring_any (n : Int) (w : World) :
    Calls Tryd.prog 28 #[.int .i64 n] w fun e w' => e = .returned (Cl (oc (n % 64).toNat) (lett (n % 64).toNat)) ∧ Below w.heap.size w w' := by
  have h1 := ring_and n
  have hlt : (n % 64).toNat < 64 := by omega
  generalize (n % 64).toNat = r at *
  go_enter Tryd.func28, Tryd.ntmps28
  go_wp2_with fail
  refine (count_any r hlt _).mono ?_
  rintro e w' ⟨rfl, rfl⟩
  go_wp2_with fail
  refine (letter_any r hlt _).mono ?_
  rintro e w' ⟨rfl, m, rfl⟩
  go_wp2_with fail
  exact bodyPost_ret (v := Cl (oc r) (lett r)) (by simp [results, Tryd.results28, go_sem]) rfl ⟨rfl, by go_grown; exact below_dr _ (by go_grown)⟩
theorem eql_cl (a b c d : Int) (w : World) : (binOp .eql 51 (.agg #[.int .i64 a, .int .u8 b]) (.agg #[.int .i64 c, .int .u8 d])).run Tryd.prog w = .ok (.bool (a == c && b == d)) w := by
  simp [go_sem]
  by_cases h : a = c <;> by_cases h' : b = d <;> simp [h, h']
theorem keep2 {W w' : World} {G : Nat} {t : TypeId} {x y : Value} (k : Blk W G t #[x, y]) (hb : Below W.heap.size W w') : w'.cell? ⟨G, 0, none⟩ = some x ∧ w'.cell? ⟨G, 1, none⟩ = some y :=
  ⟨(k.under hb).cell 0, (k.under hb).cell 1⟩
theorem or_sh (R k : Nat) (hR : R < 2 ^ 64) (hk : k < 64) : bits .or .u64 (R : Int) (IntKind.u64.wrap (2 ^ k)) = ((R ||| 2 ^ k : Nat) : Int) := by
  have h2 : 2 ^ k < 2 ^ 64 := Nat.pow_lt_pow_right (by decide) hk
  have e : ((2 : Int) ^ k) = ((2 ^ k : Nat) : Int) := by simp
  rw [e, wrapU _ h2]
  exact u64_or R (2 ^ k) hR h2
def RgRel (w : World) (c l : Int) (v i : Value) (wr : World) : Prop :=
  ∃ k : Nat, k ≤ 64 ∧ i = .int .i64 k ∧ v = .int .u64 (ringsTo c l k) ∧ Below w.heap.size w wr ∧ Blk wr w.heap.size 51 #[.int .i64 c, .int .u8 l]
set_option maxHeartbeats 4000000 in
theorem rings_any (c l : Int) (w : World) :
    Calls Tryd.prog 14 #[Cl c l] w fun e w' => e = .returned (.int .u64 (ringsTo c l 64)) ∧ Below w.heap.size w w' := by
  have ec := eql_cl
  go_enter Tryd.func14, Tryd.ntmps14
  go_wp2_with fail
  go_loopw [3, 5] (fun v i wr => RgRel w c l v i wr) (fun _ i _ => 64 - (intOf i).toNat)
  case atStart => exact ⟨0, by omega, rfl, rfl, by go_grown, Blk.newAt _ _ _ _ rfl⟩
  case round =>
    obtain ⟨k, hk, rfl, rfl, hb0, kc⟩ := hrel
    have hz := hb0.size
    have hkl := kc.lt
    by_cases hlt : k < 64
    · have hr := ring_any (k : Int)
      rw [show ((k : Int) % 64).toNat = k by omega] at hr
      have hkb : Below wr.heap.size wr wr := Below.refl _ _
      have HS := Lib.hid (show ringsTo c l (k + 1) = if ((oc k : Int) == c && (lett k : Int) == l) = true then ringsTo c l k ||| 2 ^ k else ringsTo c l k from rfl)
      have HO := Lib.hid (or_sh (ringsTo c l k) k (Nat.lt_of_lt_of_le (ringsTo_lt c l k) (Nat.pow_le_pow_right (by decide) (by omega))) hlt)
      cases g : ((oc k : Int) == c && (lett k : Int) == l)
      · have HG := Lib.hid g
        go_wp2_with fail
        go_region_held3 (fun w' => w'.cell? ⟨w.heap.size, 0, none⟩ = some (.int .i64 c) ∧ w'.cell? ⟨w.heap.size, 1, none⟩ = some (.int .u8 l)) (first | (refine keep2 kc ?_; go_grown; done)) (first | (go_at_call 28; refine (hr _).mono ?_; rintro e w7 ⟨rfl, hb⟩; have hkb : Below wr.heap.size wr w7 := below_call hb (by go_grown) (by have := hkb.size; first | omega | (simp; done) | (simp; omega)); clear hb))
        all_goals
          go_wp2
          go_roundw
          case rel => exact ⟨k + 1, by omega, by go_num, by rw [HS.out, HG.out]; rfl, hb0.trans (hkb.mono hz), kc.under hkb⟩
          case measure => simp [intOf]; omega
      · have HG := Lib.hid g
        go_wp2_with fail
        go_region_held3 (fun w' => w'.cell? ⟨w.heap.size, 0, none⟩ = some (.int .i64 c) ∧ w'.cell? ⟨w.heap.size, 1, none⟩ = some (.int .u8 l)) (first | (refine keep2 kc ?_; go_grown; done)) (first | (go_at_call 28; refine (hr _).mono ?_; rintro e w7 ⟨rfl, hb⟩; have hkb : Below wr.heap.size wr w7 := below_call hb (by go_grown) (by have := hkb.size; first | omega | (simp; done) | (simp; omega)); clear hb))
        all_goals
          go_wp2
          go_roundw
          case rel => exact ⟨k + 1, by omega, by go_num, by rw [HS.out, HG.out, HO.out]; rfl, hb0.trans (hkb.mono hz), kc.under hkb⟩
          case measure => simp [intOf]; omega
    · obtain rfl : k = 64 := by omega
      go_wp2
      go_ret
      exact ⟨rfl, hb0⟩
theorem pow_half (x k : Nat) : ((x / 2 ^ k : Nat) : Int) / 2 = ((x / 2 ^ (k + 1) : Nat) : Int) := by
  rw [Nat.pow_succ, ← Nat.div_div_eq_div_mul]
  omega
theorem bit_any (x n : Nat) (hx : x < 2 ^ 64) (hn : n ≤ 64) (w : World) :
    Calls Tryd.prog 38 #[.int .u64 x, .int .i64 n] w fun e w' => e = .returned (.int .i64 ((x / 2 ^ n % 2 : Nat) : Int)) ∧ w = w' := by
  go_enter Tryd.func38, Tryd.ntmps38
  go_wp2
  go_loop [0, 5] (fun v i => ∃ k : Nat, k ≤ n ∧ i = .int .i64 k ∧ v = .int .u64 ((x / 2 ^ k : Nat) : Int)) (fun _ i => n - (intOf i).toNat)
  case atStart => exact ⟨0, by omega, rfl, by simp⟩
  case round =>
    obtain ⟨k, hk, rfl, rfl⟩ := hrel
    have HP := Lib.hid (pow_half x k)
    by_cases hlt : k < n
    · have hle : x / 2 ^ k ≤ x := Nat.div_le_self _ _
      generalize x / 2 ^ k = y at *
      go_wp2
      go_round
      case rel => exact ⟨k + 1, by omega, by go_num, by rw [HP.out]⟩
      case measure => simp [intOf]; omega
    · obtain rfl : n = k := by omega
      have hle : x / 2 ^ n ≤ x := Nat.div_le_self _ _
      have HW := Lib.hid (show wrap64 (((x / 2 ^ n : Nat) : Int) % 2) = ((x / 2 ^ n % 2 : Nat) : Int) by generalize x / 2 ^ n = y at *; unfold wrap64; omega)
      go_wp2
      go_ret
      exact ⟨ret_int HW.out, rfl⟩
end Go.Proofs.YtjongkbjhiblmaaDoor.Tb
