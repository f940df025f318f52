/- Contracts of package site: inside, place, State, Put. -/
import Derived.Test.YtnabbeconabbnaaDoorBs
import Derived.Test.YtnabbeconabbnaaDoorSiM
namespace Go.Proofs.YtnabbeconabbnaaDoor.Si
open Go.RowKit Go.Proofs.YtnabbeconabbnaaDoor.Ba

theorem ret_int {k : IntKind} {a b : Int} (h : a = b) : Ending.returned (.int k a) = .returned (.int k b) := by rw [h]
def inQ (a b : Int) : Bool := decide (0 ≤ a ∧ a < 4 ∧ 0 ≤ b ∧ b < 4)
theorem inside_any (a b : Int) (w : World) :
    Calls Tryd.prog 25 #[.int .i64 a, .int .i64 b] w fun e w' => e = .returned (.bool (inQ a b)) ∧ w = w' := by
  have HQ := Lib.hid (show inQ a b = (decide (0 ≤ a) && (decide (a < 4) && (decide (0 ≤ b) && decide (b < 4)))) by unfold inQ; simp)
  by_cases h1 : 0 ≤ a <;> by_cases h2 : a < 4 <;> by_cases h3 : 0 ≤ b <;> by_cases h4 : b < 4
  all_goals
    have HV := HQ.out
    simp only [h1, h2, h3, h4, decide_true, decide_false, Bool.and_true, Bool.and_false] at HV
    have HV' := Lib.hid HV
    clear HV
    go_enter Tryd.func25, Tryd.ntmps25
    go_wp2
    go_ret
    rw [HV'.out]
    exact ⟨rfl, rfl⟩
theorem place_any (a b p : Nat) (ha : a < 4) (hb : b < 4) (hp : p = 2 * (4 * b + a)) (w : World) :
    Calls Tryd.prog 26 #[.int .i64 a, .int .i64 b] w fun e w' => e = .returned (.int .u64 p) ∧ w = w' := by
  go_enter Tryd.func26, Tryd.ntmps26
  go_wp2
  go_ret
  exact ⟨ret_int (by omega), rfl⟩
/-- State, of a point in the leaf; of another one. -/
theorem state_in (f a b k : Nat) (ha : a < 4) (hb : b < 4) (hf : f < 4294967296) (hk : k = 4 * b + a) (w : World) :
    Calls Tryd.prog 9 #[.int .u32 f, .int .i64 a, .int .i64 b] w fun e w' => e = .returned (.int .i64 (st f k)) ∧ w = w' := by
  obtain ⟨p, hp⟩ : ∃ p : Nat, p = 2 * (4 * b + a) := ⟨_, rfl⟩
  have HP := Lib.hid hp
  have hq : inQ a b = true := by unfold inQ; simp; omega
  have hpl := fun W => place_any a b p ha hb hp W
  have hi := fun W => inside_any (a : Int) b W
  rw [hq] at hi
  have hs := u32_shr f p hf
  have hlt : p < 32 := by omega
  clear hp hq
  go_enter Tryd.func9, Tryd.ntmps9
  go_wp2_with fail
  refine (hi _).mono ?_
  rintro e w' ⟨rfl, rfl⟩
  go_wp2_with fail
  refine (hpl _).mono ?_
  rintro e w' ⟨rfl, rfl⟩
  go_wp2
  go_ret
  exact ⟨ret_int (by subst hk; unfold st; rw [← HP.out]; simp), rfl⟩
theorem put_in (f a b k s : Nat) (ss : Int) (ha : a < 4) (hb : b < 4) (hf : f < 4294967296) (hk : k = 4 * b + a) (hs : ss % 4 = (s : Int)) (w : World) :
    Calls Tryd.prog 8 #[.int .u32 f, .int .i64 a, .int .i64 b, .int .i64 ss] w fun e w' => e = .returned (.int .u32 (pt f k s)) ∧ w = w' := by
  obtain ⟨p, hp⟩ : ∃ p : Nat, p = 2 * (4 * b + a) := ⟨_, rfl⟩
  have HP := Lib.hid hp
  have hq : inQ a b = true := by unfold inQ; simp; omega
  have hpl := fun W => place_any a b p ha hb hp W
  have hi := fun W => inside_any (a : Int) b W
  rw [hq] at hi
  have hlt : p < 32 := by omega
  have h3 := i64_and3 ss
  rw [hs] at h3
  have hs4 : s < 4 := by omega
  clear hp hq hs
  go_enter Tryd.func8, Tryd.ntmps8
  go_wp2_with fail
  refine (hi _).mono ?_
  rintro e w' ⟨rfl, rfl⟩
  go_wp2_with fail
  refine (hpl _).mono ?_
  rintro e w' ⟨rfl, rfl⟩
  go_wp2_with fail
  refine (hpl _).mono ?_
  rintro e w' ⟨rfl, rfl⟩
  go_wp2
  go_ret
  exact ⟨ret_int (put_math f p s k hf hs4 (by omega) (by rw [HP.out, hk])), rfl⟩
/-- The same, at ints. -/
theorem state_at (f k : Nat) (a b : Int) (hf : f < 4294967296) (ha : 0 ≤ a ∧ a < 4) (hb : 0 ≤ b ∧ b < 4) (hk : (k : Int) = 4 * b + a) (w : World) :
    Calls Tryd.prog 9 #[.int .u32 f, .int .i64 a, .int .i64 b] w fun e w' => e = .returned (.int .i64 (st f k)) ∧ w = w' := by
  obtain ⟨a', rfl⟩ := Int.eq_ofNat_of_zero_le ha.1
  obtain ⟨b', rfl⟩ := Int.eq_ofNat_of_zero_le hb.1
  exact state_in f a' b' k (by omega) (by omega) hf (by omega) w
theorem put_at (f k s : Nat) (a b ss : Int) (hf : f < 4294967296) (ha : 0 ≤ a ∧ a < 4) (hb : 0 ≤ b ∧ b < 4) (hk : (k : Int) = 4 * b + a) (hs : ss % 4 = (s : Int)) (w : World) :
    Calls Tryd.prog 8 #[.int .u32 f, .int .i64 a, .int .i64 b, .int .i64 ss] w fun e w' => e = .returned (.int .u32 (pt f k s)) ∧ w = w' := by
  obtain ⟨a', rfl⟩ := Int.eq_ofNat_of_zero_le ha.1
  obtain ⟨b', rfl⟩ := Int.eq_ofNat_of_zero_le hb.1
  exact put_in f a' b' k s ss (by omega) (by omega) hf (by omega) hs w
theorem state_out (f a b : Int) (h : ¬ (0 ≤ a ∧ a < 4 ∧ 0 ≤ b ∧ b < 4)) (w : World) :
    Calls Tryd.prog 9 #[.int .u32 f, .int .i64 a, .int .i64 b] w fun e w' => e = .returned (.int .i64 0) ∧ w = w' := by
  have hi := fun W => inside_any a b W
  rw [show inQ a b = false by unfold inQ; simpa using h] at hi
  clear h
  go_enter Tryd.func9, Tryd.ntmps9
  go_wp2_with fail
  refine (hi _).mono ?_
  rintro e w' ⟨rfl, rfl⟩
  go_wp2
  go_ret
  exact ⟨rfl, rfl⟩
theorem put_out (f a b s : Int) (h : ¬ (0 ≤ a ∧ a < 4 ∧ 0 ≤ b ∧ b < 4)) (w : World) :
    Calls Tryd.prog 8 #[.int .u32 f, .int .i64 a, .int .i64 b, .int .i64 s] w fun e w' => e = .returned (.int .u32 f) ∧ w = w' := by
  have hi := fun W => inside_any a b W
  rw [show inQ a b = false by unfold inQ; simpa using h] at hi
  clear h
  go_enter Tryd.func8, Tryd.ntmps8
  go_wp2_with fail
  refine (hi _).mono ?_
  rintro e w' ⟨rfl, rfl⟩
  go_wp2
  go_ret
  exact ⟨rfl, rfl⟩
end Go.Proofs.YtnabbeconabbnaaDoor.Si
