/- Contracts for TableChecks: which neighbourhoods there are; may a table be. -/
import Derived.Test.YtcmfkdhadmfgkaaDoorTbW6
import Derived.Test.YtcmfkdhadmfgkaaDoorFtAs
namespace Go.Proofs.YtcmfkdhadmfgkaaDoor.Tb
open Go.RowKit Go.Proofs.YtcmfkdhadmfgkaaDoor.Ba

/-- The neighbourhoods that cells of a half may have, as bits. -/
def nbv (l h : Nat) : Nat := if l = 1 then (if h = 0 then 18446744073709551615 else 0) else if l = 2 then 15 else 8191
set_option maxHeartbeats 1000000 in
theorem nb_any (l h : Nat) (hl : l = 1 ∨ l = 2 ∨ l = 3) (hh : h = 0 ∨ h = 1) (w : World) :
    Calls Tryd.prog 68 #[.int .i64 l, .int .i64 h] w fun e w' => e = .returned (.int .u64 (nbv l h)) ∧ w = w' := by
  rcases hl with rfl | rfl | rfl
  all_goals
    rcases hh with rfl | rfl
    all_goals
      go_enter Tryd.func68, Tryd.ntmps68
      go_wp2
      go_ret
      exact ⟨rfl, rfl⟩
theorem u64_andNot (a b : Nat) (ha : a < 2 ^ 64) (hb : b < 2 ^ 64) : bits .andNot .u64 a b = ((a &&& (2 ^ 64 - 1 - b) : Nat) : Int) := by
  show IntKind.u64.wrap ((BitVec.ofInt 64 a &&& ~~~ BitVec.ofInt 64 b).toNat : Nat) = _
  rw [BitVec.ofInt_natCast, BitVec.ofInt_natCast, BitVec.toNat_and, BitVec.toNat_not, BitVec.toNat_ofNat, BitVec.toNat_ofNat, Nat.mod_eq_of_lt ha, Nat.mod_eq_of_lt hb]
  exact wrapU _ (Nat.lt_of_le_of_lt Nat.and_le_left ha)
/-- Is something wrong with a half? -/
def wrongH (m b s : Nat) : Bool := b &&& 1 != 0 || ((b ||| s) &&& (2 ^ 64 - 1 - m)) != 0
def wrongT (l b0 b1 s0 s1 : Nat) : Bool := wrongH (nbv l 0) b0 s0 || wrongH (nbv l 1) b1 s1
def errV (n : Int) : Value := if n = 0 then .nilIface else .iface 59 (.int .i64 n)
def chk (L : Int) (b0 b1 s0 s1 : Nat) : Int := if L < 1 ∨ 3 < L then 11 else if wrongT L.toNat b0 b1 s0 s1 = true then 5 else 0
end Go.Proofs.YtcmfkdhadmfgkaaDoor.Tb
