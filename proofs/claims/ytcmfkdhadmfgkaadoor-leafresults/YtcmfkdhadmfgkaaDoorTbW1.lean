/- Contracts: bits.OnesCount at a ring, table.turned, letterOfTwo, letterOfThree, letter, Ring. -/
import Derived.Test.YtcmfkdhadmfgkaaDoorBs
import Derived.Test.YtcmfkdhadmfgkaaDoorTbM
namespace Go.Proofs.YtcmfkdhadmfgkaaDoor.Tb
open Go.RowKit Go.Proofs.YtcmfkdhadmfgkaaDoor.Ba

theorem ret_int {k : IntKind} {a b : Int} (h : a = b) : Ending.returned (.int k a) = .returned (.int k b) := by rw [h]
def pc1 (x : Int) : Int := IntKind.u64.wrap (bits .and .u64 (x / 2) 6148914691236517205 + bits .and .u64 x 6148914691236517205)
def pc2 (x : Int) : Int := IntKind.u64.wrap (bits .and .u64 (x / 4) 3689348814741910323 + bits .and .u64 x 3689348814741910323)
def pc3 (x : Int) : Int := bits .and .u64 (IntKind.u64.wrap (x / 16 + x)) 1085102592571150095
def pc4 (x : Int) : Int := IntKind.u64.wrap (x + x / 256)
def pc5 (x : Int) : Int := IntKind.u64.wrap (x + x / 65536)
def pc6 (x : Int) : Int := IntKind.u64.wrap (x + x / 4294967296)
def pc7 (x : Int) : Int := bits .and .i64 (wrap64 x) 127
theorem pc_fin : ∀ n : Fin 64, pc7 (pc6 (pc5 (pc4 (pc3 (pc2 (pc1 (n.val : Int))))))) = (oc n.val : Int) := by decide +kernel
theorem tn1_fin : ∀ n : Fin 64, bits .and .u64 (bits .or .u64 ((n.val : Int) * 2) ((n.val : Int) / 32)) 63 = (tnd n.val 1 : Int) := by decide +kernel
theorem tn2_fin : ∀ n : Fin 64, bits .and .u64 (bits .or .u64 ((n.val : Int) * 4) ((n.val : Int) / 16)) 63 = (tnd n.val 2 : Int) := by decide +kernel
theorem tnd_lt (n p : Nat) : tnd n p < 64 := Nat.mod_lt _ (by decide)
end Go.Proofs.YtcmfkdhadmfgkaaDoor.Tb
