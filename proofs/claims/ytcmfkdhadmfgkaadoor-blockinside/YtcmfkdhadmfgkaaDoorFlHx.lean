/- The neighbourhood of a hexagon, one of the six after the other; the document's Next and ours. -/
import Derived.Test.YtcmfkdhadmfgkaaDoorFlG
import Derived.Test.YtcmfkdhadmfgkaaDoorTbC5
import Derived.Test.YtcmfkdhadmfgkaaDoorCeW13
namespace Go.Proofs.YtcmfkdhadmfgkaaDoor.Fl
open Go.RowKit Go.Proofs.YtcmfkdhadmfgkaaDoor.Ax Go.Lib
open Go.Proofs.YtcmfkdhadmfgkaaDoor.Ce (sh allG besAll sX sY)
open Go.Proofs.YtcmfkdhadmfgkaaDoor.Tb (nextB)

theorem sum_ite (f : C → Nat) (p : C → Bool) : ∀ L : List C, ((L.filter p).map f).sum = (L.map fun e => if p e = true then f e else 0).sum
  | [] => rfl
  | c :: L => by
    rw [List.filter_cons]
    cases h : p c
    · simp [h, sum_ite f p L]
    · simp [h, sum_ite f p L]
/-- The hexagons' ring, the first of them counted. -/
def hexN (S : List C) (a b : Int) : Nat → Nat
  | 0 => 0
  | k + 1 => hexN S a b k + if decide ((a + sX k, b + sY k, (0 : Int)) ∈ S) = true then 2 ^ k else 0
theorem hexN_lt (S : List C) (a b : Int) : ∀ k, hexN S a b k < 2 ^ k
  | 0 => by simp [hexN]
  | k + 1 => by
    have := hexN_lt S a b k
    rw [Nat.pow_succ]
    unfold hexN
    split <;> omega
theorem bes_hex : besAll 1 0 0 0 = [(0, -1, 0), (1, -1, 0), (-1, 0, 0), (1, 0, 0), (-1, 1, 0), (0, 1, 0)] := by decide +kernel
theorem nb_hex (S : List C) (a b : Int) : nbC 1 S (a, b, 0) = hexN S a b 6 := by
  unfold nbC
  rw [besC_at, bes_hex, sum_ite]
  simp only [List.map_cons, List.map_nil, sh, List.sum_cons, List.sum_nil, hexN]
  have e : ∀ x y : Int, shareN 1 (a + x, b + y, 0) (a, b, 0) = 2 ^ sixIx x y := fun x y => by
    unfold shareN
    rw [if_pos rfl, show a + x - a = x by omega, show b + y - b = y by omega]
  rw [e, e, e, e, e, e]
  rw [show sixIx 0 (-1) = 4 by decide, show sixIx 1 (-1) = 5 by decide, show sixIx (-1) 0 = 3 by decide, show sixIx 1 0 = 0 by decide, show sixIx (-1) 1 = 2 by decide, show sixIx 0 1 = 1 by decide]
  rw [show sX 0 = 1 from rfl, show sX 1 = 0 from rfl, show sX 2 = -1 from rfl, show sX 3 = -1 from rfl, show sX 4 = 0 from rfl, show sX 5 = 1 from rfl, show sY 0 = 0 from rfl, show sY 1 = 1 from rfl, show sY 2 = 1 from rfl, show sY 3 = 0 from rfl, show sY 4 = -1 from rfl, show sY 5 = -1 from rfl]
  omega
theorem next_nx {b0 b1 s0 s1 : Nat} {l : Int} {c : C} (hc : valid l c) (live : Bool) {n : Nat} (hn : n < 64) : nextB b0 b1 s0 s1 c.2.2 live (n : Int) = nxT b0 b1 s0 s1 c.2.2 live n := by
  have h0 := hc.1
  have h1 := hc.2
  unfold nextB nxT
  rw [if_neg (by split at h1 <;> omega), show ((n : Int)).toNat = n by omega]
end Go.Proofs.YtcmfkdhadmfgkaaDoor.Fl
