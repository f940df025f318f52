/- Tables that may be, sets that may be: what is asked of them. -/
import Derived.Test.YtcmfkdhadmfgkaaDoorFlM
import Derived.Test.YtcmfkdhadmfgkaaDoorTbW6
import Derived.Test.YtcmfkdhadmfgkaaDoorTbC1
namespace Go.Proofs.YtcmfkdhadmfgkaaDoor.Fl
open Go.RowKit
open Go.Proofs.YtcmfkdhadmfgkaaDoor.Se (Rising)
open Go.Proofs.YtcmfkdhadmfgkaaDoor.Tb (Tab sel wrongT)

/-- What a table says. -/
def nxT (b0 b1 s0 s1 : Nat) (h : Int) (live : Bool) (n : Nat) : Bool := (sel b0 b1 s0 s1 h.toNat live).testBit n
abbrev TabC (l : Int) (b0 b1 s0 s1 : Nat) : Array Value := #[.int .i64 l, .int .u64 b0, .int .u64 b1, .int .u64 s0, .int .u64 s1]
/-- A table that may be, and of what it is not nothing is born of nothing. -/
theorem bare_of {l b0 b1 s0 s1 : Nat} (h : wrongT l b0 b1 s0 s1 = false) : Bare (nxT b0 b1 s0 s1) := by
  intro x
  unfold wrongT Tb.wrongH at h
  simp only [Bool.or_eq_false_iff] at h
  obtain ⟨⟨h1, _⟩, h2, _⟩ := h
  have e : ∀ b : Nat, (b &&& 1 != 0) = false → b.testBit 0 = false := fun b hb => by
    rw [Nat.and_one_is_mod] at hb
    rw [Nat.testBit_zero]
    simp at hb ⊢
    omega
  unfold nxT sel
  simp only [Bool.false_eq_true, if_false]
  split
  · exact e _ h1
  · exact e _ h2
/-- What is asked of a table, and of a set. -/
structure Good (l b0 b1 s0 s1 : Nat) : Prop where
  lat : l = 1 ∨ l = 2 ∨ l = 3
  h0 : b0 < 2 ^ 64
  h1 : b1 < 2 ^ 64
  h2 : s0 < 2 ^ 64
  h3 : s1 < 2 ^ 64
  ok : wrongT l b0 b1 s0 s1 = false
theorem Good.latI {l b0 b1 s0 s1 : Nat} (h : Good l b0 b1 s0 s1) : (l : Int) = 1 ∨ (l : Int) = 2 ∨ (l : Int) = 3 := by have := h.lat; omega
structure GoodS (l : Nat) (S : List C) : Prop where
  rising : Rising S
  val : ∀ c ∈ S, valid l c
  near : ∀ c ∈ S, (-2000000 ≤ c.1 ∧ c.1 ≤ 2000000) ∧ (-2000000 ≤ c.2.1 ∧ c.2.1 ≤ 2000000)
  len : S.length ≤ 71000
theorem rising_nodup {L : List C} (h : Rising L) : L.Nodup := by
  unfold Rising at h
  unfold List.Nodup
  refine h.imp ?_
  intro a b hab e
  subst e
  rw [Se.lt_irrefl] at hab
  cases hab
end Go.Proofs.YtcmfkdhadmfgkaaDoor.Fl
