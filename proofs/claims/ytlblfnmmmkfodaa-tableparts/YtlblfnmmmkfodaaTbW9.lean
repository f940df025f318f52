/- The law's Some: a table, whatever it was made of. -/
import Derived.Test.YtlblfnmmmkfodaaTbW7
namespace Go.Proofs.Ytlblfnmmmkfodaa.Tb
open Go.RowKit Go.Proofs.Ytlblfnmmmkfodaa.Ba

def SomeT (w : World) (e : Ending) (w' : World) : Prop :=
  ∃ (l : Int) (b0 b1 s0 s1 : Nat), b0 < 2 ^ 64 ∧ b1 < 2 ^ 64 ∧ s0 < 2 ^ 64 ∧ s1 < 2 ^ 64 ∧ e = .returned (Tab l b0 b1 s0 s1) ∧ Below w.heap.size w w'
theorem and_lt64 (a b : Nat) (h : a < 2 ^ 64) : a &&& b < 2 ^ 64 := Nat.lt_of_le_of_lt Nat.and_le_left h
theorem some_any (L : Int) (b0 b1 s0 s1 : Nat) (h0 : b0 < 2 ^ 64) (h1 : b1 < 2 ^ 64) (h2 : s0 < 2 ^ 64) (h3 : s1 < 2 ^ 64) (w : World) :
    Calls Try.prog 11 #[Tab L b0 b1 s0 s1] w (SomeT w) := by
  have h : L % 256 % 3 = 0 ∨ L % 256 % 3 = 1 ∨ L % 256 % 3 = 2 := by omega
  rcases h with h | h | h
  · exact (some1 L h b0 b1 s0 s1 h0 h1 h2 h3 w).mono fun e w' ⟨he, hb⟩ => ⟨_, _, _, _, _, and_lt64 _ _ h0, by decide, and_lt64 _ _ h2, by decide, he, hb⟩
  · exact (some2 L h b0 b1 s0 s1 h0 h1 h2 h3 w).mono fun e w' ⟨he, hb⟩ => ⟨_, _, _, _, _, and_lt64 _ _ h0, and_lt64 _ _ h1, and_lt64 _ _ h2, and_lt64 _ _ h3, he, hb⟩
  · exact (some3 L h b0 b1 s0 s1 h0 h1 h2 h3 w).mono fun e w' ⟨he, hb⟩ => ⟨_, _, _, _, _, and_lt64 _ _ h0, and_lt64 _ _ h1, and_lt64 _ _ h2, and_lt64 _ _ h3, he, hb⟩
end Go.Proofs.Ytlblfnmmmkfodaa.Tb
