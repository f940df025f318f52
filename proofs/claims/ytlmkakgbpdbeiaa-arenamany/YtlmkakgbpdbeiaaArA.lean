/- The statements of arena: awake. -/
import Derived.Test.YtlmkakgbpdbeiaaArW3
namespace Go.Proofs.Ytlmkakgbpdbeiaa.Ar
open Go.RowKit Go.Proofs.Ytlmkakgbpdbeiaa.Ba Go.Proofs.Ytlmkakgbpdbeiaa.Mp Go.Lib Go.Maps

theorem S1_leaf : leafR (newS 9) 1 = (1, none, leafS (newS 9) 1) := by
  have hf : ¬ full (newS 9) := by decide
  unfold leafR
  rw [if_neg (by decide)]
  show (if full (newS 9) then _ else _) = _
  rw [if_neg hf]
  rfl
theorem S1_again : leafR (leafS (newS 9) 1) 1 = (1, none, leafS (newS 9) 1) := by
  unfold leafR
  rw [if_neg (by decide)]
  simp [leafS, newS]
set_option maxRecDepth 100000 in
theorem awake_true (w : World) : Calls Try.prog 4 #[] w fun e w' => e = .returned (.bool true) ∧ Below w.heap.size w w' := by
  have hn := new_any 9 (by decide) w
  have hl1 := fun W hW hP => leaf_any w.heap.size 1 (newS 9) (fun b => w.heap.size ≤ b) W hW hP (by decide) (by decide)
  have hl2 := fun W hW hP => leaf_any w.heap.size 1 (leafS (newS 9) 1) (fun b => w.heap.size ≤ b) W hW hP (by decide) (by decide)
  rw [S1_leaf] at hl1
  rw [S1_again] at hl2
  have hm := fun W hW => most_any w.heap.size (leafS (newS 9) 1) (fun b => w.heap.size ≤ b) W hW
  have hle := fun W hW => len_any w.heap.size (leafS (newS 9) 1) (fun b => w.heap.size ≤ b) W hW (by decide)
  have hlv := fun W hW => level_any w.heap.size 0 (leafS (newS 9) 1) (fun b => w.heap.size ≤ b) W hW (by decide) (by decide)
  rw [show (64 : Int) + (leafS (newS 9) 1).more = 64 from rfl] at hm
  rw [show (((leafS (newS 9) 1).N.length + 1 : Nat) : Int) = 2 from rfl] at hle
  rw [show levelOf (leafS (newS 9) 1).N 0 = 2 from rfl] at hlv
  unfold errV at hl1 hl2
  dsimp only at hl1 hl2
  generalize leafS (newS 9) 1 = S1 at *
  go_enter Try.func4, Try.ntmps4
  go_wp2_with fail
  refine hn.mono ?_
  rintro e w1 ⟨rfl, h1, hb1⟩
  have h1 := h1.weak (P' := fun b => w.heap.size ≤ b) (fun b hb _ => by omega)
  clear hn
  go_wp2_with fail
  refine (hl1 _ h1 (fun b hb => Nat.le_trans hb1.size hb)).mono ?_
  rintro e w2 ⟨rfl, h2, o2⟩
  have hb2 := hb1.trans (o2.below hb1.size (fun b hb => hb))
  clear hl1 o2 h1 hb1
  go_wp2_with fail
  refine (hl2 _ h2 (fun b hb => Nat.le_trans hb2.size hb)).mono ?_
  rintro e w3 ⟨rfl, h3, o3⟩
  have hb3 := hb2.trans (o3.below hb2.size (fun b hb => hb))
  clear hl2 o3 h2 hb2
  go_wp2_with fail
  refine (hm _ h3).mono ?_
  rintro e w' ⟨rfl, rfl⟩
  go_wp2_with fail
  refine (hle _ h3).mono ?_
  rintro e w' ⟨rfl, rfl⟩
  go_wp2_with fail
  refine (hlv _ h3).mono ?_
  rintro e w4 ⟨rfl, hb4⟩
  have hb5 := hb3.trans (hb4.mono hb3.size)
  go_wp2
  go_ret
  exact ⟨rfl, hb5⟩
end Go.Proofs.Ytlmkakgbpdbeiaa.Ar
