/- A table in the making as the reader reads it, opened to its cells. -/
import Derived.Test.YtcmfkdhadmfgkaaDoorTbW6
import Derived.Test.YtcmfkdhadmfgkaaDoorBsR
import Derived.Deep.Strs
namespace Go.Proofs.YtcmfkdhadmfgkaaDoor.Tb
open Go.RowKit Go.Proofs.YtcmfkdhadmfgkaaDoor.Ba

section
open Go.ChangeShapes Go.WideShapes
theorem trod_array2 {H : Type} {enc : TypeId × Value → H} {P : Program} {w : World} {base : Nat} {spare : Nat → Bool} {held : Bool} {t e : TypeId} {fuel : Nat} {c0 c1 : Value} {x : DataW H × List MemPlace} (ht : P.underlying t = some (.array 2 e)) (hce : P.cellsOf e = 1)
    (h : DataW.trod enc P w base spare held fuel t [c0, c1] = some x) :
    ∃ y0 y1 n, x = (.agg [y0.1, y1.1], y0.2 ++ y1.2) ∧ DataW.trod enc P w base spare held n e [c0] = some y0 ∧ DataW.trod enc P w base spare held n e [c1] = some y1 := by
  cases fuel with
  | zero => simp [DataW.trod] at h
  | succ n =>
    unfold DataW.trod at h
    rw [ht] at h
    have r2 : List.range 2 = [0, 1] := rfl
    simp [r2, hce] at h
    obtain ⟨_, h⟩ := h
    cases h0 : DataW.trod enc P w base spare held n e [c0] with
    | none => simp [h0] at h
    | some y0 =>
      cases h1 : DataW.trod enc P w base spare held n e [c1] with
      | none => simp [h0, h1] at h
      | some y1 =>
        simp [h0, h1] at h
        exact ⟨y0, y1, n, h.symm, h0, h1⟩
theorem cellsRaw : Tryd.prog.cellsOf 44 = 5 := by kernel_rfl
theorem cellsA2 : Tryd.prog.cellsOf 42 = 2 := by kernel_rfl
theorem cellsU : Tryd.prog.cellsOf 41 = 1 := by kernel_rfl
theorem cellsN : Tryd.prog.cellsOf 3 = 1 := by kernel_rfl
set_option maxRecDepth 100000 in
theorem open_raw {H : Type} {enc : TypeId × Value → H} {w : World} {base : Nat} {spare : Nat → Bool} {held : Bool} {r : Reach} {b0 : Nat} {v : Value} {d : DataW H} {p : List MemPlace}
    (hv : Value.okWide Tryd.prog w r b0 44 v) (h : DataW.Trod enc Tryd.prog w base spare held 44 v d p) :
    ∃ a x0 x1 y0 y1 : Int, v = .agg #[.int .i64 a, .int .u64 x0, .int .u64 x1, .int .u64 y0, .int .u64 y1] ∧ d = .agg [.lit (.int .i64 a), .agg [.lit (.int .u64 x0), .lit (.int .u64 x1)], .agg [.lit (.int .u64 y0), .lit (.int .u64 y1)]] ∧ p = [] ∧
      (Lit.int .i64 a).wf = true ∧ (Lit.int .u64 x0).wf = true ∧ (Lit.int .u64 x1).wf = true ∧ (Lit.int .u64 y0).wf = true ∧ (Lit.int .u64 y1).wf = true := by
  obtain ⟨cs, rfl, hsz⟩ := okWide_struct Tryd.underlying44 hv
  obtain ⟨l⟩ := cs
  rw [cellsRaw] at hsz
  match l, hsz with
  | [c0, c1, c2, c3, c4], _ =>
    obtain ⟨fuel, hf⟩ := h
    obtain ⟨y0, y1, y2, n, hx, _, g0, g1, g2⟩ := Go.Deep.trod_struct3 Tryd.underlying44 hf
    simp only [cellsA2, cellsN] at g0 g1 g2
    obtain ⟨z0, z1, m, hz, k0, k1⟩ := trod_array2 Tryd.underlying42 cellsU g1
    obtain ⟨t0, t1, m', ht, k2, k3⟩ := trod_array2 Tryd.underlying42 cellsU g2
    obtain ⟨a, e0, rfl, w0⟩ := DataW.trod_int Tryd.underlying3 g0
    obtain ⟨x0, e1, rfl, w1⟩ := DataW.trod_int Tryd.underlying41 k0
    obtain ⟨x1, e2, rfl, w2⟩ := DataW.trod_int Tryd.underlying41 k1
    obtain ⟨x2, e3, rfl, w3⟩ := DataW.trod_int Tryd.underlying41 k2
    obtain ⟨x3, e4, rfl, w4⟩ := DataW.trod_int Tryd.underlying41 k3
    simp [Value.cells] at e0 e1 e2 e3 e4
    subst e0 e1 e2 e3 e4 hz ht
    simp only [Prod.mk.injEq] at hx
    obtain ⟨rfl, rfl⟩ := hx
    exact ⟨a, x0, x1, x2, x3, rfl, rfl, rfl, w0, w1, w2, w3, w4⟩
end
end Go.Proofs.YtcmfkdhadmfgkaaDoor.Tb
