/- What the row's list gives: the table of the six points; and the last step of a row of which 'Below' alone is known. -/
import Derived.Test.YtcmfkdhadmfgkaaDoorCards
import Derived.Test.YtcmfkdhadmfgkaaDoorTie
import Derived.Test.YtcmfkdhadmfgkaaDoorAxW3
import Derived.Test.YtcmfkdhadmfgkaaDoorAxEq
import Derived.ProofKit
import Derived.OpenShut
import Derived.Deep.DeepHandedRow
import Derived.Lib.LaidTab
import Derived.Lib.SmallJoins
import Derived.ChangeSame
namespace Go.Proofs.YtcmfkdhadmfgkaaDoor.Ax
open Go.RowKit Go.WideShapes Go.ChangeShapes

section
variable {H : Type} {enc : TypeId × Value → H} {P : Program}
/-- Behind a call that turned nothing of what was there, the arguments read as they did. -/
theorem all_below (hl : laidOutB P = true) {W W' : World} (hb : Below W.heap.size W W') : ∀ {ts : List TypeId} {vs : List Value} {ds : List (DataW H)} {ps : List MemPlace},
    (∀ t ∈ ts, P.readableRec t = true ∧ t < P.types.size) → (∀ x ∈ ps, x.block < W.heap.size) → DataW.TrodAll enc P W 0 (fun _ => true) true ts vs ds ps → DataW.TrodAll enc P W' 0 (fun b => decide (b < W.heap.size)) true ts vs ds ps
  | [], _, _, _, _, _, h => by
    obtain ⟨rfl, rfl, rfl⟩ := trodAll_nil h
    exact trodAll_mk0
  | t :: ts, _, _, _, ht, hlt, h => by
    obtain ⟨v, vs, d, ds, p, q, rfl, rfl, rfl, h0, r⟩ := trodAll_cons h
    exact trodAll_cons_mk (Below.trod hl (ht t (by simp)).1 (ht t (by simp)).2 h0 hb (fun x hx => hlt x (by simp [hx]))) (all_below hl hb (fun u hu => ht u (by simp [hu])) (fun x hx => hlt x (by simp [hx])) r)

/-- THE LAST STEP OF A LAW: it answered true, and turned nothing of what was there. -/
theorem law_post (hl : laidOutB P = true) {f : Func} {s : ChangeSpec} {tb : TypeId} {W W' : World} {args : Array Value} {ds gs : List (DataW H)} {before : List MemPlace}
    (hvars : s.vars = []) (hrt : f.resultTypes = #[tb]) (hu : P.underlying tb = some .bool) (hts0 : (f.params.toList.all fun t => P.readableRec t && decide (t < P.types.size)) = true)
    (hW : DataW.Whole enc P f.params.toList s.vars false W args.toList ds gs before) (hb : Below W.heap.size W W')
    (hs : (s.fn H (ds ++ gs)).results = [.lit (.bool true)] ∧ (s.fn H (ds ++ gs)).args = ds ∧ (s.fn H (ds ++ gs)).vars = []) :
    s.post enc P f false true false false W args (.bool true) W' := by
  have hlt : ∀ x ∈ before, x.block < W.heap.size := fun x hx => hW.lt x hx
  have hts : ∀ t ∈ f.params.toList, P.readableRec t = true ∧ t < P.types.size := fun t ht => by
    have := List.all_eq_true.1 hts0 t ht
    simpa using this
  have hW' := hW
  obtain ⟨p, q, hA, hV, rfl, hz, hn⟩ := hW
  obtain ⟨h1, h2, h3⟩ := hs
  rw [hvars] at hV
  obtain ⟨rfl, rfl⟩ := trodVars_none hV
  refine ⟨ds, [], p ++ [], [], p, [], hW', ?_, ?_, ?_, World.keptBut_mono (fun x hx => ⟨hx, Or.inr (Or.inl (by simpa using hx))⟩) (hb.frame (fun x => x ∈ p ++ [])), fun h => by cases h⟩
  · rw [h1, hrt]
    exact trodAll_cons_mk (shut_bool hu true) trodAll_mk0
  · rw [h2]
    exact all_below hl hb hts (fun x hx => hlt x (by simpa using hx)) hA
  · rw [h3, hvars]
    rfl
end
/-- A WORLD FOR THE WITNESS: the settled one, the table's block holding the six points. -/
noncomputable def laidWorld (os : Os) : World :=
  { World.holding Tryd.prog os ⟨#[], #[], []⟩ with heap := (World.holding Tryd.prog os ⟨#[], #[], []⟩).heap.modify 1 fun
      | .cells _ t frozen => .cells sixCells t frozen
      | o => o }
theorem laidOut : laidOutB Tryd.prog = true := by kernel_rfl

theorem own : ownKnob Tryd.prog.godebug = none := by kernel_rfl
theorem gSix : Tryd.prog.globalNamed "honeycomb/axis.six" = some 1 := by kernel_rfl
theorem gSixType : (Tryd.prog.globals[1]?).map (·.type) = some 137 := by kernel_rfl
theorem cellsSix : Tryd.prog.cellsOf 137 = 12 := by kernel_rfl
theorem cellsPt : Tryd.prog.cellsOf 70 = 2 := by kernel_rfl
theorem cellsI : Tryd.prog.cellsOf 2 = 1 := by kernel_rfl

theorem pt_cells {H : Type} {enc : TypeId × Value → H} {w : World} {base : Nat} {sp : Nat → Bool} {held : Bool} {fuel : Nat} {cs : List Value} {x y : Int} {p : List MemPlace}
    (h : DataW.trod enc Tryd.prog w base sp held fuel 70 cs = some (.agg [.lit (.int .i64 x), .lit (.int .i64 y)], p)) : cs = [.int .i64 x, .int .i64 y] := by
  obtain ⟨y0, y1, n, he, hl, h0, h1⟩ := trod_struct2 Tryd.underlying70 h
  simp only [cellsPt, cellsI] at hl h0 h1
  obtain ⟨a, e0, rfl, _⟩ := DataW.trod_int Tryd.underlying2 h0
  obtain ⟨b, e1, rfl, _⟩ := DataW.trod_int Tryd.underlying2 h1
  match cs, hl with
  | [c0, c1], _ =>
    simp at e0 e1 he
    obtain ⟨⟨rfl, rfl⟩, _⟩ := he
    simp [e0, e1]

theorem six_of_laid {W : World} (h : laidMet Tryd.prog [("honeycomb/axis.six", Rows.laid_honeycomb_axis_six)] W) : SixIs W := by
  obtain ⟨ps, ⟨g', t', cs, fuel, p, q, hg', ht', hvar, hd, _, _⟩, _⟩ := h
  obtain rfl := Option.some.inj (gSix.symm.trans hg')
  obtain rfl := Option.some.inj (gSixType.symm.trans ht')
  obtain ⟨xs, m, _, he, hl, hn, hx⟩ := DataW.trod_array Tryd.underlying137 hd
  simp only [cellsSix, cellsPt] at hl hx
  match xs, hn with
  | [x0, x1, x2, x3, x4, x5], _ =>
    simp only [Rows.laid_honeycomb_axis_six, List.map_cons, List.map_nil, Prod.mk.injEq, DataW.agg.injEq, List.cons.injEq, and_true] at he
    obtain ⟨⟨e0, e1, e2, e3, e4, e5⟩, _⟩ := he
    have k0 := hx 0 (by decide)
    have k1 := hx 1 (by decide)
    have k2 := hx 2 (by decide)
    have k3 := hx 3 (by decide)
    have k4 := hx 4 (by decide)
    have k5 := hx 5 (by decide)
    obtain ⟨a0, b0⟩ := x0
    obtain ⟨a1, b1⟩ := x1
    obtain ⟨a2, b2⟩ := x2
    obtain ⟨a3, b3⟩ := x3
    obtain ⟨a4, b4⟩ := x4
    obtain ⟨a5, b5⟩ := x5
    simp only at e0 e1 e2 e3 e4 e5
    subst e0 e1 e2 e3 e4 e5
    replace k0 := pt_cells k0
    replace k1 := pt_cells k1
    replace k2 := pt_cells k2
    replace k3 := pt_cells k3
    replace k4 := pt_cells k4
    replace k5 := pt_cells k5
    obtain ⟨l⟩ := cs
    match l, hl with
    | [c0, c1, c2, c3, c4, c5, c6, c7, c8, c9, c10, c11], _ =>
      simp at k0 k1 k2 k3 k4 k5
      obtain ⟨rfl, rfl⟩ := k0
      obtain ⟨rfl, rfl⟩ := k1
      obtain ⟨rfl, rfl⟩ := k2
      obtain ⟨rfl, rfl⟩ := k3
      obtain ⟨rfl, rfl⟩ := k4
      obtain ⟨rfl, rfl⟩ := k5
      simp only [World.var?, gSix, Option.bind_some] at hvar
      split at hvar
      · rename_i cs t fr hh
        cases hvar
        exact ⟨t, fr, hh⟩
      · cases hvar

end Go.Proofs.YtcmfkdhadmfgkaaDoor.Ax
