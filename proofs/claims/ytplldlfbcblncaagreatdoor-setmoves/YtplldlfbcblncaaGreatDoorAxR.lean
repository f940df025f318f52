/- What the row's list gives: the table of the six points; and the last step of a row of which 'Below' alone is known. -/
import Derived.Test.YtplldlfbcblncaaGreatDoorCards
import Derived.Test.YtplldlfbcblncaaGreatDoorTie
import Derived.Test.YtplldlfbcblncaaGreatDoorAxW3
import Derived.Test.YtplldlfbcblncaaGreatDoorAxEq
import Derived.ProofKit
import Derived.OpenShut
import Derived.Deep.DeepHandedRow
import Derived.Lib.LaidTab
import Derived.Lib.SmallJoins
import Derived.ChangeSame
namespace Go.Proofs.YtplldlfbcblncaaGreatDoor.Ax
open Go.RowKit Go.WideShapes Go.ChangeShapes

section
variable {H : Type} {enc : TypeId × Value → H} {P : Program}
/-- Behind a call that turned nothing of what was there, the arguments read as they did. -/
theorem all_below (hl : laidOutB P = true) {W W' : World} (hb : Below W.heap.size W W') : ∀ {ts : List TypeId} {vs : List Value} {ds : List (DataW H)} {ps : List MemPlace},
    (∀ t ∈ ts, P.readableRec t = true ∧ t < P.types.size) → (∀ x ∈ ps, x.block < W.heap.size) → DataW.TrodAll enc P W 0 (fun _ => true) true ts vs ds ps → DataW.TrodAll enc P W' 0 (fun b => decide (b < W.heap.size)) true ts vs ds ps
  | [], _, _, _, _, _, h => by
    obtain ⟨rfl, rfl, rfl⟩ := trodAll_nil h
    exact trodAll_mk0
  | t :: ts, _, _, _, ht, hlt, h => by
    obtain ⟨v, vs, d, ds, p, q, rfl, rfl, rfl, h0, r⟩ := trodAll_cons h
    exact trodAll_cons_mk (Below.trod hl (ht t (by simp)).1 (ht t (by simp)).2 h0 hb (fun x hx => hlt x (by simp [hx]))) (all_below hl hb (fun u hu => ht u (by simp [hu])) (fun x hx => hlt x (by simp [hx])) r)

/-- THE LAST STEP OF A LAW: it answered true, and turned nothing of what was there. -/
theorem law_post (hl : laidOutB P = true) {f : Func} {s : ChangeSpec} {tb : TypeId} {W W' : World} {args : Array Value} {ds gs : List (DataW H)} {before : List MemPlace}
    (hvars : s.vars = []) (hrt : f.resultTypes = #[tb]) (hu : P.underlying tb = some .bool) (hts0 : (f.params.toList.all fun t => P.readableRec t && decide (t < P.types.size)) = true)
    (hW : DataW.Whole enc P f.params.toList s.vars false W args.toList ds gs before) (hb : Below W.heap.size W W')
    (hs : (s.fn H (ds ++ gs)).results = [.lit (.bool true)] ∧ (s.fn H (ds ++ gs)).args = ds ∧ (s.fn H (ds ++ gs)).vars = []) :
    s.post enc P f false true false false W args (.bool true) W' := by
  have hlt : ∀ x ∈ before, x.block < W.heap.size := fun x hx => hW.lt x hx
  have hts : ∀ t ∈ f.params.toList, P.readableRec t = true ∧ t < P.types.size := fun t ht => by
    have := List.all_eq_true.1 hts0 t ht
    simpa using this
  have hW' := hW
  obtain ⟨p, q, hA, hV, rfl, hz, hn⟩ := hW
  obtain ⟨h1, h2, h3⟩ := hs
  rw [hvars] at hV
  obtain ⟨rfl, rfl⟩ := trodVars_none hV
  refine ⟨ds, [], p ++ [], [], p, [], hW', ?_, ?_, ?_, World.keptBut_mono (fun x hx => ⟨hx, Or.inr (Or.inl (by simpa using hx))⟩) (hb.frame (fun x => x ∈ p ++ [])), fun h => by cases h⟩
  · rw [h1, hrt]
    exact trodAll_cons_mk (shut_bool hu true) trodAll_mk0
  · rw [h2]
    exact all_below hl hb hts (fun x hx => hlt x (by simpa using hx)) hA
  · rw [h3, hvars]
    rfl
end
theorem laidOut : laidOutB Tryz.prog = true := by kernel_rfl

theorem own : ownKnob Tryz.prog.godebug = none := by kernel_rfl
theorem cellsPt : Tryz.prog.cellsOf 34 = 2 := by kernel_rfl
theorem cellsI : Tryz.prog.cellsOf 2 = 1 := by kernel_rfl

theorem pt_cells {H : Type} {enc : TypeId × Value → H} {w : World} {base : Nat} {sp : Nat → Bool} {held : Bool} {fuel : Nat} {cs : List Value} {x y : Int} {p : List MemPlace}
    (h : DataW.trod enc Tryz.prog w base sp held fuel 34 cs = some (.agg [.lit (.int .i64 x), .lit (.int .i64 y)], p)) : cs = [.int .i64 x, .int .i64 y] := by
  obtain ⟨y0, y1, n, he, hl, h0, h1⟩ := trod_struct2 Tryz.underlying34 h
  simp only [cellsPt, cellsI] at hl h0 h1
  obtain ⟨a, e0, rfl, _⟩ := DataW.trod_int Tryz.underlying2 h0
  obtain ⟨b, e1, rfl, _⟩ := DataW.trod_int Tryz.underlying2 h1
  match cs, hl with
  | [c0, c1], _ =>
    simp at e0 e1 he
    obtain ⟨⟨rfl, rfl⟩, _⟩ := he
    simp [e0, e1]

def plusB (a b c d : Int) : Bool := (goodB a b && goodB c d) && goodB (a + c) (b + d)
theorem plus_yes (a b c d : Int) (w : World) (h : plusB a b c d = true) :
    Calls Tryz.prog 24 #[Pt a b, Pt c d] w fun e w' => e = .returned (.tuple #[Pt (a + c) (b + d), .nilIface]) ∧ Below w.heap.size w w' := by
  unfold plusB at h
  simp only [Bool.and_eq_true] at h
  exact plus_good a b c d w h.1.1 h.1.2 h.2
theorem plus_no (a b c d : Int) (w : World) (h : plusB a b c d = false) :
    Calls Tryz.prog 24 #[Pt a b, Pt c d] w fun e w' => e = .returned (.tuple #[Pt 0 0, Er 6]) ∧ Below w.heap.size w w' := by
  unfold plusB at h
  cases h1 : goodB a b && goodB c d
  · exact plus_bad a b c d w h1
  · rw [h1] at h
    simp only [Bool.and_eq_true] at h1
    exact plus_out a b c d w h1.1 h1.2 (by simpa using h)
end Go.Proofs.YtplldlfbcblncaaGreatDoor.Ax
