/- HoneycombTwelve: the mathematics (the six, sums, counts in a map that is a datum), and what 'm[k]++' does to a map keyed by points. -/
import Derived.Test.YtnjidnghpaloeaaDoorAxR
import Derived.Test.YtnjidnghpaloeaaDoorBs
import Derived.Maps.OwnOps
import Derived.Maps.OwnSet
import Derived.WideKeyEntry
import Derived.DeepKeys4
namespace Go.Proofs.YtnjidnghpaloeaaDoor.Tw
open Go.RowKit Go.Proofs.YtnjidnghpaloeaaDoor.Ax Go.Maps

def sA (k : Nat) : Int := [1, 0, -1, -1, 0, 1].getD k 0
def sB (k : Nat) : Int := [0, 1, 1, 0, -1, -1].getD k 0
def lA (I J k : Nat) : Int := sA k * sA I + sB k * sA J
def lB (I J k : Nat) : Int := sA k * sB I + sB k * sB J
def kl (a b : Int) : Lit := .string (keyBytes [.int .i64 a, .int .i64 b])
def cnt (D : DataW Unit) (l : Lit) : Int := match D.atKey l (.lit (.int .i64 0)) with | .lit (.int _ c) => c | _ => 0
def mp (I J : Nat) : Nat → DataW Unit
  | 0 => .map []
  | k + 1 => (mp I J k).put (kl (lA I J k) (lB I J k)) (.lit (.int .i64 (IntKind.i64.wrap (cnt (mp I J k) (kl (lA I J k) (lB I J k)) + 1))))
def keepsTo (I J : Nat) : Nat → Bool
  | 0 => ((Maps.size (mp I J 6) : Nat) : Int) == 6
  | k + 1 => keepsTo I J k && (cnt (mp I J 6) (kl (sA k) (sB k)) == 1)
def hit (I J : Nat) (o : Nat) : Bool := (opA o 1 0 == sA I && opB o 1 0 == sB I) && (opA o 0 1 == sA J && opB o 0 1 == sB J)
def foundTo (I J : Nat) : Nat → Nat
  | 0 => 0
  | o + 1 => if hit I J o = true then foundTo I J o + 1 else foundTo I J o
theorem fin_all : ∀ I J : Fin 6, (((foundTo I.val J.val 12 : Nat) : Int) == 1) = keepsTo I.val J.val 6 ∧ (((foundTo I.val J.val 12 : Nat) : Int) == 0) = !keepsTo I.val J.val 6 := by decide +kernel
theorem found_le (I J : Nat) : ∀ o, foundTo I J o ≤ o
  | 0 => Nat.le_refl _
  | o + 1 => by
    have := found_le I J o
    unfold foundTo
    split <;> omega
theorem s_fin : ∀ k : Fin 6, -1 ≤ sA k.val ∧ sA k.val ≤ 1 ∧ -1 ≤ sB k.val ∧ sB k.val ≤ 1 := by decide
theorem l_fin : ∀ I J k : Fin 6, -2 ≤ lA I.val J.val k.val ∧ lA I.val J.val k.val ≤ 2 ∧ -2 ≤ lB I.val J.val k.val ∧ lB I.val J.val k.val ≤ 2 := by decide +kernel
theorem op_fin : ∀ o : Fin 12, goodB (opA o.val 1 0) (opB o.val 1 0) = true ∧ goodB (opA o.val 0 1) (opB o.val 0 1) = true := by decide +kernel
/-! Keys. -/
theorem rowPt : (23 : TypeId) < Tryd.prog.types.size := of_decide_eq_true (by kernel_rfl)
theorem widePt : (match Tryd.prog.underlying 23 with | some (.array _ _) | some (.struct _) => true | _ => false) = true := by kernel_rfl
theorem lawPt : WideMaps.KeyLaw Tryd.prog 23 := deep_law_laid laidOut (m := 3) (by omega) rowPt (by kernel_rfl) widePt
theorem keyedPt : Keyed Tryd.prog 23 := Keyed.of_law lawPt
theorem zeroI (w : World) : (zeroValue 3).run Tryd.prog w = .ok (.int .i64 0) w := by kernel_rfl
theorem key_at (a b : Int) (a0 : -2 ≤ a) (a1 : a ≤ 2) (b0 : -2 ≤ b) (b1 : b ≤ 2) : keyOf Tryd.prog 23 (Pt a b) = some (kl a b) := by
  have ha : a = -2 ∨ a = -1 ∨ a = 0 ∨ a = 1 ∨ a = 2 := by omega
  have hb : b = -2 ∨ b = -1 ∨ b = 0 ∨ b = 1 ∨ b = 2 := by omega
  clear a0 a1 b0 b1
  rcases ha with rfl | rfl | rfl | rfl | rfl
  all_goals
    rcases hb with rfl | rfl | rfl | rfl | rfl
    all_goals
      refine Eq.trans (b := some (kl _ _)) ?_ rfl
      kernel_rfl
abbrev Own (w : World) (B n : Nat) (D : DataW Unit) : Prop := w.ownsMap Tryd.prog 23 (plainElem Tryd.prog 3) B n D
theorem own_look {w : World} {B n : Nat} {D : DataW Unit} (h : Own w B n D) {a b : Int} (hk : keyOf Tryd.prog 23 (Pt a b) = some (kl a b)) :
    (Instr.lookup 26 (.map (some B)) (Pt a b) false).run Tryd.prog w = .ok (.int .i64 (cnt D (kl a b))) w ∧ (Lit.int .i64 (cnt D (kl a b))).wf = true := by
  obtain ⟨c, hrun, hat, hwc⟩ := World.ownsMap.lookup_int h keyedPt Tryd.underlying26 Tryd.underlying3 (zeroI w) hk
  have e : cnt D (kl a b) = c := by unfold cnt; rw [hat]
  rw [e]
  exact ⟨hrun, hwc⟩
/-- Finding or laying the entry alone: the map then reads as if its own count were stored at the key. -/
theorem own_entry {w : World} {B n : Nat} {D : DataW Unit} (h : Own w B n D) (hn : n < maxLen) {a b : Int} (hk : keyOf Tryd.prog 23 (Pt a b) = some (kl a b)) :
    ∃ w', (∃ v, (Instr.mapEntry 26 (.map (some B)) (Pt a b)).run Tryd.prog w = .ok v w') ∧ Own w' B (n + 1) (D.put (kl a b) (.lit (.int .i64 (cnt D (kl a b))))) := by
  obtain ⟨hlk, hwc⟩ := own_look h hk
  obtain ⟨w', hup, hown', _⟩ := World.ownsMap.update (P := Tryd.prog) h keyedPt Tryd.underlying26 hn hk (plainElem_int Tryd.underlying3 hwc)
  refine ⟨w', ?_, hown'⟩
  generalize cnt D (kl a b) = c at *
  obtain ⟨es, clock, hb, F, _, _⟩ := h
  rcases lawPt.find w hk es.toList F.keys with ⟨h1, _⟩ | ⟨j, e0, h1, h2, h3⟩
  · have hc : c = 0 := by
      simp [Instr.lookup, run_underlying Tryd.underlying26, MapKept.run_getObj_map hb, lawPt.check w es.isEmpty hk, h1, Result.andThen] at hlk
      exact hlk.symm
    subst hc
    simp [Instr.mapUpdate, run_underlying Tryd.underlying26, MapKept.run_getObj_map hb, lawPt.check w false hk, h1, MapKept.run_setObj_map _ hb, Result.andThen] at hup
    subst hup
    exact ⟨.tuple #[.int .i64 0, goInt clock], by simp [Instr.mapEntry, run_underlying Tryd.underlying26, MapKept.run_getObj_map hb, lawPt.check w false hk, h1, MapKept.run_setObj_map _ hb, Result.andThen]⟩
  · have hj : es[j]? = some e0 := by simpa using h2
    have hc : e0.val = .int .i64 c := by
      simp [Instr.lookup, run_underlying Tryd.underlying26, MapKept.run_getObj_map hb, lawPt.check w es.isEmpty hk, h1, hj, Result.andThen] at hlk
      exact hlk
    simp [Instr.mapUpdate, run_underlying Tryd.underlying26, MapKept.run_getObj_map hb, lawPt.check w false hk, h1, hj, h3, lawPt.stays w hk, MapKept.run_setObj_map _ hb, Result.andThen] at hup
    subst hup
    have hsame : es.modify j (fun e => { e with key := Pt a b }) = es.modify j (fun e => { e with key := Pt a b, val := .int .i64 c }) := by
      apply Array.ext_getElem?
      intro i
      simp only [Array.getElem?_modify]
      split
      · rename_i hij
        subst hij
        rw [hj]
        simp [hc]
      · rfl
    exact ⟨.tuple #[e0.val, goInt e0.born], by simp [Instr.mapEntry, run_underlying Tryd.underlying26, MapKept.run_getObj_map hb, lawPt.check w false hk, h1, hj, h3, lawPt.stays w hk, hsame, MapKept.run_setObj_map _ hb, Result.andThen]⟩
theorem cnt_put {w : World} {B n : Nat} {D : DataW Unit} (h : Own w B n D) {a b : Int} (hk : keyOf Tryd.prog 23 (Pt a b) = some (kl a b)) (c : Int) : cnt (D.put (kl a b) (.lit (.int .i64 c))) (kl a b) = c := by
  obtain ⟨es, clock, hb, F, _, rfl⟩ := h
  unfold cnt
  rw [atKey_put_same ⟨_, rfl⟩ (keyedPt.key hk)]
open Go.WideElems in
/-- 'm[k] = v' by its two halves: the entry is found or laid, and then its value is stored. -/
theorem own_store {w : World} {B n : Nat} {D : DataW Unit} (h : Own w B n D) (hn : n < maxLen) {a b : Int} (hk : keyOf Tryd.prog 23 (Pt a b) = some (kl a b)) (c : Int) (hc : (Lit.int .i64 c).wf = true) :
    ∃ (v0 : Value) (st : Nat) (o1 o2 : Obj), (Instr.mapEntry 26 (.map (some B)) (Pt a b)).run Tryd.prog w = .ok (.tuple #[v0, goInt st]) (ChangeMaps.setBlock w B o1) ∧
      (Instr.entryStore 26 (.map (some B)) (goInt st) (.int .i64 c)).run Tryd.prog (ChangeMaps.setBlock w B o1) = .ok () (ChangeMaps.setBlock w B o2) ∧
      Own (ChangeMaps.setBlock w B o2) B (n + 1) (D.put (kl a b) (.lit (.int .i64 c))) ∧ w.grownBy (ChangeMaps.setBlock w B o1) (some B) ∧ w.grownBy (ChangeMaps.setBlock w B o2) (some B) ∧
      (Instr.lookup 26 (.map (some B)) (Pt a b) false).run Tryd.prog (ChangeMaps.setBlock w B o1) = .ok (.int .i64 (cnt D (kl a b))) (ChangeMaps.setBlock w B o1) := by
  obtain ⟨we, ⟨ve, hve⟩, hoe⟩ := own_entry h hn hk
  have hce := cnt_put h hk (cnt D (kl a b))
  obtain ⟨w', hup, hown', hg'⟩ := World.ownsMap.update (P := Tryd.prog) h keyedPt Tryd.underlying26 hn hk (plainElem_int Tryd.underlying3 hc)
  obtain ⟨es, clock, hb, F, _, _⟩ := h
  obtain ⟨v0, st, es1, clock1, hme, _, hst⟩ := entry_then_store lawPt Tryd.underlying26 (fun u => zeroI u) hb F hk
  obtain ⟨es', clock', hes, hup2⟩ := hst (ChangeMaps.setBlock w B (.map es1 clock1)) (.int .i64 c) (ChangeMaps.heap_setBlock_same hb _)
  have e2 : ChangeMaps.setBlock (ChangeMaps.setBlock w B (.map es1 clock1)) B (.map es' clock') = ChangeMaps.setBlock w B (.map es' clock') := by
    simp [ChangeMaps.setBlock]
  rw [e2] at hes
  have e3 : w' = ChangeMaps.setBlock w B (.map es' clock') := by
    rw [hup] at hup2
    injection hup2
  rw [e3] at hown' hg'
  have e4 : we = ChangeMaps.setBlock w B (.map es1 clock1) := by
    rw [hve] at hme
    injection hme
  rw [e4] at hoe
  have hl := (own_look hoe hk).1
  rw [hce] at hl
  exact ⟨v0, st, _, _, hme, hes, hown', ⟨rfl, rfl, rfl, by simp [ChangeMaps.setBlock], fun i _ hi => ChangeMaps.heap_setBlock_other hb _ (fun e => hi (by rw [e]))⟩, hg', hl⟩
/-! Contracts. -/
theorem linear_any (p q a b c d : Int) (w : World) (p0 : -1 ≤ p) (p1 : p ≤ 1) (q0 : -1 ≤ q) (q1 : q ≤ 1) (a0 : -1 ≤ a) (a1 : a ≤ 1) (b0 : -1 ≤ b) (b1 : b ≤ 1) (c0 : -1 ≤ c) (c1 : c ≤ 1) (d0 : -1 ≤ d) (d1 : d ≤ 1) :
    Calls Tryd.prog 5 #[Pt p q, Pt a b, Pt c d] w fun e w' => e = .returned (Pt (p * a + q * c) (p * b + q * d)) ∧ Below w.heap.size w w' := by
  have mb : ∀ x y : Int, -1 ≤ x → x ≤ 1 → -1 ≤ y → y ≤ 1 → -1 ≤ x * y ∧ x * y ≤ 1 := fun x y hx hx' hy hy' => by
    have h : x = -1 ∨ x = 0 ∨ x = 1 := by omega
    rcases h with rfl | rfl | rfl <;> omega
  have g1 := mb p a p0 p1 a0 a1
  have g2 := mb q c q0 q1 c0 c1
  have g3 := mb p b p0 p1 b0 b1
  have g4 := mb q d q0 q1 d0 d1
  have e1 : wrap64 (p * a) = p * a := by unfold wrap64; omega
  have e2 : wrap64 (q * c) = q * c := by unfold wrap64; omega
  have e3 : wrap64 (p * b) = p * b := by unfold wrap64; omega
  have e4 : wrap64 (q * d) = q * d := by unfold wrap64; omega
  have e5 : wrap64 (p * a + q * c) = p * a + q * c := by unfold wrap64; omega
  have e6 : wrap64 (p * b + q * d) = p * b + q * d := by unfold wrap64; omega
  clear mb
  go_enter Tryd.func5, Tryd.ntmps5
  go_wp2
  exact bodyPost_ret (v := Pt (p * a + q * c) (p * b + q * d)) (by simp [results, Tryd.results5, go_sem]) rfl ⟨rfl, by go_grown⟩
theorem idx0 (w : World) : (Instr.index 24 (.agg sixCells) (.int .i64 0)).run Tryd.prog w = .ok (Pt 1 0) w := by kernel_rfl
theorem awake02_any (w : World) (hs : SixIs w) :
    Calls Tryd.prog 7 #[] w fun e w' => e = .returned (.bool true) ∧ Below w.heap.size w w' := by
  have ep := eql_pt
  have hi := idx0
  go_enter Tryd.func7, Tryd.ntmps7
  go_wp2_with fail
  have h := fun w => on_yes 1 1 0 w (by decide) (by decide) (by decide) (by decide)
  rw [show opA 1 1 0 = 0 by decide, show opB 1 1 0 = 1 by decide] at h
  refine (h _).mono ?_
  rintro e w1 ⟨rfl, hb⟩
  clear h
  have hb1 := below_call (B := w.heap.size) (w := w) hb (by go_grown) (by go_size)
  have hz1 := hb1.size
  clear hb
  go_wp2_with fail
  refine (six_any _ (hs.below (by go_grown))).mono ?_
  rintro e w2 ⟨rfl, hb⟩
  have hb2 := below_call (B := w.heap.size) (w := w) hb (by go_grown) (by go_size)
  clear hb
  go_wp2_with fail
  go_ret
  exact ⟨rfl, hb2⟩
theorem idx_at (k : Nat) (hk : k < 6) (w : World) : (Instr.index 24 (.agg sixCells) (.int .i64 k)).run Tryd.prog w = .ok (Pt (sA k) (sB k)) w := by
  have h : k = 0 ∨ k = 1 ∨ k = 2 ∨ k = 3 ∨ k = 4 ∨ k = 5 := by omega
  rcases h with rfl | rfl | rfl | rfl | rfl | rfl
  · exact (by kernel_rfl : (Instr.index 24 (.agg sixCells) (.int .i64 0)).run Tryd.prog w = .ok (Pt 1 0) w)
  · exact (by kernel_rfl : (Instr.index 24 (.agg sixCells) (.int .i64 1)).run Tryd.prog w = .ok (Pt 0 1) w)
  · exact (by kernel_rfl : (Instr.index 24 (.agg sixCells) (.int .i64 2)).run Tryd.prog w = .ok (Pt (-1) 1) w)
  · exact (by kernel_rfl : (Instr.index 24 (.agg sixCells) (.int .i64 3)).run Tryd.prog w = .ok (Pt (-1) 0) w)
  · exact (by kernel_rfl : (Instr.index 24 (.agg sixCells) (.int .i64 4)).run Tryd.prog w = .ok (Pt 0 (-1)) w)
  · exact (by kernel_rfl : (Instr.index 24 (.agg sixCells) (.int .i64 5)).run Tryd.prog w = .ok (Pt 1 (-1)) w)
end Go.Proofs.YtnjidnghpaloeaaDoor.Tw
