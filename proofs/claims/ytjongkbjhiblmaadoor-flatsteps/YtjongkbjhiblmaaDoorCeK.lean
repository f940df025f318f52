/- Maps from cells to numbers. -/
import Derived.Test.YtjongkbjhiblmaaDoorMpK
import Derived.Test.YtjongkbjhiblmaaDoorBsR
import Derived.DeepKeys4
import Derived.WideKeyEntry
namespace Go.Proofs.YtjongkbjhiblmaaDoor.Mp
open Go.RowKit Go.Proofs.YtjongkbjhiblmaaDoor.Ba Go.Lib Go.Maps

abbrev CC := Int × Int × Int
abbrev CV (c : CC) : Value := .agg #[.int .i64 c.1, .int .i64 c.2.1, .int .i64 c.2.2]
def okC (c : CC) : Prop := (Lit.int .i64 c.1).wf = true ∧ (Lit.int .i64 c.2.1).wf = true ∧ (Lit.int .i64 c.2.2).wf = true
def lC (c : CC) : Lit := .string (keyBytes [.int .i64 c.1, .int .i64 c.2.1, .int .i64 c.2.2])
theorem kl_cell (d : Nat) (c : CC) (h : okC c) : Tryd.prog.keyLits (d + 3) 56 [.int .i64 c.1, .int .i64 c.2.1, .int .i64 c.2.2] = some [.int .i64 c.1, .int .i64 c.2.1, .int .i64 c.2.2] := by
  have c0 : Tryd.prog.cellsOf 2 = 1 := by kernel_rfl
  have c1 : Tryd.prog.cellsOf 3 = 1 := by kernel_rfl
  have c2 : Tryd.prog.cellsOf 54 = 2 := by kernel_rfl
  have c3 : Tryd.prog.cellsOf 56 = 3 := by kernel_rfl
  obtain ⟨wa, wb, wh⟩ := h
  simp [Program.keyLits, Tryd.underlying56, Tryd.underlying54, Tryd.underlying2, Tryd.underlying3, c0, c1, c2, c3, wa, wb, wh]
  rw [if_pos (by decide)]
  rfl
theorem key_cell (c : CC) (h : okC c) : keyOf Tryd.prog 56 (CV c) = some (lC c) := by
  have e0 : Tryd.prog.types.size + 1 = 155 - 2 + 3 := by kernel_rfl
  have e1 : Tryd.prog.keyType 56 = true := by kernel_rfl
  have e2 : (CV c).formed Tryd.prog 56 = true := by kernel_rfl
  have e3 := kl_cell (155 - 2) c h
  unfold keyOf
  rw [Tryd.underlying56]
  simp only [e1, e2, Bool.and_self, if_true, e0]
  rw [show (CV c).cells.toList = [.int .i64 c.1, .int .i64 c.2.1, .int .i64 c.2.2] from rfl, e3]
  rfl
theorem lC_inj (c d : CC) (hc : okC c) (hd : okC d) (e : lC c = lC d) : c = d := by
  unfold lC at e
  injection e with e
  have := keyBytes_inj (l := [.int .i64 c.1, .int .i64 c.2.1, .int .i64 c.2.2]) (l' := [.int .i64 d.1, .int .i64 d.2.1, .int .i64 d.2.2]) ⟨rfl, rfl, rfl, trivial⟩
    (by intro x hx; simp at hx; rcases hx with rfl | rfl | rfl; exact hc.1; exact hc.2.1; exact hc.2.2) (by intro x hx; simp at hx; rcases hx with rfl | rfl | rfl; exact hd.1; exact hd.2.1; exact hd.2.2) e
  obtain ⟨a, b, h⟩ := c
  obtain ⟨a', b', h'⟩ := d
  simp only [List.cons.injEq, Lit.int.injEq, true_and, and_true] at this
  obtain ⟨h1, h2, h3⟩ := this
  rw [h1, h2, h3]
theorem rowCell : (56 : TypeId) < Tryd.prog.types.size := of_decide_eq_true (by kernel_rfl)
theorem ktCell : Tryd.prog.keyTypeAt 4 56 = true := by kernel_rfl
theorem lawCell : WideMaps.KeyLaw Tryd.prog 56 := deep_law_laid laidOut (m := 4) (by omega) rowCell ktCell (by rw [Tryd.underlying56])
theorem keyedCell : Keyed Tryd.prog 56 := Keyed.of_law lawCell
theorem zeroInt (w : World) : (zeroValue 3).run Tryd.prog w = .ok (.int .i64 0) w := by kernel_rfl
def mkC : MK CC where
  mT := 78
  kT := 56
  eT := 3
  q := .i64
  enc := CV
  kl := lC
  ok := okC
  K := keyedCell
  hu := Tryd.underlying78
  he := Tryd.underlying3
  hz := zeroInt
  hkey := key_cell
  inj := lC_inj
theorem turned_grown {w w' : World} {b : Nat} (h : w.mapTurned w' b) : w.grownBy w' (some b) := by
  obtain ⟨es, clock, es', clock', hb, rfl⟩ := h
  exact ⟨rfl, rfl, rfl, by simp [ChangeMaps.setBlock], fun i _ hi => ChangeMaps.heap_setBlock_other hb _ (fun e => hi (by rw [e]))⟩
theorem IsB.drop {κ : Type} {m : MK κ} {w : World} {b c s : Nat} {M : κ → Option Nat} (h : IsB m w b c s M) {x : κ} (hx : m.ok x) [DecidableEq κ] (ty : TypeId) :
    ∃ w' s', (Builtin.delete_ #[m.mT, m.kT] ty #[.map (some b), m.enc x]).run Tryd.prog w = .ok (.tuple #[]) w' ∧ IsB m w' b c s' (fun q => if q = x then none else M q) ∧ w.grownBy w' (some b) := by
  obtain ⟨D, h1, ⟨h2, h3, h4⟩, h5⟩ := h
  obtain ⟨w', hrun, hown, ht⟩ := World.ownsMap.drop h1 m.K m.hu (m.hkey x hx) ty
  refine ⟨w', _, hrun, ⟨_, hown, ⟨fun q hq => ?_, fun q hq => ?_, fun l hl => ?_⟩, rfl⟩, turned_grown ht⟩
  · by_cases e : q = x
    · subst e
      rw [has_del_same]; simp
    · rw [has_del_other (fun e2 => e (m.inj q x hq hx e2)), h2 q hq]; simp [e]
  · by_cases e : q = x
    · subst e
      rw [atKey_del_same]; simp
    · rw [atKey_del_other (fun e2 => e (m.inj q x hq hx e2)), h3 q hq]; simp [e]
  · by_cases e : l = m.kl x
    · exact ⟨x, hx, e⟩
    · rw [has_del_other e] at hl
      exact h4 l hl
open Go.WideElems in
theorem entry_same {w : World} {B c s : Nat} {M : CC → Option Nat} (h : IsB mkC w B c s M) (hn : c < maxLen) {x : CC} (hx : okC x) (hy : (Lit.int .i64 (((M x).getD 0 : Nat) : Int)).wf = true) :
    ∃ w' v, (Instr.mapEntry 78 (.map (some B)) (CV x)).run Tryd.prog w = .ok v w' ∧ IsB mkC w' B (c + 1) (if (M x).isSome then s else s + 1) (fun q => if q = x then some ((M x).getD 0) else M q) := by
  have hlk : (Instr.lookup 78 (.map (some B)) (CV x) false).run Tryd.prog w = .ok (.int .i64 (((M x).getD 0 : Nat) : Int)) w := h.look hx
  obtain ⟨w', hup', hI, _⟩ := h.put hn hx hy
  have hup : (Instr.mapUpdate 78 (.map (some B)) (CV x) (.int .i64 (((M x).getD 0 : Nat) : Int))).run Tryd.prog w = .ok () w' := hup'
  have hk := key_cell x hx
  refine ⟨w', ?_⟩
  obtain ⟨D, ⟨es, clock, hb, F, _, _⟩, _⟩ := h
  generalize (((M x).getD 0 : Nat) : Int) = m at hlk hup
  rcases lawCell.find w hk es.toList F.keys with ⟨h1, _⟩ | ⟨j, e0, h1, h2, h3⟩
  · have hc : m = 0 := by
      simp [Instr.lookup, run_underlying Tryd.underlying78, MapKept.run_getObj_map hb, lawCell.check w es.isEmpty hk, h1, Result.andThen] at hlk
      exact hlk.symm
    subst hc
    simp [Instr.mapUpdate, run_underlying Tryd.underlying78, MapKept.run_getObj_map hb, lawCell.check w false hk, h1, MapKept.run_setObj_map _ hb, Result.andThen] at hup
    subst hup
    exact ⟨.tuple #[.int .i64 0, goInt clock], by simp [Instr.mapEntry, run_underlying Tryd.underlying78, MapKept.run_getObj_map hb, lawCell.check w false hk, h1, MapKept.run_setObj_map _ hb, Result.andThen], hI⟩
  · have hj : es[j]? = some e0 := by simpa using h2
    have hc : e0.val = .int .i64 m := by
      simp [Instr.lookup, run_underlying Tryd.underlying78, MapKept.run_getObj_map hb, lawCell.check w es.isEmpty hk, h1, Result.andThen] at hlk
      exact hlk
    simp [Instr.mapUpdate, run_underlying Tryd.underlying78, MapKept.run_getObj_map hb, lawCell.check w false hk, h1, hj, h3, lawCell.stays w hk, MapKept.run_setObj_map _ hb, Result.andThen] at hup
    subst hup
    have hsame : es.modify j (fun e => { e with key := CV x }) = es.modify j (fun e => { e with key := CV x, val := .int .i64 m }) := by
      apply Array.ext_getElem?
      intro i
      simp only [Array.getElem?_modify]
      split
      · rename_i hij
        subst hij
        rw [hj]
        simp [hc]
      · rfl
    exact ⟨.tuple #[e0.val, goInt e0.born], by simp [Instr.mapEntry, run_underlying Tryd.underlying78, MapKept.run_getObj_map hb, lawCell.check w false hk, h1, hj, h3, lawCell.stays w hk, hsame, MapKept.run_setObj_map _ hb, Result.andThen], hI⟩
open Go.WideElems in
/-- 'm[k] += ..' by its two halves: the entry is found or laid, and then its value is stored. -/
theorem entry_store {w : World} {B c s : Nat} {M : CC → Option Nat} (h : IsB mkC w B c s M) (hn : c < maxLen) {x : CC} (hx : okC x) (hy0 : (Lit.int .i64 (((M x).getD 0 : Nat) : Int)).wf = true) {y : Nat} (hy : (Lit.int .i64 (y : Int)).wf = true) :
    ∃ (v0 : Value) (st : Nat) (o1 o2 : Obj) (s' : Nat), (Instr.mapEntry 78 (.map (some B)) (CV x)).run Tryd.prog w = .ok (.tuple #[v0, goInt st]) (ChangeMaps.setBlock w B o1) ∧
      (Instr.entryStore 78 (.map (some B)) (goInt st) (.int .i64 y)).run Tryd.prog (ChangeMaps.setBlock w B o1) = .ok () (ChangeMaps.setBlock w B o2) ∧
      IsB mkC (ChangeMaps.setBlock w B o2) B (c + 1) s' (fun q => if q = x then some y else M q) ∧ w.grownBy (ChangeMaps.setBlock w B o1) (some B) ∧ w.grownBy (ChangeMaps.setBlock w B o2) (some B) ∧
      (Instr.lookup 78 (.map (some B)) (CV x) false).run Tryd.prog (ChangeMaps.setBlock w B o1) = .ok (.int .i64 (((M x).getD 0 : Nat) : Int)) (ChangeMaps.setBlock w B o1) := by
  obtain ⟨we, ve, hve, hIe⟩ := entry_same h hn hx hy0
  obtain ⟨w', hup', hI', hg'⟩ := h.put hn hx hy
  have hup : (Instr.mapUpdate 78 (.map (some B)) (CV x) (.int .i64 y)).run Tryd.prog w = .ok () w' := hup'
  have hk := key_cell x hx
  obtain ⟨D, ⟨es, clock, hb, F, _, _⟩, _⟩ := h
  obtain ⟨v0, st, es1, clock1, hme, _, hst⟩ := entry_then_store lawCell Tryd.underlying78 (fun u => zeroInt u) hb F hk
  obtain ⟨es', clock', hes, hup2⟩ := hst (ChangeMaps.setBlock w B (.map es1 clock1)) (.int .i64 y) (ChangeMaps.heap_setBlock_same hb _)
  have e2 : ChangeMaps.setBlock (ChangeMaps.setBlock w B (.map es1 clock1)) B (.map es' clock') = ChangeMaps.setBlock w B (.map es' clock') := by
    simp [ChangeMaps.setBlock]
  rw [e2] at hes
  have e3 : w' = ChangeMaps.setBlock w B (.map es' clock') := by
    rw [hup] at hup2
    injection hup2
  rw [e3] at hI' hg'
  have e4 : we = ChangeMaps.setBlock w B (.map es1 clock1) := by
    rw [hve] at hme
    injection hme
  rw [e4] at hIe
  have hl : (Instr.lookup 78 (.map (some B)) (CV x) false).run Tryd.prog (ChangeMaps.setBlock w B (.map es1 clock1)) = .ok (.int .i64 (((if x = x then some ((M x).getD 0) else M x).getD 0 : Nat) : Int)) _ := hIe.look hx
  rw [if_pos rfl] at hl
  exact ⟨v0, st, _, _, _, hme, hes, hI', ⟨rfl, rfl, rfl, by simp [ChangeMaps.setBlock], fun i _ hi => ChangeMaps.heap_setBlock_other hb _ (fun e => hi (by rw [e]))⟩, hg', hl⟩
end Go.Proofs.YtjongkbjhiblmaaDoor.Mp
