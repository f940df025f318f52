/- CellSymmetry: the mathematics (operators behind one another on cells; what is beside stays so; each to another one), and a map keyed by cells. -/
import Derived.Test.YtoimaiaccmmakaaDoorCeHT
import Derived.Test.YtoimaiaccmmakaaDoorCeW12
import Derived.Maps.OwnOps
import Derived.Maps.OwnSet
import Derived.WideKeyEntry
import Derived.DeepKeys4
namespace Go.Proofs.YtoimaiaccmmakaaDoor.Ce
open Go.RowKit Go.Proofs.YtoimaiaccmmakaaDoor.Ax Go.Maps

/-! Operators on cells. -/
def onC (l o : Int) (d : C) : C := (onA l o d.1 d.2.1 d.2.2, onB l o d.1 d.2.1 d.2.2, onH l o d.2.2)
theorem onC_shift (l o a b : Int) (d : C) : onC l o (sh a b d) = sh (opA o a b) (opB o a b) (onC l o d) := by
  obtain ⟨x, y, z⟩ := d
  have h := op_sum o a b x y
  unfold onC sh onA onB
  dsimp only
  rw [h.1, h.2]
  split
  · rfl
  · simp only [Prod.mk.injEq, and_true]; omega
theorem onC_at (l o a b h : Int) : onC l o (a, b, h) = sh (opA o a b) (opB o a b) (onC l o (0, 0, h)) := by
  have := onC_shift l o a b (0, 0, h)
  simpa [sh] using this
theorem cthen_fin : ∀ o p : Fin 12, (opA p.val (opA o.val 1 0) (opB o.val 1 0) = opA (thenV o.val p.val) 1 0 ∧ opB p.val (opA o.val 1 0) (opB o.val 1 0) = opB (thenV o.val p.val) 1 0) ∧ (opA p.val (opA o.val 0 1) (opB o.val 0 1) = opA (thenV o.val p.val) 0 1 ∧ opB p.val (opA o.val 0 1) (opB o.val 0 1) = opB (thenV o.val p.val) 0 1) := by decide +kernel
theorem cop_then (o p a b : Int) (o0 : 0 ≤ o) (o1 : o < 12) (p0 : 0 ≤ p) (p1 : p < 12) : opA (thenV o p) a b = opA p (opA o a b) (opB o a b) ∧ opB (thenV o p) a b = opB p (opA o a b) (opB o a b) := by
  have h := cthen_fin ⟨o.toNat, by omega⟩ ⟨p.toNat, by omega⟩
  simp only [Int.toNat_of_nonneg o0, Int.toNat_of_nonneg p0] at h
  obtain ⟨⟨h1, h2⟩, h3, h4⟩ := h
  have e1 := op_lin (thenV o p) a b
  have e2 := op_lin o a b
  have e3 := op_lin p (opA o a b) (opB o a b)
  have e4 := op_lin p (opA o 1 0) (opB o 1 0)
  have e5 := op_lin p (opA o 0 1) (opB o 0 1)
  generalize opA o a b = u at *
  generalize opB o a b = v at *
  grind
theorem then_fin : ∀ l ∈ [(1 : Int), 2, 3], ∀ h ∈ [(0 : Int), 1], h < halvesV l → ∀ o p : Fin 12, onC l p.val (onC l o.val (0, 0, h)) = onC l (thenV o.val p.val) (0, 0, h) := by decide +kernel
theorem back_fin : ∀ l ∈ [(1 : Int), 2, 3], ∀ h ∈ [(0 : Int), 1], h < halvesV l → ∀ o : Fin 12, onC l (backV o.val) (onC l o.val (0, 0, h)) = (0, 0, h) := by decide +kernel
theorem bop_fin : ∀ o : Fin 12, ((0 ≤ backV o.val ∧ backV o.val < 12) ∧ thenV o.val (backV o.val) = 0) ∧ ∀ p : Fin 12, 0 ≤ thenV o.val p.val ∧ thenV o.val p.val < 12 := by decide +kernel
theorem bop_of (o : Int) (o0 : 0 ≤ o) (o1 : o < 12) : (0 ≤ backV o ∧ backV o < 12) ∧ thenV o (backV o) = 0 := by
  have h := (bop_fin ⟨o.toNat, by omega⟩).1
  simp only [Int.toNat_of_nonneg o0] at h
  exact h
theorem then_bd (o p : Int) (o0 : 0 ≤ o) (o1 : o < 12) (p0 : 0 ≤ p) (p1 : p < 12) : 0 ≤ thenV o p ∧ thenV o p < 12 := by
  have h := (bop_fin ⟨o.toNat, by omega⟩).2 ⟨p.toNat, by omega⟩
  simp only [Int.toNat_of_nonneg o0, Int.toNat_of_nonneg p0] at h
  exact h
theorem mem3 {l : Int} (hl : l = 1 ∨ l = 2 ∨ l = 3) : l ∈ [(1 : Int), 2, 3] := by simpa using hl
theorem mem2 {l h : Int} (h0 : 0 ≤ h) (h1 : h < halvesV l) : h ∈ [(0 : Int), 1] := by
  unfold halvesV at h1
  have : h = 0 ∨ h = 1 := by split at h1 <;> omega
  simpa using this
/-- Two operators as one. -/
theorem on_then (l o p a b h : Int) (hl : l = 1 ∨ l = 2 ∨ l = 3) (h0 : 0 ≤ h) (h1 : h < halvesV l) (o0 : 0 ≤ o) (o1 : o < 12) (p0 : 0 ≤ p) (p1 : p < 12) :
    onC l p (onC l o (a, b, h)) = onC l (thenV o p) (a, b, h) := by
  have hf := then_fin l (mem3 hl) h (mem2 h0 h1) h1 ⟨o.toNat, by omega⟩ ⟨p.toNat, by omega⟩
  simp only [Int.toNat_of_nonneg o0, Int.toNat_of_nonneg p0] at hf
  rw [onC_at l o, onC_shift, hf, onC_at l (thenV o p) a b h, (cop_then o p a b o0 o1 p0 p1).1, (cop_then o p a b o0 o1 p0 p1).2]
/-- There and back. -/
theorem on_back (l o a b h : Int) (hl : l = 1 ∨ l = 2 ∨ l = 3) (h0 : 0 ≤ h) (h1 : h < halvesV l) (o0 : 0 ≤ o) (o1 : o < 12) :
    onC l (backV o) (onC l o (a, b, h)) = (a, b, h) := by
  have hf := back_fin l (mem3 hl) h (mem2 h0 h1) h1 ⟨o.toNat, by omega⟩
  simp only [Int.toNat_of_nonneg o0] at hf
  obtain ⟨⟨b0, b1⟩, b2⟩ := bop_of o o0 o1
  have hc := cop_then o (backV o) a b o0 o1 b0 b1
  rw [b2] at hc
  have e1 : opA 0 a b = a := by simp [opA, tn]
  have e2 : opB 0 a b = b := by simp [opB, tn]
  rw [onC_at l o, onC_shift, hf, ← hc.1, ← hc.2, e1, e2]
  simp [sh]
/-- What is beside, brought. -/
theorem sym_fin : ∀ l ∈ [(1 : Int), 2, 3], ∀ h ∈ [(0 : Int), 1], h < halvesV l → ∀ o : Fin 12,
    ((besAll l 0 0 h).map (onC l o.val)).Nodup ∧ ∀ d ∈ besAll l 0 0 h, nearB l 0 0 (onH l o.val h) ((onC l o.val d).1 - (onC l o.val (0, 0, h)).1) ((onC l o.val d).2.1 - (onC l o.val (0, 0, h)).2.1) (onC l o.val d).2.2 = true := by decide +kernel
theorem sym_near (l o a b h : Int) (hl : l = 1 ∨ l = 2 ∨ l = 3) (h0 : 0 ≤ h) (h1 : h < halvesV l) (o0 : 0 ≤ o) (o1 : o < 12) {d : C} (hd : d ∈ besAll l a b h) :
    nearB l (onA l o a b h) (onB l o a b h) (onH l o h) (onA l o d.1 d.2.1 d.2.2) (onB l o d.1 d.2.1 d.2.2) (onH l o d.2.2) = true := by
  have hf := (sym_fin l (mem3 hl) h (mem2 h0 h1) h1 ⟨o.toNat, by omega⟩).2
  simp only [Int.toNat_of_nonneg o0] at hf
  rw [besAll_shift] at hd
  obtain ⟨e, he, rfl⟩ := List.mem_map.1 hd
  have hk := hf e he
  have e1 := onC_at l o a b h
  have e2 := onC_shift l o a b e
  have f1 : onA l o a b h = opA o a b + (onC l o (0, 0, h)).1 := congrArg (fun c : C => c.1) e1
  have f2 : onB l o a b h = opB o a b + (onC l o (0, 0, h)).2.1 := congrArg (fun c : C => c.2.1) e1
  have f3 : onA l o (sh a b e).1 (sh a b e).2.1 (sh a b e).2.2 = opA o a b + (onC l o e).1 := congrArg (fun c : C => c.1) e2
  have f4 : onB l o (sh a b e).1 (sh a b e).2.1 (sh a b e).2.2 = opB o a b + (onC l o e).2.1 := congrArg (fun c : C => c.2.1) e2
  have f5 : onH l o (sh a b e).2.2 = (onC l o e).2.2 := congrArg (fun c : C => c.2.2) e2
  rw [f3, f4, f5]
  have g1 : opA o a b + (onC l o e).1 = onA l o a b h + ((onC l o e).1 - (onC l o (0, 0, h)).1) := by rw [f1]; omega
  have g2 : opB o a b + (onC l o e).2.1 = onB l o a b h + ((onC l o e).2.1 - (onC l o (0, 0, h)).2.1) := by rw [f2]; omega
  rw [g1, g2, nearB_shift]
  exact hk
theorem sh_inj (a b : Int) {c d : C} (h : sh a b c = sh a b d) : c = d := by
  obtain ⟨x, y, z⟩ := c
  obtain ⟨u, v, s⟩ := d
  simp only [sh, Prod.mk.injEq] at h ⊢
  omega
theorem sym_nodup (l o a b h : Int) (hl : l = 1 ∨ l = 2 ∨ l = 3) (h0 : 0 ≤ h) (h1 : h < halvesV l) (o0 : 0 ≤ o) (o1 : o < 12) : ((besAll l a b h).map (onC l o)).Nodup := by
  have hf := (sym_fin l (mem3 hl) h (mem2 h0 h1) h1 ⟨o.toNat, by omega⟩).1
  simp only [Int.toNat_of_nonneg o0] at hf
  rw [besAll_shift, List.map_map]
  have e : (onC l o ∘ sh a b) = (sh (opA o a b) (opB o a b) ∘ onC l o) := by funext d; exact onC_shift l o a b d
  rw [e, ← List.map_map]
  unfold List.Nodup at hf ⊢
  rw [List.pairwise_map]
  exact hf.imp fun hne h => hne (sh_inj _ _ h)
/-- Small coordinates. -/
def Sm (c : C) : Prop := (-1000 ≤ c.1 ∧ c.1 ≤ 1000) ∧ (-1000 ≤ c.2.1 ∧ c.2.1 ≤ 1000) ∧ 0 ≤ c.2.2 ∧ c.2.2 ≤ 1
theorem onC_sm (l o : Int) (o0 : 0 ≤ o) (o1 : o < 12) (a b h : Int) (hh : h = 0 ∨ h = 1) (M : Int) (ha : -M ≤ a ∧ a ≤ M) (hb : -M ≤ b ∧ b ≤ M) :
    (-(2 * M + 2) ≤ onA l o a b h ∧ onA l o a b h ≤ 2 * M + 2) ∧ (-(2 * M + 2) ≤ onB l o a b h ∧ onB l o a b h ≤ 2 * M + 2) ∧ 0 ≤ onH l o h ∧ onH l o h < halvesV l := by
  have hz := op_size o a b M ha.1 ha.2 hb.1 hb.2
  have ht := t_bd' o h o0 o1 hh
  unfold onA onB onH halvesV
  split <;> omega
/-! A map keyed by cells. -/
def kc (a b h : Int) : Lit := .string (keyBytes [.int .i64 a, .int .i64 b, .int .i64 h])
theorem kc_inj {a b h a' b' h' : Int} (wa : (Lit.int .i64 a).wf = true) (wb : (Lit.int .i64 b).wf = true) (wh : (Lit.int .i64 h).wf = true) (wa' : (Lit.int .i64 a').wf = true) (wb' : (Lit.int .i64 b').wf = true) (wh' : (Lit.int .i64 h').wf = true)
    (e : kc a b h = kc a' b' h') : a = a' ∧ b = b' ∧ h = h' := by
  unfold kc at e
  injection e with e
  have := keyBytes_inj (l := [.int .i64 a, .int .i64 b, .int .i64 h]) (l' := [.int .i64 a', .int .i64 b', .int .i64 h']) ⟨rfl, rfl, rfl, trivial⟩
    (by intro x hx; simp at hx; rcases hx with rfl | rfl | rfl <;> assumption) (by intro x hx; simp at hx; rcases hx with rfl | rfl | rfl <;> assumption) e
  simpa using this
theorem rowCe : (31 : TypeId) < Tryd.prog.types.size := of_decide_eq_true (by kernel_rfl)
theorem wideCe : (match Tryd.prog.underlying 31 with | some (.array _ _) | some (.struct _) => true | _ => false) = true := by kernel_rfl
theorem lawCe : WideMaps.KeyLaw Tryd.prog 31 := deep_law_laid laidOut (m := 4) (by omega) rowCe (by kernel_rfl) wideCe
theorem keyedCe : Keyed Tryd.prog 31 := Keyed.of_law lawCe
theorem zeroI (w : World) : (zeroValue 3).run Tryd.prog w = .ok (.int .i64 0) w := by kernel_rfl
theorem kl_ce (d : Nat) (a b h : Int) (wa : (Lit.int .i64 a).wf = true) (wb : (Lit.int .i64 b).wf = true) (wh : (Lit.int .i64 h).wf = true) : Tryd.prog.keyLits (d + 3) 31 [.int .i64 a, .int .i64 b, .int .i64 h] = some [.int .i64 a, .int .i64 b, .int .i64 h] := by
  have c0 : Tryd.prog.cellsOf 2 = 1 := by kernel_rfl
  have c1 : Tryd.prog.cellsOf 3 = 1 := by kernel_rfl
  have c2 : Tryd.prog.cellsOf 29 = 2 := by kernel_rfl
  have c3 : Tryd.prog.cellsOf 31 = 3 := by kernel_rfl
  simp [Program.keyLits, Tryd.underlying31, Tryd.underlying29, Tryd.underlying2, Tryd.underlying3, c0, c1, c2, c3, wa, wb, wh]
  rw [if_pos (by decide)]
  rfl
theorem key_ce (a b h : Int) (wa : (Lit.int .i64 a).wf = true) (wb : (Lit.int .i64 b).wf = true) (wh : (Lit.int .i64 h).wf = true) : keyOf Tryd.prog 31 (Ce a b h) = some (kc a b h) := by
  have e0 : Tryd.prog.types.size + 1 = 91 - 2 + 3 := by kernel_rfl
  have e1 : Tryd.prog.keyType 31 = true := by kernel_rfl
  have e2 : (Ce a b h).formed Tryd.prog 31 = true := by kernel_rfl
  have e3 := kl_ce (91 - 2) a b h wa wb wh
  unfold keyOf
  rw [Tryd.underlying31]
  simp only [e1, e2, Bool.and_self, if_true, e0]
  rw [show (Ce a b h).cells.toList = [.int .i64 a, .int .i64 b, .int .i64 h] from rfl, e3]
  rfl
def cnt (D : DataW Unit) (l : Lit) : Int := match D.atKey l (.lit (.int .i64 0)) with | .lit (.int _ c) => c | _ => 0
abbrev OwnC (w : World) (B n : Nat) (D : DataW Unit) : Prop := w.ownsMap Tryd.prog 31 (plainElem Tryd.prog 3) B n D
theorem ownC_under {w w' : World} {B n : Nat} {D : DataW Unit} (h : OwnC w B n D) (hb : Below w.heap.size w w') : OwnC w' B n D := by
  have hlt := World.ownsMap.lt h
  obtain ⟨es, clock, h1, r⟩ := h
  exact ⟨es, clock, (hb.block B hlt).trans h1, r⟩
theorem own_look {w : World} {B n : Nat} {D : DataW Unit} (h : OwnC w B n D) {a b c : Int} (hk : keyOf Tryd.prog 31 (Ce a b c) = some (kc a b c)) :
    (Instr.lookup 42 (.map (some B)) (Ce a b c) false).run Tryd.prog w = .ok (.int .i64 (cnt D (kc a b c))) w ∧ (Lit.int .i64 (cnt D (kc a b c))).wf = true := by
  obtain ⟨n, hrun, hat, hwc⟩ := World.ownsMap.lookup_int h keyedCe Tryd.underlying42 Tryd.underlying3 (zeroI w) hk
  have e : cnt D (kc a b c) = n := by unfold cnt; rw [hat]
  rw [e]
  exact ⟨hrun, hwc⟩
theorem own_entry {w : World} {B n : Nat} {D : DataW Unit} (h : OwnC w B n D) (hn : n < maxLen) {a b c : Int} (hk : keyOf Tryd.prog 31 (Ce a b c) = some (kc a b c)) :
    ∃ w', (∃ v, (Instr.mapEntry 42 (.map (some B)) (Ce a b c)).run Tryd.prog w = .ok v w') ∧ OwnC w' B (n + 1) (D.put (kc a b c) (.lit (.int .i64 (cnt D (kc a b c))))) := by
  obtain ⟨hlk, hwc⟩ := own_look h hk
  obtain ⟨w', hup, hown', _⟩ := World.ownsMap.update (P := Tryd.prog) h keyedCe Tryd.underlying42 hn hk (plainElem_int Tryd.underlying3 hwc)
  refine ⟨w', ?_, hown'⟩
  generalize cnt D (kc a b c) = m at *
  obtain ⟨es, clock, hb, F, _, _⟩ := h
  rcases lawCe.find w hk es.toList F.keys with ⟨h1, _⟩ | ⟨j, e0, h1, h2, h3⟩
  · have hc : m = 0 := by
      simp [Instr.lookup, run_underlying Tryd.underlying42, MapKept.run_getObj_map hb, lawCe.check w es.isEmpty hk, h1, Result.andThen] at hlk
      exact hlk.symm
    subst hc
    simp [Instr.mapUpdate, run_underlying Tryd.underlying42, MapKept.run_getObj_map hb, lawCe.check w false hk, h1, MapKept.run_setObj_map _ hb, Result.andThen] at hup
    subst hup
    exact ⟨.tuple #[.int .i64 0, goInt clock], by simp [Instr.mapEntry, run_underlying Tryd.underlying42, MapKept.run_getObj_map hb, lawCe.check w false hk, h1, MapKept.run_setObj_map _ hb, Result.andThen]⟩
  · have hj : es[j]? = some e0 := by simpa using h2
    have hc : e0.val = .int .i64 m := by
      simp [Instr.lookup, run_underlying Tryd.underlying42, MapKept.run_getObj_map hb, lawCe.check w es.isEmpty hk, h1, Result.andThen] at hlk
      exact hlk
    simp [Instr.mapUpdate, run_underlying Tryd.underlying42, MapKept.run_getObj_map hb, lawCe.check w false hk, h1, hj, h3, lawCe.stays w hk, MapKept.run_setObj_map _ hb, Result.andThen] at hup
    subst hup
    have hsame : es.modify j (fun e => { e with key := Ce a b c }) = es.modify j (fun e => { e with key := Ce a b c, val := .int .i64 m }) := by
      apply Array.ext_getElem?
      intro i
      simp only [Array.getElem?_modify]
      split
      · rename_i hij
        subst hij
        rw [hj]
        simp [hc]
      · rfl
    exact ⟨.tuple #[e0.val, goInt e0.born], by simp [Instr.mapEntry, run_underlying Tryd.underlying42, MapKept.run_getObj_map hb, lawCe.check w false hk, h1, hj, h3, lawCe.stays w hk, hsame, MapKept.run_setObj_map _ hb, Result.andThen]⟩
theorem cnt_put {w : World} {B n : Nat} {D : DataW Unit} (h : OwnC w B n D) {a b c : Int} (hk : keyOf Tryd.prog 31 (Ce a b c) = some (kc a b c)) (m : Int) : cnt (D.put (kc a b c) (.lit (.int .i64 m))) (kc a b c) = m := by
  obtain ⟨es, clock, hb, F, _, rfl⟩ := h
  unfold cnt
  rw [atKey_put_same ⟨_, rfl⟩ (keyedCe.key hk)]
open Go.WideElems in
/-- 'm[k] = v' by its two halves: the entry is found or laid, and then its value is stored. -/
theorem own_store {w : World} {B n : Nat} {D : DataW Unit} (h : OwnC w B n D) (hn : n < maxLen) {a b c : Int} (hk : keyOf Tryd.prog 31 (Ce a b c) = some (kc a b c)) (m : Int) (hc : (Lit.int .i64 m).wf = true) :
    ∃ (v0 : Value) (st : Nat) (o1 o2 : Obj), (Instr.mapEntry 42 (.map (some B)) (Ce a b c)).run Tryd.prog w = .ok (.tuple #[v0, goInt st]) (ChangeMaps.setBlock w B o1) ∧
      (Instr.entryStore 42 (.map (some B)) (goInt st) (.int .i64 m)).run Tryd.prog (ChangeMaps.setBlock w B o1) = .ok () (ChangeMaps.setBlock w B o2) ∧
      OwnC (ChangeMaps.setBlock w B o2) B (n + 1) (D.put (kc a b c) (.lit (.int .i64 m))) ∧ w.grownBy (ChangeMaps.setBlock w B o1) (some B) ∧ w.grownBy (ChangeMaps.setBlock w B o2) (some B) ∧
      (Instr.lookup 42 (.map (some B)) (Ce a b c) false).run Tryd.prog (ChangeMaps.setBlock w B o1) = .ok (.int .i64 (cnt D (kc a b c))) (ChangeMaps.setBlock w B o1) := by
  obtain ⟨we, ⟨ve, hve⟩, hoe⟩ := own_entry h hn hk
  have hce := cnt_put h hk (cnt D (kc a b c))
  obtain ⟨w', hup, hown', hg'⟩ := World.ownsMap.update (P := Tryd.prog) h keyedCe Tryd.underlying42 hn hk (plainElem_int Tryd.underlying3 hc)
  obtain ⟨es, clock, hb, F, _, _⟩ := h
  obtain ⟨v0, st, es1, clock1, hme, _, hst⟩ := entry_then_store lawCe Tryd.underlying42 (fun u => zeroI u) hb F hk
  obtain ⟨es', clock', hes, hup2⟩ := hst (ChangeMaps.setBlock w B (.map es1 clock1)) (.int .i64 m) (ChangeMaps.heap_setBlock_same hb _)
  have e2 : ChangeMaps.setBlock (ChangeMaps.setBlock w B (.map es1 clock1)) B (.map es' clock') = ChangeMaps.setBlock w B (.map es' clock') := by
    simp [ChangeMaps.setBlock]
  rw [e2] at hes
  have e3 : w' = ChangeMaps.setBlock w B (.map es' clock') := by
    rw [hup] at hup2
    injection hup2
  rw [e3] at hown' hg'
  have e4 : we = ChangeMaps.setBlock w B (.map es1 clock1) := by
    rw [hve] at hme
    injection hme
  rw [e4] at hoe
  have hl := (own_look hoe hk).1
  rw [hce] at hl
  exact ⟨v0, st, _, _, hme, hes, hown', ⟨rfl, rfl, rfl, by simp [ChangeMaps.setBlock], fun i _ hi => ChangeMaps.heap_setBlock_other hb _ (fun e => hi (by rw [e]))⟩, hg', hl⟩
/-- The map holds just these cells, each once. -/
def Holds (D : DataW Unit) (L : List C) : Prop := Maps.size D = L.length ∧ ∀ c, Sm c → has D (kc c.1 c.2.1 c.2.2) = true → c ∈ L
theorem wf_small {n : Int} (h : -1000 ≤ n ∧ n ≤ 1000) : (Lit.int .i64 n).wf = true := by
  simp [Lit.wf, IntKind.min, IntKind.max, IntKind.signed, IntKind.bits]; omega
theorem Sm.wf {c : C} (h : Sm c) : (Lit.int .i64 c.1).wf = true ∧ (Lit.int .i64 c.2.1).wf = true ∧ (Lit.int .i64 c.2.2).wf = true := by
  unfold Sm at h
  exact ⟨wf_small (by omega), wf_small (by omega), wf_small (by omega)⟩
theorem holds_nil : Holds (.map []) [] := ⟨rfl, fun c _ h => by simp [has] at h⟩
theorem holds_cnt {D : DataW Unit} {L : List C} {c : C} (h : Holds D L) (hc : Sm c) (hn : c ∉ L) : cnt D (kc c.1 c.2.1 c.2.2) = 0 := by
  have hh : has D (kc c.1 c.2.1 c.2.2) = false := by
    cases g : has D (kc c.1 c.2.1 c.2.2)
    · rfl
    · exact absurd (h.2 c hc g) hn
  unfold cnt
  rw [atKey_of_not_has hh]
theorem holds_put {w : World} {B n : Nat} {D : DataW Unit} {L : List C} {c : C} (ho : OwnC w B n D) (h : Holds D L) (hc : Sm c) (hn : c ∉ L) (v : DataW Unit) : Holds (D.put (kc c.1 c.2.1 c.2.2) v) (L ++ [c]) := by
  have hh : has D (kc c.1 c.2.1 c.2.2) = false := by
    cases g : has D (kc c.1 c.2.1 c.2.2)
    · rfl
    · exact absurd (h.2 c hc g) hn
  refine ⟨?_, fun e he hp => ?_⟩
  · rw [size_put (World.ownsMap.tidy ho keyedCe), hh, h.1]
    simp
  · by_cases heq : e = c
    · subst heq; simp
    · have hne : kc e.1 e.2.1 e.2.2 ≠ kc c.1 c.2.1 c.2.2 := by
        intro e0
        obtain ⟨a1, a2, a3⟩ := he.wf
        obtain ⟨b1, b2, b3⟩ := hc.wf
        obtain ⟨x, y, z⟩ := kc_inj a1 a2 a3 b1 b2 b3 e0
        exact heq (Prod.ext x (Prod.ext y z))
      rw [has_put_other hne] at hp
      exact List.mem_append_left _ (h.2 e he hp)
end Go.Proofs.YtoimaiaccmmakaaDoor.Ce
