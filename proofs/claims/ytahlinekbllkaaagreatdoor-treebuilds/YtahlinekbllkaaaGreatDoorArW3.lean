/- Contracts of package arena: Leaf. -/
import Derived.Test.YtahlinekbllkaaaGreatDoorArW2
import Derived.Test.YtahlinekbllkaaaGreatDoorSiC
import Derived.WalkSpells
namespace Go.Proofs.YtahlinekbllkaaaGreatDoor.Ar
open Go.RowKit Go.Proofs.YtahlinekbllkaaaGreatDoor.Ba Go.Proofs.YtahlinekbllkaaaGreatDoor.Mp Go.Lib Go.Maps

def leafNd (f : Nat) : Nd := ⟨Si.pcn f 32, (0, 0, 0, 0), f, 2⟩
def leafS (S : Sta) (f : Nat) : Sta := { addS S (leafNd f) with L := fun q => if q = f then some (S.N.length + 1) else S.L q, nL := S.nL + 1 }
def leafR (S : Sta) (f : Nat) : Nat × Option Nat × Sta :=
  if f = 0 then (0, none, S) else match S.L f with
    | some i => (i, none, S)
    | none => if full S then (0, some 8, S) else (S.N.length + 1, none, leafS S f)
/-- A leaf's number stored behind a new node. -/
theorem leaf_stored {w : World} {g f i b c s0 : Nat} {S : Sta} {P : Nat → Prop} {M : Nat → Option Nat} {s jn : Value} (kb : Blk w g 126 #[.int .i64 S.more, s, .map (some b), jn]) (ho : w.ownsRow 0 95 7 s S.N.length (flatN S.N)) (hI : IsB mkL w b c s0 M) (hc : c < S.N.length) (hJ : MapAt mkJ w jn S.nJ S.J) (hcJ : S.nJ ≤ S.N.length)
    (p1 : P g) (p2 : ∀ b, s.ownBlock = some b → P b) (p3 : P b) (p4 : ∀ b, mapBlock jn = some b → P b) (p5 : mapBlock jn ≠ some b) (hk : Nok S.N) (hm1 : 0 ≤ S.more) (hm2 : S.more ≤ 9223372036854775743) (hN : S.N.length ≤ 1000001) (hf : okU f) (hi : okU i) :
    ∃ w', (Instr.mapUpdate 123 (.map (some b)) (.int .u32 f) (.int .u32 i)).run Tryz.prog w = .ok () w' ∧ ArAt w' g { S with L := fun q => if q = f then some i else M q, nL := c + 1 } P ∧ w.grownBy w' (some b) := by
  obtain ⟨w', hup, hI', hg⟩ := hI.put (by unfold maxLen; omega) hf (u32_lit hi)
  have hL0 : MapAt mkL w (.map (some b)) c M := .inr ⟨b, s0, rfl, hI⟩
  refine ⟨w', hup, ⟨s, _, jn, kb.grown hg (fun e => hL0.blk kb (by rw [← e]; rfl)), own_same ho fun x hx => hg.block x (own_lt0 ho x hx) (fun e => hL0.own ho b rfl (by rw [hx, e])), .inr ⟨b, _, rfl, hI'⟩, hJ.same fun x hx => hg.block x (hJ.lt x hx) (fun e => p5 (by rw [hx, e])), ⟨p1, p2, fun x hx => ?_, p4, fun x hx => ?_⟩, hk, ⟨hc, hcJ⟩, hm1, hm2⟩, hg⟩
  · simp [mapBlock] at hx
    subst hx
    exact p3
  · intro e
    simp [mapBlock] at e
    subst e
    exact p5 hx
set_option maxRecDepth 100000 in
theorem leaf_new (g f : Nat) (S : Sta) (P : Nat → Prop) (w : World) (h : ArAt w g S P) (hP : ∀ b, w.heap.size ≤ b → P b) (hf : okU f) (h0 : f ≠ 0) (hl : S.L f = none) (hN : S.N.length ≤ 1000000) (hfu : ¬ full S) :
    Calls Tryz.prog 60 #[Pt g, .int .u32 f] w fun e w' => e = .returned (.tuple #[.int .u32 ((S.N.length + 1 : Nat) : Int), .nilIface]) ∧ ArAt w' g (leafS S f) P ∧ Off P w w' := by
  have hp := Si.pcn_le f 32
  have hc := fun W => Si.count_any f hf W
  have ha := fun W hW hPW => add_room g (leafNd f) S P W hW hPW ⟨by unfold leafNd; dsimp only; omega, by unfold leafNd; dsimp only; omega, by unfold leafNd; dsimp only; omega⟩ hN hfu
  have hcc : S.nL ≤ S.N.length ∧ S.nJ ≤ S.N.length := by
    obtain ⟨_, _, _, -, -, -, -, -, -, r, -⟩ := h
    exact r
  unfold leafNd at ha
  generalize hpn : Si.pcn f 32 = pn at *
  have HPN := Lib.hid hpn
  clear hpn
  have h0' : (f : Int) ≠ 0 := by omega
  obtain ⟨p, cap, lv, jn, ⟨-, -, c2, -⟩, -, hL, -⟩ := h.cells
  have hlt := h.lt
  have hlk : (Instr.lookup 123 lv (.int .u32 f) true).run Tryz.prog w = .ok (.tuple #[.int .u32 0, .bool false]) w := by
    have := hL.lookOk (x := f) hf
    rw [hl] at this
    exact this
  have hb1 : okU (S.N.length + 1) := by show _ < _; omega
  have qT : ∀ (w : World) (r : Option Nat), (binOp .eql 123 (.map r) (.map none)).run Tryz.prog w = .ok (.bool r.isNone) w := fun w r => run_eql_map_nil w _ _ _ r Tryz.underlying123
  clear hL
  go_enter Tryz.func60, Tryz.ntmps60
  go_wp2_with fail
  refine (hc _).mono ?_
  rintro e w' ⟨rfl, m, rfl⟩
  go_wp2_with fail
  refine (ha _ (h.under (below_dr m (Below.refl _ _))) hP).mono ?_
  rintro e w1 ⟨rfl, h1, ho1⟩
  have ho2 : Off P w w1 := ⟨ho1.os, ho1.tape, ho1.output, ho1.size, ho1.block⟩
  clear ho1 ha hc c2 hlk
  obtain ⟨s, lv', jn', kb, ho, hL, hJ, ⟨p1, p2, p3, p4, p5⟩, hk, -, hm1, hm2⟩ := h1
  have c2 := kb.cell 2
  have f2 := kb.frozen 2
  have hlt1 := kb.lt
  have HS := Lib.hid (show ∀ M : Nat → Option Nat, M = S.L → ({ addS S ⟨pn, (0, 0, 0, 0), f, 2⟩ with L := fun q => if q = f then some (S.N.length + 1) else M q, nL := S.nL + 1 } : Sta) = leafS S f from fun M hM => by rw [hM, ← HPN.out]; rfl)
  have hNl : (addS S ⟨pn, (0, 0, 0, 0), f, 2⟩).N.length = S.N.length + 1 := by simp [addS]
  rcases hL with ⟨rfl, hLn⟩ | ⟨b, sz, rfl, hIs⟩
  · simp only [List.getElem?_toArray, List.getElem?_cons_zero, List.getElem?_cons_succ] at c2
    have hmm := @run_makeMap Tryz.prog
    have kS := ((kb.alloc (.map #[] 0)).set_ 2 (.map (some w1.heap.size)))
    have hIS : IsB mkL ((w1.alloc (.map #[] 0)).setCell ⟨g, 2, none⟩ (.map (some w1.heap.size))) w1.heap.size S.nL 0 (fun _ => none) := ((IsB.made w1).mono (Nat.zero_le _)).same (Below.heap_setCell _ _ _ _ (by dsimp only; omega))
    have oS := own_same (w' := (w1.alloc (.map #[] 0)).setCell ⟨g, 2, none⟩ (.map (some w1.heap.size))) ho fun b hb => (Below.heap_setCell _ _ _ b (fun e => own_blk_ne ho kb (by decide) (by rw [hb, e]))).trans (Below.heap_alloc w1 _ b (own_lt0 ho b hb))
    have JS := hJ.same (w' := (w1.alloc (.map #[] 0)).setCell ⟨g, 2, none⟩ (.map (some w1.heap.size))) fun b hb => (Below.heap_setCell _ _ _ b (fun e => hJ.blk kb (by rw [hb, e]))).trans (Below.heap_alloc w1 _ b (hJ.lt b hb))
    obtain ⟨w3, hup, h3, hg3⟩ := leaf_stored (P := P) (f := f) (i := S.N.length + 1) kS oS hIS (by rw [hNl]; omega) JS (by rw [hNl]; exact Nat.le_succ_of_le hcc.2) p1 p2 (hP _ ho2.size) p4 (fun e => by have := hJ.lt _ e; omega) hk hm1 hm2 (by rw [hNl]; omega) hf hb1
    have offS : Off P w ((w1.alloc (.map #[] 0)).setCell ⟨g, 2, none⟩ (.map (some w1.heap.size))) := (ho2.trans (Off.of_below ((Below.refl _ _).alloc (Nat.le_refl _) _))).setCell (fun _ => p1) _
    have off3 : Off P w w3 := offS.grown hg3 (fun b hb hlt => by injection hb with hb; subst hb; exact hP _ ho2.size)
    have HA : ArAt w3 g (leafS S f) P := by
      rw [HS.out (fun _ => none) hLn.symm] at h3
      exact h3
    clear h3 hg3 offS kS hIS oS JS hLn
    have hup' : (Instr.mapUpdate 123 (.map (some w1.heap.size)) (.int .u32 f) (.int .u32 ((S.N.length : Int) + 1))).run Tryz.prog ((w1.setCell ⟨g, 2, none⟩ (.map (some w1.heap.size))).alloc (.map #[] 0)) = .ok () w3 := by
      have e : ((S.N.length : Int) + 1) = ((S.N.length + 1 : Nat) : Int) := by omega
      rw [e, ← World.setCell_alloc_past _ _ _ _ hlt1]
      exact hup
    clear hup ho hJ p2 p3 p4 p5 kb h
    go_wp2
    exact bodyPost_ret (v := .tuple #[.int .u32 ((S.N.length + 1 : Nat) : Int), .nilIface]) (by simp [results, Tryz.results60, go_sem]) rfl ⟨rfl, HA, off3⟩
  · simp only [List.getElem?_toArray, List.getElem?_cons_zero, List.getElem?_cons_succ] at c2
    have hUp : ∃ w3, _ := leaf_stored (P := P) (f := f) (i := S.N.length + 1) kb ho hIs (by rw [hNl]; show S.nL < _; omega) hJ (by rw [hNl]; exact Nat.le_succ_of_le hcc.2) p1 p2 (p3 b rfl) p4 (fun e => p5 b e rfl) hk hm1 hm2 (by rw [hNl]; omega) hf hb1
    obtain ⟨w3, hup, h3, hg3⟩ := hUp
    have off3 : Off P w w3 := ho2.grown hg3 (fun x hx _ => p3 x hx)
    have HA : ArAt w3 g (leafS S f) P := by
      have := HS.out S.L rfl
      rw [← this]
      exact h3
    clear h3 hg3 hIs
    have hup' : (Instr.mapUpdate 123 (.map (some b)) (.int .u32 f) (.int .u32 ((S.N.length : Int) + 1))).run Tryz.prog w1 = .ok () w3 := by
      have e : ((S.N.length : Int) + 1) = ((S.N.length + 1 : Nat) : Int) := by omega
      rw [e]
      exact hup
    clear hup ho hJ p2 p3 p4 p5 kb h
    go_wp2
    exact bodyPost_ret (v := .tuple #[.int .u32 ((S.N.length + 1 : Nat) : Int), .nilIface]) (by simp [results, Tryz.results60, go_sem]) rfl ⟨rfl, HA, off3⟩
set_option maxRecDepth 100000 in
theorem leaf_found (g f : Nat) (S : Sta) (P : Nat → Prop) (w : World) (h : ArAt w g S P) (hf : okU f) (h0 : f ≠ 0) (i : Nat) (hl : S.L f = some i) :
    Calls Tryz.prog 60 #[Pt g, .int .u32 f] w fun e w' => e = .returned (.tuple #[.int .u32 i, .nilIface]) ∧ w = w' := by
  have h0' : (f : Int) ≠ 0 := by omega
  obtain ⟨p, cap, lv, jn, ⟨-, -, c2, -⟩, -, hL, -⟩ := h.cells
  have hlt := h.lt
  have hlk : (Instr.lookup 123 lv (.int .u32 f) true).run Tryz.prog w = .ok (.tuple #[.int .u32 i, .bool true]) w := by
    have := hL.lookOk (x := f) hf
    rw [hl] at this
    exact this
  clear hL h
  go_enter Tryz.func60, Tryz.ntmps60
  go_wp2
  exact bodyPost_ret (v := .tuple #[.int .u32 i, .nilIface]) (by simp [results, Tryz.results60, go_sem]) rfl ⟨rfl, rfl⟩
theorem leaf_zero (g : Nat) (w : World) :
    Calls Tryz.prog 60 #[Pt g, .int .u32 0] w fun e w' => e = .returned (.tuple #[.int .u32 0, .nilIface]) ∧ w = w' := by
  go_enter Tryz.func60, Tryz.ntmps60
  go_wp2
  exact bodyPost_ret (v := .tuple #[.int .u32 0, .nilIface]) (by simp [results, Tryz.results60, go_sem]) rfl ⟨rfl, rfl⟩
set_option maxRecDepth 100000 in
theorem leaf_full (g f : Nat) (S : Sta) (P : Nat → Prop) (w : World) (h : ArAt w g S P) (hf : okU f) (h0 : f ≠ 0) (hl : S.L f = none) (hN : S.N.length ≤ 1000000) (hfu : full S) :
    Calls Tryz.prog 60 #[Pt g, .int .u32 f] w fun e w' => e = .returned (.tuple #[.int .u32 0, errV (some 8)]) ∧ Below w.heap.size w w' := by
  have hp := Si.pcn_le f 32
  have hc := fun W => Si.count_any f hf W
  have ha := fun W hW => add_full g (leafNd f) S P W hW hN hfu
  unfold leafNd at ha
  generalize Si.pcn f 32 = pn at *
  have h0' : (f : Int) ≠ 0 := by omega
  obtain ⟨p, cap, lv, jn, ⟨-, -, c2, -⟩, -, hL, -⟩ := h.cells
  have hlt := h.lt
  have hlk : (Instr.lookup 123 lv (.int .u32 f) true).run Tryz.prog w = .ok (.tuple #[.int .u32 0, .bool false]) w := by
    have := hL.lookOk (x := f) hf
    rw [hl] at this
    exact this
  clear hL
  go_enter Tryz.func60, Tryz.ntmps60
  go_wp2_with fail
  refine (hc _).mono ?_
  rintro e w' ⟨rfl, m, rfl⟩
  go_wp2_with fail
  refine (ha _ (h.under (below_dr m (Below.refl _ _)))).mono ?_
  rintro e w1 ⟨rfl, hb⟩
  have hb1 : Below w.heap.size w w1 := ⟨hb.os, hb.tape, hb.output, hb.size, hb.block⟩
  clear hb ha hc
  unfold errV
  go_wp2
  exact bodyPost_ret (v := .tuple #[.int .u32 0, errV (some 8)]) (by simp [results, Tryz.results60, go_sem, errV]) rfl ⟨rfl, hb1⟩
/-- Leaf. -/
theorem leaf_any (g f : Nat) (S : Sta) (P : Nat → Prop) (w : World) (h : ArAt w g S P) (hP : ∀ b, w.heap.size ≤ b → P b) (hf : okU f) (hN : S.N.length ≤ 1000000) :
    Calls Tryz.prog 60 #[Pt g, .int .u32 f] w fun e w' => e = .returned (.tuple #[.int .u32 ((leafR S f).1 : Int), errV (leafR S f).2.1]) ∧ ArAt w' g (leafR S f).2.2 P ∧ Off P w w' := by
  unfold leafR
  by_cases h0 : f = 0
  · subst h0
    refine (leaf_zero g w).mono ?_
    rintro e w' ⟨rfl, rfl⟩
    exact ⟨rfl, h, Off.refl⟩
  · rw [if_neg h0]
    cases hl : S.L f with
    | some i =>
      refine (leaf_found g f S P w h hf h0 i hl).mono ?_
      rintro e w' ⟨rfl, rfl⟩
      exact ⟨rfl, h, Off.refl⟩
    | none =>
      by_cases hfu : full S
      · simp only [if_pos hfu]
        refine (leaf_full g f S P w h hf h0 hl hN hfu).mono ?_
        rintro e w' ⟨rfl, hb⟩
        exact ⟨rfl, h.under hb, Off.of_below hb⟩
      · simp only [if_neg hfu]
        exact leaf_new g f S P w h hP hf h0 hl hN hfu
end Go.Proofs.YtahlinekbllkaaaGreatDoor.Ar
