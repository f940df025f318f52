/- Contracts of package arena: Join. -/
import Derived.Test.YtahlinekbllkaaaGreatDoorArW4
import Derived.StillTailTactics
import Derived.WalkSpells
namespace Go.Proofs.YtahlinekbllkaaaGreatDoor.Ar
open Go.RowKit Go.Proofs.YtahlinekbllkaaaGreatDoor.Ba Go.Proofs.YtahlinekbllkaaaGreatDoor.Mp Go.Lib Go.Maps

def joinS (S : Sta) (k : K4) (d : Nd) : Sta := { addS S d with J := fun q => if q = k then some (S.N.length + 1) else S.J q, nJ := S.nJ + 1 }
def joinR (S : Sta) (k : K4) : Nat × Option Nat × Sta :=
  match S.J k with
  | some i => (i, none, S)
  | none => match aboveR S.N k with
    | (_, some c) => (0, some c, S)
    | (d, none) => if full S then (0, some 8, S) else (S.N.length + 1, none, joinS S k d)
/-- A node's number stored behind a new node. -/
theorem join_stored {w : World} {g i b c s0 : Nat} {k : K4} {S : Sta} {P : Nat → Prop} {M : K4 → Option Nat} {s lv : Value} (kb : Blk w g 126 #[.int .i64 S.more, s, lv, .map (some b)]) (ho : w.ownsRow 0 95 7 s S.N.length (flatN S.N)) (hI : IsB mkJ w b c s0 M) (hc : c < S.N.length) (hL : MapAt mkL w lv S.nL S.L) (hcL : S.nL ≤ S.N.length)
    (p1 : P g) (p2 : ∀ b, s.ownBlock = some b → P b) (p3 : P b) (p4 : ∀ b, mapBlock lv = some b → P b) (p5 : mapBlock lv ≠ some b) (hk : Nok S.N) (hm1 : 0 ≤ S.more) (hm2 : S.more ≤ 9223372036854775743) (hN : S.N.length ≤ 1000001) (hf : ok4 k) (hi : okU i) :
    ∃ w', (Instr.mapUpdate 124 (.map (some b)) (KV k) (.int .u32 i)).run Tryz.prog w = .ok () w' ∧ ArAt w' g { S with J := fun q => if q = k then some i else M q, nJ := c + 1 } P ∧ w.grownBy w' (some b) := by
  obtain ⟨w', hup, hI', hg⟩ := hI.put (by unfold maxLen; omega) hf (u32_lit hi)
  have hJ0 : MapAt mkJ w (.map (some b)) c M := .inr ⟨b, s0, rfl, hI⟩
  refine ⟨w', hup, ⟨s, lv, _, kb.grown hg (fun e => hJ0.blk kb (by rw [← e]; rfl)), own_same ho fun x hx => hg.block x (own_lt0 ho x hx) (fun e => hJ0.own ho b rfl (by rw [hx, e])), hL.same fun x hx => hg.block x (hL.lt x hx) (fun e => p5 (by rw [hx, e])), .inr ⟨b, _, rfl, hI'⟩, ⟨p1, p2, p4, fun x hx => ?_, fun x hx => ?_⟩, hk, ⟨hcL, hc⟩, hm1, hm2⟩, hg⟩
  · simp [mapBlock] at hx
    subst hx
    exact p3
  · simp [mapBlock] at hx
    subst hx
    exact p5
section
variable (g : Nat) (k : K4) (S : Sta) (P : Nat → Prop) (w : World) (h : ArAt w g S P) (hk : ok4 k)
include h hk
set_option maxRecDepth 100000 in
theorem join_found (i : Nat) (hl : S.J k = some i) :
    Calls Tryz.prog 75 #[Pt g, KV k] w fun e w' => e = .returned (.tuple #[.int .u32 i, .nilIface]) ∧ Below w.heap.size w w' := by
  (have kk := Blk.newAt w 93 #[.int .u32 k.1, .int .u32 k.2.1, .int .u32 k.2.2.1, .int .u32 k.2.2.2] _ rfl; have bW : Below w.heap.size w (w.alloc (.cells #[.int .u32 k.1, .int .u32 k.2.1, .int .u32 k.2.2.1, .int .u32 k.2.2.2] 93)) := (Below.refl _ _).alloc (Nat.le_refl _) _; have hW := (h.weak (P' := fun b => P b ∧ b ≠ w.heap.size) (fun b hp hlt => ⟨hp, Nat.ne_of_lt hlt⟩)).under bW; go_enter Tryz.func75, Tryz.ntmps75; go_upto_region 1 with fail; change Code.wp _ _ _ _ (w.alloc (.cells #[.int .u32 k.1, .int .u32 k.2.1, .int .u32 k.2.2.1, .int .u32 k.2.2.2] 93)); generalize w.alloc (.cells #[.int .u32 k.1, .int .u32 k.2.1, .int .u32 k.2.2.1, .int .u32 k.2.2.2] 93) = W at *; obtain ⟨p, cap, lv, jn, ⟨-, -, -, c3⟩, -, -, hJ⟩ := hW.cells; have q0 := kk.cell 0; have q1 := kk.cell 1; have q2 := kk.cell 2; have q3 := kk.cell 3; simp only [List.getElem?_toArray, List.getElem?_cons_zero, List.getElem?_cons_succ] at q0 q1 q2 q3; have hltg := hW.lt; have hltk := kk.lt)
  have hlk : ∀ n, (Instr.lookup 124 jn (KV k) true).run Tryz.prog (W.drewN n) = .ok (.tuple #[.int .u32 i, .bool true]) (W.drewN n) := fun n => by
    have := (hJ.same (w' := W.drewN n) fun _ _ => rfl).lookOk (x := k) hk
    rw [hl] at this
    exact this
  clear hJ hW kk h
  go_quiet (fail)
  go_wp2
  exact bodyPost_ret (v := .tuple #[.int .u32 i, .nilIface]) (by simp [results, Tryz.results75, go_sem]) rfl ⟨rfl, below_dr _ bW⟩
set_option maxRecDepth 100000 in
theorem join_bad (c : Nat) (d : Nd) (hl : S.J k = none) (hN : S.N.length ≤ 1000000) (ha : aboveR S.N k = (d, some c)) :
    Calls Tryz.prog 75 #[Pt g, KV k] w fun e w' => e = .returned (.tuple #[.int .u32 0, errV (some c)]) ∧ Below w.heap.size w w' := by
  have hab := fun Q W hW => above_any g k S Q W hW hk hN
  rw [ha] at hab
  (have kk := Blk.newAt w 93 #[.int .u32 k.1, .int .u32 k.2.1, .int .u32 k.2.2.1, .int .u32 k.2.2.2] _ rfl; have bW : Below w.heap.size w (w.alloc (.cells #[.int .u32 k.1, .int .u32 k.2.1, .int .u32 k.2.2.1, .int .u32 k.2.2.2] 93)) := (Below.refl _ _).alloc (Nat.le_refl _) _; have hW := (h.weak (P' := fun b => P b ∧ b ≠ w.heap.size) (fun b hp hlt => ⟨hp, Nat.ne_of_lt hlt⟩)).under bW; go_enter Tryz.func75, Tryz.ntmps75; go_upto_region 1 with fail; change Code.wp _ _ _ _ (w.alloc (.cells #[.int .u32 k.1, .int .u32 k.2.1, .int .u32 k.2.2.1, .int .u32 k.2.2.2] 93)); generalize w.alloc (.cells #[.int .u32 k.1, .int .u32 k.2.1, .int .u32 k.2.2.1, .int .u32 k.2.2.2] 93) = W at *; obtain ⟨p, cap, lv, jn, ⟨-, -, -, c3⟩, -, -, hJ⟩ := hW.cells; have q0 := kk.cell 0; have q1 := kk.cell 1; have q2 := kk.cell 2; have q3 := kk.cell 3; simp only [List.getElem?_toArray, List.getElem?_cons_zero, List.getElem?_cons_succ] at q0 q1 q2 q3; have hltg := hW.lt; have hltk := kk.lt)
  have hlk : ∀ n, (Instr.lookup 124 jn (KV k) true).run Tryz.prog (W.drewN n) = .ok (.tuple #[.int .u32 0, .bool false]) (W.drewN n) := fun n => by
    have := (hJ.same (w' := W.drewN n) fun _ _ => rfl).lookOk (x := k) hk
    rw [hl] at this
    exact this
  have HW := Lib.hid hW
  clear hJ hW kk h
  go_quiet (fail)
  go_wp2_with fail
  refine (hab _ _ (HW.out.under (below_dr _ (Below.refl _ _)))).mono ?_
  rintro e w1 ⟨rfl, hb⟩
  have hz := hb.size
  have hb1 : Below w.heap.size w w1 := bW.trans (Below.mono ⟨hb.os, hb.tape, hb.output, hb.size, hb.block⟩ bW.size)
  clear hb hab HW q0 q1 q2 q3 c3 hlk
  unfold errV
  go_wp2
  exact bodyPost_ret (v := .tuple #[.int .u32 0, errV (some c)]) (by simp [results, Tryz.results75, go_sem, errV]) rfl ⟨rfl, hb1.alloc hb1.size _⟩
set_option maxRecDepth 100000 in
theorem join_full (d : Nd) (hl : S.J k = none) (hN : S.N.length ≤ 1000000) (ha : aboveR S.N k = (d, none)) (hf : full S) :
    Calls Tryz.prog 75 #[Pt g, KV k] w fun e w' => e = .returned (.tuple #[.int .u32 0, errV (some 8)]) ∧ Below w.heap.size w w' := by
  have hab := fun Q W hW => above_any g k S Q W hW hk hN
  rw [ha] at hab
  have had := fun Q W hW => add_full g d S Q W hW hN hf
  (have kk := Blk.newAt w 93 #[.int .u32 k.1, .int .u32 k.2.1, .int .u32 k.2.2.1, .int .u32 k.2.2.2] _ rfl; have bW : Below w.heap.size w (w.alloc (.cells #[.int .u32 k.1, .int .u32 k.2.1, .int .u32 k.2.2.1, .int .u32 k.2.2.2] 93)) := (Below.refl _ _).alloc (Nat.le_refl _) _; have hW := (h.weak (P' := fun b => P b ∧ b ≠ w.heap.size) (fun b hp hlt => ⟨hp, Nat.ne_of_lt hlt⟩)).under bW; go_enter Tryz.func75, Tryz.ntmps75; go_upto_region 1 with fail; change Code.wp _ _ _ _ (w.alloc (.cells #[.int .u32 k.1, .int .u32 k.2.1, .int .u32 k.2.2.1, .int .u32 k.2.2.2] 93)); generalize w.alloc (.cells #[.int .u32 k.1, .int .u32 k.2.1, .int .u32 k.2.2.1, .int .u32 k.2.2.2] 93) = W at *; obtain ⟨p, cap, lv, jn, ⟨-, -, -, c3⟩, -, -, hJ⟩ := hW.cells; have q0 := kk.cell 0; have q1 := kk.cell 1; have q2 := kk.cell 2; have q3 := kk.cell 3; simp only [List.getElem?_toArray, List.getElem?_cons_zero, List.getElem?_cons_succ] at q0 q1 q2 q3; have hltg := hW.lt; have hltk := kk.lt)
  have hlk : ∀ n, (Instr.lookup 124 jn (KV k) true).run Tryz.prog (W.drewN n) = .ok (.tuple #[.int .u32 0, .bool false]) (W.drewN n) := fun n => by
    have := (hJ.same (w' := W.drewN n) fun _ _ => rfl).lookOk (x := k) hk
    rw [hl] at this
    exact this
  have HW := Lib.hid hW
  clear hJ hW kk h
  go_quiet (fail)
  go_wp2_with fail
  refine (hab _ _ (HW.out.under (below_dr _ (Below.refl _ _)))).mono ?_
  rintro e w1 ⟨rfl, hb⟩
  have hz := hb.size
  have hb1 : Below W.heap.size W w1 := ⟨hb.os, hb.tape, hb.output, hb.size, hb.block⟩
  clear hb hab q0 q1 q2 q3 c3 hlk
  unfold errV
  go_wp2_with fail
  have HW1 := HW.out.under (hb1.alloc hb1.size (.cells #[.int .u64 d.count, .int .u32 d.k.1, .int .u32 d.k.2.1, .int .u32 d.k.2.2.1, .int .u32 d.k.2.2.2, .int .u32 d.bits, .int .i32 d.level] 95))
  have hbw : Below w.heap.size w (w1.alloc (.cells #[.int .u64 d.count, .int .u32 d.k.1, .int .u32 d.k.2.1, .int .u32 d.k.2.2.1, .int .u32 d.k.2.2.2, .int .u32 d.bits, .int .i32 d.level] 95)) := bW.trans ((hb1.alloc hb1.size _).mono bW.size)
  refine (had _ _ HW1).mono ?_
  rintro e w2 ⟨rfl, hb2⟩
  have hbw2 := hbw.trans (hb2.mono hbw.size)
  clear hb2 hbw HW1
  unfold errV
  go_wp2
  exact bodyPost_ret (v := .tuple #[.int .u32 0, errV (some 8)]) (by simp [results, Tryz.results75, go_sem, errV]) rfl ⟨rfl, hbw2⟩
set_option maxRecDepth 100000 in
theorem join_new (hP : ∀ b, w.heap.size ≤ b → P b) (d : Nd) (hl : S.J k = none) (hN : S.N.length ≤ 1000000) (ha : aboveR S.N k = (d, none)) (hd : d.count ≤ 4611686018427387904 ∧ 2 ≤ d.level ∧ d.level ≤ 44) (hf : ¬ full S) :
    Calls Tryz.prog 75 #[Pt g, KV k] w fun e w' => e = .returned (.tuple #[.int .u32 ((S.N.length + 1 : Nat) : Int), .nilIface]) ∧ ArAt w' g (joinS S k d) P ∧ Off P w w' := by
  have hab := fun Q W hW => above_any g k S Q W hW hk hN
  rw [ha] at hab
  have had := fun Q W hW hQ => add_room g d S Q W hW hQ hd hN hf
  have hcc : S.nL ≤ S.N.length ∧ S.nJ ≤ S.N.length := by
    obtain ⟨_, _, _, -, -, -, -, -, -, r, -⟩ := h
    exact r
  have hb1u : okU (S.N.length + 1) := by show _ < _; omega
  have qT : ∀ (w : World) (r : Option Nat), (binOp .eql 124 (.map r) (.map none)).run Tryz.prog w = .ok (.bool r.isNone) w := fun w r => run_eql_map_nil w _ _ _ r Tryz.underlying124
  (have kk := Blk.newAt w 93 #[.int .u32 k.1, .int .u32 k.2.1, .int .u32 k.2.2.1, .int .u32 k.2.2.2] _ rfl; have bW : Below w.heap.size w (w.alloc (.cells #[.int .u32 k.1, .int .u32 k.2.1, .int .u32 k.2.2.1, .int .u32 k.2.2.2] 93)) := (Below.refl _ _).alloc (Nat.le_refl _) _; have hW := (h.weak (P' := fun b => P b ∧ b ≠ w.heap.size) (fun b hp hlt => ⟨hp, Nat.ne_of_lt hlt⟩)).under bW; go_enter Tryz.func75, Tryz.ntmps75; go_upto_region 1 with fail; change Code.wp _ _ _ _ (w.alloc (.cells #[.int .u32 k.1, .int .u32 k.2.1, .int .u32 k.2.2.1, .int .u32 k.2.2.2] 93)); generalize w.alloc (.cells #[.int .u32 k.1, .int .u32 k.2.1, .int .u32 k.2.2.1, .int .u32 k.2.2.2] 93) = W at *; obtain ⟨p, cap, lv, jn, ⟨-, -, -, c3⟩, -, -, hJ⟩ := hW.cells; have q0 := kk.cell 0; have q1 := kk.cell 1; have q2 := kk.cell 2; have q3 := kk.cell 3; simp only [List.getElem?_toArray, List.getElem?_cons_zero, List.getElem?_cons_succ] at q0 q1 q2 q3; have hltg := hW.lt; have hltk := kk.lt)
  have hlk : ∀ n, (Instr.lookup 124 jn (KV k) true).run Tryz.prog (W.drewN n) = .ok (.tuple #[.int .u32 0, .bool false]) (W.drewN n) := fun n => by
    have := (hJ.same (w' := W.drewN n) fun _ _ => rfl).lookOk (x := k) hk
    rw [hl] at this
    exact this
  have HW := Lib.hid hW
  clear hJ hW h
  go_quiet (fail)
  go_wp2_with fail
  refine (hab _ _ (HW.out.under (below_dr _ (Below.refl _ _)))).mono ?_
  rintro e w1 ⟨rfl, hb⟩
  have hb1 : Below W.heap.size W w1 := ⟨hb.os, hb.tape, hb.output, hb.size, hb.block⟩
  clear hb hab q0 q1 q2 q3 c3 hlk
  unfold errV
  go_wp2_with fail
  have hbn := hb1.alloc hb1.size (.cells #[.int .u64 d.count, .int .u32 d.k.1, .int .u32 d.k.2.1, .int .u32 d.k.2.2.1, .int .u32 d.k.2.2.2, .int .u32 d.bits, .int .i32 d.level] 95)
  have HW1 := HW.out.under hbn
  have hbw : Below w.heap.size w (w1.alloc (.cells #[.int .u64 d.count, .int .u32 d.k.1, .int .u32 d.k.2.1, .int .u32 d.k.2.2.1, .int .u32 d.k.2.2.2, .int .u32 d.bits, .int .i32 d.level] 95)) := bW.trans (hbn.mono bW.size)
  have kk1 := kk.under hbn
  have hsz : w.heap.size < (w1.alloc (.cells #[.int .u64 d.count, .int .u32 d.k.1, .int .u32 d.k.2.1, .int .u32 d.k.2.2.1, .int .u32 d.k.2.2.2, .int .u32 d.bits, .int .i32 d.level] 95)).heap.size := Nat.lt_of_lt_of_le hltk hbn.size
  refine (had _ _ HW1 (fun b hb => ⟨hP b (by omega), by omega⟩)).mono ?_
  rintro e w2 ⟨rfl, h2, off2⟩
  have kk2 := off2.blk kk1 (fun hq => hq.2 rfl)
  have hsz2 : w.heap.size < w2.heap.size := Nat.lt_of_lt_of_le hsz off2.size
  have offw : Off P w w2 := (Off.of_below hbw).trans (off2.weak (fun b _ hq => hq.1))
  clear off2 hbw HW1 HW hbn kk kk1 had hltg hltk hsz hb1 bW
  obtain ⟨s, lv', jn', kb, ho, hL, hJ, ⟨p1, p2, p3, p4, p5⟩, hkN, -, hm1, hm2⟩ := h2
  have hNl : (addS S d).N.length = S.N.length + 1 := by simp [addS]
  have HS := Lib.hid (show ∀ M : K4 → Option Nat, M = S.J → ({ addS S d with J := fun q => if q = k then some (S.N.length + 1) else M q, nJ := S.nJ + 1 } : Sta) = joinS S k d from fun M hM => by rw [hM]; rfl)
  have f3 := kb.frozen 3
  have e1 : ((S.N.length : Int) + 1) = ((S.N.length + 1 : Nat) : Int) := by omega
  have HE1 := Lib.hid e1
  clear e1
  rcases hJ with ⟨rfl, hJn⟩ | ⟨b, sz, rfl, hIs⟩
  · have hmm := @run_makeMap Tryz.prog
    have c3 := kb.cell 3
    have hlt2 := kb.lt
    simp only [List.getElem?_toArray, List.getElem?_cons_zero, List.getElem?_cons_succ] at c3
    go_upto_region 12 with fail
    have kS := ((kb.alloc (.map #[] 0)).set_ 3 (.map (some w2.heap.size)))
    have hIS : IsB mkJ ((w2.alloc (.map #[] 0)).setCell ⟨g, 3, none⟩ (.map (some w2.heap.size))) w2.heap.size S.nJ 0 (fun _ => none) := ((IsB.made w2).mono (Nat.zero_le _)).same (Below.heap_setCell _ _ _ _ (by dsimp only; omega))
    have oS := own_same (w' := (w2.alloc (.map #[] 0)).setCell ⟨g, 3, none⟩ (.map (some w2.heap.size))) ho fun b hb => (Below.heap_setCell _ _ _ b (fun e => own_blk_ne ho kb (by decide) (by rw [hb, e]))).trans (Below.heap_alloc w2 _ b (own_lt0 ho b hb))
    have LS := hL.same (w' := (w2.alloc (.map #[] 0)).setCell ⟨g, 3, none⟩ (.map (some w2.heap.size))) fun b hb => (Below.heap_setCell _ _ _ b (fun e => hL.blk kb (by rw [hb, e]))).trans (Below.heap_alloc w2 _ b (hL.lt b hb))
    have kkS := (kk2.alloc (.map #[] 0)).far (p := ⟨g, 3, none⟩) (fun e => p1.2 e.symm) (.map (some w2.heap.size))
    have offS : Off P w ((w2.alloc (.map #[] 0)).setCell ⟨g, 3, none⟩ (.map (some w2.heap.size))) := (offw.trans (Off.of_below ((Below.refl _ _).alloc (Nat.le_refl _) _))).setCell (fun _ => p1.1) _
    have hpn := hP w2.heap.size offw.size
    have hnL : mapBlock lv' ≠ some w2.heap.size := fun e => by have := hL.lt _ e; omega
    rw [World.setCell_alloc_past _ _ _ _ hlt2] at kS hIS oS LS kkS offS
    change Code.wp _ _ _ _ ((w2.setCell ⟨g, 3, none⟩ (.map (some w2.heap.size))).alloc (.map #[] 0))
    clear kb ho hL c3 f3 kk2 offw hlt2 hsz2
    generalize w2.heap.size = B at *
    generalize (w2.setCell ⟨g, 3, none⟩ (.map (some B))).alloc (.map #[] 0) = X at *
    obtain ⟨w3, hup, h3, hg3⟩ := join_stored (w := X.drew) (P := P) (k := k) (i := S.N.length + 1) kS (own_same oS fun _ _ => rfl) (hIS.same rfl) (by rw [hNl]; omega) (LS.same fun _ _ => rfl) (by rw [hNl]; exact Nat.le_succ_of_le hcc.1) p1.1 (fun b hb => (p2 b hb).1) hpn (fun b hb => (p3 b hb).1) hnL hkN hm1 hm2 (by rw [hNl]; omega) hk hb1u
    have off3 : Off P w w3 := Off.grown (w' := X.drew) ⟨offS.os, offS.tape, offS.output, offS.size, offS.block⟩ hg3 (fun b hb _ => by injection hb with hb; subst hb; exact hpn)
    have HA : ArAt w3 g (joinS S k d) P := by
      rw [HS.out (fun _ => none) hJn.symm] at h3
      exact h3
    clear h3 hg3 offS hIS oS LS hJn
    rw [← HE1.out] at hup
    have c3 := kS.cell 3
    have q0 := kkS.cell 0
    have q1 := kkS.cell 1
    have q2 := kkS.cell 2
    have q3 := kkS.cell 3
    have hltg := kS.lt
    have hltk := kkS.lt
    simp at c3
    simp only [List.getElem?_toArray, List.getElem?_cons_zero, List.getElem?_cons_succ] at q0 q1 q2 q3
    clear kS kkS
    go_still_tail 6, (by kernel_rfl)
    change wpList _ _ _ _ _ X.drew
    go_wp2
    exact bodyPost_ret (v := .tuple #[.int .u32 ((S.N.length + 1 : Nat) : Int), .nilIface]) (by simp [results, Tryz.results75, go_sem]) rfl ⟨rfl, HA, off3⟩
  · have c3 := kb.cell 3
    have hlt2 := kb.lt
    simp only [List.getElem?_toArray, List.getElem?_cons_zero, List.getElem?_cons_succ] at c3
    go_upto_region 12 with fail
    obtain ⟨w3, hup, h3, hg3⟩ := join_stored (w := w2.drew) (P := P) (k := k) (i := S.N.length + 1) kb (own_same ho fun _ _ => rfl) (hIs.same rfl) (by rw [hNl]; show S.nJ < _; omega) (hL.same fun _ _ => rfl) (by rw [hNl]; exact Nat.le_succ_of_le hcc.1) p1.1 (fun b hb => (p2 b hb).1) (p4 b rfl).1 (fun b hb => (p3 b hb).1) (p5 b rfl) hkN hm1 hm2 (by rw [hNl]; omega) hk hb1u
    have off3 : Off P w w3 := Off.grown (w' := w2.drew) ⟨offw.os, offw.tape, offw.output, offw.size, offw.block⟩ hg3 (fun x hx _ => (p4 x hx).1)
    have HA : ArAt w3 g (joinS S k d) P := by
      have := HS.out S.J rfl
      rw [← this]
      exact h3
    rw [← HE1.out] at hup
    have q0 := kk2.cell 0
    have q1 := kk2.cell 1
    have q2 := kk2.cell 2
    have q3 := kk2.cell 3
    have hltk := kk2.lt
    simp only [List.getElem?_toArray, List.getElem?_cons_zero, List.getElem?_cons_succ] at q0 q1 q2 q3
    clear h3 hg3 offw hIs hL ho kk2 kb
    go_still_tail 6, (by kernel_rfl)
    change wpList _ _ _ _ _ w2.drew
    go_wp2
    exact bodyPost_ret (v := .tuple #[.int .u32 ((S.N.length + 1 : Nat) : Int), .nilIface]) (by simp [results, Tryz.results75, go_sem]) rfl ⟨rfl, HA, off3⟩
end
end Go.Proofs.YtahlinekbllkaaaGreatDoor.Ar
