/- Contracts of package tree: walk, and what it sees. -/
import Derived.Test.YtahlinekbllkaaaGreatDoorTrW11
import Derived.Test.YtahlinekbllkaaaGreatDoorTrW5
import Derived.Test.YtahlinekbllkaaaGreatDoorSiW5
import Derived.Test.YtahlinekbllkaaaGreatDoorSeL
import Derived.Maps.AppendAt
import Derived.Deep.RegionLaw
import Derived.Deep.RegionHeld3
namespace Go.Proofs.YtahlinekbllkaaaGreatDoor.Tr
open Go.RowKit Go.Proofs.YtahlinekbllkaaaGreatDoor.Ba Go.Proofs.YtahlinekbllkaaaGreatDoor.Ar Go.Lib
open Go.Proofs.YtahlinekbllkaaaGreatDoor.Si (cAt cells_any DebIs)
open Go.Proofs.YtahlinekbllkaaaGreatDoor.Se (SetAt flat flat_len flat_app cell_info one_flat)

theorem run_append_cl {w : World} (base : Nat) (ty : TypeId) (v : Value) (n : Nat) (M : List C) (hown : w.ownsRow base 53 3 v n (flat M)) (x : Value) (S : List C) (hx : SetAt w x S) (h63 : n + S.length ≤ 3000000) (hbase : base ≤ w.heap.size) :
    ∃ v' w', (Builtin.append_ #[31, 31] ty #[v, x]).run Tryz.prog w = .ok v' w' ∧ w'.ownsRow base 53 3 v' (n + S.length) (flat (M ++ S)) ∧ w.grownBy w' v.ownBlock ∧ (v'.ownBlock = v.ownBlock ∨ v'.ownBlock = some w.heap.size) := by
  obtain ⟨i0, hi0, hz0, hz1, hz2⟩ := info_parts cell_info
  rw [flat_app]
  rcases hx with ⟨rfl, rfl⟩ | ⟨g, cap, rfl, hc, hr⟩
  · refine ⟨_, w, run_append_owned_none w base 31 ty 53 i0 3 Tryz.underlying31 hi0 _ n (flat M) hown, by simpa [flat] using hown, ⟨rfl, rfl, rfl, Nat.le_refl _, fun _ _ _ => rfl⟩, .inl rfl⟩
  · obtain ⟨v', w', h1, h2, h3, _, h5⟩ := run_append_own_at (P := Tryz.prog) w base 31 ty 53 i0 _ 3 24 Tryz.underlying31 hi0 hz0 hz1 hz2 rfl (by decide) _ n (flat M) hown ⟨g, 0, none⟩ S.length cap (flat S) (flat_len S) (fun j u hu => by rw [Addr.add_lit]; exact hr.flat j u hu) (one_flat S) (by unfold maxLen; omega) (by omega) hbase
    exact ⟨v', w', h1, h2, h3, h5⟩
/-- As one step of a region that draws its order. -/
theorem step_append_cl {ops : Array Oper} {o : Oper} {a : Act} {w : World} {K : Act → World → Prop} {Q : Exit → Act → World → Prop} {E : Prop}
    (hg : o.guard = none) (s x : Operand) (hop : o.op = Op.call { callee := Callee.builtin Builtin.append, args := #[s, x], argTypes := #[31, 31] })
    (base : Nat) (v y : Value) (n : Nat) (M S : List C) (hs : a.eval s = v) (hown : w.ownsRow base 53 3 v n (flat M)) (hx : a.eval x = y) (hS : SetAt w y S) (h63 : n + S.length ≤ 3000000) (hbase : base ≤ w.heap.size)
    (hK : ∀ v' w', w'.ownsRow base 53 3 v' (n + S.length) (flat (M ++ S)) → w.grownBy w' v.ownBlock → (v'.ownBlock = v.ownBlock ∨ v'.ownBlock = some w.heap.size) → K (a.put o.dst v') w') :
    if Region.wanted o (yielded ops a.tmps) = true then Oper.wp Tryz.prog o a w K Q else E := by
  have hw : Region.wanted o (yielded ops a.tmps) = true := by simp [Region.wanted, hg]
  rw [if_pos hw]
  obtain ⟨v', w', hrun, r1, r2, r3⟩ := run_append_cl base o.type v n M hown y S hS h63 hbase
  unfold Oper.wp
  simp [execOp, hop, resolve, invoke, builtin, hs, hx, hrun, Result.andThen]
  exact hK v' w' r1 r2 r3
/-- A list that a closure fills. -/
structure Fill (w : World) (l : Nat) (v : Value) (L : List C) : Prop where
  blk : Blk w l 31 #[v]
  own : w.ownsRow (l + 1) 53 3 v L.length (flat L)
def Wk (l : Nat) (v : Value) : Nat → Prop := fun b => b = l ∨ v.ownBlock = some b
theorem wk_ge {w : World} {l : Nat} {v : Value} {L : List C} (h : Fill w l v L) : ∀ b, Wk l v b → l ≤ b := fun b hb => by
  rcases hb with rfl | hb
  · exact Nat.le_refl _
  · have := (h.own.lt b hb).1
    omega
/-- What a filling call leaves. -/
structure Fd (w : World) (l : Nat) (v : Value) (L : List C) (v' : Value) (w' : World) : Prop where
  fill : Fill w' l v' L
  off : Off (Wk l v) w w'
  blk : ∀ b, v'.ownBlock = some b → v.ownBlock = some b ∨ w.heap.size ≤ b
theorem DebIs.off {w w' : World} {l : Nat} {v : Value} {L : List C} (h : DebIs w) (hF : Fill w l v L) (ho : Off (Wk l v) w w') (hg : 0 < l) : DebIs w' := by
  have e : w'.heap[0]? = w.heap[0]? := ho.block _ h.2 (fun hq => by have := wk_ge hF _ hq; omega)
  exact ⟨fun i hi => (World.cell?_of_block (a := ⟨_, i, none⟩) e).trans (h.1 i hi), Nat.lt_of_lt_of_le h.2 ho.size⟩
theorem fd_stored {w w5 w6 : World} {l : Nat} {v v' : Value} {L K : List C} (_hF : Fill w l v L) (hb : Below w.heap.size w w5) (hg : w5.grownBy w6 v.ownBlock) (ho : w6.ownsRow (l + 1) 53 3 v' (L.length + K.length) (flat (L ++ K))) (hob : v'.ownBlock = v.ownBlock ∨ v'.ownBlock = some w5.heap.size) (kl : Blk w6 l 31 #[v]) :
    Fd w l v (L ++ K) v' (w6.setCell ⟨l, 0, none⟩ v') := by
  refine ⟨⟨kl.set_ 0 v', ?_⟩, ?_, fun b hb' => ?_⟩
  · rw [List.length_append]
    exact own_same ho fun b hb' => Below.heap_setCell _ _ _ _ (fun e => by have e2 : b = l := e; have := (ho.lt b hb').1; omega)
  · exact (((Off.of_below (P := Wk l v) hb).grown hg fun b hb' _ => .inr hb').setCell (p := ⟨l, 0, none⟩) (fun _ => .inl rfl) v')
  · rcases hob with h | h
    · exact .inl (h ▸ hb')
    · rw [h] at hb'
      injection hb' with hb'
      have := hb.size
      omega
theorem Fd.refl {w : World} {l : Nat} {v : Value} {L : List C} (h : Fill w l v L) : Fd w l v L v w := ⟨h, Off.refl, fun _ hb => .inl hb⟩
theorem Fd.under {w w' : World} {l : Nat} {v : Value} {L : List C} (h : Fill w l v L) (hb : Below w.heap.size w w') : Fd w l v L v w' :=
  ⟨⟨h.blk.under hb, own_below h.own hb⟩, Off.of_below hb, fun _ hb => .inl hb⟩
theorem Fd.trans {w w1 w2 : World} {l : Nat} {v v1 v2 : Value} {L1 L2 : List C} (h : Fd w l v L1 v1 w1) (k : Fd w1 l v1 L2 v2 w2) : Fd w l v L2 v2 w2 := by
  refine ⟨k.fill, ⟨k.off.os.trans h.off.os, k.off.tape.trans h.off.tape, k.off.output.trans h.off.output, Nat.le_trans h.off.size k.off.size, fun b hb hn => ?_⟩, fun b hb => ?_⟩
  · refine (k.off.block b (Nat.lt_of_lt_of_le hb h.off.size) fun hq => ?_).trans (h.off.block b hb hn)
    rcases hq with e | e
    · exact hn (.inl e)
    · rcases h.blk b e with e2 | e2
      · exact hn (.inr e2)
      · omega
  · rcases k.blk b hb with e | e
    · exact h.blk b e
    · have := h.off.size
      exact .inr (by omega)
set_option maxRecDepth 100000 in
set_option maxHeartbeats 1000000 in
theorem see_any (l : Nat) (v : Value) (L : List C) (f : Nat) (x y : Int) (w : World) (hF : Fill w l v L) (hf : f < 4294967296) (hx : -4611686018427387904 ≤ x ∧ x ≤ 4611686018427387904) (hy : -4611686018427387904 ≤ y ∧ y ≤ 4611686018427387904) (hD : DebIs w) (hL : L.length ≤ 1000000) :
    Calls Tryz.prog 38 #[Pv x y, .int .u32 f, Pt l] w fun e w' => ∃ v', e = .returned (.tuple #[]) ∧ Fd w l v (L ++ (Si.pos f 32).map (cAt x y)) v' w' := by
  have hce := fun W hW => cells_any f x y hf hx hy W hW
  have hpl : ((Si.pos f 32).map (cAt x y)).length ≤ 32 := by rw [List.length_map, Si.pos_len]; exact Si.pcn_le f 32
  generalize (Si.pos f 32).map (cAt x y) = K at *
  have kp := Blk.newAt w 38 #[.int .i64 x, .int .i64 y] _ rfl
  have hbw : Below w.heap.size w (w.alloc (.cells #[.int .i64 x, .int .i64 y] 38)) := by go_grown
  have kl := hF.blk.under hbw
  have ho := own_below hF.own hbw
  have hD1 := hD.below hbw
  have HF := Lib.hid hF
  have hll := hF.blk.lt
  have hwk : ∀ b, v.ownBlock = some b → l + 1 ≤ b ∧ b < w.heap.size := fun b hb => hF.own.lt b hb
  have HW := Lib.hid hwk
  clear hF hwk hD
  go_enter Tryz.func38, Tryz.ntmps38
  go_wp2_with fail
  have HB := Lib.hid hbw
  clear hbw
  generalize w.alloc (.cells #[.int .i64 x, .int .i64 y] 38) = W at *
  have p0 := kp.cell 0
  have p1 := kp.cell 1
  simp only [List.getElem?_toArray, List.getElem?_cons_zero, List.getElem?_cons_succ] at p0 p1
  have lp := kp.lt
  have v0 : W.cell? ⟨l, 0, none⟩ = some v := kl.cell 0
  have f0 := kl.frozen 0
  have ll := kl.lt
  go_region_law (first
    | (refine step_append_cl rfl (.tmp 5) (.tmp 8) rfl (l + 1) v u L.length L K rfl ho5 rfl hu (by omega) (by omega) ?_; intro v' w6 ho6 hgr hob; obtain ⟨p6, c6, rfl⟩ := own_slice ho6; have kl6 := kl5.grown hgr (own_low_ne ho5 (Nat.lt_succ_self l)); have v6 : w6.cell? ⟨l, 0, none⟩ = some v := kl6.cell 0; have f6 := kl6.frozen 0; have l6 := kl6.lt)
    | (go_simp; go_at_call 39; refine (hce _ (hD1.below (by go_grown))).mono ?_; rintro e w5 ⟨u, rfl, hu, hb5⟩; have kl5 := kl.under (Ba.below_call hb5 (by go_grown) (by go_size)); have ho5 := own_below ho (Ba.below_call hb5 (by go_grown) (by go_size)); have hb5' : Below W.heap.size W w5 := Ba.below_call hb5 (by go_grown) (by go_size); have v5 : w5.cell? ⟨l, 0, none⟩ = some v := kl5.cell 0; have f5 := kl5.frozen 0; have l5 := kl5.lt))
  all_goals
    have hfd := fd_stored HF.out (HB.out.trans (hb5'.mono HB.out.size)) hgr ho6 hob kl6
  all_goals go_wp2_with fail
  all_goals exact bodyPost_end (v := .tuple #[]) (by simp [results, Tryz.results38, go_sem]) rfl ⟨_, rfl, hfd⟩
theorem Fd.ar {w w' : World} {l g : Nat} {v v' : Value} {L L' : List C} {S : Sta} {P : Nat → Prop} (h : Fd w l v L' v' w') (hF : Fill w l v L) (hA : ArAt w g S P) (hP : ∀ b, P b → b < l) : ArAt w' g S P :=
  hA.same fun b hb hlt => h.off.block b hlt fun hq => by have := wk_ge hF b hq; have := hP b hb; omega
theorem Fd.sq {w w' : World} {l n : Nat} {v v' : Value} {L' : List C} {T : TypeId} {cs : Array Value} (h : Fd w l v L' v' w') (k : Blk w n T cs) (hl : n ≠ l) (hv : v.ownBlock ≠ some n) : Blk w' n T cs :=
  h.off.blk k fun hq => by rcases hq with e | e; exact hl e; exact hv e
theorem pc_le {α : Type} (f : Nat → List α) (q : Nat) (hq : q ≤ 4) : ((List.range q).flatMap f).length ≤ ((List.range 4).flatMap f).length := by
  have : q = 0 ∨ q = 1 ∨ q = 2 ∨ q = 3 ∨ q = 4 := by omega
  rcases this with rfl | rfl | rfl | rfl | rfl <;> simp [List.range_succ] <;> omega
theorem pc_next {α : Type} (f : Nat → List α) (q : Nat) : (List.range (q + 1)).flatMap f = (List.range q).flatMap f ++ f q := by
  rw [List.range_succ, List.flatMap_append]
  simp
theorem no_cells {S : Sta} (T : Tw S) {d i : Nat} {x y : Int} (h : lvOk S.N d i) (h0 : (ndAt S.N i).1.count = 0) : cellsL S.N d i x y = [] := by
  have hc := count_eq T h (x := x) (y := y)
  rw [h0] at hc
  unfold mxC at hc
  exact List.eq_nil_of_length_eq_zero (by omega)
abbrev FV (l : Nat) : Value := .func (.func 38) #[] #[.pointer (some ⟨l, 0, none⟩)]
def WalkC (d : Nat) : Prop := ∀ (x y : Int) (i g l : Nat) (v : Value) (L : List C) (S : Sta) (P : Nat → Prop) (w : World), SqOk d x y → lvOk S.N d i → ArAt w g S P → (∀ b, P b → b < l) → Fill w l v L → DebIs w → 0 < l → Tw S → S.N.length ≤ 1000000 → L.length + (cellsL S.N d i x y).length ≤ 1000000 →
  Calls Tryz.prog 36 #[Pt g, .int .u32 i, Sq x y ((d : Int) + 2), FV l] w fun e w' => ∃ v', e = .returned (.tuple #[]) ∧ Fd w l v (L ++ cellsL S.N d i x y) v' w'
set_option maxRecDepth 100000 in
set_option maxHeartbeats 1000000 in
theorem walk_none (d : Nat) (x y : Int) (i g l : Nat) (v : Value) (L : List C) (S : Sta) (P : Nat → Prop) (w : World) (hv : lvOk S.N d i) (hA : ArAt w g S P) (hF : Fill w l v L) (T : Tw S) (hN : S.N.length ≤ 1000000) (h0 : (ndAt S.N i).1.count = 0) :
    Calls Tryz.prog 36 #[Pt g, .int .u32 i, Sq x y ((d : Int) + 2), FV l] w fun e w' => ∃ v', e = .returned (.tuple #[]) ∧ Fd w l v (L ++ cellsL S.N d i x y) v' w' := by
  rw [no_cells T hv h0, List.append_nil]
  have hc := fun W hW => Ar.count_any g i S P W hW (lv_okU hv hN) hN
  rw [h0] at hc
  have hbw : Below w.heap.size w (w.alloc (.cells #[.int .i64 x, .int .i64 y, .int .i64 ((d : Int) + 2)] 81)) := by go_grown
  have hA1 := hA.under hbw
  have HB := Lib.hid hbw
  have HF := Lib.hid hF
  clear hA hF hbw
  go_enter Tryz.func36, Tryz.ntmps36
  go_wp2_with fail
  refine (hc _ hA1).mono ?_
  rintro e w1 ⟨rfl, hb1⟩
  have HB1 := Lib.hid (HB.out.trans (hb1.mono HB.out.size))
  clear hc hb1 hA1
  go_wp2_with fail
  exact bodyPost_ret (v := .tuple #[]) (by simp [results, Tryz.results36, go_sem]) rfl ⟨v, rfl, Fd.under HF.out HB1.out⟩
set_option maxRecDepth 100000 in
set_option maxHeartbeats 1000000 in
theorem walk_leaf : WalkC 0 := by
  intro x y i g l v L S P w hsq hv hA hP hF hD hG T hN hL
  by_cases h0 : (ndAt S.N i).1.count = 0
  · exact walk_none 0 x y i g l v L S P w hv hA hF T hN h0
  · have hc := fun W hW => Ar.count_any g i S P W hW (lv_okU hv hN) hN
    have hbt := fun W hW => Ar.bits_any g i S P W hW (lv_okU hv hN) hN
    have hff := leaf_bits T hv
    rw [p32] at hff
    have hlen : L.length ≤ 1000000 := by omega
    have hx0 := hsq.x0
    have hx1 := hsq.x1
    have hy0 := hsq.y0
    have hy1 := hsq.y1
    have e4 : sd 0 = 4 := by decide
    rw [e4] at hx1 hy1
    have hcl : cellsL S.N 0 i x y = (Si.pos (ndAt S.N i).1.bits 32).map (cAt x y) := rfl
    rw [hcl]
    have hse := fun W hW hDW => see_any l v L (ndAt S.N i).1.bits x y W hW hff (by omega) (by omega) hDW hlen
    have hne : (((ndAt S.N i).1.count : Int) == 0) = false := by simp; omega
    have hbw : Below w.heap.size w (w.alloc (.cells #[.int .i64 x, .int .i64 y, .int .i64 2] 81)) := by go_grown
    have kS := Blk.newAt w 81 #[.int .i64 x, .int .i64 y, .int .i64 2] _ rfl
    have hA1 := hA.under hbw
    have HB := Lib.hid hbw
    have HF := Lib.hid hF
    have hF1 : Fill (w.alloc (.cells #[.int .i64 x, .int .i64 y, .int .i64 2] 81)) l v L := ⟨hF.blk.under hbw, own_below hF.own hbw⟩
    have hD1 := hD.below hbw
    have hll := hF.blk.lt
    generalize (Si.pos (ndAt S.N i).1.bits 32).map (cAt x y) = K at *
    generalize (ndAt S.N i).1.bits = f at *
    generalize (ndAt S.N i).1.count = n at *
    clear hA hF hbw hD hcl hsq hv T
    rw [show ((0 : Nat) : Int) + 2 = 2 by omega]
    go_enter Tryz.func36, Tryz.ntmps36
    go_wp2_with fail
    generalize w.alloc (.cells #[.int .i64 x, .int .i64 y, .int .i64 2] 81) = W at *
    refine (hc _ hA1).mono ?_
    rintro e w1 ⟨rfl, hb1⟩
    have HB1 := Lib.hid (HB.out.trans (hb1.mono HB.out.size))
    have kS1 := kS.under hb1
    have hA2 := hA1.under hb1
    have hD2 := hD1.below hb1
    have hF2 : Fill w1 l v L := ⟨hF1.blk.under hb1, own_below hF1.own hb1⟩
    clear hc hb1 hA1 hD1 hF1 kS
    obtain ⟨s0, s1, s2⟩ := Go.Proofs.YtahlinekbllkaaaGreatDoor.Se.keepB kS1 (Below.refl _ _)
    have hsl := kS1.lt
    go_upto_region 3 with fail
    have hkb : Below w1.heap.size w1 w1 := Below.refl _ _
    go_region_held3 (fun w' => w'.cell? ⟨w.heap.size, 0, none⟩ = some (.int .i64 x) ∧ w'.cell? ⟨w.heap.size, 1, none⟩ = some (.int .i64 y) ∧ w'.cell? ⟨w.heap.size, 2, none⟩ = some (.int .i64 2)) (first | (refine Go.Proofs.YtahlinekbllkaaaGreatDoor.Se.keepB kS1 ?_; go_grown; done) | exact hS6)
      (first
        | (go_at_call 50; refine (hbt _ (hA2.under (by go_grown))).mono ?_; rintro e w5 ⟨rfl, hb5⟩; have hkb : Below w1.heap.size w1 w5 := Ba.below_call hb5 (by go_grown) (by first | exact hkb.size | go_size); clear hb5)
        | (go_at_call 38; refine (hse _ ⟨hF2.blk.under (by go_grown), own_below hF2.own (by go_grown)⟩ (hD2.below (by go_grown))).mono ?_; rintro e w6 ⟨v6, rfl, hfd⟩; have hfd2 := (Fd.under hF2 (by go_grown)).trans hfd; have hS6 := Go.Proofs.YtahlinekbllkaaaGreatDoor.Se.keepB (hfd2.sq kS1 (by omega) (fun e => by have := (HF.out.own.lt _ e).2; omega)) (Below.refl _ _)))
    all_goals go_wp2_with fail
    all_goals exact bodyPost_ret (v := .tuple #[]) (by simp [results, Tryz.results36, go_sem]) rfl ⟨v6, rfl, (Fd.under HF.out HB1.out).trans hfd2⟩
def WkR (w : World) (n0 : Nat) (x y : Int) (d l : Nat) (v : Value) (L : List C) (f : Nat → List C) (t27 : Value) (wr : World) : Prop :=
  ∃ (q : Nat) (v' : Value), q ≤ 4 ∧ t27 = .int .i64 q ∧ Fd w l v (L ++ (List.range q).flatMap f) v' wr ∧ Blk wr n0 81 #[.int .i64 x, .int .i64 y, .int .i64 ((d : Int) + 3)]
set_option maxRecDepth 100000 in
set_option maxHeartbeats 1000000 in
theorem walk_step (d : Nat) (ih : WalkC d) : WalkC (d + 1) := by
  intro x y i g l v L S P w hsq hv hA hP hF hD hG T hN hL
  rw [show ((d + 1 : Nat) : Int) + 2 = (d : Int) + 3 by omega]
  by_cases h0 : (ndAt S.N i).1.count = 0
  · have := walk_none (d + 1) x y i g l v L S P w hv hA hF T hN h0
    rwa [show ((d + 1 : Nat) : Int) + 2 = (d : Int) + 3 by omega] at this
  · have hc := fun W hW => Ar.count_any g i S P W hW (lv_okU hv hN) hN
    have hkd := fun W hW => Ar.kids_any g i S P W hW (lv_okU hv hN) hN
    have hki := fun q hq W => kid_any d q x y W hsq hq
    have hkv := fun q (hq : q < 4) => kid_ok T hv hq
    have hix := fun q (hq : q < 4) W => kd_ix (ndAt S.N i).1.k hq W
    rw [cells_succ] at hL ⊢
    have hne : (((ndAt S.N i).1.count : Int) == 0) = false := by simp; omega
    generalize (ndAt S.N i).1.count = n at *
    generalize (ndAt S.N i).1.k = k4 at *
    obtain ⟨f, hf⟩ : ∃ f : Nat → List C, f = fun q => cellsL S.N d (kd k4 q) (px d x q) (py d y q) := ⟨_, rfl⟩
    rw [← hf] at hL ⊢
    have hfq : ∀ q, cellsL S.N d (kd k4 q) (px d x q) (py d y q) = f q := fun q => by rw [hf]
    have HFq := Lib.hid hfq
    have hne2 : ((d : Int) + 3 == 2) = false := by simp; omega
    have hbw : Below w.heap.size w (w.alloc (.cells #[.int .i64 x, .int .i64 y, .int .i64 ((d : Int) + 3)] 81)) := by go_grown
    have kS := Blk.newAt w 81 #[.int .i64 x, .int .i64 y, .int .i64 ((d : Int) + 3)] _ rfl
    have HB := Lib.hid hbw
    have HF := Lib.hid hF
    have HA := Lib.hid hA
    have HD := Lib.hid hD
    have HSq := Lib.hid hsq
    have HKv := Lib.hid hkv
    have HIx := Lib.hid hix
    have HKi := Lib.hid hki
    have hA1 := hA.under hbw
    have hll := hF.blk.lt
    have HFW : Hid (Fill (w.alloc (.cells #[.int .i64 x, .int .i64 y, .int .i64 ((d : Int) + 3)] 81)) l v L) := Lib.hid ⟨hF.blk.under hbw, own_below hF.own hbw⟩
    have hW1 := kS.lt
    clear hA hF hbw hD hsq hv hf hfq hkv hix hki
    go_enter Tryz.func36, Tryz.ntmps36
    go_wp2_with fail
    generalize w.alloc (.cells #[.int .i64 x, .int .i64 y, .int .i64 ((d : Int) + 3)] 81) = W at *
    refine (hc _ hA1).mono ?_
    rintro e w1 ⟨rfl, hb1⟩
    have HB1 := Lib.hid hb1
    have HAW := Lib.hid hA1
    have kS1 := kS.under hb1
    have hA2 := hA1.under hb1
    clear hc hb1 hA1 kS
    obtain ⟨s0, s1, s2⟩ := Go.Proofs.YtahlinekbllkaaaGreatDoor.Se.keepB kS1 (Below.refl _ _)
    have hsl := kS1.lt
    go_wp2_with fail
    refine (hkd _ hA2).mono ?_
    rintro e w2 ⟨rfl, hb2⟩
    have HB2 := Lib.hid (HB1.out.trans (hb2.mono HB1.out.size))
    have kS2 := kS1.under hb2
    clear hkd hb2 hA2 kS1 s0 s1 s2 hsl
    go_wp2_with fail
    go_loopw [27] (fun t27 wr => WkR W w.heap.size x y d l v L f t27 wr) (fun t27 _ => 4 - (intOf t27).toNat)
    case atStart => exact ⟨0, v, by omega, rfl, by simpa using Fd.under HFW.out HB2.out, kS2⟩
    case round =>
      clear kS2
      obtain ⟨q, v1, hq, rfl, hfd, kS⟩ := hrel
      have HFd := Lib.hid hfd
      have hpl := pc_le f q hq
      have hpn := pc_next f q
      clear hfd
      by_cases hlt : q < 4
      · have hq0 : (0 : Int) ≤ (q : Int) := by omega
        have hd1 : decide ((q : Int) < 4) = true := by simp; omega
        have hixq := HIx.out q hlt
        have hkiq := HKi.out q hlt
        have hpl2 := pc_le f (q + 1) (by omega)
        rw [hpn, List.length_append] at hpl2
        obtain ⟨s0, s1, s2⟩ := Go.Proofs.YtahlinekbllkaaaGreatDoor.Se.keepB kS (Below.refl _ _)
        have hsl := kS.lt
        have HPn := Lib.hid hpn
        clear hpn
        go_wp2_with fail
        refine (hkiq _).mono ?_
        rintro e w5 ⟨rfl, hg5⟩
        have hfd5 := HFd.out.trans (Fd.under HFd.out.fill hg5.below)
        have kS5 := kS.under hg5.below
        have hA5 := hfd5.ar HFW.out HAW.out hP
        have hD5 := DebIs.off (HD.out.below HB.out) HFW.out hfd5.off hG
        have hih := ih (px d x q) (py d y q) (kd k4 q) g l v1 (L ++ (List.range q).flatMap f) S P w5 (HSq.out.kid hlt) (HKv.out q hlt) hA5 hP hfd5.fill hD5 hG T hN (by rw [HFq.out, List.length_append]; omega)
        rw [HFq.out, List.append_assoc, ← HPn.out] at hih
        have HFd5 := Lib.hid hfd5
        have hvb : v1.ownBlock ≠ some w.heap.size := fun e => by
          rcases HFd.out.blk _ e with h | h
          · have := (HF.out.own.lt _ h).2; omega
          · omega
        clear hkiq hg5 hA5 hD5 hfd5 s0 s1 s2 kS
        go_wp2_with fail
        refine hih.mono ?_
        rintro e w6 ⟨v6, rfl, hfd6⟩
        have hfd7 := HFd5.out.trans hfd6
        have kS6 := hfd6.sq kS5 (by omega) hvb
        clear hih hfd6
        go_wp2_with fail
        exact ⟨⟨q + 1, v6, by omega, by go_num, hfd7, kS6⟩, by simp [intOf]; omega⟩
      · obtain rfl : q = 4 := by omega
        go_wp2_with fail
        exact bodyPost_end (v := .tuple #[]) (by simp [results, Tryz.results36, go_sem]) rfl ⟨v1, rfl, (Fd.under HF.out HB.out).trans HFd.out⟩
theorem walk_any : ∀ d, WalkC d
  | 0 => walk_leaf
  | d + 1 => walk_step d (walk_any d)
end Go.Proofs.YtahlinekbllkaaaGreatDoor.Tr
