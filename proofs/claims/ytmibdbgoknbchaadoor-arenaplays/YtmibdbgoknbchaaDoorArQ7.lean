/- The law's does. -/
import Derived.Test.YtmibdbgoknbchaaDoorArQ5
import Derived.Test.YtmibdbgoknbchaaDoorArQ6
import Derived.Deep.RegionHeld3
namespace Go.Proofs.YtmibdbgoknbchaaDoor.Ar
open Go.RowKit Go.Proofs.YtmibdbgoknbchaaDoor.Ba Go.Proofs.YtmibdbgoknbchaaDoor.Mp Go.Lib Go.Maps

set_option maxRecDepth 100000 in
set_option maxHeartbeats 1000000 in
theorem does_empty (w0 : World) (wd g : Nat) (S : Sta) (c : Ac) (w : World) (hI : Inv w0.heap.size wd g S w) (hW : Wf S) (hK : Nok S.N) (hN : S.N.length ≤ 70000) (hbw : Below w0.heap.size w0 w) (hE : ErrIs w0) (a : Nat) (ha : bits .and .i64 c.kind 255 = (a : Int)) (h6 : (a : Int).tmod 8 = 6) :
    Calls Tryd.prog 7 #[Pt wd, AcV c] w fun e w' => e = .returned (.bool true) ∧ ∃ S', EmW w0 wd g (S.N.length + 44) S' w' := by
  have b0 := Blk.newAt w 38 (AcC c) _ rfl
  have hb0 : Below w.heap.size w (w.alloc (.cells (AcC c) 38)) := (Below.refl _ _).alloc (Nat.le_refl _) _
  obtain ⟨P, gx, cx, G, cap, hA, hP, hw, hx, ho, hd, hd2⟩ := hI
  have hI1 : Inv w0.heap.size wd g S (w.alloc (.cells (AcC c) 38)) := ⟨P, gx, cx, G, cap, hA.under hb0, fun b hb => ⟨Nat.lt_of_lt_of_le (hP b hb).1 hb0.size, (hP b hb).2⟩, hw.under hb0, hx.below hb0, own_below ho hb0, hd, hd2⟩
  have he := empties_any w0 wd g S c.n _ hI1 hW hK hN (hbw.trans (hb0.mono hbw.size)) hE
  have a0 := b0.cell 0
  have a6 := b0.cell 6
  simp only [List.getElem?_toArray, List.getElem?_cons_zero, List.getElem?_cons_succ] at a0 a6
  have lz := b0.lt
  clear hI1 hA hP hw hx ho hd hd2 b0
  go_enter Tryd.func7, Tryd.ntmps7
  go_wp2_with fail
  refine he.mono ?_
  rintro e w1 ⟨rfl, h⟩
  go_wp2_with fail
  exact bodyPost_ret (v := .bool true) (by simp [results, Tryd.results7, go_sem]) rfl ⟨rfl, h⟩
theorem keepS {W w' : World} {wd Z g gx l cx G n cap : Nat} {most : Int} {c : Ac} (k : WdB W wd g gx l cx most G n cap) (z : Blk W Z 38 (AcC c)) (hb : Below W.heap.size W w') :
    w'.cell? ⟨wd, 0, none⟩ = some (Pt g) ∧ w'.cell? ⟨wd, 2, none⟩ = some (.int .i64 most) ∧ w'.cell? ⟨Z, 6, none⟩ = some (.int .i64 c.n) :=
  ⟨(k.under hb).cell 0, (k.under hb).cell 2, (z.under hb).cell 6⟩
/-- Behind SetMost. -/
theorem set_inv {B wd g gx cx G cap : Nat} {S' : Sta} {W w3 : World} {P : Nat → Prop} (hA3 : ArAt w3 g S' P) (hP : ∀ b, P b → b < W.heap.size ∧ B ≤ b ∧ b ≠ wd ∧ b ≠ gx ∧ b ≠ G) (ho : Off P W w3) (kw : WdB w3 wd g gx (refL S'.N).length cx (64 + S'.more) G (S'.N.length + 1) cap)
    (hx : RAt W gx cx (refL S'.N)) (hown : OwnU W B G (S'.N.length + 1) cap) (hd : B ≤ wd) (hd2 : True) : Inv B wd g S' w3 :=
  ⟨P, gx, cx, G, cap, hA3, fun b hb => ⟨Nat.lt_of_lt_of_le (hP b hb).1 ho.size, (hP b hb).2⟩, kw, rat_same hx (ho.block gx hx.2.2 (fun hp => (hP _ hp).2.2.2.1 rfl)), own_same hown (fun b hb => by
    simp only [Value.ownBlock, Option.some.injEq] at hb
    subst hb
    exact ho.block _ (own_lt0 hown _ rfl) (fun hp => (hP _ hp).2.2.2.2 rfl)), hd, hd2⟩
theorem set_wf {S : Sta} (h : Wf S) (n : Int) : Wf (setS S n) := ⟨h.leaf, h.join, h.kinds⟩
set_option maxRecDepth 100000 in
set_option maxHeartbeats 1000000 in
theorem does_set (w0 : World) (wd g : Nat) (S : Sta) (c : Ac) (hcn : -9223372036854775808 ≤ c.n ∧ c.n ≤ 9223372036854775807) (w : World) (hI : Inv w0.heap.size wd g S w) (hW : Wf S) (hK : Nok S.N) (hN : S.N.length ≤ 70000) (hbw : Below w0.heap.size w0 w) (hE : ErrIs w0) (a : Nat) (ha : bits .and .i64 c.kind 255 = (a : Int)) (h7 : (a : Int).tmod 8 = 7) :
    Calls Tryd.prog 7 #[Pt wd, AcV c] w fun e w' => e = .returned (.bool true) ∧ ∃ S', EmW w0 wd g (S.N.length + 44) S' w' := by
  have b1 := Blk.newAt w 38 (AcC c) _ rfl
  have hb0 : Below w.heap.size w (w.alloc (.cells (AcC c) 38)) := (Below.refl _ _).alloc (Nat.le_refl _) _
  obtain ⟨P, gx, cx, G, cap, hA, hP, hw, hx, ho, hd, hd2⟩ := hI
  have k1 := hw.under hb0
  have x1 := hx.below hb0
  have o1 := own_below ho hb0
  have A1 := hA.under hb0
  have hbb := hbw.trans (hb0.mono hbw.size)
  have a0 := b1.cell 0
  have a6 := b1.cell 6
  have z0 := k1.cell 0
  have z1 := k1.cell 1
  have z2 := k1.cell 2
  have f2 := k1.frozen 2
  simp only [List.getElem?_toArray, List.getElem?_cons_zero, List.getElem?_cons_succ] at a0 a6 z0 z1 z2
  have lz := b1.lt
  have lw := k1.lt
  have hln := refL_len S.N
  have hgx : gx ≠ wd := wd_ne k1 x1 (by omega)
  have hGw : some wd ≠ (Value.slice (some ⟨G, 0, none⟩) (S.N.length + 1) cap).ownBlock := own_blk_ne o1 k1 (by decide)
  have hwz : w.heap.size ≠ wd := by have := hw.lt; omega
  clear hA hw hx ho hb0
  by_cases hf : max c.n 64 < ((S.N.length + 1 : Nat) : Int)
  · have hset := setmost_any g c.n hcn S P (w.alloc (.cells (AcC c) 38)).drew (A1.under (below_dr 1 (Below.refl _ _))) (by omega)
    rw [show setR S c.n = (some 8, S) by unfold setR; rw [if_pos hf]] at hset
    have hf2 : max c.n 64 < ((refL S.N).length : Int) := by omega
    by_cases h64 : c.n < 64
    · have hf3 : (64 : Int) < ((refL S.N).length : Int) := by omega
      clear hf hf2 hln
      ((go_enter Tryd.func7, Tryd.ntmps7; go_upto_region 26 with fail); change Code.wp _ _ _ _ (w.alloc (.cells (AcC c) 38)); generalize hWW : w.alloc (.cells (AcC c) 38) = W at *; clear a0 z0 z1 z2 f2; (go_region_held3 (fun w' => w'.cell? ⟨wd, 0, none⟩ = some (Pt g) ∧ w'.cell? ⟨wd, 2, none⟩ = some (.int .i64 (64 + S.more)) ∧ w'.cell? ⟨w.heap.size, 6, none⟩ = some (.int .i64 c.n)) (first | (refine keepS k1 b1 ?_; go_grown; done) | exact ⟨kw3.cell 0, kw3.cell 2, ka3.cell 6⟩ | exact ⟨kw2.cell 0, kw2.cell 2, ka2.cell 6⟩) (first | (go_at_call 20; (with_reducible refine hset.mono ?_); rintro e w2 ⟨rfl, hA2, ho2'⟩; have ho2 : Off P W w2 := (Off.of_below (below_dr 1 (Below.refl _ _))).trans ho2'; have kw2 := ho2.blk k1 (fun hp => (hP _ hp).2.2.1 rfl); have ka2 := ho2.blk b1 (fun hp => Nat.lt_irrefl _ (hP _ hp).1); have hb2 := hbb.trans (ho2.below hbb.size (fun b hp => (hP b hp).2.1)); have lw2 := kw2.lt; have la2 := ka2.lt) | (go_at_call 19; (with_reducible refine Calls.mono (codeOf_errV (some 8) _ (hE.below hb2)) ?_); rintro e w3 ⟨rfl, hb3'⟩; have kw3 := kw2.under hb3'; have ka3 := ka2.under hb3'; have hA3 := hA2.under hb3'; have hb3 := hb2.trans (hb3'.mono hb2.size); have lw3 := kw3.lt; have la3 := ka3.lt; have ho3 : Off P W w3 := ho2.trans (Off.of_below hb3')) | (go_at_call 10; (with_reducible refine Calls.mono (most_any g _ P _ hA3) ?_); rintro e w4 ⟨rfl, rfl⟩))); all_goals (go_wp2; exact bodyPost_ret (v := .bool true) (by simp [results, Tryd.results7, go_sem]) rfl ⟨rfl, S, set_inv hA3 (fun b hb => ⟨by have := (hP b hb).1; omega, (hP b hb).2⟩) ho3 kw3 x1 o1 hd hd2, hW, hK, by omega, hb3⟩))
    · have hf3 : c.n < ((refL S.N).length : Int) := by omega
      clear hf hf2 hln
      ((go_enter Tryd.func7, Tryd.ntmps7; go_upto_region 26 with fail); change Code.wp _ _ _ _ (w.alloc (.cells (AcC c) 38)); generalize hWW : w.alloc (.cells (AcC c) 38) = W at *; clear a0 z0 z1 z2 f2; (go_region_held3 (fun w' => w'.cell? ⟨wd, 0, none⟩ = some (Pt g) ∧ w'.cell? ⟨wd, 2, none⟩ = some (.int .i64 (64 + S.more)) ∧ w'.cell? ⟨w.heap.size, 6, none⟩ = some (.int .i64 c.n)) (first | (refine keepS k1 b1 ?_; go_grown; done) | exact ⟨kw3.cell 0, kw3.cell 2, ka3.cell 6⟩ | exact ⟨kw2.cell 0, kw2.cell 2, ka2.cell 6⟩) (first | (go_at_call 20; (with_reducible refine hset.mono ?_); rintro e w2 ⟨rfl, hA2, ho2'⟩; have ho2 : Off P W w2 := (Off.of_below (below_dr 1 (Below.refl _ _))).trans ho2'; have kw2 := ho2.blk k1 (fun hp => (hP _ hp).2.2.1 rfl); have ka2 := ho2.blk b1 (fun hp => Nat.lt_irrefl _ (hP _ hp).1); have hb2 := hbb.trans (ho2.below hbb.size (fun b hp => (hP b hp).2.1)); have lw2 := kw2.lt; have la2 := ka2.lt) | (go_at_call 19; (with_reducible refine Calls.mono (codeOf_errV (some 8) _ (hE.below hb2)) ?_); rintro e w3 ⟨rfl, hb3'⟩; have kw3 := kw2.under hb3'; have ka3 := ka2.under hb3'; have hA3 := hA2.under hb3'; have hb3 := hb2.trans (hb3'.mono hb2.size); have lw3 := kw3.lt; have la3 := ka3.lt; have ho3 : Off P W w3 := ho2.trans (Off.of_below hb3')) | (go_at_call 10; (with_reducible refine Calls.mono (most_any g _ P _ hA3) ?_); rintro e w4 ⟨rfl, rfl⟩))); all_goals (go_wp2; exact bodyPost_ret (v := .bool true) (by simp [results, Tryd.results7, go_sem]) rfl ⟨rfl, S, set_inv hA3 (fun b hb => ⟨by have := (hP b hb).1; omega, (hP b hb).2⟩) ho3 kw3 x1 o1 hd hd2, hW, hK, by omega, hb3⟩))
  · have hsr : setR S c.n = (none, setS S c.n) := by unfold setR; rw [if_neg hf]
    by_cases h64 : c.n < 64
    · have hf3 : ¬ (64 : Int) < ((refL S.N).length : Int) := by omega
      have hm : (64 : Int) + (setS S c.n).more = 64 := by show 64 + (max c.n 64 - 64) = 64; omega
      clear hf hln
      ((go_enter Tryd.func7, Tryd.ntmps7; go_upto_region 26 with fail); have k2 : WdB ((w.alloc (.cells (AcC c) 38)).setCell ⟨wd, 2, none⟩ (.int .i64 64)) wd g gx (refL S.N).length cx 64 G (S.N.length + 1) cap := k1.set_ 2 _; have b2 := b1.far (p := ⟨wd, 2, none⟩) (by dsimp only; omega) (.int .i64 64); have x2 := x1.set (p := ⟨wd, 2, none⟩) (fun e => hgx e) (.int .i64 64); have o2 : OwnU ((w.alloc (.cells (AcC c) 38)).setCell ⟨wd, 2, none⟩ (.int .i64 64)) w0.heap.size G (S.N.length + 1) cap := ownsRow_setCell_other o1 (a := ⟨wd, 2, none⟩) hGw.symm (.int .i64 64); have A2 : ArAt ((w.alloc (.cells (AcC c) 38)).setCell ⟨wd, 2, none⟩ (.int .i64 64)) g S P := A1.same fun b hb _ => Below.heap_setCell _ _ _ b (hP b hb).2.2.1; have hbb2 := hbb.setCell (p := ⟨wd, 2, none⟩) hd (.int .i64 64); change Code.wp _ _ _ _ ((w.alloc (.cells (AcC c) 38)).setCell ⟨wd, 2, none⟩ (.int .i64 64)); have hP2 : ∀ b, P b → b < ((w.alloc (.cells (AcC c) 38)).setCell ⟨wd, 2, none⟩ (.int .i64 64)).heap.size ∧ w0.heap.size ≤ b ∧ b ≠ wd ∧ b ≠ gx ∧ b ≠ G := (fun b hb => ⟨Nat.lt_of_lt_of_le (hP b hb).1 (by simp), (hP b hb).2⟩); have hlz2 := b2.lt; have hlw2 := k2.lt; clear b1 k1 x1 o1 A1 hbb a0 a6 z0 z1 z2 f2 lz lw; generalize hWW : (w.alloc (.cells (AcC c) 38)).setCell ⟨wd, 2, none⟩ (.int .i64 64) = W at *; have k1 := k2; have b1 := b2; have hbb := hbb2; have hset := setmost_any g c.n hcn S P W.drew (A2.under (below_dr 1 (Below.refl _ _))) (by omega); rw [hsr] at hset; (go_region_held3 (fun w' => w'.cell? ⟨wd, 0, none⟩ = some (Pt g) ∧ w'.cell? ⟨wd, 2, none⟩ = some (.int .i64 64) ∧ w'.cell? ⟨w.heap.size, 6, none⟩ = some (.int .i64 c.n)) (first | (refine keepS k1 b1 ?_; go_grown; done) | exact ⟨kw3.cell 0, kw3.cell 2, ka3.cell 6⟩ | exact ⟨kw2.cell 0, kw2.cell 2, ka2.cell 6⟩) (first | (go_at_call 20; (with_reducible refine hset.mono ?_); rintro e w2 ⟨rfl, hA2, ho2'⟩; have ho2 : Off P W w2 := (Off.of_below (below_dr 1 (Below.refl _ _))).trans ho2'; have kw2 := ho2.blk k1 (fun hp => (hP _ hp).2.2.1 rfl); have ka2 := ho2.blk b1 (fun hp => Nat.lt_irrefl _ (hP _ hp).1); have hb2 := hbb.trans (ho2.below hbb.size (fun b hp => (hP b hp).2.1)); have lw2 := kw2.lt; have la2 := ka2.lt) | (go_at_call 19; (with_reducible refine Calls.mono (codeOf_errV none _ (hE.below hb2)) ?_); rintro e w3 ⟨rfl, hb3'⟩; have kw3 := kw2.under hb3'; have ka3 := ka2.under hb3'; have hA3 := hA2.under hb3'; have hb3 := hb2.trans (hb3'.mono hb2.size); have lw3 := kw3.lt; have la3 := ka3.lt; have ho3 : Off P W w3 := ho2.trans (Off.of_below hb3')) | (go_at_call 10; (with_reducible refine Calls.mono (most_any g _ P _ hA3) ?_); rintro e w4 ⟨rfl, rfl⟩))); rw [← hm] at kw3; all_goals (go_wp2; exact bodyPost_ret (v := .bool true) (by simp [results, Tryd.results7, go_sem]) rfl ⟨rfl, setS S c.n, set_inv hA3 hP2 ho3 kw3 x2 o2 hd hd2, set_wf hW _, hK, by show S.N.length ≤ _; omega, hb3⟩))
    · have hf3 : ¬ c.n < ((refL S.N).length : Int) := by omega
      have hm : (64 : Int) + (setS S c.n).more = c.n := by show 64 + (max c.n 64 - 64) = c.n; omega
      clear hf hln
      ((go_enter Tryd.func7, Tryd.ntmps7; go_upto_region 26 with fail); have k2 : WdB ((w.alloc (.cells (AcC c) 38)).setCell ⟨wd, 2, none⟩ (.int .i64 c.n)) wd g gx (refL S.N).length cx c.n G (S.N.length + 1) cap := k1.set_ 2 _; have b2 := b1.far (p := ⟨wd, 2, none⟩) (by dsimp only; omega) (.int .i64 c.n); have x2 := x1.set (p := ⟨wd, 2, none⟩) (fun e => hgx e) (.int .i64 c.n); have o2 : OwnU ((w.alloc (.cells (AcC c) 38)).setCell ⟨wd, 2, none⟩ (.int .i64 c.n)) w0.heap.size G (S.N.length + 1) cap := ownsRow_setCell_other o1 (a := ⟨wd, 2, none⟩) hGw.symm (.int .i64 c.n); have A2 : ArAt ((w.alloc (.cells (AcC c) 38)).setCell ⟨wd, 2, none⟩ (.int .i64 c.n)) g S P := A1.same fun b hb _ => Below.heap_setCell _ _ _ b (hP b hb).2.2.1; have hbb2 := hbb.setCell (p := ⟨wd, 2, none⟩) hd (.int .i64 c.n); change Code.wp _ _ _ _ ((w.alloc (.cells (AcC c) 38)).setCell ⟨wd, 2, none⟩ (.int .i64 c.n)); have hP2 : ∀ b, P b → b < ((w.alloc (.cells (AcC c) 38)).setCell ⟨wd, 2, none⟩ (.int .i64 c.n)).heap.size ∧ w0.heap.size ≤ b ∧ b ≠ wd ∧ b ≠ gx ∧ b ≠ G := (fun b hb => ⟨Nat.lt_of_lt_of_le (hP b hb).1 (by simp), (hP b hb).2⟩); have hlz2 := b2.lt; have hlw2 := k2.lt; clear b1 k1 x1 o1 A1 hbb a0 a6 z0 z1 z2 f2 lz lw; generalize hWW : (w.alloc (.cells (AcC c) 38)).setCell ⟨wd, 2, none⟩ (.int .i64 c.n) = W at *; have k1 := k2; have b1 := b2; have hbb := hbb2; have hset := setmost_any g c.n hcn S P W.drew (A2.under (below_dr 1 (Below.refl _ _))) (by omega); rw [hsr] at hset; (go_region_held3 (fun w' => w'.cell? ⟨wd, 0, none⟩ = some (Pt g) ∧ w'.cell? ⟨wd, 2, none⟩ = some (.int .i64 c.n) ∧ w'.cell? ⟨w.heap.size, 6, none⟩ = some (.int .i64 c.n)) (first | (refine keepS k1 b1 ?_; go_grown; done) | exact ⟨kw3.cell 0, kw3.cell 2, ka3.cell 6⟩ | exact ⟨kw2.cell 0, kw2.cell 2, ka2.cell 6⟩) (first | (go_at_call 20; (with_reducible refine hset.mono ?_); rintro e w2 ⟨rfl, hA2, ho2'⟩; have ho2 : Off P W w2 := (Off.of_below (below_dr 1 (Below.refl _ _))).trans ho2'; have kw2 := ho2.blk k1 (fun hp => (hP _ hp).2.2.1 rfl); have ka2 := ho2.blk b1 (fun hp => Nat.lt_irrefl _ (hP _ hp).1); have hb2 := hbb.trans (ho2.below hbb.size (fun b hp => (hP b hp).2.1)); have lw2 := kw2.lt; have la2 := ka2.lt) | (go_at_call 19; (with_reducible refine Calls.mono (codeOf_errV none _ (hE.below hb2)) ?_); rintro e w3 ⟨rfl, hb3'⟩; have kw3 := kw2.under hb3'; have ka3 := ka2.under hb3'; have hA3 := hA2.under hb3'; have hb3 := hb2.trans (hb3'.mono hb2.size); have lw3 := kw3.lt; have la3 := ka3.lt; have ho3 : Off P W w3 := ho2.trans (Off.of_below hb3')) | (go_at_call 10; (with_reducible refine Calls.mono (most_any g _ P _ hA3) ?_); rintro e w4 ⟨rfl, rfl⟩))); rw [← hm] at kw3; all_goals (go_wp2; exact bodyPost_ret (v := .bool true) (by simp [results, Tryd.results7, go_sem]) rfl ⟨rfl, setS S c.n, set_inv hA3 hP2 ho3 kw3 x2 o2 hd hd2, set_wf hW _, hK, by show S.N.length ≤ _; omega, hb3⟩))
/-- Any call. -/
theorem does_any (w0 : World) (wd g : Nat) (S : Sta) (c : Ac) (hcn : -9223372036854775808 ≤ c.n ∧ c.n ≤ 9223372036854775807) (hbits : okU c.bits) (w : World) (h : EmW w0 wd g 60000 S w) (hE : ErrIs w0) :
    Calls Tryd.prog 7 #[Pt wd, AcV c] w fun e w' => e = .returned (.bool true) ∧ ∃ S', EmW w0 wd g (S.N.length + 44) S' w' := by
  obtain ⟨hI, hW, hK, hN, hb⟩ := h
  obtain ⟨a, r, ha, hr, hr8⟩ := kind_of c.kind
  by_cases h2 : r < 2
  · refine (does_leaf w0 wd g S c w hI hW hK (by omega) hb hE hbits ⟨a, r, ha, hr, h2⟩).mono ?_
    rintro e w' ⟨rfl, hS, hI', hb'⟩
    exact ⟨rfl, _, hI', hS.1, hS.2.1, by have := hS.len.1; omega, hb'⟩
  · by_cases h6 : r < 6
    · refine (does_join w0 wd g S c w hI hW hK (by omega) hb hE ⟨a, r, ha, hr, by omega, h6⟩).mono ?_
      rintro e w' ⟨rfl, R, hS, hI', hb'⟩
      exact ⟨rfl, _, hI', hS.1, hS.2.1, by have := hS.len.1; omega, hb'⟩
    · by_cases h7 : r = 6
      · subst h7
        exact does_empty w0 wd g S c w hI hW hK (by omega) hb hE a ha hr
      · obtain rfl : r = 7 := by omega
        exact does_set w0 wd g S c hcn w hI hW hK (by omega) hb hE a ha hr
end Go.Proofs.YtmibdbgoknbchaaDoor.Ar
