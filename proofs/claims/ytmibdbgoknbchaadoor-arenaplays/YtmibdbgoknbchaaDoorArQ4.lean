/- The law's does: a leaf. -/
import Derived.Test.YtmibdbgoknbchaaDoorArQ3
import Derived.Deep.RegionHeld3
namespace Go.Proofs.YtmibdbgoknbchaaDoor.Ar
open Go.RowKit Go.Proofs.YtmibdbgoknbchaaDoor.Ba Go.Proofs.YtmibdbgoknbchaaDoor.Mp Go.Lib Go.Maps

/-- At most one node more. -/
def Step1 (S : Sta) (R : Nat × Option Nat × Sta) : Prop :=
  Wf R.2.2 ∧ Nok R.2.2.N ∧ R.2.2.more = S.more ∧ ((R.2.1 = none ∧ ((R.2.2.N.length = S.N.length ∧ R.1 ≤ S.N.length) ∨ (R.2.2.N.length = S.N.length + 1 ∧ R.1 = S.N.length + 1))) ∨ (∃ c, R.2.1 = some c ∧ c ≠ 0 ∧ R.1 = 0 ∧ R.2.2.N.length = S.N.length))
theorem Step1.len {S : Sta} {R : Nat × Option Nat × Sta} (h : Step1 S R) : R.2.2.N.length ≤ S.N.length + 1 ∧ R.1 ≤ S.N.length + 1 := by
  obtain ⟨_, _, _, ⟨_, h | h⟩ | ⟨c, _, _, h1, h2⟩⟩ := h <;> omega
theorem leaf_step1 {S : Sta} (h : Wf S) (hk : Nok S.N) (f : Nat) : Step1 S (leafR S f) := by
  refine ⟨leaf_wf h f, leaf_nok hk f, leaf_more S f, ?_⟩
  unfold leafR
  split
  · exact .inl ⟨rfl, .inl ⟨rfl, Nat.zero_le _⟩⟩
  · split
    · rename_i i hl
      obtain ⟨_, h1, h2⟩ := (h.leaf f i).1 hl
      have := (List.getElem?_eq_some_iff.1 h2).1
      exact .inl ⟨rfl, .inl ⟨rfl, by dsimp only; omega⟩⟩
    · split
      · exact .inr ⟨8, rfl, by decide, rfl, rfl⟩
      · exact .inl ⟨rfl, .inr ⟨by simp [leafS, addS], rfl⟩⟩
theorem above_code {N : List Nd} {k : K4} {d : Nd} {c : Nat} (h : aboveR N k = (d, some c)) : c ≠ 0 := by
  unfold aboveR at h
  split at h
  · split at h
    · simp only [Prod.mk.injEq, Option.some.injEq] at h
      omega
    · simp at h
  · simp only [Prod.mk.injEq, Option.some.injEq] at h
    omega
theorem join_step1 {S : Sta} (h : Wf S) (hk : Nok S.N) (k : K4) : Step1 S (joinR S k) := by
  refine ⟨join_wf h hk k, join_nok hk k, join_more S k, ?_⟩
  unfold joinR
  split
  · rename_i i hJ
    obtain ⟨h1, d, hd, _⟩ := (h.join k i).1 hJ
    have := (List.getElem?_eq_some_iff.1 hd).1
    exact .inl ⟨rfl, .inl ⟨rfl, by dsimp only; omega⟩⟩
  · split
    · rename_i ha
      exact .inr ⟨_, rfl, above_code ha, rfl, rfl⟩
    · split
      · exact .inr ⟨8, rfl, by decide, rfl, rfl⟩
      · exact .inl ⟨rfl, .inr ⟨by simp [joinS, addS], rfl⟩⟩
theorem fits_any (B wd g gx l0 cx : Nat) (most0 : Int) (G0 cap0 gy cy : Nat) (S : Sta) (R : Nat × Option Nat × Sta) (w : World) (hS : Step1 S R) (hN : S.N.length ≤ 90000) (hE : ErrIs w) (hk : WdB w wd g gx l0 cx most0 G0 (S.N.length + 1) cap0) (ho : OwnU w B G0 (S.N.length + 1) cap0) (hB : B ≤ w.heap.size)
    (hr : RAt w gy cy (refL R.2.2.N)) :
    Calls Tryd.prog 14 #[Pt wd, AV gy cy (refL R.2.2.N) (64 + S.more), .int .i64 R.1, .int .i64 (codeE R.2.1), .int .u32 R.1, errV R.2.1] w fun e w' => e = .returned (.bool true) ∧ FtE w B wd g G0 gy cy (refL R.2.2.N) (64 + R.2.2.more) w' := by
  obtain ⟨_, _, hm, h⟩ := hS
  rw [hm]
  have hg := rat_ne_own2 hr ho
  have hl := refL_len R.2.2.N
  rcases h with ⟨h0, h⟩ | ⟨c, h0, hc, hi, hn⟩
  · rw [h0]
    exact fits_good B wd g gx l0 cx most0 G0 S.N.length cap0 gy cy _ _ R.1 w hE hk ho hB hr (by omega) (by omega) hg
  · rw [h0, hi]
    exact fits_bad B wd g gx l0 cx most0 G0 S.N.length cap0 gy cy _ _ c w hE hk ho hr (by omega) (by omega) hc
/-- Behind both calls. -/
theorem tail_any {w0 : World} {wd g Z gy cy gx l0 cx G cap : Nat} {most0 : Int} {S : Sta} {R : Nat × Option Nat × Sta} {w2 w3 : World} {P : Nat → Prop} (hS : Step1 S R) (hN : S.N.length ≤ 90000) (h : Mid w0.heap.size wd g Z S gy cy (refL R.2.2.N) w2 P gx l0 cx most0 G S.N.length cap) (hd : w0.heap.size ≤ wd) (hd2 : True)
    (hA : ArAt w3 g R.2.2 P) (ho : Off P w2 w3) (hb : Below w0.heap.size w0 w2) (hE : ErrIs w0) :
    Calls Tryd.prog 14 #[Pt wd, AV gy cy (refL R.2.2.N) (64 + S.more), .int .i64 R.1, .int .i64 (codeE R.2.1), .int .u32 R.1, errV R.2.1] w3 fun e w' => e = .returned (.bool true) ∧ Inv w0.heap.size wd g R.2.2 w' ∧ Below w0.heap.size w0 w' := by
  have hlow : ∀ b, P b → w0.heap.size ≤ b := fun b hp => by
    by_cases hlt : b < w2.heap.size
    · exact (h.2.2.1 b hp hlt).2.1
    · have := hb.size; omega
  obtain ⟨k, r, o, hn⟩ := mid_fit h ho
  have hb3 : Below w0.heap.size w0 w3 := hb.trans (ho.below hb.size hlow)
  refine (fits_any w0.heap.size wd g gx l0 cx most0 G cap gy cy S R w3 hS hN (hE.below hb3) k o hb3.size r).mono ?_
  rintro e w' ⟨rfl, hF⟩
  refine ⟨rfl, fit_inv hA hn hlow hd hd2 hF, ?_⟩
  obtain ⟨_, _, _, _, _, _, hoff⟩ := hF
  refine hb3.trans (hoff.below hb3.size fun b hq => ?_)
  rcases hq with rfl | rfl
  · exact hd
  · exact (o.lt _ rfl).1
theorem i64_and255 (n : Int) : ∃ a : Nat, bits .and .i64 n 255 = (a : Int) ∧ a < 256 := by
  have h127 : (BitVec.ofInt 64 255).toNat = 2 ^ 8 - 1 := by decide
  have key : (BitVec.ofInt 64 n &&& BitVec.ofInt 64 255).toNat = (n % ((2 ^ 64 : Nat) : Int)).toNat % 2 ^ 8 := by
    rw [BitVec.toNat_and, BitVec.toNat_ofInt, h127, Nat.and_two_pow_sub_one_eq_mod]
  refine ⟨(n % ((2 ^ 64 : Nat) : Int)).toNat % 2 ^ 8, ?_, by omega⟩
  show IntKind.i64.wrap ((BitVec.ofInt 64 n &&& BitVec.ofInt 64 255).toNat : Nat) = _
  rw [key, IntKind.wrap_i64]
  omega
/-- What kind of call. -/
theorem kind_of (n : Int) : ∃ (a r : Nat), bits .and .i64 n 255 = (a : Int) ∧ (a : Int).tmod 8 = (r : Int) ∧ r < 8 := by
  obtain ⟨a, h, _⟩ := i64_and255 n
  exact ⟨a, a % 8, h, by rw [Int.tmod_eq_emod_of_nonneg (by omega)]; omega, by omega⟩
structure Ac where
  kind : Int
  bits : Nat
  k : Nat → Int
  n : Int
abbrev AcV (c : Ac) : Value := .agg #[.int .i64 c.kind, .int .u32 c.bits, .int .i64 (c.k 0), .int .i64 (c.k 1), .int .i64 (c.k 2), .int .i64 (c.k 3), .int .i64 c.n]
abbrev AcC (c : Ac) : Array Value := #[.int .i64 c.kind, .int .u32 c.bits, .int .i64 (c.k 0), .int .i64 (c.k 1), .int .i64 (c.k 2), .int .i64 (c.k 3), .int .i64 c.n]
theorem keepL {W w' : World} {wd Z g gx l cx G n cap : Nat} {most : Int} {c : Ac} (k : WdB W wd g gx l cx most G n cap) (z : Blk W Z 38 (AcC c)) (hb : Below W.heap.size W w') :
    w'.cell? ⟨wd, 0, none⟩ = some (Pt g) ∧ w'.cell? ⟨wd, 1, none⟩ = some (.slice (some ⟨gx, 0, none⟩) l cx) ∧ w'.cell? ⟨wd, 2, none⟩ = some (.int .i64 most) ∧ w'.cell? ⟨Z, 1, none⟩ = some (.int .u32 c.bits) :=
  ⟨(k.under hb).cell 0, (k.under hb).cell 1, (k.under hb).cell 2, (z.under hb).cell 1⟩
theorem rat_ne_blk {w : World} {gy cy b : Nat} {L : List RN} {t : TypeId} {cs : Array Value} (hr : RAt w gy cy L) (h : Blk w b t cs) (ht : 54 ≠ t) : gy ≠ b := by
  intro e
  subst e
  obtain ⟨cs', fr, hty⟩ := hr.1.2
  unfold Blk at h
  rw [h] at hty
  simp only [Option.some.injEq, Obj.cells.injEq] at hty
  exact ht hty.2.1.symm
theorem keepA {W w' : World} {wd Z g gx l cx G n cap : Nat} {most : Int} {c : Ac} (k : WdB W wd g gx l cx most G n cap) (z : Blk W Z 38 (AcC c)) (hb : Below W.heap.size W w') :
    w'.cell? ⟨wd, 0, none⟩ = some (Pt g) ∧ w'.cell? ⟨Z, 1, none⟩ = some (.int .u32 c.bits) :=
  ⟨(k.under hb).cell 0, (z.under hb).cell 1⟩
/-- Behind the document's call. -/
def DcR (w : World) (c : Ac) (R : Nat × Option Nat × Sta) (most : Int) (t6 t7 t8 : Value) (wx : World) : Prop :=
  ∃ z gy cy, t6 = Pt z ∧ t7 = .int .i64 R.1 ∧ t8 = .int .i64 (codeE R.2.1) ∧ Blk wx z 29 #[.slice (some ⟨gy, 0, none⟩) (refL R.2.2.N).length cy, .int .i64 most] ∧ RAt wx gy cy (refL R.2.2.N) ∧ Blk wx w.heap.size 38 (AcC c) ∧ Below w.heap.size w wx ∧ w.heap.size < z
set_option maxRecDepth 100000 in
set_option maxHeartbeats 1000000 in
theorem does_leaf (w0 : World) (wd g : Nat) (S : Sta) (c : Ac) (w : World) (hI : Inv w0.heap.size wd g S w) (hW : Wf S) (hK : Nok S.N) (hN : S.N.length ≤ 80000) (hbw : Below w0.heap.size w0 w) (hE : ErrIs w0) (hbits : okU c.bits) (hk2 : ∃ (a r : Nat), bits .and .i64 c.kind 255 = (a : Int) ∧ (a : Int).tmod 8 = (r : Int) ∧ r < 2) :
    Calls Tryd.prog 7 #[Pt wd, AcV c] w fun e w' => e = .returned (.bool true) ∧ Step1 S (leafR S c.bits) ∧ Inv w0.heap.size wd g (leafR S c.bits).2.2 w' ∧ Below w0.heap.size w0 w' := by
  have hS := leaf_step1 hW hK c.bits
  obtain ⟨R, hR⟩ : ∃ R, leafR S c.bits = R := ⟨_, rfl⟩
  have hrel := leaf_rel hW c.bits
  have HI := Lib.hid hI
  obtain ⟨P0, gx, cx, G, cap, hA, hP0, hw, hx, ho, hd, hd2⟩ := hI
  have hln := refL_len S.N
  have hrl := refL_len R.2.2.N
  have href := fun W hW => refleaf_any gx cx c.bits (refL S.N) (64 + S.more) W hW (by omega) (by omega) hbits
  rw [hrel] at href
  rw [hR] at hS href ⊢
  unfold AV at href
  obtain ⟨a, r, ha, hr8, hr2⟩ := hk2
  have hrlt : (r : Int) < 2 := by omega
  have b0 := Blk.newAt w 38 (AcC c) _ rfl
  have hb0 : Below w.heap.size w (w.alloc (.cells (AcC c) 38)) := (Below.refl _ _).alloc (Nat.le_refl _) _
  have k0 := hw.under hb0
  have hx0 := hx.below hb0
  have a0 := b0.cell 0
  simp only [List.getElem?_toArray, List.getElem?_cons_zero] at a0
  have lz := b0.lt
  have lw := k0.lt
  have HA := Lib.hid hA
  have HO := Lib.hid ho
  have HS := Lib.hid hS
  have HRR := Lib.hid hR
  clear hA ho hw hx hS hR hrel hln hrl
  go_enter Tryd.func7, Tryd.ntmps7
  go_upto_region 3 with fail
  change Code.wp _ _ _ _ (w.alloc (.cells (AcC c) 38))
  generalize hw1 : w.alloc (.cells (AcC c) 38) = w1 at *
  have hkb : Below w1.heap.size w1 w1 := Below.refl _ _
  go_cut [6, 7, 8] (fun t6 t7 t8 wx => DcR w c R (64 + S.more) t6 t7 t8 wx)
  case first =>
    go_region_held3 (fun w' => w'.cell? ⟨wd, 0, none⟩ = some (Pt g) ∧ w'.cell? ⟨wd, 1, none⟩ = some (.slice (some ⟨gx, 0, none⟩) (refL S.N).length cx) ∧ w'.cell? ⟨wd, 2, none⟩ = some (.int .i64 (64 + S.more)) ∧ w'.cell? ⟨w.heap.size, 1, none⟩ = some (.int .u32 c.bits)) (first | (refine keepL k0 b0 ?_; go_grown; done) | exact keepL k0 b0 (hkb.alloc hkb.size _) | exact keepL k0 b0 ((hkb.alloc hkb.size _).setCell (by dsimp only; omega) _) | exact keepL k0 b0 (((hkb.alloc hkb.size _).setCell (by dsimp only; omega) _).setCell (by dsimp only; omega) _))
      (first | (go_at_call 13; (with_reducible refine Calls.mono (href _ (hx0.below ?_)) ?_); (focus (go_grown; done)); rintro e w2 ⟨gy, cy, rfl, hra2, hb2⟩; have hkb : Below w1.heap.size w1 w2 := below_call hb2 (by go_grown) (by first | exact Nat.le_refl _ | go_size); have hks := hkb.size; try (have kz : Blk w2 w1.heap.size 29 #[.slice none 0 0, .int .i64 0] := (by first | exact (hb2.block _ (by simp)).trans (heap_alloc_new w1 _) | exact (hb2.block _ (by simp)).trans (heap_alloc_new w1.drew _)); have s0 := kz.cell 0; have s1 := kz.cell 1; have fs0 := kz.frozen 0; have fs1 := kz.frozen 1; simp only [List.getElem?_toArray, List.getElem?_cons_zero, List.getElem?_cons_succ] at s0 s1; have lz2 := kz.lt); clear hb2))
    all_goals go_wp2_with fail
    all_goals go_meet
    · exact ⟨_, gy, cy, rfl, rfl, rfl, Blk.newAt w2 _ _ _ rfl, hra2.below ((Below.refl _ _).alloc (Nat.le_refl _) _), (b0.under hkb).alloc _, (hb0.trans (hkb.mono hb0.size)).alloc (by omega) _, by omega⟩
    · have hne : gy ≠ w1.heap.size := rat_ne_blk hra2 kz (by decide)
      exact ⟨_, gy, cy, rfl, rfl, rfl, (kz.set_ 0 _).set_ 1 _, RAt.set (RAt.set hra2 hne _) hne _, ((b0.under hkb).far (by dsimp only; omega) _).far (by dsimp only; omega) _, ((hb0.trans (hkb.mono hb0.size)).setCell (by dsimp only; omega) _).setCell (by dsimp only; omega) _, by omega⟩
  case rest =>
    clear hkb k0 hx0 a0 lz lw hb0 b0 hw1 HA HO hP0 href
    obtain ⟨z, gy, cy, rfl, rfl, rfl, kz, hra, ka, hb, hz⟩ := hcut
    obtain ⟨P, gx2, cx2, G2, cap2, hM⟩ := inv_mid HI.out hb hra
    have hl := leaf_any g c.bits S P wc.drew (hM.1.under (below_dr 1 (Below.refl _ _))) hM.2.1 hbits (by omega)
    rw [HRR.out] at hl
    have kw := hM.2.2.2.1
    have hkz : Below wc.heap.size wc wc := Below.refl _ _
    have lz := ka.lt
    have lw := kw.lt
    have hbb := hbw.trans (hb.mono hbw.size)
    go_upto_region 4 with fail
    go_region_held3 (fun w' => w'.cell? ⟨wd, 0, none⟩ = some (Pt g) ∧ w'.cell? ⟨w.heap.size, 1, none⟩ = some (.int .u32 c.bits)) (first | (refine keepA kw ka ?_; go_grown; done) | exact ⟨kw3.cell 0, ka3.cell 1⟩)
      (first | (go_at_call 9; (with_reducible refine hl.mono ?_); rintro e w3 ⟨rfl, hA3, ho3'⟩; have ho3 : Off P wc w3 := (Off.of_below (below_dr 1 (Below.refl _ _))).trans ho3'; have kw3 := ho3.blk kw (fun hp => (hM.2.2.1 _ hp lw).2.2.1 rfl); have ka3 := ho3.blk ka (fun hp => Nat.lt_irrefl _ (hM.2.2.1 _ hp lz).1); have kz3 := ho3.blk kz (fun hp => by have := (hM.2.2.1 _ hp kz.lt).1; omega); have s0 := kz3.cell 0; have s1 := kz3.cell 1; simp only [List.getElem?_toArray, List.getElem?_cons_zero, List.getElem?_cons_succ] at s0 s1; have lz3 := kz3.lt))
    all_goals go_wp2_with fail
    all_goals refine (tail_any HS.out (by omega) hM hd hd2 hA3 ho3 hbb hE).mono ?_
    all_goals rintro e w4 ⟨rfl, hI4, hb4⟩
    all_goals go_wp2
    all_goals exact bodyPost_ret (v := .bool true) (by simp [results, Tryd.results7, go_sem]) rfl ⟨rfl, HS.out, hI4, hb4⟩
end Go.Proofs.YtmibdbgoknbchaaDoor.Ar
