/- The law's same. -/
import Derived.Test.YtmibdbgoknbchaaDoorArQ3
import Derived.Deep.RegionHeld3
namespace Go.Proofs.YtmibdbgoknbchaaDoor.Ar
open Go.RowKit Go.Proofs.YtmibdbgoknbchaaDoor.Ba Go.Proofs.YtmibdbgoknbchaaDoor.Mp Go.Lib Go.Maps

theorem zeroI (w : World) : (zeroValue 3).run Tryd.prog w = .ok (.int .i64 0) w := by kernel_rfl
/-- How often a number was seen. -/
def mkS : MK Nat where
  mT := 66
  kT := 31
  eT := 3
  q := .i64
  enc := fun n => .int .u32 n
  kl := fun n => .int .u32 n
  ok := okU
  K := int_keyed Tryd.underlying31
  hu := Tryd.underlying66
  he := Tryd.underlying3
  hz := zeroI
  hkey := fun _ h => keyOf_int_mk Tryd.underlying31 (u32_lit h)
  inj := fun x y _ _ e => by simp only [Lit.int.injEq, true_and] at e; omega
def seenN (i : Nat) : Nat → Option Nat := fun q => if q < i then some 1 else none
theorem seenN_succ (i : Nat) : (fun q => if q = i then some 1 else seenN i q) = seenN (i + 1) := by
  funext q
  unfold seenN
  by_cases h : q = i
  · subst h; simp
  · by_cases h2 : q < i
    · rw [if_neg h, if_pos h2, if_pos (by omega)]
    · rw [if_neg h, if_neg h2, if_neg (by omega)]
theorem seenN_zero : seenN 0 = fun _ => none := by
  funext q
  unfold seenN
  rw [if_neg (Nat.not_lt_zero q)]
theorem keepM {W w' : World} {wd Z g gx l cx G n cap : Nat} {most : Int} {d : Nd} (k : WdB W wd g gx l cx most G n cap) (z : Blk W Z 54 #[.int .i64 d.level, .int .u32 d.bits, .int .i64 d.k.1, .int .i64 d.k.2.1, .int .i64 d.k.2.2.1, .int .i64 d.k.2.2.2, .int .u64 d.count]) (hb : Below W.heap.size W w') :
    w'.cell? ⟨wd, 0, none⟩ = some (Pt g) ∧ w'.cell? ⟨Z, 0, none⟩ = some (.int .i64 d.level) ∧ w'.cell? ⟨Z, 1, none⟩ = some (.int .u32 d.bits) ∧ w'.cell? ⟨Z, 6, none⟩ = some (.int .u64 d.count) :=
  ⟨(k.under hb).cell 0, (z.under hb).cell 0, (z.under hb).cell 1, (z.under hb).cell 6⟩
def SmR (w : World) (N : Nat) (t28 : Value) (wr : World) : Prop := ∃ i : Nat, i ≤ N + 1 ∧ t28 = .int .i64 i ∧ IsB mkS wr w.heap.size i i (seenN i) ∧ Below w.heap.size w wr
def SiR (w : World) (i Z : Nat) (d : Nd) (t87 : Value) (wr : World) : Prop :=
  ∃ m : Nat, m ≤ 4 ∧ t87 = .int .i64 m ∧ IsB mkS wr w.heap.size (i + 1) (i + 1) (seenN (i + 1)) ∧ Blk wr Z 54 #[.int .i64 d.level, .int .u32 d.bits, .int .i64 d.k.1, .int .i64 d.k.2.1, .int .i64 d.k.2.2.1, .int .i64 d.k.2.2.2, .int .u64 d.count] ∧ Below w.heap.size w wr
theorem kid_le {S : Sta} (h : Wf S) {i : Nat} (hi : i ≤ S.N.length) (hl : 2 < (ndAt S.N i).1.level) : ∀ x ∈ kli (ndAt S.N i).1.k, x ≤ S.N.length := by
  intro x hx
  have hd : ∃ d, S.N[i - 1]? = some d ∧ (ndAt S.N i).1 = d := by
    unfold ndAt at hl ⊢
    by_cases h0 : i = 0
    · rw [if_pos h0] at hl; exact absurd hl (by decide)
    · rw [if_neg h0, List.getElem?_eq_getElem (show i - 1 < S.N.length by omega)]
      exact ⟨_, rfl, rfl⟩
  obtain ⟨d, hd, e⟩ := hd
  rw [e] at hl hx
  rcases h.kinds d (List.mem_of_getElem? hd) with ⟨f, _, rfl⟩ | ⟨_, h4⟩
  · exact absurd hl (by show ¬ (2 : Int) < 2; omega)
  · have hk := above_kids h4 x hx
    unfold kidOk at hk
    simp only [Bool.and_eq_true] at hk
    have h1 := hk.1
    unfold ndAt at h1
    by_cases h0 : x = 0
    · omega
    · rw [if_neg h0] at h1
      cases hg : S.N[x - 1]? with
      | none => rw [hg] at h1; cases h1
      | some d' => have := (List.getElem?_eq_some_iff.1 hg).1; omega
theorem kid_zero {S : Sta} (h : Wf S) {i : Nat} (hi : i ≤ S.N.length) (hl : ¬ 2 < (ndAt S.N i).1.level) : (ndAt S.N i).1.level = 2 ∧ (ndAt S.N i).1.k = (0, 0, 0, 0) := by
  unfold ndAt at hl ⊢
  by_cases h0 : i = 0
  · rw [if_pos h0]; exact ⟨rfl, rfl⟩
  · rw [if_neg h0, List.getElem?_eq_getElem (show i - 1 < S.N.length by omega)] at hl ⊢
    have hm := List.getElem_mem (show i - 1 < S.N.length by omega)
    rcases h.kinds _ hm with ⟨f, _, e⟩ | ⟨h1, _⟩
    · rw [e]; exact ⟨rfl, rfl⟩
    · exact absurd h1 hl
theorem levelOf_in {N : List Nd} {i : Nat} (h : i ≤ N.length) : levelOf N i = (ndAt N i).1.level := by
  unfold levelOf
  rw [if_pos (ndAt_in h)]
set_option maxRecDepth 100000 in
set_option maxHeartbeats 1000000 in
theorem same_any (B wd g : Nat) (S : Sta) (w : World) (hI : Inv B wd g S w) (hW : Wf S) (hN : S.N.length ≤ 80000) :
    Calls Tryd.prog 8 #[Pt wd] w fun e w' => e = .returned (.bool true) ∧ Below w.heap.size w w' := by
  have hmm := @run_makeMap Tryd.prog
  obtain ⟨P, gx, cx, G, cap, hA, hP, hw, hx, ho, hd, hd2⟩ := hI
  have hle := fun W hW => len_any g S P W hW (by omega)
  push_cast at hle
  rw [refL_len] at hw
  have z0 := hw.cell 0
  have z1 := hw.cell 1
  simp only [List.getElem?_toArray, List.getElem?_cons_zero, List.getElem?_cons_succ] at z0 z1
  have lw := hw.lt
  have lg := own_lt0 ho G rfl
  clear hd hd2
  go_enter Tryd.func8, Tryd.ntmps8
  go_upto_region 1 with fail
  go_quiet ((go_at_call 11; exact ((hle _ (hA.under (below_dr _ (Below.refl _ _)))).mono fun _ _ ⟨he, hm⟩ => ⟨he, _, hm.symm⟩)))
  have hIm := IsB.made (m := mkS) (w.drewN nq)
  have hwm := (hw.drewN nq).alloc (.map #[] 0)
  have y1 := hwm.cell 1
  simp only [List.getElem?_toArray, List.getElem?_cons_zero, List.getElem?_cons_succ] at y1
  have lwm := hwm.lt
  have hbm : Below w.heap.size w ((w.drewN nq).alloc (.map #[] 0)) := (below_dr nq (Below.refl _ _)).alloc (Nat.le_refl _) _
  go_wp2_with fail
  clear y1 hmm hle z0 z1 hwm lwm
  go_loopw [28] (fun t28 wr => SmR w S.N.length t28 wr) (fun t28 _ => S.N.length + 1 - (intOf t28).toNat)
  case atStart =>
    refine ⟨0, by omega, rfl, ?_, hbm⟩
    rw [seenN_zero]
    exact hIm
  case round =>
    clear hIm hbm
    obtain ⟨i, hi, rfl, hIs, hb⟩ := hrel
    have hsz := hb.size
    by_cases hlt : i < S.N.length + 1
    · have hil : i ≤ S.N.length := by omega
      have hKL := Lib.hid (fun h => kid_le hW hil h)
      have hKZ := Lib.hid (fun h => kid_zero hW hil h)
      have hlev := levelOf_in hil
      have hra := (hx.below hb).node (refL_at S.N i hil)
      have A1 := Lib.hid (hA.under hb)
      have hw1 := hw.under hb
      have o1 := own_below ho hb
      have e1 := o1.cellAt i (by omega)
      rw [ats_get hlt] at e1
      obtain ⟨d, hd⟩ : ∃ d, (ndAt S.N i).1 = d := ⟨_, rfl⟩
      rw [hd] at hra hKL hKZ hlev
      obtain ⟨x0, x1, x2, x3, x4, x5, x6⟩ := hra
      simp only [toR] at x0 x1 x2 x3 x4 x5 x6
      have hgx := (hx.below hb).2.2
      have y3 := hw1.cell 3
      simp only [List.getElem?_toArray, List.getElem?_cons_zero, List.getElem?_cons_succ] at y3
      have lw1 := hw1.lt
      have lg1 := own_lt0 o1 G rfl
      have hb1 : Below wr.heap.size wr (wr.alloc (.cells #[.int .i64 d.level, .int .u32 d.bits, .int .i64 d.k.1, .int .i64 d.k.2.1, .int .i64 d.k.2.2.1, .int .i64 d.k.2.2.2, .int .u64 d.count] 54)) := (Below.refl _ _).alloc (Nat.le_refl _) _
      have kz := Blk.newAt wr 54 #[.int .i64 d.level, .int .u32 d.bits, .int .i64 d.k.1, .int .i64 d.k.2.1, .int .i64 d.k.2.2.1, .int .i64 d.k.2.2.2, .int .u64 d.count] _ rfl
      have hI1 := hIs.under hb1
      have hw2 := hw1.under hb1
      have hbw1 := hb.trans (hb1.mono hsz)
      have hiu : okU i := by show i < _; omega
      have HN := Lib.hid hd
      clear hIs hd o1 hb hi
      go_upto_region 8 with fail
      change Code.wp _ _ _ _ (wr.alloc (.cells #[.int .i64 d.level, .int .u32 d.bits, .int .i64 d.k.1, .int .i64 d.k.2.1, .int .i64 d.k.2.2.1, .int .i64 d.k.2.2.2, .int .u64 d.count] 54))
      clear x0 x1 x2 x3 x4 x5 x6 hgx y3 e1
      generalize hWW : wr.alloc (.cells #[.int .i64 d.level, .int .u32 d.bits, .int .i64 d.k.1, .int .i64 d.k.2.1, .int .i64 d.k.2.2.1, .int .i64 d.k.2.2.2, .int .u64 d.count] 54) = W1 at *
      have hlk := hI1.look (x := i) hiu
      have hsi : seenN i i = none := by unfold seenN; rw [if_neg (Nat.lt_irrefl i)]
      rw [hsi] at hlk
      have hlk' : (Instr.lookup 66 (.map (some w.heap.size)) (.int .u32 i) false).run Tryd.prog W1 = .ok (.int .i64 0) W1 := hlk
      obtain ⟨W2, hup, hI2, hg2⟩ := hI1.put (x := i) (y := 1) (by unfold maxLen; omega) hiu (by decide)
      have hup' : (Instr.mapUpdate 66 (.map (some w.heap.size)) (.int .u32 i) (.int .i64 1)).run Tryd.prog W1 = .ok () W2 := hup
      rw [hsi, seenN_succ] at hI2
      have hI2' : IsB mkS W2 w.heap.size (i + 1) (i + 1) (seenN (i + 1)) := hI2
      clear hlk hup hI2
      have hlk2 : (Instr.lookup 66 (.map (some w.heap.size)) (.int .u32 i) false).run Tryd.prog W2.drew = .ok (.int .i64 1) W2.drew := by
        have h1 := (hI2'.under (below_dr 1 (Below.refl _ _))).look (x := i) hiu
        rw [show seenN (i + 1) i = some 1 by unfold seenN; rw [if_pos (Nat.lt_succ_self i)]] at h1
        exact h1
      have hrl : w.heap.size < wr.heap.size := by
        have := hI1.lt
        have h1 : W1.heap.size = wr.heap.size + 1 := by rw [← hWW]; simp
        have h2 := kz.lt
        rcases Nat.lt_or_ge w.heap.size wr.heap.size with h | h
        · exact h
        · exfalso
          have e : w.heap.size = wr.heap.size := by omega
          obtain ⟨D, ⟨es, clock, hm, _⟩, _⟩ := hI1
          have := kz
          unfold Blk at this
          rw [e, this] at hm
          cases hm
      have hw2' : WdB W2 wd g gx (S.N.length + 1) cx (64 + S.more) G (S.N.length + 1) cap := Blk.grown hw2 hg2 (by simp only [ne_eq, Option.some.injEq]; omega)
      have kz2 := Blk.grown kz hg2 (by simp only [ne_eq, Option.some.injEq]; omega)
      have hbw2 : Below w.heap.size w W2 := hbw1.grown hg2 hbw1.size (fun k hk => by injection hk with hk; omega)
      have hA2 := hA.under hbw2
      have hlv2 := fun W hW => level_any g i S P W hW hiu (by omega)
      have hbt2 := fun W hW => bits_any g i S P W hW hiu (by omega)
      have hct2 := fun W hW => count_any g i S P W hW hiu (by omega)
      have hkd2 := fun W hW => kids_any g i S P W hW hiu (by omega)
      rw [hlev] at hlv2
      rw [HN.out] at hbt2 hct2 hkd2
      have hkb : Below W2.heap.size W2 W2 := Below.refl _ _
      have lz2 := kz2.lt
      have lw2 := hw2'.lt
      have hsz2 := hbw2.size
      clear hI1 hg2 hw2 kz hb1 hbw1 hsi hw1 lw1 lg1
      go_upto_region 9 with fail
      go_region_held3 (fun w' => w'.cell? ⟨wd, 0, none⟩ = some (Pt g) ∧ w'.cell? ⟨wr.heap.size, 0, none⟩ = some (.int .i64 d.level) ∧ w'.cell? ⟨wr.heap.size, 1, none⟩ = some (.int .u32 d.bits) ∧ w'.cell? ⟨wr.heap.size, 6, none⟩ = some (.int .u64 d.count)) (first | (refine keepM hw2' kz2 ?_; go_grown; done) | exact keepM hw2' kz2 hkb)
        (first | (go_at_call 12; (with_reducible refine Calls.mono (hlv2 _ (hA.under ?_)) ?_); (focus (exact hbw2.trans ((below_dr 1 hkb).mono hsz2))); rintro e w3 ⟨rfl, hb3⟩; have hkb : Below W2.heap.size W2 w3 := below_call hb3 (below_dr 1 (Below.refl _ _)) (Nat.le_refl _); have hks := hkb.size; clear hb3) | (go_at_call 21; (with_reducible refine Calls.mono (hbt2 _ (hA.under ?_)) ?_); (focus (exact hbw2.trans (hkb.mono hsz2))); rintro e w4 ⟨rfl, hb4⟩; have hkb : Below W2.heap.size W2 w4 := hkb.trans (hb4.mono hks); have hks := hkb.size; clear hb4) | (go_at_call 22; (with_reducible refine Calls.mono (hct2 _ (hA.under ?_)) ?_); (focus (exact hbw2.trans (hkb.mono hsz2))); rintro e w5 ⟨rfl, hb5⟩; have hkb : Below W2.heap.size W2 w5 := hkb.trans (hb5.mono hks); have hks := hkb.size; clear hb5))
      have kw5 := hw2'.under hkb
      have y0 := kw5.cell 0
      simp only [List.getElem?_toArray, List.getElem?_cons_zero] at y0
      have lw5 := kw5.lt
      have hbw5 := hbw2.trans (hkb.mono hsz2)
      have hkd := hkd2 w5 (hA.under hbw5)
      have hI5 := hI2'.under hkb
      have kz5 := kz2.under hkb
      clear hlv2 hbt2 hct2 hkd2 hlk2 hlk' hup' hkb hI2' hw2' kz2 hks lz2 lw2 hsz2 hA2 hbw2 kw5
      go_wp2_with fail
      refine hkd.mono ?_
      rintro e w6 ⟨rfl, hb6⟩
      have hI6 := hI5.under hb6
      have kz6 := kz5.under hb6
      have hbw6 := hbw5.trans (hb6.mono hbw5.size)
      clear hkd y0 hI5 kz5 lw5 hb6 hbw5
      go_wp2_with fail
      generalize wr.heap.size = Z at *
      go_loopw [87] (fun t87 wx => SiR w i Z d t87 wx) (fun t87 _ => 4 - (intOf t87).toNat)
      case atStart => exact ⟨0, by omega, rfl, hI6, kz6, hbw6⟩
      case round =>
        clear hI6 kz6 hbw6
        obtain ⟨m, hm, rfl, hI7, kz7, hb7⟩ := hrel
        by_cases hlt4 : m < 4
        · have HS := Lib.hid (show ∀ q, SiR w i Z d (.int .i64 ((m + 1 : Nat) : Int)) (wr.drewN q) from fun q => ⟨m + 1, by omega, rfl, hI7.under (below_dr q (Below.refl _ _)), kz7.drewN q, below_dr q hb7⟩)
          have kw7 := hw.under hb7
          have o7 := own_below ho hb7
          have j0 := kz7.cell 0
          have j2 := kz7.cell 2
          have j3 := kz7.cell 3
          have j4 := kz7.cell 4
          have j5 := kz7.cell 5
          have y3 := kw7.cell 3
          simp only [List.getElem?_toArray, List.getElem?_cons_zero, List.getElem?_cons_succ] at j0 j2 j3 j4 j5 y3
          have lz7 := kz7.lt
          have lw7 := kw7.lt
          have lg7 := own_lt0 o7 G rfl
          have hoc := fun x (hx : x ≤ S.N.length) => (o7.cellAt x (by omega)).trans (ats_get (show x < S.N.length + 1 by omega))
          have HOC := Lib.hid hoc
          have HI7 := Lib.hid hI7
          clear hoc o7 kw7 hI7 kz7 hw hx ho
          by_cases hl : 2 < d.level
          · have hkl := hKL.out hl
            have hl2 : (d.level == 2) = false := by simp; omega
            obtain rfl | rfl | rfl | rfl : m = 0 ∨ m = 1 ∨ m = 2 ∨ m = 3 := by omega
            · (have hix := ix0 d.k; have hkx := hkl d.k.1 (by simp [kli]); have hcx := HOC.out d.k.1 hkx; have hk1 : (d.k.1 : Int) < (S.N.length : Int) + 1 := (by omega); clear hkl HOC hKL hKZ HI7; go_upto_region 14 with fail; go_quiet (fail); go_wp2; exact ⟨HS.out _, by simp [intOf]⟩)
            · (have hix := ix1 d.k; have hkx := hkl d.k.2.1 (by simp [kli]); have hcx := HOC.out d.k.2.1 hkx; have hk1 : (d.k.2.1 : Int) < (S.N.length : Int) + 1 := (by omega); clear hkl HOC hKL hKZ HI7; go_upto_region 14 with fail; go_quiet (fail); go_wp2; exact ⟨HS.out _, by simp [intOf]⟩)
            · (have hix := ix2 d.k; have hkx := hkl d.k.2.2.1 (by simp [kli]); have hcx := HOC.out d.k.2.2.1 hkx; have hk1 : (d.k.2.2.1 : Int) < (S.N.length : Int) + 1 := (by omega); clear hkl HOC hKL hKZ HI7; go_upto_region 14 with fail; go_quiet (fail); go_wp2; exact ⟨HS.out _, by simp [intOf]⟩)
            · (have hix := ix3 d.k; have hkx := hkl d.k.2.2.2 (by simp [kli]); have hcx := HOC.out d.k.2.2.2 hkx; have hk1 : (d.k.2.2.2 : Int) < (S.N.length : Int) + 1 := (by omega); clear hkl HOC hKL hKZ HI7; go_upto_region 14 with fail; go_quiet (fail); go_wp2; exact ⟨HS.out _, by simp [intOf]⟩)
          · obtain ⟨hl2, hk0⟩ := hKZ.out (by omega)
            have hld : decide (2 < d.level) = false := by simpa using hl
            have hlb : (d.level == 2) = true := by simp [hl2]
            have z4 : d.k.1 = 0 ∧ d.k.2.1 = 0 ∧ d.k.2.2.1 = 0 ∧ d.k.2.2.2 = 0 := by rw [hk0]; exact ⟨rfl, rfl, rfl, rfl⟩
            have hkb : ∀ x : Nat, x = 0 → ((x : Int) != 0) = false := fun x hx => by rw [hx]; rfl
            obtain rfl | rfl | rfl | rfl : m = 0 ∨ m = 1 ∨ m = 2 ∨ m = 3 := by omega
            · (have hix := ix0 d.k; have hkx := hkb d.k.1 z4.1; clear hkb hk0 z4 HOC hKL hKZ HI7; go_upto_region 14 with fail; go_quiet (fail); go_wp2; exact ⟨HS.out _, by simp [intOf]⟩)
            · (have hix := ix1 d.k; have hkx := hkb d.k.2.1 z4.2.1; clear hkb hk0 z4 HOC hKL hKZ HI7; go_upto_region 14 with fail; go_quiet (fail); go_wp2; exact ⟨HS.out _, by simp [intOf]⟩)
            · (have hix := ix2 d.k; have hkx := hkb d.k.2.2.1 z4.2.2.1; clear hkb hk0 z4 HOC hKL hKZ HI7; go_upto_region 14 with fail; go_quiet (fail); go_wp2; exact ⟨HS.out _, by simp [intOf]⟩)
            · (have hix := ix3 d.k; have hkx := hkb d.k.2.2.2 z4.2.2.2; clear hkb hk0 z4 HOC hKL hKZ HI7; go_upto_region 14 with fail; go_quiet (fail); go_wp2; exact ⟨HS.out _, by simp [intOf]⟩)
        · obtain rfl : m = 4 := by omega
          go_wp2_with fail
          refine ⟨⟨i + 1, by omega, by go_num, hI7, hb7⟩, by simp [intOf]; omega⟩
    · obtain rfl : i = S.N.length + 1 := by omega
      go_wp2_with fail
      exact bodyPost_ret (v := .bool true) (by simp [results, Tryd.results8, go_sem]) rfl ⟨rfl, hb⟩
end Go.Proofs.YtmibdbgoknbchaaDoor.Ar
