/- ArenaMany: any 300 leaves, made one behind the other, each asked for twice. No condition on the numbers. -/
import Derived.Test.YtlmkakgbpdbeiaaArA
import Derived.Maps.RangeWalk
namespace Go.Proofs.Ytlmkakgbpdbeiaa.Ar
open Go.RowKit Go.Proofs.Ytlmkakgbpdbeiaa.Ba Go.Proofs.Ytlmkakgbpdbeiaa.Mp Go.Lib Go.Maps

theorem i64_and65535 (n : Int) : bits .and .i64 n 65535 = n % 65536 := by
  have h127 : (BitVec.ofInt 64 65535).toNat = 2 ^ 16 - 1 := by decide
  have key : (BitVec.ofInt 64 n &&& BitVec.ofInt 64 65535).toNat = (n % ((2 ^ 64 : Nat) : Int)).toNat % 2 ^ 16 := by
    rw [BitVec.toNat_and, BitVec.toNat_ofInt, h127, Nat.and_two_pow_sub_one_eq_mod]
  show IntKind.i64.wrap ((BitVec.ofInt 64 n &&& BitVec.ofInt 64 65535).toNat : Nat) = n % 65536
  rw [key, IntKind.wrap_i64]
  omega
theorem i64_and15 (n : Int) : bits .and .i64 n 15 = n % 16 := by
  have h127 : (BitVec.ofInt 64 15).toNat = 2 ^ 4 - 1 := by decide
  have key : (BitVec.ofInt 64 n &&& BitVec.ofInt 64 15).toNat = (n % ((2 ^ 64 : Nat) : Int)).toNat % 2 ^ 4 := by
    rw [BitVec.toNat_and, BitVec.toNat_ofInt, h127, Nat.and_two_pow_sub_one_eq_mod]
  show IntKind.i64.wrap ((BitVec.ofInt 64 n &&& BitVec.ofInt 64 15).toNat : Nat) = n % 16
  rw [key, IntKind.wrap_i64]
  omega
/-- What the numbers of leaves tell. -/
def WfL (S : Sta) : Prop := ∀ f i, S.L f = some i → f ≠ 0 ∧ 1 ≤ i ∧ i ≤ S.N.length ∧ S.N[i - 1]? = some (leafNd f)
def seenOf (S : Sta) : Nat → Option Nat := fun q => if q = 0 then some 0 else S.L q
theorem leaf_step (S : Sta) (hw : WfL S) (f : Nat) (hnf : ¬ full S) : ∃ x S', leafR S f = (x, none, S') ∧ leafR S' f = (x, none, S') ∧ WfL S' ∧ S'.more = S.more ∧ S'.N.length ≤ S.N.length + 1 ∧ seenOf S' = (fun q => if q = f then some x else seenOf S q) ∧
    (if (seenOf S f).isSome then S.N.length + 1 else S.N.length + 1 + 1) = S'.N.length + 1 ∧ (∀ y, seenOf S f = some y → y = x) ∧ (ndAt S'.N x).1.bits = f ∧ x ≤ S'.N.length := by
  by_cases h0 : f = 0
  · subst h0
    refine ⟨0, S, rfl, rfl, hw, rfl, Nat.le_succ _, ?_, ?_, ?_, rfl, Nat.zero_le _⟩
    · funext q
      by_cases hq : q = 0
      · rw [if_pos hq, hq]; rfl
      · rw [if_neg hq]
    · rfl
    · intro y hy
      have : some 0 = some y := hy
      simpa using this.symm
  · cases hl : S.L f with
    | some i =>
      have hs : seenOf S f = some i := by unfold seenOf; rw [if_neg h0, hl]
      have hr : leafR S f = (i, none, S) := by unfold leafR; rw [if_neg h0, hl]
      obtain ⟨_, h1, h2, h3⟩ := hw f i hl
      refine ⟨i, S, hr, hr, hw, rfl, Nat.le_succ _, ?_, ?_, ?_, ?_, h2⟩
      · funext q
        by_cases hq : q = f
        · rw [if_pos hq, hq, hs]
        · rw [if_neg hq]
      · rw [hs]; rfl
      · intro y hy
        rw [hs] at hy
        simpa using hy.symm
      · unfold ndAt
        rw [if_neg (by omega), h3]
        rfl
    | none =>
      have hs : seenOf S f = none := by unfold seenOf; rw [if_neg h0, hl]
      have hr : leafR S f = (S.N.length + 1, none, leafS S f) := by unfold leafR; rw [if_neg h0, hl]; simp only [if_neg hnf]
      have hlen : (leafS S f).N.length = S.N.length + 1 := by simp [leafS, addS]
      have hr2 : leafR (leafS S f) f = (S.N.length + 1, none, leafS S f) := by
        have : (leafS S f).L f = some (S.N.length + 1) := by simp [leafS]
        unfold leafR
        rw [if_neg h0, this]
      have hat : (leafS S f).N[S.N.length]? = some (leafNd f) := by simp [leafS, addS]
      refine ⟨S.N.length + 1, leafS S f, hr, hr2, ?_, rfl, by omega, ?_, ?_, ?_, ?_, by omega⟩
      · intro q i hq
        by_cases hqf : q = f
        · subst hqf
          have : some (S.N.length + 1) = some i := by rw [← hq]; simp [leafS]
          simp only [Option.some.injEq] at this
          subst this
          exact ⟨h0, by omega, by omega, hat⟩
        · have hq' : S.L q = some i := by rw [← hq]; simp [leafS, hqf]
          obtain ⟨a, b, c, d⟩ := hw q i hq'
          refine ⟨a, b, by omega, ?_⟩
          show (S.N ++ [leafNd f])[i - 1]? = _
          rw [List.getElem?_append_left (by omega), d]
      · funext q
        unfold seenOf
        by_cases hq0 : q = 0
        · rw [if_pos hq0, if_neg (by omega), if_pos hq0]
        · rw [if_neg hq0, if_neg hq0]
          rfl
      · rw [hs, hlen]; rfl
      · intro y hy
        rw [hs] at hy
        cases hy
      · unfold ndAt
        rw [if_neg (by omega), Nat.add_sub_cancel, hat]
        rfl
theorem u32_nat {i : Int} (h : (Lit.int .u32 i).wf = true) : ∃ n : Nat, i = n ∧ okU n := by
  simp [Lit.wf, IntKind.min, IntKind.max, IntKind.signed, IntKind.bits] at h
  exact ⟨i.toNat, by omega, by show _ < _; omega⟩
theorem seen_ok {S : Sta} (h : WfL S) {F X : Nat} (hs : seenOf S F = some X) : X ≤ S.N.length ∧ (ndAt S.N X).1.bits = F ∧ levelOf S.N X = 2 ∧ (ndAt S.N X).1.count = Si.pcn F 32 := by
  unfold seenOf at hs
  by_cases h0 : F = 0
  · rw [if_pos h0] at hs
    simp only [Option.some.injEq] at hs
    subst hs h0
    exact ⟨Nat.zero_le _, rfl, rfl, show (0 : Nat) = Si.pcn 0 32 by decide⟩
  · rw [if_neg h0] at hs
    obtain ⟨_, h1, h2, h3⟩ := h F X hs
    have e : ndAt S.N X = (leafNd F, true) := by unfold ndAt; rw [if_neg (by omega), h3]
    refine ⟨h2, ?_, ?_, ?_⟩
    · rw [e]; rfl
    · unfold levelOf; rw [e]; rfl
    · rw [e]; rfl
def MqR (w : World) (g B r c : Nat) (D : DataW Unit) (S : Sta) (wr : World) : Prop :=
  ∃ (left : Lit → Bool) (cnt : Nat), wr.ranges Try.prog 26 (plainElem (H := Unit) Try.prog 22) B r c D left cnt ∧ (∀ l, left l = true → has D l = true) ∧ ArAt wr g S (fun b => g ≤ b ∧ b ≠ r) ∧ Below w.heap.size w wr
def MnR (w : World) (g B n : Nat) (t25 : Value) (wr : World) : Prop :=
  ∃ (j : Nat) (S : Sta), j ≤ n ∧ t25 = .int .i64 j ∧ WfL S ∧ S.more = 936 ∧ S.N.length ≤ j ∧ ArAt wr g S (fun b => g ≤ b ∧ b ≠ B) ∧ IsB mkL wr B (j + 1) (S.N.length + 1) (seenOf S) ∧ Below w.heap.size w wr
set_option maxRecDepth 100000 in
theorem arenaMany_walk (seed : Int) (_w_s : (Lit.int .u32 seed).wf = true) (n : Int) (_w_n : (Lit.int .i64 n).wf = true) (w : World) :
    Calls Try.prog 3 #[.int .u32 seed, .int .i64 n] w fun e w' => e = .returned (.bool true) ∧ Below w.heap.size w w' := by
  have hmm := @run_makeMap Try.prog
  have hand := i64_and65535 n
  obtain ⟨m, hm⟩ : ∃ m : Nat, (n % 65536).tmod 300 = m := ⟨((n % 65536).tmod 300).toNat, by have := Int.tmod_nonneg 300 (Int.emod_nonneg n (by decide : (65536 : Int) ≠ 0)); omega⟩
  have hm3 : m < 300 := by have := Int.tmod_lt_of_pos (n % 65536) (by decide : (0 : Int) < 300); omega
  go_enter Try.func3, Try.ntmps3
  go_wp2_with fail
  refine (awake_true _).mono ?_
  rintro e w1 ⟨rfl, hb1⟩
  go_wp2_with fail
  refine (new_any 1000 (by decide) _).mono ?_
  rintro e w2 ⟨rfl, h2, hb2⟩
  have hb3 := hb1.trans (hb2.mono hb1.size)
  have hIm := IsB.made (m := mkL) w2
  obtain ⟨w3, hup, hI, hg⟩ := hIm.put (x := 0) (y := 0) (by decide) (show 0 < 4294967296 by decide) (by decide)
  have hup' : (Instr.mapUpdate 27 (.map (some w2.heap.size)) (.int .u32 0) (.int .u32 0)).run Try.prog (w2.alloc (.map #[] 0)) = .ok () w3 := hup
  have hba : Below w2.heap.size w2 (w2.alloc (.map #[] 0)) := (Below.refl _ _).alloc (Nat.le_refl _) _
  have hg3 : Below w2.heap.size w2 w3 := hba.grown hg (by simp) (fun k hk => by injection hk with hk; omega)
  have hA3 : ArAt w3 w1.heap.size (newS 1000) (fun b => w1.heap.size ≤ b ∧ b ≠ w2.heap.size) := (h2.weak (fun b hb hlt => ⟨by omega, by omega⟩)).under hg3
  have hb4 := hb3.trans (hg3.mono hb3.size)
  have hlo := hb1.size
  have hlt12 := h2.lt
  have hlt23 := hI.lt
  clear hup hIm hba hg3 hb3 h2 hb1 hb2 hg
  go_wp2_with fail
  clear hup' hmm
  generalize w1.heap.size = g at *
  generalize w2.heap.size = B at *
  go_loopw [25] (fun t25 wr => MnR w g B m t25 wr) (fun t25 _ => m - (intOf t25).toNat)
  case atStart => exact ⟨0, newS 1000, Nat.zero_le _, rfl, fun f i h => (by cases h), rfl, Nat.le_refl _, hA3, hI, hb4⟩
  case round =>
    clear hA3 hI hb4
    obtain ⟨j, S, hj, rfl, hw, hmo, hlen, hA, hI, hb⟩ := hrel
    by_cases hlt : j < m
    · obtain ⟨p, hp⟩ : ∃ p : Nat, p = j % 16 := ⟨_, rfl⟩
      have h15 : bits .and .i64 (j : Int) 15 = (p : Int) := by rw [i64_and15]; omega
      have hp16 : p < 32 := by omega
      obtain ⟨y, hy⟩ : ∃ y : Nat, seed * (j : Int) % 4294967296 = (y : Int) := ⟨(seed * (j : Int) % 4294967296).toNat, by have := Int.emod_nonneg (seed * (j : Int)) (by decide : (4294967296 : Int) ≠ 0); omega⟩
      have hy32 : y < 4294967296 := by have := Int.emod_lt_of_pos (seed * (j : Int)) (by decide : (0 : Int) < 4294967296); omega
      obtain ⟨F, hF⟩ : ∃ F : Nat, (y : Int) / 2 ^ p = (F : Int) := ⟨y / 2 ^ p, by simp⟩
      have hFu : okU F := by
        have e : F = y / 2 ^ p := by
          have : ((y / 2 ^ p : Nat) : Int) = (F : Int) := by rw [← hF]; simp
          omega
        have := Nat.div_le_self y (2 ^ p)
        show F < 4294967296
        omega
      clear hp
      obtain ⟨x, S', hr1, hr2, hw', hmo', hlen', hseen, hsz, hold, hbits, hxl⟩ := leaf_step S hw F (by unfold full; rw [hmo]; omega)
      have hl1 := fun W hW hP => leaf_any g F S (fun b => g ≤ b ∧ b ≠ B) W hW hP hFu (by omega)
      have hl2 := fun W hW hP => leaf_any g F S' (fun b => g ≤ b ∧ b ≠ B) W hW hP hFu (by omega)
      rw [hr1] at hl1
      rw [hr2] at hl2
      have hxu : okU x := by show _ < _; omega
      have hbt := fun W hW => bits_any g x S' (fun b => g ≤ b ∧ b ≠ B) W hW hxu (by omega)
      rw [hbits] at hbt
      unfold errV at hl1 hl2
      have HS := Lib.hid hseen
      have HZ := Lib.hid hsz
      have HO := Lib.hid hold
      have HW := Lib.hid hw'
      have HM := Lib.hid hmo'
      clear hr1 hr2 hseen hsz hold hw' hmo' hw hbits
      have hwr := hb.size
      have hBl := hI.lt
      go_wp2_with fail
      refine (hl1 _ hA (fun b hbb => ⟨by omega, by omega⟩)).mono ?_
      rintro e wa ⟨rfl, hAa, oa⟩
      have hba := hb.trans (oa.below hb.size (fun b hbb => Nat.le_trans hlo hbb.1))
      have hIa := hI.same (oa.block B hBl (fun hq => hq.2 rfl))
      have hsa := oa.size
      clear hl1 oa hA hI hb
      go_wp2_with fail
      refine (hl2 _ hAa (fun b hbb => ⟨by omega, by omega⟩)).mono ?_
      rintro e wb ⟨rfl, hAb, ob⟩
      have hbb := hba.trans (ob.below hba.size (fun b hbb => Nat.le_trans hlo hbb.1))
      have hIb := hIa.same (ob.block B (by omega) (fun hq => hq.2 rfl))
      have hsb := ob.size
      clear hl2 ob hAa hIa hba
      have hlk : (Instr.lookup 27 (.map (some B)) (.int .u32 F) true).run Try.prog wb = .ok (.tuple #[.int .u32 (((seenOf S F).getD 0 : Nat) : Int), .bool (seenOf S F).isSome]) wb := hIb.lookOk (x := F) hFu
      cases hsn : seenOf S F with
      | none =>
        rw [hsn] at hlk
        go_wp2_with fail
        refine (hbt _ hAb).mono ?_
        rintro e wc ⟨rfl, hbc⟩
        have hAc := hAb.under hbc
        have hbbc := hbb.trans (hbc.mono hbb.size)
        obtain ⟨wd, hup, hId, hgd⟩ := (hIb.under hbc).put (x := F) (y := x) (by unfold maxLen; omega) hFu (u32_lit hxu)
        have hup' : (Instr.mapUpdate 27 (.map (some B)) (.int .u32 F) (.int .u32 x)).run Try.prog wc = .ok () wd := hup
        have hszz := HZ.out
        rw [hsn] at hszz
        rw [hsn, hszz, ← HS.out] at hId
        have hAd := hAc.same (w' := wd) (fun b hbq hlb => hgd.block b hlb (fun e => hbq.2 (by injection e)))
        have hbd := hbbc.grown hgd hbbc.size (fun k hk => by injection hk with hk; omega)
        clear hlk hup hgd hAc hbbc hAb hIb hbb hszz hbt hbc
        go_wp2_with fail
        exact ⟨⟨j + 1, S', by omega, by go_num, HW.out, HM.out.trans hmo, by omega, hAd, hId, hbd⟩, by simp [intOf]; omega⟩
      | some yy =>
        obtain rfl := HO.out yy hsn
        rw [hsn] at hlk
        go_wp2_with fail
        refine (hbt _ hAb).mono ?_
        rintro e wc ⟨rfl, hbc⟩
        have hAc := hAb.under hbc
        have hbbc := hbb.trans (hbc.mono hbb.size)
        obtain ⟨wd, hup, hId, hgd⟩ := (hIb.under hbc).put (x := F) (y := yy) (by unfold maxLen; omega) hFu (u32_lit hxu)
        have hup' : (Instr.mapUpdate 27 (.map (some B)) (.int .u32 F) (.int .u32 yy)).run Try.prog wc = .ok () wd := hup
        have hszz := HZ.out
        rw [hsn] at hszz
        rw [hsn, hszz, ← HS.out] at hId
        have hAd := hAc.same (w' := wd) (fun b hbq hlb => hgd.block b hlb (fun e => hbq.2 (by injection e)))
        have hbd := hbbc.grown hgd hbbc.size (fun k hk => by injection hk with hk; omega)
        clear hlk hup hgd hAc hbbc hAb hIb hbb hszz hbt hbc
        go_wp2_with fail
        exact ⟨⟨j + 1, S', by omega, by go_num, HW.out, HM.out.trans hmo, by omega, hAd, hId, hbd⟩, by simp [intOf]; omega⟩
    · have HWf := Lib.hid hw
      have hNl : S.N.length ≤ 1000 := by omega
      obtain ⟨D, hown, hrd, hsize⟩ := hI
      have HRD := Lib.hid hrd
      have HSZ := Lib.hid hsize
      clear hrd hsize hw
      have hown' : wr.ownsMap Try.prog 26 (plainElem (H := Unit) Try.prog 22) B (j + 1) D := hown
      clear hown
      go_wp2_with (first
        | (at_range; refine wpList_range_own _ rfl _ 27 rfl 26 22 mkL.K Try.underlying27 _ B (j + 1) D rfl hown' ?_; intro w5 hrg0 hg0 hs0)
        | go_in)
      go_frame
      have hbg0 : Below wr.heap.size wr w5 := ⟨hg0.os, hg0.tape, hg0.output, hg0.size, fun k hk => hg0.block k hk (by simp)⟩
      have hA5 := (hA.weak (P' := fun b => g ≤ b ∧ b ≠ wr.heap.size) (fun b hb hlt => ⟨hb.1, by omega⟩)).under hbg0
      have hb5 := hb.trans (hbg0.mono hb.size)
      have hwr := hb.size
      clear hbg0 hA hb hown' hg0 hs0
      generalize wr.heap.size = r at *
      go_loopw [] (fun wx => MqR w g B r (j + 1) D S wx) (fun wx => wx.rangeLeft B r)
      case atStart => exact ⟨_, _, hrg0, fun _ h => h, hA5, hb5⟩
      case round =>
        clear hA5 hb5 hrg0
        obtain ⟨left, cnt, hrg, hlh, hA, hb⟩ := hrel
        have HLH := Lib.hid hlh
        clear hlh
        go_wp2_with (first
          | (at_next; refine wpList_next_ranges_ii _ rfl _ rfl 26 22 .u32 .u32 mkL.K Try.underlying26 Try.underlying22 B r (j + 1) D left cnt rfl hrg ?_ ?_)
          | go_in)
        · intro hc0 hl0
          have hml := World.ownsMap.len hrg.owns Try.underlying27 3
          rw [HSZ.out] at hml
          have hln := len_any g S _ wr hA (by omega)
          clear hrg HLH
          go_wp2_with fail
          refine hln.mono ?_
          rintro e w' ⟨rfl, rfl⟩
          go_wp2
          go_ret
          exact ⟨rfl, hb⟩
        · intro x c w6 cnt6 hwx hwc hlk hat hrg6 hlt6 hg6 hs6 hen
          obtain ⟨F, rfl, hFu⟩ := u32_nat hwx
          obtain ⟨X, rfl, hXu⟩ := u32_nat hwc
          have hsn : seenOf S F = some X := by
            have h1 := HLH.out _ hlk
            have h2 := HRD.out.1 F hFu
            have h3 := HRD.out.2.1 F hFu
            have h4 := hat (.lit (.int .u32 0))
            have h2' : has D (.int .u32 F) = (seenOf S F).isSome := h2
            rw [h1] at h2'
            obtain ⟨Y, hY⟩ := Option.isSome_iff_exists.1 h2'.symm
            have h3' : D.atKey (.int .u32 F) (.lit (.int .u32 0)) = .lit (.int .u32 (((seenOf S F).getD 0 : Nat) : Int)) := h3
            rw [h4, hY] at h3'
            simp only [DataW.lit.injEq, Lit.int.injEq, true_and, Option.getD_some] at h3'
            rw [hY]
            congr 1
            omega
          obtain ⟨hX1, hX2, hX3, hX4⟩ := seen_ok HWf.out hsn
          have hA6 := hA.same (w' := w6) (fun b hbq hlb => hg6.block b hlb (fun e => hbq.2 (by injection e)))
          have hb6 := hb.grown hg6 hb.size (fun k hk => by injection hk with hk; omega)
          have hB6 := bits_any g X S _ w6 hA6 hXu (by omega)
          rw [hX2] at hB6
          have HLH6 := Lib.hid (show ∀ l, (left l && !l.sameKey (.int .u32 F)) = true → has D l = true from fun l hl => HLH.out l (by simp at hl; exact hl.1))
          have hcnt : wr.rangeLeft B r = cnt := hrg.left_eq
          clear hA hb hrg hg6 HLH hlk hat hwx hwc hsn
          go_wp2_with fail
          refine hB6.mono ?_
          rintro e w7 ⟨rfl, hb⟩
          have hA7 := hA6.under hb
          have hrg7 := hrg6.kept (row := none) ⟨hb.os, hb.tape, hb.output, hb.size, fun k hk _ => hb.block k hk⟩ (by simp) (by simp)
          have hb7 := hb6.trans (hb.mono hb6.size)
          have hL7 := level_any g X S _ w7 hA7 hXu (by omega)
          rw [hX3] at hL7
          clear hA6 hb6 hrg6 hb hB6 hen
          go_wp2_with fail
          refine hL7.mono ?_
          rintro e w8 ⟨rfl, hb⟩
          have hA8 := hA7.under hb
          have hrg8 := hrg7.kept (row := none) ⟨hb.os, hb.tape, hb.output, hb.size, fun k hk _ => hb.block k hk⟩ (by simp) (by simp)
          have hb8 := hb7.trans (hb.mono hb7.size)
          have hC8 := count_any g X S _ w8 hA8 hXu (by omega)
          rw [hX4] at hC8
          clear hA7 hb7 hrg7 hb hL7
          go_wp2_with fail
          refine hC8.mono ?_
          rintro e w9 ⟨rfl, hb⟩
          have hA9 := hA8.under hb
          have hrg9 := hrg8.kept (row := none) ⟨hb.os, hb.tape, hb.output, hb.size, fun k hk _ => hb.block k hk⟩ (by simp) (by simp)
          have hb9 := hb8.trans (hb.mono hb8.size)
          have hpl := Si.pcn_le F 32
          have hcc := Si.count_any F hFu w9
          clear hA8 hb8 hrg8 hb hC8 hX2 hX3 hX4
          generalize Si.pcn F 32 = pc at *
          go_wp2_with fail
          refine hcc.mono ?_
          rintro e wA ⟨rfl, q, rfl⟩
          have hAA : ArAt (w9.drewN q) g S (fun b => g ≤ b ∧ b ≠ r) := hA9.under (below_dr q (Below.refl _ _))
          have hrgA := hrg9.kept (row := none) (w' := w9.drewN q) ⟨rfl, rfl, rfl, Nat.le_refl _, fun k hk _ => rfl⟩ (by simp) (by simp)
          have hbA := below_dr q hb9
          clear hA9 hrg9 hb9 hcc
          go_wp2_with fail
          exact ⟨⟨_, cnt6, hrgA, HLH6.out, hAA, hbA⟩, by rw [hcnt, hrgA.left_eq]; exact hlt6⟩
section arenaManyFrame
open Go.ChangeShapes Go.WideShapes Go.ChangeAt Go.RowKit
set_option maxRecDepth 100000 in
theorem arenaMany_lifted (os : Os) (started : os.Started) (H : Type) (enc : TypeId × Value → H) :
    ReturnsInHanded {} Try.checked os 3 .any (Rows.arenaManySpec.pre6 enc Try.prog Try.f3 Rows.arenaManyRow.domain false) (Rows.arenaManySpec.post enc Try.prog Try.f3 false true false false) := by
  refine returnsInHanded_of_change (C := Try.checked) own started (by kernel_rfl) Try.func3
    (ChangeSpec.witness6 (enc := enc) (C := Try.checked) false ⟨#[], #[.int .u32 0, .int .i64 0], []⟩ 8 (by kernel_rfl) (by kernel_rfl) (by kernel_rfl) (by kernel_rfl)) ?_
  intro W base args ds gs before hval0 hW hcnd _
  have hval : ∀ (j : Nat) t v, Try.f3.params[j]? = some t → args[j]? = some v → Value.okWide Try.prog W .any base t v := hval0
  have hW' := hW
  obtain ⟨p, q, hA0, hV, rfl, hfz, hnd⟩ := hW
  have hA : DataW.TrodAll enc Try.prog W 0 (fun _ => true) true Try.f3.params.toList args.toList ds p := hA0
  rw [Try.params3] at hA hval
  obtain ⟨v0, vs0, d0, ds0, p0, q0, hargs, rfl, rfl, h0, r0⟩ := trodAll_cons hA
  obtain ⟨v1, vs1, d1, ds1, p1, q1, rfl, rfl, rfl, h1, r1⟩ := trodAll_cons r0
  obtain ⟨rfl, rfl, rfl⟩ := trodAll_nil r1
  obtain rfl : args = #[v0, v1] := by cases args; simp_all
  obtain ⟨rfl, rfl⟩ := trodVars_none hV
  obtain ⟨seed, rfl, rfl, rfl, w_seed⟩ := open_int Try.underlying22 (hval 0 22 v0 rfl rfl) h0
  obtain ⟨n, rfl, rfl, rfl, w_n⟩ := open_int Try.underlying3 (hval 1 3 v1 rfl rfl) h1
  refine (arenaMany_walk seed w_seed n w_n W).mono fun e W' ⟨he, hb⟩ => ?_
  exact ⟨_, he, law_post laidOut rfl rfl Try.underlying4 (by kernel_rfl) hW' hb ⟨rfl, rfl, rfl⟩⟩
theorem arenaMany_said : Rows.ArenaManySaid :=
  OpenClaim.holds_of_wide 3 Try.f3 rfl rfl rfl rfl rfl rfl rfl ⟨rfl, rfl, rfl, rfl, rfl⟩ rfl rfl rfl rfl rfl (by kernel_rfl) Try.func3 (by kernel_rfl)
    (of_decide_eq_true (by kernel_rfl)) (by unfold Func.isWrapper; first | (rw [if_pos (by decide +kernel)]; kernel_rfl) | (rw [if_neg (by decide +kernel)]; exact ⟨rfl, rfl⟩))
    (fun os started H enc _ => arenaMany_lifted os started H enc)
end arenaManyFrame
end Go.Proofs.Ytlmkakgbpdbeiaa.Ar
namespace Go.Proofs.Ytlmkakgbpdbeiaa
theorem arenaMany_proved : Rows.ArenaManySaid := Ar.arenaMany_said
#print axioms arenaMany_proved
end Go.Proofs.Ytlmkakgbpdbeiaa
