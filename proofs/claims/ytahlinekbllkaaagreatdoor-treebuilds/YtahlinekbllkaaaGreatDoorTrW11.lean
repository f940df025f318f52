/- Contracts of package tree: what is a root, Get. -/
import Derived.Test.YtahlinekbllkaaaGreatDoorTrM4
import Derived.Test.YtahlinekbllkaaaGreatDoorTrW2
import Derived.Test.YtahlinekbllkaaaGreatDoorTrW9
import Derived.Test.YtahlinekbllkaaaGreatDoorArW1
import Derived.Test.YtahlinekbllkaaaGreatDoorSiW4
import Derived.Deep.RegionHeld3
import Derived.Deep.DeepCutAuto
import Derived.StillTailTactics
namespace Go.Proofs.YtahlinekbllkaaaGreatDoor.Tr
open Go.RowKit Go.Proofs.YtahlinekbllkaaaGreatDoor.Ba Go.Proofs.YtahlinekbllkaaaGreatDoor.Ar Go.Lib
open Go.Proofs.YtahlinekbllkaaaGreatDoor.Si (bitAt with_any)


theorem isroot_any (g i : Nat) (S : Sta) (P : Nat → Prop) (w : World) (h : ArAt w g S P) (hi : okU i) (hN : S.N.length ≤ 1000000) :
    Calls Tryz.prog 35 #[Pt g, .int .u32 i] w fun e w' => e = .returned (.bool (decide (3 ≤ levelOf S.N i))) ∧ Below w.heap.size w w' := by
  have hc := Ar.level_any g i S P w h hi hN
  clear h
  generalize levelOf S.N i = l at *
  go_enter Tryz.func35, Tryz.ntmps35
  go_wp2_with fail
  refine hc.mono ?_
  rintro e w' ⟨rfl, hb⟩
  go_wp2_with fail
  go_ret
  exact ⟨rfl, hb⟩
theorem ishalf_any (n : Int) (w : World) :
    Calls Tryz.prog 45 #[.int .i64 n] w fun e w' => e = .returned (.bool (decide (n = 0 ∨ n = 1))) ∧ w = w' := by
  by_cases h0 : n = 0
  · subst h0
    go_enter Tryz.func45, Tryz.ntmps45
    go_wp2
    go_ret
    exact ⟨rfl, rfl⟩
  · by_cases h1 : n = 1
    · subst h1
      go_enter Tryz.func45, Tryz.ntmps45
      go_wp2
      go_ret
      exact ⟨rfl, rfl⟩
    · have e : decide (n = 0 ∨ n = 1) = false := by simp; omega
      have e0 : (n == 0) = false := by simpa using h0
      have e1 : (n == 1) = false := by simpa using h1
      rw [e]
      clear e
      go_enter Tryz.func45, Tryz.ntmps45
      go_wp2
      go_ret
      exact ⟨rfl, rfl⟩
theorem kd_ix (k : K4) {q : Nat} (h : q < 4) (w : World) : (Instr.index 93 (KV k) (.int .i64 q)).run Tryz.prog w = .ok (.int .u32 (kd k q)) w := by
  rcases four h with rfl | rfl | rfl | rfl <;> kernel_rfl
abbrev CeV (c : C) : Value := .agg #[.int .i64 c.1, .int .i64 c.2.1, .int .i64 c.2.2]
/-- Does a cell live in a root? -/
def rootB (N : List Nd) (i : Nat) : Bool := decide (3 ≤ levelOf N i)
def halfB (c : C) : Bool := decide (c.2.2 = 0 ∨ c.2.2 = 1)
def inB (N : List Nd) (i : Nat) (c : C) : Bool := insB (levelOf N i) c.1 c.2.1
def getB (N : List Nd) (i : Nat) (c : C) : Bool := (rootB N i && (halfB c && inB N i c)) && decide (c ∈ cellsL N (levelOf N i - 2).toNat i (-hf (levelOf N i)) (-hf (levelOf N i)))
theorem ins_sq {d : Nat} {c : C} (_h1 : 1 ≤ d) (h2 : d ≤ 42) (h : insB ((d : Int) + 2) c.1 c.2.1 = true) (hh : c.2.2 = 0 ∨ c.2.2 = 1) : inSq d (-hf ((d : Int) + 2)) (-hf ((d : Int) + 2)) c := by
  have e := hf_sd d h2
  have hs : sd d = 2 * 2 ^ (d + 1) := by unfold sd; rw [show d + 2 = d + 1 + 1 by omega, Int.pow_succ]; omega
  unfold insB at h
  rw [decide_eq_true_eq] at h
  rw [← e] at hs
  unfold inSq
  rw [hs]
  exact ⟨by omega, by omega, hh⟩
theorem hf_mod {d : Nat} (h1 : 1 ≤ d) (h2 : d ≤ 42) : -hf ((d : Int) + 2) % 4 = 0 ∧ -hf ((d : Int) + 2) % 4 = 0 := by
  have hm : (hf ((d : Int) + 2)) % 4 = 0 := by
    obtain ⟨m, rfl⟩ : ∃ m, d = m + 1 := ⟨d - 1, by omega⟩
    rw [hf_sd _ h2, show m + 1 + 1 = m + 2 by omega]
    exact sd_four m
  omega
def lvAt (B : Nat) (wr : World) : Nat := match wr.cell? ⟨B, 2, none⟩ with | some v => (intOf v).toNat | none => 0
theorem lvAt_is {wr : World} {B e : Nat} {x y : Int} (k : Blk wr B 81 #[.int .i64 x, .int .i64 y, .int .i64 ((e : Int) + 2)]) : lvAt B wr = e + 2 := by
  unfold lvAt
  rw [k.cell 2]
  show (intOf (.int .i64 ((e : Int) + 2))).toNat = e + 2
  simp [intOf]; omega
theorem sq_set {w : World} {B : Nat} {x y l : Int} (k : Blk w B 81 #[.int .i64 x, .int .i64 y, .int .i64 l]) (a b m : Int) :
    Blk (((w.setCell ⟨B, 0, none⟩ (.int .i64 a)).setCell ⟨B, 1, none⟩ (.int .i64 b)).setCell ⟨B, 2, none⟩ (.int .i64 m)) B 81 #[.int .i64 a, .int .i64 b, .int .i64 m] :=
  ((k.set_ 0 (.int .i64 a)).set_ 1 (.int .i64 b)).set_ 2 (.int .i64 m)
theorem sq_below {w0 w : World} {B : Nat} (h : Below w0.heap.size w0 w) (hB : w0.heap.size ≤ B) (a b m : Value) :
    Below w0.heap.size w0 (((w.setCell ⟨B, 0, none⟩ a).setCell ⟨B, 1, none⟩ b).setCell ⟨B, 2, none⟩ m) := by go_grown
def GtR (w : World) (B d i : Nat) (X : Int) (N : List Nd) (c : C) (t7 : Value) (wr : World) : Prop :=
  ∃ (e j : Nat) (x y : Int), t7 = .int .u32 j ∧ lvOk N e j ∧ inSq e x y c ∧ SqOk e x y ∧ (x % 4 = 0 ∧ y % 4 = 0) ∧ (c ∈ cellsL N d i X X ↔ c ∈ cellsL N e j x y) ∧ Blk wr w.heap.size 53 #[.int .i64 c.1, .int .i64 c.2.1, .int .i64 c.2.2] ∧ Blk wr B 81 #[.int .i64 x, .int .i64 y, .int .i64 ((e : Int) + 2)] ∧ Below w.heap.size w wr
set_option maxRecDepth 100000 in
set_option maxHeartbeats 1000000 in
theorem get_yes (g i d : Nat) (c : C) (S : Sta) (P : Nat → Prop) (w : World) (h : ArAt w g S P) (hN : S.N.length ≤ 1000000) (T : Tw S) (hv : lvOk S.N d i) (hd1 : 1 ≤ d) (hd2 : d ≤ 42) (hhf : c.2.2 = 0 ∨ c.2.2 = 1) (hins : insB ((d : Int) + 2) c.1 c.2.1 = true) :
    Calls Tryz.prog 18 #[Pt g, .int .u32 i, CeV c] w fun e w' => e = .returned (.bool (decide (c ∈ cellsL S.N d i (-hf ((d : Int) + 2)) (-hf ((d : Int) + 2))))) ∧ Below w.heap.size w w' := by
  have hi : okU i := by have := lv_le hv; show _ < _; omega
  have hlv : levelOf S.N i = (d : Int) + 2 := hv
  have hr := fun W hW => isroot_any g i S P W hW hi hN
  have hl := fun W hW => Ar.level_any g i S P W hW hi hN
  rw [hlv] at hr hl
  rw [show decide (3 ≤ (d : Int) + 2) = true by simp; omega] at hr
  have hh := fun W => ishalf_any c.2.2 W
  rw [show decide (c.2.2 = 0 ∨ c.2.2 = 1) = true by simpa using hhf] at hh
  have hin := fun W => inside_any ((d : Int) + 2) c.1 c.2.1 W
  rw [hins] at hin
  have hwh := fun W => whole_any ((d : Int) + 2) W
  have kc := Blk.newAt w 53 #[.int .i64 c.1, .int .i64 c.2.1, .int .i64 c.2.2] _ rfl
  have hbw : Below w.heap.size w (w.alloc (.cells #[.int .i64 c.1, .int .i64 c.2.1, .int .i64 c.2.2] 53)) := by go_grown
  have hA := h.under hbw
  have HB := Lib.hid hbw
  have HT := Lib.hid T
  have HA0 := Lib.hid h
  have HV := Lib.hid hv
  have HIns := Lib.hid hins
  have HHf := Lib.hid hhf
  clear h T hlv hbw hv hins hhf
  dsimp only [CeV]
  obtain ⟨c0, c1, c2⟩ := Go.Proofs.YtahlinekbllkaaaGreatDoor.Se.keepB kc (Below.refl _ _)
  have hcl := kc.lt
  go_enter Tryz.func18, Tryz.ntmps18
  go_wp2_with fail
  generalize w.alloc (.cells #[.int .i64 c.1, .int .i64 c.2.1, .int .i64 c.2.2] 53) = W at *
  have hkb : Below W.heap.size W W := Below.refl _ _
  go_cut [6, 29] (fun t6 t29 wx => t6 = .bool false ∧ t29 = .bool false ∧ Below W.heap.size W wx)
  case first =>
    go_region_held3 (fun w' => w'.cell? ⟨w.heap.size, 0, none⟩ = some (.int .i64 c.1) ∧ w'.cell? ⟨w.heap.size, 1, none⟩ = some (.int .i64 c.2.1) ∧ w'.cell? ⟨w.heap.size, 2, none⟩ = some (.int .i64 c.2.2)) (first | (refine Go.Proofs.YtahlinekbllkaaaGreatDoor.Se.keepB kc ?_; go_grown; done)) ((first | (go_at_call 35; refine (hr _ (hA.under (by go_grown))).mono ?_; rintro e w5 ⟨rfl, hb5⟩; have hkb : Below W.heap.size W w5 := Ba.below_call hb5 (by go_grown) (by first | exact hkb.size | go_size); clear hb5) | (go_at_call 15; refine (hl _ (hA.under (by go_grown))).mono ?_; rintro e w5 ⟨rfl, hb5⟩; have hkb : Below W.heap.size W w5 := Ba.below_call hb5 (by go_grown) (by first | exact hkb.size | go_size); clear hb5) | (go_at_call 45; refine (hh _).mono ?_; rintro e w5 ⟨rfl, rfl⟩) | (go_at_call 46; refine (hin _).mono ?_; rintro e w5 ⟨rfl, hb5⟩; have hkb : Below W.heap.size W w5 := Ba.below_call hb5 (by go_grown) (by first | exact hkb.size | go_size); clear hb5)))
    all_goals go_wp2_with fail
    all_goals go_meet
    all_goals exact ⟨rfl, rfl, by go_grown⟩
  case rest =>
    obtain ⟨rfl, rfl, hbc⟩ := hcut
    have HB1 := Lib.hid (HB.out.trans (hbc.mono HB.out.size))
    have kc1 := kc.under hbc
    have hA1 := hA.under hbc
    clear hbc hkb kc hA c0 c1 c2 hcl hr hh hin
    go_wp2_with fail
    refine (hl _ hA1).mono ?_
    rintro e w2 ⟨rfl, hb2⟩
    have HB2 := Lib.hid (HB1.out.trans (hb2.mono HB1.out.size))
    have kc2 := kc1.under hb2
    have hA2 := hA1.under hb2
    clear hb2 kc1 hA1 hl
    go_wp2_with fail
    refine (hwh _).mono ?_
    rintro e w3 ⟨rfl, hg3⟩
    have HB3 := Lib.hid (HB2.out.trans (hg3.below.mono HB2.out.size))
    have kc3 := kc2.under hg3.below
    have hA3 := hA2.under hg3.below
    have kS := Blk.newAt w3 81 #[.int .i64 (-hf ((d : Int) + 2)), .int .i64 (-hf ((d : Int) + 2)), .int .i64 ((d : Int) + 2)] _ rfl
    have hb4 := HB3.out.alloc HB3.out.size (.cells #[.int .i64 (-hf ((d : Int) + 2)), .int .i64 (-hf ((d : Int) + 2)), .int .i64 ((d : Int) + 2)] 81)
    have hA4 := hA3.under (w' := w3.alloc (.cells #[.int .i64 (-hf ((d : Int) + 2)), .int .i64 (-hf ((d : Int) + 2)), .int .i64 ((d : Int) + 2)] 81)) (by go_grown)
    have kc4 := kc3.alloc (.cells #[.int .i64 (-hf ((d : Int) + 2)), .int .i64 (-hf ((d : Int) + 2)), .int .i64 ((d : Int) + 2)] 81)
    have hlt3 : w.heap.size < w3.heap.size := kc3.lt
    have HHh := Lib.hid (rfl : -hf ((d : Int) + 2) = -hf ((d : Int) + 2))
    clear hg3 kc2 hA2 hwh kc3 hA3
    go_wp2_with fail
    go_loopw [7] (fun t7 wr => GtR w w3.heap.size d i (-hf ((d : Int) + 2)) S.N c t7 wr) (fun _ wr => lvAt w3.heap.size wr)
    case atStart =>
      exact ⟨d, i, _, _, rfl, HV.out, ins_sq hd1 hd2 HIns.out HHf.out, SqOk.whole hd2 hd1, hf_mod hd1 hd2, Iff.rfl, kc4, kS, hb4⟩
    case round =>
      clear hA4 kc4 kS hb4
      obtain ⟨e, j, x, y, rfl, hv, hs, hsq, hm, hiff, kc, kS, hb⟩ := hrel
      have hA := HA0.out.under hb
      have HIff := Lib.hid hiff
      have HS := Lib.hid hs
      have HQ := Lib.hid hsq
      have HM := Lib.hid hm
      have HVj := Lib.hid hv
      have hj : okU j := by have := lv_le hv; show _ < _; omega
      have hlv0 := lvAt_is kS
      have hsl := kS.lt
      obtain ⟨c0, c1, c2⟩ := Go.Proofs.YtahlinekbllkaaaGreatDoor.Se.keepB kc (Below.refl _ _)
      have hcl := kc.lt
      clear hiff hs hsq hm hv
      rcases e with _ | e
      · obtain ⟨s0, s1, s2⟩ := Go.Proofs.YtahlinekbllkaaaGreatDoor.Se.keepB kS (Below.refl _ _)
        have hbt := fun W hW => Ar.bits_any g j S P W hW hj hN
        have hins := HIns.out
        unfold insB at hins
        rw [decide_eq_true_eq] at hins
        have hfb := hf_bd ((d : Int) + 2)
        have hff := leaf_bits HT.out HVj.out
        rw [p32] at hff
        have hwi := fun W => with_any (ndAt S.N j).1.bits c true hff (by omega) (by omega) HHf.out W
        rw [if_pos rfl] at hwi
        have hor := or_same (ndAt S.N j).1.bits (bitAt c)
        have HL := Lib.hid (show (c ∈ cellsL S.N d i (-hf ((d : Int) + 2)) (-hf ((d : Int) + 2))) ↔ (ndAt S.N j).1.bits.testBit (bitAt c) = true from HIff.out.trans (leaf_mem HM.out.1 HM.out.2 HS.out _))
        clear hins hfb hff
        generalize (ndAt S.N j).1.bits ||| 2 ^ bitAt c = m at *
        generalize (ndAt S.N j).1.bits.testBit (bitAt c) = tb at *
        generalize (ndAt S.N j).1.bits = f at *
        go_wp2_with fail
        refine (hbt _ hA).mono ?_
        rintro e w6 ⟨rfl, hb6⟩
        have HB6 := Lib.hid (hb.trans (hb6.mono hb.size))
        obtain ⟨c0', c1', c2'⟩ := Go.Proofs.YtahlinekbllkaaaGreatDoor.Se.keepB kc hb6
        have hcl6 := (kc.under hb6).lt
        clear hb6 hbt c0 c1 c2 s0 s1 s2 hcl
        go_wp2_with fail
        refine (hwi _).mono ?_
        rintro e w7 ⟨rfl, hb7⟩
        have HB7 := Lib.hid (HB6.out.trans (hb7.mono HB6.out.size))
        clear hb7 hwi
        go_wp2_with fail
        go_ret
        have e2 : decide (c ∈ cellsL S.N d i (-hf ((d : Int) + 2)) (-hf ((d : Int) + 2))) = tb := by rw [Bool.eq_iff_iff, decide_eq_true_eq]; exact HL.out
        exact ⟨by rw [e2]; rfl, HB7.out⟩
      · have kS' : Blk wr w3.heap.size 81 #[.int .i64 x, .int .i64 y, .int .i64 ((e : Int) + 3)] := by
          have := kS
          rwa [show ((e + 1 : Nat) : Int) + 2 = (e : Int) + 3 by omega] at this
        obtain ⟨s0, s1, s2⟩ := Go.Proofs.YtahlinekbllkaaaGreatDoor.Se.keepB kS' (Below.refl _ _)
        have htw := fun W => toward_any e x y c.1 c.2.1 W HQ.out
        have hq := twd_lt e x y (c.1, c.2.1)
        have hki := fun q hq W => kid_any e q x y W HQ.out hq
        have hkd := fun W hW => Ar.kids_any g j S P W hW hj hN
        have HN1 := Lib.hid (tw_sq HS.out)
        have hk := (HQ.out.lv)
        clear hk kS
        generalize twd e x y (c.1, c.2.1) = q at *
        have hkq := fun W => hki q hq W
        have hix := fun W => kd_ix (ndAt S.N j).1.k hq W
        have hd1' : decide ((2 : Int) < (e : Int) + 3) = true := by simp; omega
        clear hki
        go_wp2_with fail
        refine (htw _).mono ?_
        rintro e w6 ⟨rfl, hg6⟩
        have HB6 := Lib.hid (hb.trans (hg6.below.mono hb.size))
        have kc6 := kc.under hg6.below
        have kS6 := kS'.under hg6.below
        have hA6 := hA.under hg6.below
        clear hg6 htw c0 c1 c2 s0 s1 s2 hcl hsl kc kS' hA
        have hb6 := HB6.out
        have hsz6 := hb6.size
        clear hb
        generalize w6 = W at *
        obtain ⟨s0, s1, s2⟩ := Go.Proofs.YtahlinekbllkaaaGreatDoor.Se.keepB kS6 (Below.refl _ _)
        have hsl6 := kS6.lt
        have hq0 : (0 : Int) ≤ (q : Int) := by omega
        have hq4 : (q : Int) < 4 := by omega
        go_upto_region 6 with fail
        have hkb : Below W.heap.size W W := Below.refl _ _
        go_region_with (first
          | (go_at_call 48; refine (hkd _ (hA6.under (by go_grown))).mono ?_; rintro e w5 ⟨rfl, hb5⟩; have hkb : Below W.heap.size W w5 := Ba.below_call hb5 (by go_grown) (by first | exact hkb.size | go_size); clear hb5; have k5 := kS6.under hkb; have l5 := k5.lt; obtain ⟨s0', s1', s2'⟩ := Go.Proofs.YtahlinekbllkaaaGreatDoor.Se.keepB k5 (Below.refl _ _); have f0 := k5.frozen 0; have f1 := k5.frozen 1; have f2 := k5.frozen 2)
          | (go_at_call 49; refine (hkq _).mono ?_; rintro e w5 ⟨rfl, hg5⟩; have hkb : Below W.heap.size W w5 := Ba.below_call hg5.below (by go_grown) (by first | exact hkb.size | go_size); clear hg5; have k5 := kS6.under hkb; have l5 := k5.lt; obtain ⟨s0', s1', s2'⟩ := Go.Proofs.YtahlinekbllkaaaGreatDoor.Se.keepB k5 (Below.refl _ _); have f0 := k5.frozen 0; have f1 := k5.frozen 1; have f2 := k5.frozen 2))
        all_goals
          have kZ := sq_set k5 (px e x q) (py e y q) ((e : Int) + 2)
          have hcb : w.heap.size ≠ w3.heap.size := by omega
          have kcZ := (((kc6.under hkb).far (p := ⟨w3.heap.size, 0, none⟩) hcb (.int .i64 (px e x q))).far (p := ⟨w3.heap.size, 1, none⟩) hcb (.int .i64 (py e y q))).far (p := ⟨w3.heap.size, 2, none⟩) hcb (.int .i64 ((e : Int) + 2))
          have hbZ := sq_below (HB6.out.trans (hkb.mono HB6.out.size)) (B := w3.heap.size) (by omega) (.int .i64 (px e x q)) (.int .i64 (py e y q)) (.int .i64 ((e : Int) + 2))
          clear s0 s1 s2 f0 f1 f2 s0' s1' s2' hkd hkq hix
          go_roundw
          case rel => exact ⟨_, _, _, _, _, _, _, _, _, _, _, _, _, _, _, _, _, ⟨e, kd (ndAt S.N j).1.k q, px e x q, py e y q, rfl, kid_ok HT.out HVj.out hq, HN1.out, HQ.out.kid hq, kid_mod HM.out.1 HM.out.2 hq, HIff.out.trans (cells_kid hq HN1.out), kcZ, kZ, hbZ⟩, rfl⟩
          case measure => rw [hlv0]; exact Nat.lt_of_le_of_lt (Nat.le_of_eq (lvAt_is kZ)) (by omega)
end Go.Proofs.YtahlinekbllkaaaGreatDoor.Tr
