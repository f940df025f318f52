/- FlatOne: any table that may be, any set near the origin, any cell near them: it lives in the next generation as the table says of its neighbourhood. No conditions. -/
import Derived.Test.YtggpleppoplkcaaDoorFlOm
import Derived.Test.YtggpleppoplkcaaDoorTbW8
import Derived.Test.YtggpleppoplkcaaDoorSeW5
import Derived.Test.YtggpleppoplkcaaDoorAxR
import Derived.Deep.RegionHeld3
import Derived.Deep.DeepCutAuto
namespace Go.Proofs.YtggpleppoplkcaaDoor.Fl
open Go.RowKit Go.Proofs.YtggpleppoplkcaaDoor.Ax Go.Lib
open Go.Proofs.YtggpleppoplkcaaDoor.Ba (Blk)
open Go.Proofs.YtggpleppoplkcaaDoor.Ce (sh allG besAll sX sY someH refbeside_any rb rb_all)
open Go.Proofs.YtggpleppoplkcaaDoor.Se (SetAt RawAt Rising ofL rising_ofL few_new has_any open_cells)
open Go.Proofs.YtggpleppoplkcaaDoor.Tb (Tab wrongT some_fine open_raw nextB refnext_any)

theorem idx_0 (w : World) : (Instr.index 64 (.agg sixCells) (.int .i64 0)).run Tryd.prog w = .ok (Pt (1) (0)) w := by kernel_rfl
theorem idx_1 (w : World) : (Instr.index 64 (.agg sixCells) (.int .i64 1)).run Tryd.prog w = .ok (Pt (0) (1)) w := by kernel_rfl
theorem idx_2 (w : World) : (Instr.index 64 (.agg sixCells) (.int .i64 2)).run Tryd.prog w = .ok (Pt (-1) (1)) w := by kernel_rfl
theorem idx_3 (w : World) : (Instr.index 64 (.agg sixCells) (.int .i64 3)).run Tryd.prog w = .ok (Pt (-1) (0)) w := by kernel_rfl
theorem idx_4 (w : World) : (Instr.index 64 (.agg sixCells) (.int .i64 4)).run Tryd.prog w = .ok (Pt (0) (-1)) w := by kernel_rfl
theorem idx_5 (w : World) : (Instr.index 64 (.agg sixCells) (.int .i64 5)).run Tryd.prog w = .ok (Pt (1) (-1)) w := by kernel_rfl
theorem six_idx (i : Nat) (hi : i < 6) (w : World) : (Instr.index 64 (.agg sixCells) (.int .i64 i)).run Tryd.prog w = .ok (Pt (sX i) (sY i)) w := by
  have : i = 0 ∨ i = 1 ∨ i = 2 ∨ i = 3 ∨ i = 4 ∨ i = 5 := by omega
  rcases this with rfl | rfl | rfl | rfl | rfl | rfl
  · exact idx_0 w
  · exact idx_1 w
  · exact idx_2 w
  · exact idx_3 w
  · exact idx_4 w
  · exact idx_5 w
theorem keep58 {W w' : World} {Z P : Nat} {l a b h : Int} {b0 b1 s0 s1 : Nat} (kz : Ba.Blk W Z 30 (TabC l b0 b1 s0 s1)) (kp : Ba.Blk W P 57 #[.int .i64 a, .int .i64 b, .int .i64 h]) (hb : Below W.heap.size W w') :
    (w'.cell? ⟨Z, 0, none⟩ = some (.int .i64 l) ∧ w'.cell? ⟨Z, 1, none⟩ = some (.int .u64 b0) ∧ w'.cell? ⟨Z, 2, none⟩ = some (.int .u64 b1) ∧ w'.cell? ⟨Z, 3, none⟩ = some (.int .u64 s0) ∧ w'.cell? ⟨Z, 4, none⟩ = some (.int .u64 s1)) ∧ w'.cell? ⟨P, 0, none⟩ = some (.int .i64 a) ∧ w'.cell? ⟨P, 1, none⟩ = some (.int .i64 b) ∧ w'.cell? ⟨P, 2, none⟩ = some (.int .i64 h) :=
  ⟨keepT5 kz hb, (kp.under hb).cell 0, (kp.under hb).cell 1, (kp.under hb).cell 2⟩
theorem six_bd (i : Nat) : (-1 ≤ sX i ∧ sX i ≤ 1) ∧ (-1 ≤ sY i ∧ sY i ≤ 1) := by
  unfold sX sY
  split <;> decide
def HxR (w : World) (S : List C) (a b : Int) (t13 t62 : Value) (wr : World) : Prop := ∃ i : Nat, i ≤ 6 ∧ t62 = .int .i64 i ∧ t13 = .int .i64 (hexN S a b i) ∧ Below w.heap.size w wr
def TrR (w : World) (S L : List C) (t13 t87 : Value) (wr : World) : Prop := ∃ i : Nat, i ≤ L.length ∧ t87 = .int .i64 i ∧ t13 = .int .i64 (triN S L i) ∧ Below w.heap.size w wr
set_option maxRecDepth 100000 in
set_option maxHeartbeats 8000000 in
theorem flatOne_walk (xL : Int) (_w0 : (Lit.int .i64 xL).wf = true) (xB0 : Int) (w1 : (Lit.int .u64 xB0).wf = true) (xB1 : Int) (w2 : (Lit.int .u64 xB1).wf = true) (xS0 : Int) (w3 : (Lit.int .u64 xS0).wf = true) (xS1 : Int) (w4 : (Lit.int .u64 xS1).wf = true)
    (v : Value) (L : List C) (pA : Int) (_wA : (Lit.int .i64 pA).wf = true) (pB : Int) (_wB : (Lit.int .i64 pB).wf = true) (pH : Int) (_wH : (Lit.int .i64 pH).wf = true) (w : World) (hs : SixIs w) (h : RawAt w v L) (hL : L.length ≤ maxLen) :
    Calls Tryd.prog 6 #[.agg #[.int .i64 xL, .int .u64 xB0, .int .u64 xB1, .int .u64 xS0, .int .u64 xS1], v, .agg #[.int .i64 pA, .int .i64 pB, .int .i64 pH]] w fun e w' => e = .returned (.bool true) ∧ Below w.heap.size w w' := by
  have g1 := bounds_u64 w1
  have g2 := bounds_u64 w2
  have g3 := bounds_u64 w3
  have g4 := bounds_u64 w4
  obtain ⟨a0, rfl⟩ : ∃ k : Nat, xB0 = k := ⟨xB0.toNat, by omega⟩
  obtain ⟨a1, rfl⟩ : ∃ k : Nat, xB1 = k := ⟨xB1.toNat, by omega⟩
  obtain ⟨a2, rfl⟩ : ∃ k : Nat, xS0 = k := ⟨xS0.toNat, by omega⟩
  obtain ⟨a3, rfl⟩ : ∃ k : Nat, xS1 = k := ⟨xS1.toNat, by omega⟩
  have hso := some_fine xL a0 a1 a2 a3 (by omega) (by omega) (by omega) (by omega)
  clear g1 g2 g3 g4 w1 w2 w3 w4 _w0 _wA _wB _wH
  have kx := (Blk.newAt w 25 #[.int .i64 xL, .int .u64 a0, .int .u64 a1, .int .u64 a2, .int .u64 a3] _ rfl).alloc (.cells #[.int .i64 pA, .int .i64 pB, .int .i64 pH] 57)
  have kp := Blk.newAt (w.alloc (.cells #[.int .i64 xL, .int .u64 a0, .int .u64 a1, .int .u64 a2, .int .u64 a3] 25)) 57 #[.int .i64 pA, .int .i64 pB, .int .i64 pH] (w.heap.size + 1) (by simp)
  have hb0 : Below w.heap.size w ((w.alloc (.cells #[.int .i64 xL, .int .u64 a0, .int .u64 a1, .int .u64 a2, .int .u64 a3] 25)).alloc (.cells #[.int .i64 pA, .int .i64 pB, .int .i64 pH] 57)) := ((Below.refl _ _).alloc (Nat.le_refl _) _).alloc (by simp) _
  have hs0 := hs.below hb0
  have h0 := h.below hb0
  have HS := Lib.hid hs
  have hlt : w.heap.size ≤ w.heap.size + 1 := by omega
  clear hs h
  go_enter Tryd.func6, Tryd.ntmps6
  go_wp2_with fail
  refine (awake8_any _ hs0).mono ?_
  rintro e w1 ⟨rfl, hb1⟩
  have hb2 := hb0.trans (hb1.mono hb0.size)
  have hs1 := hs0.below hb1
  have h1 := h0.below hb1
  have kx1 := kx.under hb1
  have kp1 := kp.under hb1
  clear kx kp hb0 hs0 h0 hb1
  obtain ⟨x0, x1, x2, x3, x4⟩ : w1.cell? ⟨w.heap.size, 0, none⟩ = some (.int .i64 xL) ∧ w1.cell? ⟨w.heap.size, 1, none⟩ = some (.int .u64 a0) ∧ w1.cell? ⟨w.heap.size, 2, none⟩ = some (.int .u64 a1) ∧ w1.cell? ⟨w.heap.size, 3, none⟩ = some (.int .u64 a2) ∧ w1.cell? ⟨w.heap.size, 4, none⟩ = some (.int .u64 a3) := ⟨kx1.cell 0, kx1.cell 1, kx1.cell 2, kx1.cell 3, kx1.cell 4⟩
  have hxl := kx1.lt
  go_wp2_with fail
  refine (hso _).mono ?_
  rintro e w2 ⟨l, b0, b1, s0, s1, hl, hB0, hB1, hS0, hS1, hok, rfl, hb3⟩
  have hg : Good l b0 b1 s0 s1 := ⟨hl, hB0, hB1, hS0, hS1, hok⟩
  have hb4 := hb2.trans (hb3.mono hb2.size)
  have hs2 := hs1.below hb3
  have h2 := h1.below hb3
  have kp2 := kp1.under hb3
  have HT := Lib.hid kp2.lt
  clear hso kx1 kp1 hb2 hs1 h1 hb3 x0 x1 x2 x3 x4 hxl hl hB0 hB1 hS0 hS1 hok
  have kt := Blk.newAt w2 30 (TabC l b0 b1 s0 s1) _ rfl
  have hbt : Below w2.heap.size w2 (w2.alloc (.cells (TabC l b0 b1 s0 s1) 30)) := (Below.refl _ _).alloc (Nat.le_refl _) _
  have hb5 := hb4.trans (hbt.mono hb4.size)
  have hfe := few_new l v L _ (h2.below hbt) hL
  have hs3 := hs2.below hbt
  have kp3 := kp2.under hbt
  clear hb4 hs2 h2 hbt hL kp2 hs3
  go_wp2_with fail
  refine hfe.mono ?_
  rintro e w3 ⟨vS, rfl, hS, hfr, hb6⟩
  have hb7 := hb5.trans (hb6.mono hb5.size)
  have kt4 := kt.under hb6
  have kp4 := kp3.under hb6
  clear hfe kt hb5 hb6 kp3
  change SetAt w3 vS (fewS l L) at hS
  have hSg := fewS_good l L
  have hSi : ∀ c ∈ fewS l L, (-6 ≤ c.1 ∧ c.1 ≤ 6) ∧ (-6 ≤ c.2.1 ∧ c.2.1 ≤ 6) := fun c hc => (fewS_in hc).2
  have hSl := fewS_len l L
  replace hfr : ∀ b, vS.ownBlock = some b → w2.heap.size ≤ b := fun b hb => by have := hfr b hb; simp at this; omega
  generalize fewS l L = S at *
  generalize w2.heap.size = T at *
  have ha := tmod_bd pA 8 (by decide)
  have hb := tmod_bd pB 8 (by decide)
  have p0 := kp4.cell 0
  have p1 := kp4.cell 1
  have p2 := kp4.cell 2
  simp only [List.getElem?_toArray, List.getElem?_cons_zero, List.getElem?_cons_succ] at p0 p1 p2
  have hpl := kp4.lt
  obtain ⟨t0, t1, t2, t3, t4⟩ := keepT5 kt4 (Below.refl _ _)
  have hTl := kt4.lt
  have hsm := fun W => Go.Proofs.YtggpleppoplkcaaDoor.Ce.some_any l (pA.tmod 8) (pB.tmod 8) pH W
  go_wp2_with fail
  refine (hsm _).mono ?_
  rintro e w4 ⟨rfl, hb8⟩
  have hcA := tmod_bd (pA.tmod 8) 100 (by decide)
  have hcB := tmod_bd (pB.tmod 8) 100 (by decide)
  have hcH := Go.Proofs.YtggpleppoplkcaaDoor.Ce.someH_bd l pH
  clear ha hb hsm p0 p1 p2 hpl t0 t1 t2 t3 t4 hTl
  generalize (pA.tmod 8).tmod 100 = ca at *
  generalize (pB.tmod 8).tmod 100 = cb at *
  generalize someH l pH = ch at *
  have hva : valid l (ca, cb, ch) := ⟨hcH.1, by have := hcH.2; unfold Go.Proofs.YtggpleppoplkcaaDoor.Ce.halvesV at this; exact this⟩
  have kp5 := kp4.under hb8
  have kt5 := kt4.under hb8
  have hS5 := hS.below hb8
  have hb9 := hb7.trans (hb8.mono hb7.size)
  have htl := fun W => Go.Proofs.YtggpleppoplkcaaDoor.Ce.told_any ca cb ch W
  clear kp4 kt4 hS hb7 hb8
  go_wp2_with fail
  refine (htl _).mono ?_
  rintro e w5 ⟨rfl, hb10⟩
  have kp6 := kp5.under hb10
  have kt6 := kt5.under hb10
  have hS6 := hS5.below hb10
  have hb11 := hb9.trans (hb10.mono hb9.size)
  clear kp5 kt5 hS5 hb9 hb10 htl
  have f0 := kp6.frozen 0
  have f1 := kp6.frozen 1
  have f2 := kp6.frozen 2
  have p0 := kp6.cell 0
  have p1 := kp6.cell 1
  have p2 := kp6.cell 2
  simp only [List.getElem?_toArray, List.getElem?_cons_zero, List.getElem?_cons_succ] at p0 p1 p2
  have hpl := kp6.lt
  go_upto_region 6 with fail
  have hpB := ((kp6.set_ 0 (.int .i64 ca)).set_ 1 (.int .i64 cb)).set_ 2 (.int .i64 ch)
  have hTB := ((kt6.far (p := ⟨w.heap.size + 1, 0, none⟩) (by have := HT.out; dsimp only; omega) (.int .i64 ca)).far (p := ⟨w.heap.size + 1, 1, none⟩) (by have := HT.out; dsimp only; omega) (.int .i64 cb)).far (p := ⟨w.heap.size + 1, 2, none⟩) (by have := HT.out; dsimp only; omega) (.int .i64 ch)
  have hSB : SetAt (((w5.setCell ⟨w.heap.size + 1, 0, none⟩ (.int .i64 ca)).setCell ⟨w.heap.size + 1, 1, none⟩ (.int .i64 cb)).setCell ⟨w.heap.size + 1, 2, none⟩ (.int .i64 ch)) vS S := set_box hS6 hfr HT.out
  have hbB : Below w.heap.size w (((w5.setCell ⟨w.heap.size + 1, 0, none⟩ (.int .i64 ca)).setCell ⟨w.heap.size + 1, 1, none⟩ (.int .i64 cb)).setCell ⟨w.heap.size + 1, 2, none⟩ (.int .i64 ch)) := by go_grown
  simp only [List.setIfInBounds_toArray, List.set_cons_zero, List.set_cons_succ] at hpB
  clear hS6 kp6 kt6 hb11 p0 p1 p2 f0 f1 f2 hpl hfr
  generalize (((w5.setCell ⟨w.heap.size + 1, 0, none⟩ (.int .i64 ca)).setCell ⟨w.heap.size + 1, 1, none⟩ (.int .i64 cb)).setCell ⟨w.heap.size + 1, 2, none⟩ (.int .i64 ch)) = w6 at *
  generalize w.heap.size + 1 = P at *
  clear HT
  have hbe := fun W => refbeside_any l ca cb ch W hg.latI (goodB_iff.2 (by omega))
  have hrb : rb l ca cb ch 50 = besC l (ca, cb, ch) := rb_all hg.latI hcH.1 hcH.2
  unfold Go.Proofs.YtggpleppoplkcaaDoor.Ce.RBesPost at hbe
  rw [hrb, all_good hg.latI hva (by dsimp only; omega) (by dsimp only; omega)] at hbe
  clear hrb
  obtain ⟨t0, t1, t2, t3, t4⟩ := keepT5 hTB (Below.refl _ _)
  have hTl := hTB.lt
  have p0 := hpB.cell 0
  have p1 := hpB.cell 1
  have p2 := hpB.cell 2
  simp only [List.getElem?_toArray, List.getElem?_cons_zero, List.getElem?_cons_succ] at p0 p1 p2
  have hpl := hpB.lt
  go_wp2_with fail
  refine (hbe _).mono ?_
  rintro e w7 ⟨vL, rfl, hown, hb12⟩
  have hLL : SetAt w7 vL (besC l (ca, cb, ch)) := Go.Proofs.YtggpleppoplkcaaDoor.Se.set_own (by exact hown)
  have kp7 := hpB.under hb12
  have kt7 := hTB.under hb12
  have hS7 := hSB.below hb12
  have hb13 := hbB.trans (hb12.mono hbB.size)
  clear hbe hown hb12 hpB hTB hSB hbB t0 t1 t2 t3 t4 hTl p0 p1 p2 hpl
  have hst := fun W hq hW => step_any l b0 b1 s0 s1 hg vS S W hq hW hSg
  obtain ⟨t0, t1, t2, t3, t4⟩ := keepT5 kt7 (Below.refl _ _)
  have hTl := kt7.lt
  go_wp2_with fail
  refine (hst _ (HS.out.below hb13) hS7).mono ?_
  rintro e w8 ⟨vR, R, rfl, hR, hstp, hRl, hb14⟩
  have kp8 := kp7.under hb14
  have kt8 := kt7.under hb14
  have hS8 := hS7.below hb14
  have hL8 := hLL.below hb14
  have hb15 := hb13.trans (hb14.mono hb13.size)
  clear hst kp7 kt7 hS7 hLL hb13 hb14 t0 t1 t2 t3 t4 hTl
  have hfin := Lib.hid (step_has hg.latI hstp hva)
  have hN := Lib.hid (nb_lt hg.latI S hva)
  have hRr := hstp.1
  clear hstp
  obtain ⟨t0, t1, t2, t3, t4⟩ := keepT5 kt8 (Below.refl _ _)
  have hTl := kt8.lt
  by_cases hl1 : l = 1
  · subst hl1
    obtain rfl : ch = 0 := by have := hcH.2; unfold Go.Proofs.YtggpleppoplkcaaDoor.Ce.halvesV at this; simp at this; omega
    go_wp2_with fail
    refine (six_any _ (HS.out.below hb15)).mono ?_
    rintro e w9 ⟨rfl, hb16⟩
    have kp9 := kp8.under hb16
    have kt9 := kt8.under hb16
    have hS9 := hS8.below hb16
    have hR9 := hR.below hb16
    have hb17 := hb15.trans (hb16.mono hb15.size)
    clear kp8 kt8 hS8 hR hL8 hb15 hb16 t0 t1 t2 t3 t4 hTl
    go_wp2_with fail
    go_loopw [13, 62] (fun t13 t62 wr => HxR w9 S ca cb t13 t62 wr) (fun _ t62 _ => 6 - (intOf t62).toNat)
    case atStart => exact ⟨0, by omega, rfl, rfl, Below.refl _ _⟩
    case round =>
      obtain ⟨i, hi, rfl, rfl, hb⟩ := hrel
      have hz := hb.size
      have kpr := kp9.under hb
      have p0 := kpr.cell 0
      have p1 := kpr.cell 1
      have p2 := kpr.cell 2
      simp only [List.getElem?_toArray, List.getElem?_cons_zero, List.getElem?_cons_succ] at p0 p1 p2
      have hpl := kpr.lt
      by_cases hlt : i < 6
      · have hix := six_idx i hlt
        obtain ⟨⟨x1, x2⟩, y1, y2⟩ := six_bd i
        have HN1 := Lib.hid (show hexN S ca cb (i + 1) = hexN S ca cb i + if decide ((ca + sX i, cb + sY i, (0 : Int)) ∈ S) = true then 2 ^ i else 0 from rfl)
        have HOr := Lib.hid (or_of hlt (hexN_lt S ca cb i))
        generalize sX i = x at *
        generalize sY i = y at *
        have e1 : IntKind.i64.wrap (ca + x) = ca + x := IntWalk.i64_in _ (by omega)
        have e2 : IntKind.i64.wrap (cb + y) = cb + y := IntWalk.i64_in _ (by omega)
        have hha := fun W hW => has_any vS S (ca + x, cb + y, 0) W hW hSg.rising (by omega)
        clear x1 x2 y1 y2
        cases g : decide ((ca + x, cb + y, (0 : Int)) ∈ S)
        · rw [g] at hha
          have G := Lib.hid g
          clear g
          go_wp2_with fail
          refine (hha _ (hS9.below (by go_grown))).mono ?_
          rintro e wA ⟨rfl, hbA⟩
          have hbw : Below w9.heap.size w9 wA := Ba.below_call hbA (by go_grown) (by go_size)
          clear hbA hha
          go_wp2_with fail
          go_roundw
          case rel => exact ⟨i + 1, by omega, by go_num, by rw [HN1.out, G.out]; simp, hbw⟩
          case measure => simp [intOf]; omega
        · rw [g] at hha
          have G := Lib.hid g
          clear g
          go_wp2_with fail
          refine (hha _ (hS9.below (by go_grown))).mono ?_
          rintro e wA ⟨rfl, hbA⟩
          have hbw : Below w9.heap.size w9 wA := Ba.below_call hbA (by go_grown) (by go_size)
          clear hbA hha
          go_wp2_with fail
          go_roundw
          case rel => exact ⟨i + 1, by omega, by go_num, by rw [HN1.out, G.out, if_pos rfl]; exact congrArg _ HOr.out, hbw⟩
          case measure => simp [intOf]; omega
      · obtain rfl : i = 6 := by omega
        have hnb : nbC ((1 : Nat) : Int) S (ca, cb, 0) = hexN S ca cb 6 := nb_hex S ca cb
        have HF := hfin.out
        rw [hnb] at HF
        have HFN := Lib.hid HF
        generalize hexN S ca cb 6 = N at *
        have ktr := kt9.under hb
        have hS24 := hS9.below hb
        have hR24 := hR9.below hb
        have hb24 := hb17.trans (hb.mono hb17.size)
        clear hnb HF hfin hN kp9 kt9 hS9 hR9 hb hb17 p0 p1 p2 hpl hz
        go_upto_region 24 with fail
        obtain ⟨⟨t0, t1, t2, t3, t4⟩, p0, p1, p2⟩ := keep58 ktr kpr (Below.refl _ _)
        have hTl := ktr.lt
        have hpl := kpr.lt
        have hkb : Below wr.heap.size wr wr := Below.refl _ _
        (go_region_held3 (fun w' => (w'.cell? ⟨T, 0, none⟩ = some (.int .i64 1) ∧ w'.cell? ⟨T, 1, none⟩ = some (.int .u64 b0) ∧ w'.cell? ⟨T, 2, none⟩ = some (.int .u64 b1) ∧ w'.cell? ⟨T, 3, none⟩ = some (.int .u64 s0) ∧ w'.cell? ⟨T, 4, none⟩ = some (.int .u64 s1)) ∧ w'.cell? ⟨P, 0, none⟩ = some (.int .i64 ca) ∧ w'.cell? ⟨P, 1, none⟩ = some (.int .i64 cb) ∧ w'.cell? ⟨P, 2, none⟩ = some (.int .i64 0)) (first | (refine keep58 ktr kpr ?_; go_grown; done)) (first | (go_at_call 26; refine (refnext_any b0 b1 s0 s1 hg.h0 hg.h1 hg.h2 hg.h3 0 (decide ((ca, cb, 0) ∈ S)) N 1 _ _ (by exact kT)).mono ?_; rintro e wN ⟨rfl, hb⟩; (have hkb : Below wr.heap.size wr wN := Ba.below_call hb (by go_grown) (by first | exact hkb.size | go_size); (try have kT := Ba.Blk.under (by exact kT) hb); clear hb)) | (go_at_call 15; refine (Go.Proofs.YtggpleppoplkcaaDoor.Tb.told_any 1 b0 b1 s0 s1 _).mono ?_; rintro e wT ⟨rfl, kT, hb⟩; have hkb : Below wr.heap.size wr wT := Ba.below_call hb (by go_grown) (by first | exact hkb.size | go_size); clear hb) | (go_at_call 25; refine (Go.Proofs.YtggpleppoplkcaaDoor.Ce.own_any ca cb 0 _).mono ?_; rintro e wO ⟨rfl, hb⟩; (have hkb : Below wr.heap.size wr wO := Ba.below_call hb (by go_grown) (by first | exact hkb.size | go_size); (try have kT := Ba.Blk.under (by exact kT) hb); clear hb)) | (go_at_call 24; have _hk := kT; refine (has_any vS S (ca, cb, 0) _ (hS24.below (by go_grown)) hSg.rising (by omega)).mono ?_; rintro e wH ⟨rfl, hb⟩; (have hkb : Below wr.heap.size wr wH := Ba.below_call hb (by go_grown) (by first | exact hkb.size | go_size); (try have kT := Ba.Blk.under (by exact kT) hb); clear hb)) | (go_at_call 24; refine (has_any vR R (ca, cb, 0) _ (hR24.below (by go_grown)) hRr (by omega)).mono ?_; rintro e wH ⟨rfl, hb⟩; (have hkb : Below wr.heap.size wr wH := Ba.below_call hb (by go_grown) (by first | exact hkb.size | go_size); (try have kT := Ba.Blk.under (by exact kT) hb); clear hb))))
        all_goals
          go_wp2_with fail
          go_ret
          exact ⟨by rw [HFN.out]; simp, hb24.trans (hkb.mono hb24.size)⟩
  · have hl23 : l = 2 ∨ l = 3 := by have := hg.lat; omega
    have hld : ((l : Int) == 1) = false := by simp; omega
    have hnb : nbC l S (ca, cb, ch) = triN S (besC l (ca, cb, ch)) (besC l (ca, cb, ch)).length := nb_tri (by omega) S _
    have HF := hfin.out
    rw [hnb] at HF
    have HFN := Lib.hid HF
    have hlen : (besC l (ca, cb, ch)).length ≤ 12 := bes_len12 hg.latI hva
    clear HF hfin hN hnb hl1
    generalize besC l (ca, cb, ch) = B at *
    have key : ∃ p cap, vL = .slice p B.length cap := by
      rcases hL8 with ⟨rfl, rfl⟩ | ⟨g, cap, rfl, _⟩
      · exact ⟨none, 0, rfl⟩
      · exact ⟨_, _, rfl⟩
    obtain ⟨p, cap, rfl⟩ := key
    have HL := Lib.hid hL8
    clear hL8
    go_wp2_with fail
    go_loopw [13, 87] (fun t13 t87 wr => TrR w8 S B t13 t87 wr) (fun _ t87 _ => B.length - (intOf t87).toNat)
    case atStart => exact ⟨0, by omega, rfl, rfl, Below.refl _ _⟩
    case round =>
      obtain ⟨i, hi, rfl, rfl, hb⟩ := hrel
      have hz := hb.size
      by_cases hlt : i < B.length
      · obtain ⟨d, hd⟩ : ∃ d, B[i]? = some d := ⟨_, List.getElem?_eq_getElem hlt⟩
        have HT1 := Lib.hid (triN_succ (S := S) hd)
        rcases HL.out.below hb with ⟨_, hnil⟩ | ⟨g, cap', hv, _, hrow⟩
        · subst hnil; simp at hlt
        · injection hv with hv1 hv2 hv3
          subst hv1 hv3
          clear hv2
          obtain ⟨c0, c1, c2⟩ := hrow.1 i d hd
          have hgl := hrow.2
          have how := fun W => Go.Proofs.YtggpleppoplkcaaDoor.Ce.own_any d.1 d.2.1 d.2.2 W
          have hha := fun W hW => has_any vS S d W hW hSg.rising (by omega)
          have hil := triN_le S B i
          clear hd hrow t0 t1 t2 t3 t4 hTl
          cases g2 : decide (d ∈ S)
          · rw [g2] at hha
            have G := Lib.hid g2
            clear g2
            go_wp2_with fail
            refine (how _).mono ?_
            rintro e wA ⟨rfl, hbA⟩
            have hbw : Below w8.heap.size w8 wA := Ba.below_call hbA (by go_grown) (by go_size)
            clear hbA how
            go_wp2_with fail
            refine (hha _ (hS8.below (by go_grown))).mono ?_
            rintro e wB ⟨rfl, hbB⟩
            have hbx : Below w8.heap.size w8 wB := Ba.below_call hbB (by go_grown) (by first | exact hbw.size | go_size)
            clear hbB hha hbw
            go_wp2_with fail
            go_roundw
            case rel => exact ⟨i + 1, by omega, by go_num, by rw [HT1.out, G.out]; simp, hbx⟩
            case measure => simp [intOf]; omega
          · rw [g2] at hha
            have G := Lib.hid g2
            clear g2
            go_wp2_with fail
            refine (how _).mono ?_
            rintro e wA ⟨rfl, hbA⟩
            have hbw : Below w8.heap.size w8 wA := Ba.below_call hbA (by go_grown) (by go_size)
            clear hbA how
            go_wp2_with fail
            refine (hha _ (hS8.below (by go_grown))).mono ?_
            rintro e wB ⟨rfl, hbB⟩
            have hbx : Below w8.heap.size w8 wB := Ba.below_call hbB (by go_grown) (by first | exact hbw.size | go_size)
            clear hbB hha hbw
            go_wp2_with fail
            go_roundw
            case rel => exact ⟨i + 1, by omega, by go_num, by rw [HT1.out, G.out, if_pos rfl]; go_num, hbx⟩
            case measure => simp [intOf]; omega
      · obtain rfl : i = B.length := by omega
        have kpr := kp8.under hb
        have ktr := kt8.under hb
        have hS24 := hS8.below hb
        have hR24 := hR.below hb
        have hb24 := hb15.trans (hb.mono hb15.size)
        generalize triN S B B.length = N at *
        clear kp8 kt8 hS8 hR hb hb15 hz t0 t1 t2 t3 t4 hTl HL
        go_upto_region 24 with fail
        obtain ⟨⟨t0, t1, t2, t3, t4⟩, p0, p1, p2⟩ := keep58 ktr kpr (Below.refl _ _)
        have hTl := ktr.lt
        have hpl := kpr.lt
        have hkb : Below wr.heap.size wr wr := Below.refl _ _
        (go_region_held3 (fun w' => (w'.cell? ⟨T, 0, none⟩ = some (.int .i64 l) ∧ w'.cell? ⟨T, 1, none⟩ = some (.int .u64 b0) ∧ w'.cell? ⟨T, 2, none⟩ = some (.int .u64 b1) ∧ w'.cell? ⟨T, 3, none⟩ = some (.int .u64 s0) ∧ w'.cell? ⟨T, 4, none⟩ = some (.int .u64 s1)) ∧ w'.cell? ⟨P, 0, none⟩ = some (.int .i64 ca) ∧ w'.cell? ⟨P, 1, none⟩ = some (.int .i64 cb) ∧ w'.cell? ⟨P, 2, none⟩ = some (.int .i64 ch)) (first | (refine keep58 ktr kpr ?_; go_grown; done)) (first | (go_at_call 26; refine (refnext_any b0 b1 s0 s1 hg.h0 hg.h1 hg.h2 hg.h3 ch (decide ((ca, cb, ch) ∈ S)) N l _ _ (by exact kT)).mono ?_; rintro e wN ⟨rfl, hb⟩; (have hkb : Below wr.heap.size wr wN := Ba.below_call hb (by go_grown) (by first | exact hkb.size | go_size); (try have kT := Ba.Blk.under (by exact kT) hb); clear hb)) | (go_at_call 15; refine (Go.Proofs.YtggpleppoplkcaaDoor.Tb.told_any l b0 b1 s0 s1 _).mono ?_; rintro e wT ⟨rfl, kT, hb⟩; have hkb : Below wr.heap.size wr wT := Ba.below_call hb (by go_grown) (by first | exact hkb.size | go_size); clear hb) | (go_at_call 25; refine (Go.Proofs.YtggpleppoplkcaaDoor.Ce.own_any ca cb ch _).mono ?_; rintro e wO ⟨rfl, hb⟩; (have hkb : Below wr.heap.size wr wO := Ba.below_call hb (by go_grown) (by first | exact hkb.size | go_size); (try have kT := Ba.Blk.under (by exact kT) hb); clear hb)) | (go_at_call 24; have _hk := kT; refine (has_any vS S (ca, cb, ch) _ (hS24.below (by go_grown)) hSg.rising (by omega)).mono ?_; rintro e wH ⟨rfl, hb⟩; (have hkb : Below wr.heap.size wr wH := Ba.below_call hb (by go_grown) (by first | exact hkb.size | go_size); (try have kT := Ba.Blk.under (by exact kT) hb); clear hb)) | (go_at_call 24; refine (has_any vR R (ca, cb, ch) _ (hR24.below (by go_grown)) hRr (by omega)).mono ?_; rintro e wH ⟨rfl, hb⟩; (have hkb : Below wr.heap.size wr wH := Ba.below_call hb (by go_grown) (by first | exact hkb.size | go_size); (try have kT := Ba.Blk.under (by exact kT) hb); clear hb))))
        all_goals
          go_wp2_with fail
          go_ret
          exact ⟨by rw [HFN.out]; simp, hb24.trans (hkb.mono hb24.size)⟩
section flatOneFrame
open Go.ChangeShapes Go.WideShapes Go.ChangeAt Go.RowKit Go.Joins
set_option maxRecDepth 100000 in
theorem flatOne_contract (H : Type) (enc : TypeId × Value → H) (W : World) (base : Nat) (args : Array Value) (ds gs : List (DataW H)) (before : List MemPlace)
    (hval : ∀ (j : Nat) t v, Tryd.f6.params[j]? = some t → args[j]? = some v → Value.okWide Tryd.prog W .any base t v)
    (hW : DataW.Whole enc Tryd.prog Tryd.f6.params.toList Rows.flatOneSpec.vars false W args.toList ds gs before) (hL : laidMetH Tryd.prog Rows.flatOneRow.laid W) :
    Calls Tryd.prog 6 args W fun e W' => ∃ v, e = .returned v ∧ Rows.flatOneSpec.post enc Tryd.prog Tryd.f6 false true false false W args v W' := by
  have hW' := hW
  obtain ⟨p, q, hA0, hV, rfl, hfz, hnd⟩ := hW
  have hA : DataW.TrodAll enc Tryd.prog W 0 (fun _ => true) true Tryd.f6.params.toList args.toList ds p := hA0
  rw [Tryd.params6] at hA hval
  obtain ⟨v0, vs0, d0, ds0, p0, q0, hargs, rfl, rfl, h0, r0⟩ := trodAll_cons hA
  obtain ⟨v1, vs1, d1, ds1, p1, q1, rfl, rfl, rfl, h1, r1⟩ := trodAll_cons r0
  obtain ⟨v2, vs2, d2, ds2, p2, q2, rfl, rfl, rfl, h2, r2⟩ := trodAll_cons r1
  obtain ⟨rfl, rfl, rfl⟩ := trodAll_nil r2
  obtain rfl : args = #[v0, v1, v2] := by cases args; simp_all
  obtain ⟨rfl, rfl⟩ := trodVars_none hV
  obtain ⟨xL, xB0, xB1, xS0, xS1, rfl, rfl, rfl, w_xL, w_xB0, w_xB1, w_xS0, w_xS1⟩ := open_raw (hval 0 25 v0 rfl rfl) h0
  obtain ⟨L1, hraw1, hlen1⟩ := open_cells (hval 1 26 v1 rfl rfl) h1
  obtain ⟨c20, c21, c22, y20, y21, y22, m2, rfl, rfl, rfl, hy20, hy21, hy22⟩ := open_agg3 Tryd.underlying57 (by kernel_rfl) (by kernel_rfl) (hval 2 57 v2 rfl rfl) h2
  obtain ⟨cA, e20, rfl, w_cA⟩ := DataW.trod_int Tryd.underlying2 hy20
  simp at e20; subst e20
  obtain ⟨cB, e21, rfl, w_cB⟩ := DataW.trod_int Tryd.underlying2 hy21
  simp at e21; subst e21
  obtain ⟨cH, e22, rfl, w_cH⟩ := DataW.trod_int Tryd.underlying3 hy22
  simp at e22; subst e22
  refine (flatOne_walk xL w_xL xB0 w_xB0 xB1 w_xB1 xS0 w_xS0 xS1 w_xS1 v1 L1 cA w_cA cB w_cB cH w_cH W (six_of_laid hL) hraw1 hlen1).mono fun e W' ⟨he, hb⟩ => ?_
  exact ⟨_, he, law_post laidOut rfl rfl Tryd.underlying4 (by kernel_rfl) hW' hb ⟨rfl, rfl, rfl⟩⟩
theorem flatOne_met (os : Os) : laidMet Tryd.prog Rows.flatOneRow.laid ((laidWorld os).forCall (fun _ _ => 0) ⟨#[], #[.agg #[.int .i64 0, .int .u64 0, .int .u64 0, .int .u64 0, .int .u64 0], .slice none 0 0, .agg #[.int .i64 0, .int .i64 0, .int .i64 0]], []⟩).memory :=
  laidMet_of_run' 8 (by kernel_rfl) (by kernel_rfl)
theorem flatOne_reads (os : Os) {H : Type} (enc : TypeId × Value → H) : ∃ places, DataW.whole enc Tryd.prog ((laidWorld os).forCall (fun _ _ => 0) ⟨#[], #[.agg #[.int .i64 0, .int .u64 0, .int .u64 0, .int .u64 0, .int .u64 0], .slice none 0 0, .agg #[.int .i64 0, .int .i64 0, .int .i64 0]], []⟩).memory Tryd.f6.params.toList Rows.flatOneSpec.vars false #[(.agg #[.int .i64 0, .int .u64 0, .int .u64 0, .int .u64 0, .int .u64 0] : Value), (.slice none 0 0 : Value), (.agg #[.int .i64 0, .int .i64 0, .int .i64 0] : Value)].toList 8 = some ([.agg [.lit (.int .i64 0), .agg [.lit (.int .u64 0), .lit (.int .u64 0)], .agg [.lit (.int .u64 0), .lit (.int .u64 0)]], .nil, .agg [.lit (.int .i64 0), .lit (.int .i64 0), .lit (.int .i64 0)]], [], places) :=
  ⟨[], by kernel_rfl⟩
set_option maxRecDepth 100000 in
theorem flatOne_lifted (os : Os) (started : os.Started) (H : Type) (enc : TypeId × Value → H) (F : Stop.Interp) :
    ReturnsInHanded {} Tryd.checked os 6 .any ((OpenSpec.ofChange Rows.flatOneSpec).preRow enc Tryd.prog Tryd.f6 Rows.flatOneRow.domain false Rows.flatOneRow.laid) (((OpenSpec.ofChange Rows.flatOneSpec).at F).post enc Tryd.prog Tryd.f6 false true false false) := by
  obtain ⟨places, hx⟩ := flatOne_reads os enc
  refine returnsInHanded_of_row (C := Tryd.checked) (s := OpenSpec.ofChange Rows.flatOneSpec) own started (by kernel_rfl) Tryd.func6
    (witness_row_at (enc := enc) (C := Tryd.checked) false (laidWorld os) #[.agg #[.int .i64 0, .int .u64 0, .int .u64 0, .int .u64 0, .int .u64 0], .slice none 0 0, .agg #[.int .i64 0, .int .i64 0, .int .i64 0]] rfl (by kernel_rfl) (by kernel_rfl) (by kernel_rfl)
      (OpenSpec.preRow_of_cond 8 hx (by kernel_rfl) (fun k hk => by cases hk) (by kernel_rfl) (flatOne_met os))) ?_
  intro W base args ds gs before hval hW _ _ _ hL _ _
  exact flatOne_contract H enc W base args ds gs before hval hW hL
theorem flatOne_said : Rows.FlatOneSaid :=
  OpenClaim.holds_of_cond 6 Tryd.f6 rfl rfl rfl rfl rfl rfl rfl ⟨rfl, rfl, rfl, rfl, rfl⟩ rfl rfl rfl rfl rfl (by kernel_rfl) Tryd.func6 (by kernel_rfl)
    (of_decide_eq_true (by kernel_rfl)) (by unfold Func.isWrapper; first | (rw [if_pos (by decide +kernel)]; kernel_rfl) | (rw [if_neg (by decide +kernel)]; exact ⟨rfl, rfl⟩))
    (fun os started H enc _ F => by rw [OpenClaim.pre_eq_preRow]; exact flatOne_lifted os started H enc F)
theorem flatOne_plain (f : FuncId) (fn : Func) (hf : Tryd.pinned.checked.prog.funcNamed "honeycomb/honeycomblaw08.FlatOne" = some f) (hfn : Tryd.pinned.checked.prog.funcs[f]? = some fn) :
    false = Tryd.pinned.checked.prog.looks [] ∧ ∀ (j : Nat) t, fn.params[j]? = some t → Tryd.pinned.checked.prog.wantsStandIn t = false := by
  obtain rfl : f = 6 := Option.some.inj ((show Tryd.prog.funcNamed "honeycomb/honeycomblaw08.FlatOne" = some 6 by kernel_rfl).symm.trans hf) |>.symm
  obtain rfl : fn = Tryd.f6 := (Option.some.inj (Tryd.func6.symm.trans hfn)).symm
  refine ⟨by kernel_rfl, fun j t ht => ?_⟩
  have hall : (Tryd.f6.params.toList.all fun t => !Tryd.prog.wantsStandIn t) = true := by kernel_rfl
  have hm : t ∈ Tryd.f6.params.toList := by simpa using Array.mem_of_getElem? ht
  have := List.all_eq_true.1 hall t hm
  exact (show Tryd.prog.wantsStandIn t = false by simpa using this)
end flatOneFrame
/-- FlatOne: the card: for every input the law answers true. -/
theorem flatOne_card : Rows.FlatOneCardSaid :=
  Claim7.holds_tied_plain_at .later [] _ _ _ _ flatOne_said (fun _ h => by cases h) (by kernel_rfl) (fun _ h => by cases h) flatOne_row_tie rfl ⟨rfl, rfl⟩ (by kernel_rfl) rfl flatOne_plain (by kernel_rfl)
end Go.Proofs.YtggpleppoplkcaaDoor.Fl
namespace Go.Proofs.YtggpleppoplkcaaDoor
theorem flatOne_proved : Rows.FlatOneCardSaid := Fl.flatOne_card
#print axioms flatOne_proved
end Go.Proofs.YtggpleppoplkcaaDoor
