/-
  BlockShifts: for any table in the making and any leaf it answers true: of a table that may be, what becomes of the points within the edges of that leaf is the same in the quarter of the least A and B and in that of the greatest.
  Conditions: the listed table (honeycomb/axis.six) reads as the card says.
-/
import Derived.Test.YtcmfkdhadmfgkaaDoorBkA
import Derived.Test.YtcmfkdhadmfgkaaDoorBkB
import Derived.Test.YtcmfkdhadmfgkaaDoorTbW8
import Derived.Test.YtcmfkdhadmfgkaaDoorAxR
import Derived.Deep.DeepHandedRow
import Derived.Lib.SmallJoins
namespace Go.Proofs.YtcmfkdhadmfgkaaDoor.Bk
open Go.RowKit Go.Proofs.YtcmfkdhadmfgkaaDoor.Ba Go.Proofs.YtcmfkdhadmfgkaaDoor.Si Go.Lib
open Go.Proofs.YtcmfkdhadmfgkaaDoor.Fl (C)
open Go.Proofs.YtcmfkdhadmfgkaaDoor.Ce (sh)
open Go.Proofs.YtcmfkdhadmfgkaaDoor.Ax (SixIs)
open Go.Proofs.YtcmfkdhadmfgkaaDoor.Tb (Tab sel wrongT some_fine)

def lowF (f i : Nat) : Nat := if i = 0 then f else 0
def highF (f i : Nat) : Nat := if i = 3 then f else 0
/-- Around a place within the edges both blocks have the same. -/
theorem sh_num {l : Nat} (hl : l = 1 ∨ l = 2 ∨ l = 3) (f i j h : Nat) (hi : 1 ≤ i ∧ i ≤ 2) (hj : 1 ≤ j ∧ j ≤ 2) (hh : h < Ce.H l) :
    numS l (ofB (lowF f)) (NB l h) (8 * j + i) = numS l (ofB (highF f)) (NB l h) (8 * (j + 4) + (i + 4)) := by
  unfold numS
  refine num_congr l _ _ _ _ (by omega) (by omega) _ fun e he => ?_
  rw [List.mem_reverse] at he
  obtain ⟨h1, h2, h3⟩ := (NB_in hl hh).1 e he
  refine ⟨h3.1, ?_⟩
  obtain ⟨A, B, k⟩ := e
  dsimp only at h1 h2 h3
  unfold sh
  dsimp only
  rw [show (8 * j + i) % 8 = i by omega, show (8 * j + i) / 8 = j by omega, show (8 * (j + 4) + (i + 4)) % 8 = i + 4 by omega, show (8 * (j + 4) + (i + 4)) / 8 = j + 4 by omega]
  obtain ⟨a, ha⟩ : ∃ a : Nat, (i : Int) + A = a := ⟨((i : Int) + A).toNat, by omega⟩
  obtain ⟨b, hb⟩ : ∃ b : Nat, (j : Int) + B = b := ⟨((j : Int) + B).toNat, by omega⟩
  obtain ⟨c, rfl⟩ : ∃ c : Nat, k = c := ⟨k.toNat, by omega⟩
  rw [ha, hb, show ((i + 4 : Nat) : Int) + A = ((a + 4 : Nat) : Int) by omega, show ((j + 4 : Nat) : Int) + B = ((b + 4 : Nat) : Int) by omega]
  rw [liv_at _ _ _ _ (by omega) (by omega), liv_at _ _ _ _ (by omega) (by omega), ofB_bit _ _ _ _ (by omega) (by omega) (by omega), ofB_bit _ _ _ _ (by omega) (by omega) (by omega)]
  rw [show b / 4 * 2 + a / 4 = 0 by omega, show (b + 4) / 4 * 2 + (a + 4) / 4 = 3 by omega, show (b + 4) % 4 = b % 4 by omega, show (a + 4) % 4 = a % 4 by omega]
  rfl
theorem sh_state {l b0 b1 s0 s1 : Nat} (hl : l = 1 ∨ l = 2 ∨ l = 3) {f : Nat} {Y Z : Nat → Nat} (hY : BStp l b0 b1 s0 s1 (ofB (lowF f)) Y) (hZ : BStp l b0 b1 s0 s1 (ofB (highF f)) Z) {i j : Nat} (hi : 1 ≤ i ∧ i ≤ 2) (hj : 1 ≤ j ∧ j ≤ 2) :
    Y j / 2 ^ (2 * i) % 4 = Z (j + 4) / 2 ^ (2 * (i + 4)) % 4 := by
  refine st_eq fun h hh => ?_
  have e1 := hY.bit (8 * j + i) h (by omega) hh
  have e2 := hZ.bit (8 * (j + 4) + (i + 4)) h (by omega) hh
  rw [show (8 * j + i) % 8 = i by omega, show (8 * j + i) / 8 = j by omega, plN_at _ _ _ _ (by omega) (by omega)] at e1
  rw [show (8 * (j + 4) + (i + 4)) % 8 = i + 4 by omega, show (8 * (j + 4) + (i + 4)) / 8 = j + 4 by omega, plN_at _ _ _ _ (by omega) (by omega)] at e2
  rw [e1, e2]
  by_cases hH : h < Ce.H l
  · rw [sh_num hl f i j h hi hj hH, ofB_bit _ _ _ _ (by omega) (by omega) hh, ofB_bit _ _ _ _ (by omega) (by omega) hh]
    rw [show j / 4 * 2 + i / 4 = 0 by omega, show (j + 4) / 4 * 2 + (i + 4) / 4 = 3 by omega, show (j + 4) % 4 = j % 4 by omega, show (i + 4) % 4 = i % 4 by omega]
    rfl
  · simp [hH]
def ShR (w : World) (pY pZ : Nat) (Y Z : Nat → Nat) (t : Value) (wr : World) : Prop := ∃ k : Nat, 1 ≤ k ∧ k ≤ 3 ∧ t = .int .i64 k ∧ Blk wr pY 27 (bkA Y) ∧ Blk wr pZ 27 (bkA Z) ∧ Below w.heap.size w wr
set_option maxRecDepth 100000 in
set_option maxHeartbeats 4000000 in
theorem blockShifts_walk (xL : Int) (_w0 : (Lit.int .i64 xL).wf = true) (xB0 : Int) (w1 : (Lit.int .u64 xB0).wf = true) (xB1 : Int) (w2 : (Lit.int .u64 xB1).wf = true) (xS0 : Int) (w3 : (Lit.int .u64 xS0).wf = true) (xS1 : Int) (w4 : (Lit.int .u64 xS1).wf = true)
    (fI : Int) (w5 : (Lit.int .u32 fI).wf = true) (w : World) (hs : SixIs w) :
    Calls Tryd.prog 6 #[.agg #[.int .i64 xL, .int .u64 xB0, .int .u64 xB1, .int .u64 xS0, .int .u64 xS1], .int .u32 fI] w fun e w' => e = .returned (.bool true) ∧ Below w.heap.size w w' := by
  have g1 := bounds_u64 w1
  have g2 := bounds_u64 w2
  have g3 := bounds_u64 w3
  have g4 := bounds_u64 w4
  have g5 := u32_wf w5
  obtain ⟨b0, rfl⟩ : ∃ k : Nat, xB0 = k := ⟨xB0.toNat, by omega⟩
  obtain ⟨b1, rfl⟩ : ∃ k : Nat, xB1 = k := ⟨xB1.toNat, by omega⟩
  obtain ⟨s0, rfl⟩ : ∃ k : Nat, xS0 = k := ⟨xS0.toNat, by omega⟩
  obtain ⟨s1, rfl⟩ : ∃ k : Nat, xS1 = k := ⟨xS1.toNat, by omega⟩
  obtain ⟨f, rfl⟩ : ∃ k : Nat, fI = k := ⟨fI.toNat, by omega⟩
  have hf : f < 4294967296 := by omega
  have hso := fun W => some_fine xL b0 b1 s0 s1 (by omega) (by omega) (by omega) (by omega) W
  have HS := Lib.hid hs
  have hb0 : Below w.heap.size w (w.alloc (.cells #[.int .i64 xL, .int .u64 b0, .int .u64 b1, .int .u64 s0, .int .u64 s1] 44)) := by go_grown
  have kr := Blk.newAt w 44 #[.int .i64 xL, .int .u64 b0, .int .u64 b1, .int .u64 s0, .int .u64 s1] _ rfl
  clear hs g1 g2 g3 g4 g5 w1 w2 w3 w4 w5
  go_enter Tryd.func6, Tryd.ntmps6
  go_wp2_with fail
  refine (awake10 _ (HS.out.below hb0)).mono ?_
  rintro e w1 ⟨rfl, hb1⟩
  have hb01 := hb0.trans (hb1.mono hb0.size)
  have kr1 := kr.under hb1
  have hrl := kr1.lt
  have c0 := kr1.cell 0
  have c1 := kr1.cell 1
  have c2 := kr1.cell 2
  have c3 := kr1.cell 3
  have c4 := kr1.cell 4
  simp only [List.getElem?_toArray, List.getElem?_cons_zero, List.getElem?_cons_succ] at c0 c1 c2 c3 c4
  clear kr hb0 hb1 kr1
  go_wp2_with fail
  refine (hso _).mono ?_
  rintro e w2 ⟨l, p0, p1, t0, t1, hl, h0, h1, h2, h3, hok, rfl, hb2⟩
  have hg : Fl.Good l p0 p1 t0 t1 := ⟨hl, h0, h1, h2, h3, hok⟩
  have hb02 := hb01.trans (hb2.mono hb01.size)
  clear hso c0 c1 c2 c3 c4 hb01 hb2 hrl h0 h1 h2 h3 hok
  go_wp2_with fail
  refine (bnew_any l p0 p1 t0 t1 hg _ (HS.out.below hb02)).mono ?_
  rintro e w3 ⟨g, rfl, hK, hgg, hb3⟩
  have hb03 := hb02.trans (hb3.mono hb02.size)
  clear hb02 hb3
  have hof : ∀ W, Calls Tryd.prog 10 #[.agg #[.int .u32 f, .int .u32 0, .int .u32 0, .int .u32 0]] W fun e w' => e = .returned (.agg (bkA (ofB (lowF f)))) ∧ Below W.heap.size W w' := fun W => bof_any (lowF f) (by intro i _; unfold lowF; split <;> omega) W
  have hoh : ∀ W, Calls Tryd.prog 10 #[.agg #[.int .u32 0, .int .u32 0, .int .u32 0, .int .u32 f]] W fun e w' => e = .returned (.agg (bkA (ofB (highF f)))) ∧ Below W.heap.size W w' := fun W => bof_any (highF f) (by intro i _; unfold highF; split <;> omega) W
  go_wp2_with fail
  refine (hof _).mono ?_
  rintro e w4 ⟨rfl, hb4⟩
  have hb04 := hb03.trans (hb4.mono hb03.size)
  have hK4 := hK.under hb4
  clear hof hb03 hb4 hK
  go_wp2_with fail
  refine (bstep_any _ g l p0 p1 t0 t1 hg (ofB (lowF f)) (fun r hr => ofB_lt _ r hr) _ hK4).mono ?_
  rintro e w5 ⟨Y, rfl, hY, hb5⟩
  have hb05 := hb04.trans (hb5.mono hb04.size)
  have hK5 := hK4.under hb5
  clear hb04 hb5 hK4
  unfold bkA
  go_wp2_with fail
  refine (hoh _).mono ?_
  rintro e w6 ⟨rfl, hb6⟩
  have hbA : Below w5.heap.size w5 (w5.alloc (.cells #[.int .u16 (Y 0), .int .u16 (Y 1), .int .u16 (Y 2), .int .u16 (Y 3), .int .u16 (Y 4), .int .u16 (Y 5), .int .u16 (Y 6), .int .u16 (Y 7)] 27)) := by go_grown
  have kY : Blk (w5.alloc (.cells #[.int .u16 (Y 0), .int .u16 (Y 1), .int .u16 (Y 2), .int .u16 (Y 3), .int .u16 (Y 4), .int .u16 (Y 5), .int .u16 (Y 6), .int .u16 (Y 7)] 27)) w5.heap.size 27 (bkA Y) := Blk.newAt w5 _ _ _ rfl
  have hb56 := hbA.trans (hb6.mono hbA.size)
  have kY6 := kY.under hb6
  have hb06 := hb05.trans (hb56.mono hb05.size)
  have hK6 := hK5.under hb56
  clear hoh hb05 hb6 hK5 hbA kY hb56
  go_wp2_with fail
  refine (bstep_any _ g l p0 p1 t0 t1 hg (ofB (highF f)) (fun r hr => ofB_lt _ r hr) _ hK6).mono ?_
  rintro e w7 ⟨Z, rfl, hZ, hb7⟩
  have hb07 := hb06.trans (hb7.mono hb06.size)
  have kY7 := kY6.under hb7
  have hYZ := fun i j hi hj => sh_state (i := i) (j := j) hl hY hZ hi hj
  have HYZ := Lib.hid hYZ
  have hYl := hY.lt
  have hZl := hZ.lt
  clear hb06 hb7 hK6 kY6 hY hZ hYZ
  unfold bkA
  go_upto_region 8 with fail
  have hbA : Below w.heap.size w (w7.alloc (.cells #[.int .u16 (Z 0), .int .u16 (Z 1), .int .u16 (Z 2), .int .u16 (Z 3), .int .u16 (Z 4), .int .u16 (Z 5), .int .u16 (Z 6), .int .u16 (Z 7)] 27)) := hb07.alloc hb07.size _
  have kZ : Blk (w7.alloc (.cells #[.int .u16 (Z 0), .int .u16 (Z 1), .int .u16 (Z 2), .int .u16 (Z 3), .int .u16 (Z 4), .int .u16 (Z 5), .int .u16 (Z 6), .int .u16 (Z 7)] 27)) w7.heap.size 27 (bkA Z) := Blk.newAt w7 _ _ _ rfl
  have kY := kY7.alloc (.cells #[.int .u16 (Z 0), .int .u16 (Z 1), .int .u16 (Z 2), .int .u16 (Z 3), .int .u16 (Z 4), .int .u16 (Z 5), .int .u16 (Z 6), .int .u16 (Z 7)] 27)
  clear hb07 kY7
  generalize (w7.alloc (.cells #[.int .u16 (Z 0), .int .u16 (Z 1), .int .u16 (Z 2), .int .u16 (Z 3), .int .u16 (Z 4), .int .u16 (Z 5), .int .u16 (Z 6), .int .u16 (Z 7)] 27)) = W8 at *
  generalize w5.heap.size = pY at *
  generalize w7.heap.size = pZ at *
  go_wp2_with fail
  go_loopw [9] (fun t wr => ShR w pY pZ Y Z t wr) (fun t _ => 3 - (intOf t).toNat)
  case atStart => exact ⟨1, by omega, by omega, rfl, kY, kZ, hbA⟩
  case round =>
    clear kY kZ hbA
    obtain ⟨i, hi1, hi3, rfl, kY, kZ, hb⟩ := hrel
    by_cases hlt : i < 3
    · have hdb : decide ((i : Int) < 3) = true := by simp; omega
      go_wp2_with fail
      go_loopw [10] (fun t wr => ShR w pY pZ Y Z t wr) (fun t _ => 3 - (intOf t).toNat)
      case atStart => exact ⟨1, by omega, by omega, rfl, kY, kZ, hb⟩
      case round =>
        clear kY kZ hb
        obtain ⟨j, hj1, hj3, rfl, kY, kZ, hb⟩ := hrel
        by_cases hlj : j < 3
        · have hdj : decide ((j : Int) < 3) = true := by simp; omega
          have hi8 : i + 4 < 8 := by omega
          have hj8 : j + 4 < 8 := by omega
          have hi0 : i < 8 := by omega
          have hj0 : j < 8 := by omega
          have ei : ((i + 4 : Nat) : Int) = (i : Int) + 4 := by omega
          have ej : ((j + 4 : Nat) : Int) = (j : Int) + 4 := by omega
          have hi9 : -9223372036854775808 ≤ (i : Int) + 4 ∧ (i : Int) + 4 ≤ 9223372036854775807 := by omega
          have hj9 : -9223372036854775808 ≤ (j : Int) + 4 ∧ (j : Int) + 4 ≤ 9223372036854775807 := by omega
          have hq := HYZ.out i j ⟨hi1, by omega⟩ ⟨hj1, by omega⟩
          obtain ⟨sv, hsv⟩ : ∃ s, Y j / 2 ^ (2 * i) % 4 = s := ⟨_, rfl⟩
          have keep : ∀ w', Below wr.heap.size wr w' → w'.cell? ⟨pY, 0, none⟩ = some (.int .u16 (Y 0)) ∧ w'.cell? ⟨pY, 1, none⟩ = some (.int .u16 (Y 1)) ∧ w'.cell? ⟨pY, 2, none⟩ = some (.int .u16 (Y 2)) ∧ w'.cell? ⟨pY, 3, none⟩ = some (.int .u16 (Y 3)) ∧ w'.cell? ⟨pY, 4, none⟩ = some (.int .u16 (Y 4)) ∧ w'.cell? ⟨pY, 5, none⟩ = some (.int .u16 (Y 5)) ∧ w'.cell? ⟨pY, 6, none⟩ = some (.int .u16 (Y 6)) ∧ w'.cell? ⟨pY, 7, none⟩ = some (.int .u16 (Y 7)) ∧ w'.cell? ⟨pZ, 0, none⟩ = some (.int .u16 (Z 0)) ∧ w'.cell? ⟨pZ, 1, none⟩ = some (.int .u16 (Z 1)) ∧ w'.cell? ⟨pZ, 2, none⟩ = some (.int .u16 (Z 2)) ∧ w'.cell? ⟨pZ, 3, none⟩ = some (.int .u16 (Z 3)) ∧ w'.cell? ⟨pZ, 4, none⟩ = some (.int .u16 (Z 4)) ∧ w'.cell? ⟨pZ, 5, none⟩ = some (.int .u16 (Z 5)) ∧ w'.cell? ⟨pZ, 6, none⟩ = some (.int .u16 (Z 6)) ∧ w'.cell? ⟨pZ, 7, none⟩ = some (.int .u16 (Z 7)) := fun w' hb => ⟨((kY.under hb).cell 0).trans (bkA_get Y 0 (by decide)), ((kY.under hb).cell 1).trans (bkA_get Y 1 (by decide)), ((kY.under hb).cell 2).trans (bkA_get Y 2 (by decide)), ((kY.under hb).cell 3).trans (bkA_get Y 3 (by decide)), ((kY.under hb).cell 4).trans (bkA_get Y 4 (by decide)), ((kY.under hb).cell 5).trans (bkA_get Y 5 (by decide)), ((kY.under hb).cell 6).trans (bkA_get Y 6 (by decide)), ((kY.under hb).cell 7).trans (bkA_get Y 7 (by decide)), ((kZ.under hb).cell 0).trans (bkA_get Z 0 (by decide)), ((kZ.under hb).cell 1).trans (bkA_get Z 1 (by decide)), ((kZ.under hb).cell 2).trans (bkA_get Z 2 (by decide)), ((kZ.under hb).cell 3).trans (bkA_get Z 3 (by decide)), ((kZ.under hb).cell 4).trans (bkA_get Z 4 (by decide)), ((kZ.under hb).cell 5).trans (bkA_get Z 5 (by decide)), ((kZ.under hb).cell 6).trans (bkA_get Z 6 (by decide)), ((kZ.under hb).cell 7).trans (bkA_get Z 7 (by decide))⟩
          have hsa : Calls Tryd.prog 17 #[.agg (bkA Y), .int .i64 i, .int .i64 j] wr.drew fun e w' => e = .returned (.int .i64 sv) ∧ Below wr.heap.size wr.drew w' := by
            refine (bstate_in Y hYl i j hi0 hj0 wr.drew).mono ?_
            rintro e w' ⟨rfl, hb'⟩
            exact ⟨by rw [hsv], hb'⟩
          have hsb : ∀ W', Below wr.heap.size wr.drew W' → Calls Tryd.prog 17 #[.agg (bkA Z), .int .i64 (IntKind.i64.wrap ((i : Int) + 4)), .int .i64 (IntKind.i64.wrap ((j : Int) + 4))] W' fun e w' => e = .returned (.int .i64 sv) ∧ Below wr.heap.size wr.drew w' := fun W' hb => by
            have := bstate_in Z hZl (i + 4) (j + 4) hi8 hj8 W'
            rw [← hq, hsv, ei, ej] at this
            rw [IntWalk.i64_in ((i : Int) + 4) hi9, IntWalk.i64_in ((j : Int) + 4) hj9]
            refine this.mono ?_
            rintro e w' ⟨rfl, hb'⟩
            exact ⟨rfl, hb.trans (hb'.mono hb.size)⟩
          have hyl := kY.lt
          have hzl := kZ.lt
          unfold bkA at hsa hsb
          have drw : Below wr.heap.size wr wr.drew := ⟨rfl, rfl, rfl, Nat.le_refl _, fun _ _ => rfl⟩
          obtain ⟨a0, a1, a2, a3, a4, a5, a6, a7, d0, d1, d2, d3, d4, d5, d6, d7⟩ := keep _ drw
          clear hq hsv ei ej hi8 hj8 hi0 hj0 hi9 hj9
          go_upto_region 14 with fail
          go_region_held3 (fun w' => w'.cell? ⟨pY, 0, none⟩ = some (.int .u16 (Y 0)) ∧ w'.cell? ⟨pY, 1, none⟩ = some (.int .u16 (Y 1)) ∧ w'.cell? ⟨pY, 2, none⟩ = some (.int .u16 (Y 2)) ∧ w'.cell? ⟨pY, 3, none⟩ = some (.int .u16 (Y 3)) ∧ w'.cell? ⟨pY, 4, none⟩ = some (.int .u16 (Y 4)) ∧ w'.cell? ⟨pY, 5, none⟩ = some (.int .u16 (Y 5)) ∧ w'.cell? ⟨pY, 6, none⟩ = some (.int .u16 (Y 6)) ∧ w'.cell? ⟨pY, 7, none⟩ = some (.int .u16 (Y 7)) ∧ w'.cell? ⟨pZ, 0, none⟩ = some (.int .u16 (Z 0)) ∧ w'.cell? ⟨pZ, 1, none⟩ = some (.int .u16 (Z 1)) ∧ w'.cell? ⟨pZ, 2, none⟩ = some (.int .u16 (Z 2)) ∧ w'.cell? ⟨pZ, 3, none⟩ = some (.int .u16 (Z 3)) ∧ w'.cell? ⟨pZ, 4, none⟩ = some (.int .u16 (Z 4)) ∧ w'.cell? ⟨pZ, 5, none⟩ = some (.int .u16 (Z 5)) ∧ w'.cell? ⟨pZ, 6, none⟩ = some (.int .u16 (Z 6)) ∧ w'.cell? ⟨pZ, 7, none⟩ = some (.int .u16 (Z 7))) (first | exact keep _ drw | exact ⟨a0, a1, a2, a3, a4, a5, a6, a7, d0, d1, d2, d3, d4, d5, d6, d7⟩)
            (first
              | (go_at_call 17; (with_reducible refine Calls.mono (hsb _ hkb) ?_); rintro e wY ⟨rfl, hkc⟩; obtain ⟨a0, a1, a2, a3, a4, a5, a6, a7, d0, d1, d2, d3, d4, d5, d6, d7⟩ := keep _ (drw.trans hkc))
              | (go_at_call 17; (with_reducible refine Calls.mono hsa ?_); rintro e wZ ⟨rfl, hkb⟩; obtain ⟨a0, a1, a2, a3, a4, a5, a6, a7, d0, d1, d2, d3, d4, d5, d6, d7⟩ := keep _ (drw.trans hkb)))
          all_goals
            have HY := Lib.hid (kY.under (drw.trans hkc))
            have HZ := Lib.hid (kZ.under (drw.trans hkc))
            have HB := Lib.hid (hb.trans ((drw.trans hkc).mono hb.size))
            clear keep kY kZ hb
          all_goals go_wp2_with fail
          all_goals exact ⟨⟨j + 1, by omega, by omega, by go_num, HY.out, HZ.out, HB.out⟩, by simp [intOf]; omega⟩
        · obtain rfl : j = 3 := by omega
          go_wp2_with fail
          exact ⟨⟨i + 1, by omega, by omega, by go_num, kY, kZ, hb⟩, by simp [intOf]; omega⟩
    · obtain rfl : i = 3 := by omega
      go_wp2_with fail
      go_ret
      exact ⟨rfl, hb⟩
end Go.Proofs.YtcmfkdhadmfgkaaDoor.Bk
namespace Go.Proofs.YtcmfkdhadmfgkaaDoor.BkF
open Go.RowKit Go.Proofs.YtcmfkdhadmfgkaaDoor.Ax
open Go.Proofs.YtcmfkdhadmfgkaaDoor.Bk (blockShifts_walk)
open Go.Proofs.YtcmfkdhadmfgkaaDoor.Tb (open_raw)
section blockShiftsFrame
open Go.ChangeShapes Go.WideShapes Go.ChangeAt Go.RowKit Go.Joins
set_option maxRecDepth 100000 in
theorem blockShifts_contract (H : Type) (enc : TypeId × Value → H) (W : World) (base : Nat) (args : Array Value) (ds gs : List (DataW H)) (before : List MemPlace)
    (hval : ∀ (j : Nat) t v, Tryd.f6.params[j]? = some t → args[j]? = some v → Value.okWide Tryd.prog W .any base t v)
    (hW : DataW.Whole enc Tryd.prog Tryd.f6.params.toList Rows.blockShiftsSpec.vars false W args.toList ds gs before) (hL : laidMetH Tryd.prog Rows.blockShiftsRow.laid W) :
    Calls Tryd.prog 6 args W fun e W' => ∃ v, e = .returned v ∧ Rows.blockShiftsSpec.post enc Tryd.prog Tryd.f6 false true false false W args v W' := by
  have hW' := hW
  obtain ⟨p, q, hA0, hV, rfl, hfz, hnd⟩ := hW
  have hA : DataW.TrodAll enc Tryd.prog W 0 (fun _ => true) true Tryd.f6.params.toList args.toList ds p := hA0
  rw [Tryd.params6] at hA hval
  obtain ⟨v0, vs0, d0, ds0, p0, q0, hargs, rfl, rfl, h0, r0⟩ := trodAll_cons hA
  obtain ⟨v1, vs1, d1, ds1, p1, q1, rfl, rfl, rfl, h1, r1⟩ := trodAll_cons r0
  obtain ⟨rfl, rfl, rfl⟩ := trodAll_nil r1
  obtain rfl : args = #[v0, v1] := by cases args; simp_all
  obtain ⟨rfl, rfl⟩ := trodVars_none hV
  obtain ⟨xL, xB0, xB1, xS0, xS1, rfl, rfl, rfl, w_xL, w_xB0, w_xB1, w_xS0, w_xS1⟩ := open_raw (hval 0 44 v0 rfl rfl) h0
  obtain ⟨f, rfl, rfl, rfl, w_f⟩ := open_int Tryd.underlying22 (hval 1 22 v1 rfl rfl) h1
  refine (blockShifts_walk xL w_xL xB0 w_xB0 xB1 w_xB1 xS0 w_xS0 xS1 w_xS1 f w_f W (six_of_laid hL)).mono fun e W' ⟨he, hb⟩ => ?_
  exact ⟨_, he, law_post laidOut rfl rfl Tryd.underlying4 (by kernel_rfl) hW' hb ⟨rfl, rfl, rfl⟩⟩
theorem blockShifts_met (os : Os) : laidMet Tryd.prog Rows.blockShiftsRow.laid ((laidWorld os).forCall (fun _ _ => 0) ⟨#[], #[.agg #[.int .i64 0, .int .u64 0, .int .u64 0, .int .u64 0, .int .u64 0], .int .u32 0], []⟩).memory :=
  laidMet_of_run' 8 (by kernel_rfl) (by kernel_rfl)
theorem blockShifts_reads (os : Os) {H : Type} (enc : TypeId × Value → H) : ∃ places, DataW.whole enc Tryd.prog ((laidWorld os).forCall (fun _ _ => 0) ⟨#[], #[.agg #[.int .i64 0, .int .u64 0, .int .u64 0, .int .u64 0, .int .u64 0], .int .u32 0], []⟩).memory Tryd.f6.params.toList Rows.blockShiftsSpec.vars false #[(.agg #[.int .i64 0, .int .u64 0, .int .u64 0, .int .u64 0, .int .u64 0] : Value), (.int .u32 0 : Value)].toList 8 = some ([.agg [.lit (.int .i64 0), .agg [.lit (.int .u64 0), .lit (.int .u64 0)], .agg [.lit (.int .u64 0), .lit (.int .u64 0)]], .lit (.int .u32 0)], [], places) :=
  ⟨[], by kernel_rfl⟩
set_option maxRecDepth 100000 in
theorem blockShifts_lifted (os : Os) (started : os.Started) (H : Type) (enc : TypeId × Value → H) (F : Stop.Interp) :
    ReturnsInHanded {} Tryd.checked os 6 .any ((OpenSpec.ofChange Rows.blockShiftsSpec).preRow enc Tryd.prog Tryd.f6 Rows.blockShiftsRow.domain false Rows.blockShiftsRow.laid) (((OpenSpec.ofChange Rows.blockShiftsSpec).at F).post enc Tryd.prog Tryd.f6 false true false false) := by
  obtain ⟨places, hx⟩ := blockShifts_reads os enc
  refine returnsInHanded_of_row (C := Tryd.checked) (s := OpenSpec.ofChange Rows.blockShiftsSpec) own started (by kernel_rfl) Tryd.func6
    (witness_row_at (enc := enc) (C := Tryd.checked) false (laidWorld os) #[.agg #[.int .i64 0, .int .u64 0, .int .u64 0, .int .u64 0, .int .u64 0], .int .u32 0] rfl (by kernel_rfl) (by kernel_rfl) (by kernel_rfl)
      (OpenSpec.preRow_of_cond 8 hx (by kernel_rfl) (fun k hk => by cases hk) (by kernel_rfl) (blockShifts_met os))) ?_
  intro W base args ds gs before hval hW _ _ _ hL _ _
  exact blockShifts_contract H enc W base args ds gs before hval hW hL
theorem blockShifts_said : Rows.BlockShiftsSaid :=
  OpenClaim.holds_of_cond 6 Tryd.f6 rfl rfl rfl rfl rfl rfl rfl ⟨rfl, rfl, rfl, rfl, rfl⟩ rfl rfl rfl rfl rfl (by kernel_rfl) Tryd.func6 (by kernel_rfl)
    (of_decide_eq_true (by kernel_rfl)) (by unfold Func.isWrapper; first | (rw [if_pos (by decide +kernel)]; kernel_rfl) | (rw [if_neg (by decide +kernel)]; exact ⟨rfl, rfl⟩))
    (fun os started H enc _ F => by rw [OpenClaim.pre_eq_preRow]; exact blockShifts_lifted os started H enc F)
theorem blockShifts_plain (f : FuncId) (fn : Func) (hf : Tryd.pinned.checked.prog.funcNamed "honeycomb/honeycomblaw10.BlockShifts" = some f) (hfn : Tryd.pinned.checked.prog.funcs[f]? = some fn) :
    true = Tryd.pinned.checked.prog.looks [] ∧ ∀ (j : Nat) t, fn.params[j]? = some t → Tryd.pinned.checked.prog.wantsStandIn t = false := by
  obtain rfl : f = 6 := Option.some.inj ((show Tryd.prog.funcNamed "honeycomb/honeycomblaw10.BlockShifts" = some 6 by kernel_rfl).symm.trans hf) |>.symm
  obtain rfl : fn = Tryd.f6 := (Option.some.inj (Tryd.func6.symm.trans hfn)).symm
  refine ⟨by kernel_rfl, fun j t ht => ?_⟩
  have hall : (Tryd.f6.params.toList.all fun t => !Tryd.prog.wantsStandIn t) = true := by kernel_rfl
  have hm : t ∈ Tryd.f6.params.toList := by simpa using Array.mem_of_getElem? ht
  have := List.all_eq_true.1 hall t hm
  exact (show Tryd.prog.wantsStandIn t = false by simpa using this)
end blockShiftsFrame
/-- BlockShifts: the card: for every input the law answers true. -/
theorem blockShifts_card : Rows.BlockShiftsCardSaid :=
  Claim7.holds_tied_plain_at .later [] _ _ _ _ blockShifts_said (fun _ h => by cases h) (by kernel_rfl) (fun _ h => by cases h) blockShifts_row_tie rfl ⟨rfl, rfl⟩ (by kernel_rfl) rfl blockShifts_plain (by kernel_rfl)
end Go.Proofs.YtcmfkdhadmfgkaaDoor.BkF
namespace Go.Proofs.YtcmfkdhadmfgkaaDoor
theorem blockShifts_proved : Rows.BlockShiftsCardSaid := BkF.blockShifts_card
#print axioms blockShifts_proved
end Go.Proofs.YtcmfkdhadmfgkaaDoor
