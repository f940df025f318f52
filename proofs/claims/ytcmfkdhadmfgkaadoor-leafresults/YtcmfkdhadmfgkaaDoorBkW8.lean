/- The contract of a kernel's Step. -/
import Derived.Test.YtcmfkdhadmfgkaaDoorBkW7
import Derived.Test.YtcmfkdhadmfgkaaDoorFlG
namespace Go.Proofs.YtcmfkdhadmfgkaaDoor.Bk
open Go.RowKit Go.Proofs.YtcmfkdhadmfgkaaDoor.Ba Go.Proofs.YtcmfkdhadmfgkaaDoor.Si Go.Lib
open Go.Proofs.YtcmfkdhadmfgkaaDoor.Fl (C valid nbC nb_nil nxT bare_of)
open Go.Proofs.YtcmfkdhadmfgkaaDoor.Tb (sel)

/-- The next generation of a block, with none outside. -/
structure BStp (l b0 b1 s0 s1 : Nat) (x Y : Nat → Nat) : Prop where
  lt : ∀ r, r < 8 → Y r < 65536
  bit : ∀ n h, n < 64 → h < 2 → (Y (n / 8)).testBit (2 * (n % 8) + h) = (decide (h < Ce.H l) && (sel b0 b1 s0 s1 h ((plN x h).testBit n)).testBit (numS l x (NB l h) n))
theorem tgB_bit (P : Nat → Nat) (n h : Nat) (hh : h < 2) : (tgB P (n / 8)).testBit (2 * (n % 8) + h) = (P h).testBit n := by
  unfold tgB
  rw [tgR_bit _ _ _ _ (by omega)]
  have h2 : h = 0 ∨ h = 1 := by omega
  have e : 8 * (n / 8) + n % 8 = n := by omega
  rcases h2 with rfl | rfl
  · rw [if_pos (by omega), show (2 * (n % 8) + 0) / 2 = n % 8 by omega, e]
  · rw [if_neg (by omega), show (2 * (n % 8) + 1) / 2 = n % 8 by omega, e]
theorem bstp_of {l b0 b1 s0 s1 : Nat} {x P : Nat → Nat} (h : ∀ h, h < Ce.H l → NxB l h x b0 b1 s0 s1 (P h)) (h0 : ∀ h, ¬ h < Ce.H l → P h = 0) : BStp l b0 b1 s0 s1 x (tgB P) := by
  refine ⟨fun r _ => tgR_lt _ _ _, fun n k hn hk => ?_⟩
  rw [tgB_bit P n k hk]
  by_cases e : k < Ce.H l
  · rw [(h k e).2 n hn]
    simp [e]
  · rw [h0 k e]
    simp [e]
theorem plN_nil {x : Nat → Nat} (h : ∀ r, r < 8 → x r = 0) (k n : Nat) : (plN x k).testBit n = false := by
  rw [plN_bit]
  by_cases hn : n < 64
  · rw [h _ (by omega)]; simp
  · simp [hn]
theorem liv_nil {x : Nat → Nat} (h : ∀ r, r < 8 → x r = 0) (c : C) : liv x c = false := by
  unfold liv
  by_cases hc : (0 ≤ c.1 ∧ c.1 < 8) ∧ (0 ≤ c.2.1 ∧ c.2.1 < 8)
  · rw [h _ (by omega)]; simp
  · simp [hc]
theorem H_val {l h : Nat} (hh : h < Ce.H l) (n : Nat) : valid l (plc n h) := by
  unfold valid plc Ce.H at *
  dsimp only
  split at hh <;> split <;> omega
theorem bstp_nil {l b0 b1 s0 s1 : Nat} (hg : Fl.Good l b0 b1 s0 s1) {x : Nat → Nat} (h : ∀ r, r < 8 → x r = 0) : BStp l b0 b1 s0 s1 x x := by
  refine ⟨fun r hr => by rw [h r hr]; decide, fun n k hn hk => ?_⟩
  rw [h _ (by omega), plN_nil h]
  by_cases e : k < Ce.H l
  · have hv := H_val e n
    have hz : numS l x (NB l k) n = 0 := by
      rw [num_nb hg.latI hv hn (S := []) fun e _ => by rw [liv_nil h]; simp]
      exact nb_nil _ _
    have hb := bare_of hg.ok (k : Int)
    unfold nxT at hb
    rw [Int.toNat_natCast] at hb
    rw [hz, hb]
    simp
  · simp [e]
theorem halves_l (l : Nat) (w : World) : Calls Tryd.prog 50 #[.int .i64 l] w fun e w' => e = .returned (.int .i64 (Ce.H l)) ∧ w = w' := by
  go_enter Tryd.func50, Tryd.ntmps50
  by_cases h : l = 1
  · have hb : ((l : Int) == 1) = true := by rw [beq_iff_eq]; omega
    have hH : Ce.H l = 1 := by unfold Ce.H; rw [if_pos (by omega)]
    go_wp2
    go_ret
    exact ⟨ret_int (by rw [hH]; rfl), rfl⟩
  · have hb : ((l : Int) == 1) = false := by rw [beq_eq_false_iff_ne]; omega
    have hH : Ce.H l = 2 := by unfold Ce.H; rw [if_neg (by omega)]
    go_wp2
    go_ret
    exact ⟨ret_int (by rw [hH]; rfl), rfl⟩
def StR (w : World) (B g l b0 b1 s0 s1 : Nat) (x : Nat → Nat) (P5 P6 Rv : Nat) (t : Value) (wr : World) : Prop :=
  ∃ (k : Nat) (P : Nat → Nat), k ≤ Ce.H l ∧ t = .int .i64 k ∧ (∀ h, h < k → NxB l h x b0 b1 s0 s1 (P h)) ∧ (∀ h, k ≤ h → P h = 0) ∧ Blk wr P6 114 (plA P) ∧ Blk wr P5 114 (plA (plN x)) ∧ Blk wr Rv 27 (bkA fun _ => 0) ∧ KerAt wr B g l b0 b1 s0 s1 ∧ Below w.heap.size w wr
set_option maxRecDepth 100000 in
set_option maxHeartbeats 2000000 in
theorem bstep_any (B g l b0 b1 s0 s1 : Nat) (hg : Fl.Good l b0 b1 s0 s1) (x : Nat → Nat) (hx : ∀ r, r < 8 → x r < 65536) (w : World) (hK : KerAt w B g l b0 b1 s0 s1) :
    Calls Tryd.prog 26 #[.pointer (some ⟨g, 0, none⟩), .agg (bkA x)] w fun e w' => ∃ Y, e = .returned (.agg (bkA Y)) ∧ BStp l b0 b1 s0 s1 x Y ∧ Below w.heap.size w w' := by
  have hlow := hK.low
  have hgB := hK.1
  have h2 := H2 l
  go_enter Tryd.func26, Tryd.ntmps26
  go_upto_region 1 with fail
  obtain ⟨W0, hW0⟩ : ∃ W0, (w.alloc (.cells (bkA x) 27)).alloc (.cells (bkA fun _ => 0) 27) = W0 := ⟨_, rfl⟩
  have kx : Blk W0 w.heap.size 27 (bkA x) := by rw [← hW0]; exact (Blk.newAt w _ _ _ rfl).alloc _
  have kr : Blk W0 (w.heap.size + 1) 27 (bkA fun _ => 0) := by rw [← hW0]; exact Blk.newAt _ _ _ _ (by simp)
  have hb0 : Below w.heap.size w W0 := by rw [← hW0]; go_grown
  change Code.wp _ _ _ _ ((w.alloc (.cells (bkA x) 27)).alloc (.cells (bkA fun _ => 0) 27))
  rw [hW0]
  clear hW0
  have hK0 := hK.under hb0
  have c0 := (kx.cell 0).trans (bkA_get x 0 (by decide))
  have c1 := (kx.cell 1).trans (bkA_get x 1 (by decide))
  have c2 := (kx.cell 2).trans (bkA_get x 2 (by decide))
  have c3 := (kx.cell 3).trans (bkA_get x 3 (by decide))
  have c4 := (kx.cell 4).trans (bkA_get x 4 (by decide))
  have c5 := (kx.cell 5).trans (bkA_get x 5 (by decide))
  have c6 := (kx.cell 6).trans (bkA_get x 6 (by decide))
  have c7 := (kx.cell 7).trans (bkA_get x 7 (by decide))
  have hl := kx.lt
  go_wp2_with fail
  refine (empty_any x _).mono ?_
  rintro e w1 ⟨rfl, hb1⟩
  have hb01 : Below w.heap.size w w1 := hb0.trans (hb1.mono hb0.size)
  have kx := kx.under hb1
  have kr := kr.under hb1
  have hK1 := hK0.under hb1
  clear c0 c1 c2 c3 c4 c5 c6 c7 hl hb1 hb0 hK0 hK
  cases hnil : nilB x with
  | true =>
    have hz := (nilB_iff x).1 hnil
    have HB := Lib.hid (bstp_nil hg hz)
    have d0 := (kx.cell 0).trans (bkA_get x 0 (by decide))
    have d1 := (kx.cell 1).trans (bkA_get x 1 (by decide))
    have d2 := (kx.cell 2).trans (bkA_get x 2 (by decide))
    have d3 := (kx.cell 3).trans (bkA_get x 3 (by decide))
    have d4 := (kx.cell 4).trans (bkA_get x 4 (by decide))
    have d5 := (kx.cell 5).trans (bkA_get x 5 (by decide))
    have d6 := (kx.cell 6).trans (bkA_get x 6 (by decide))
    have d7 := (kx.cell 7).trans (bkA_get x 7 (by decide))
    have e0 := (kr.cell 0).trans (bkA_get (fun _ => 0) 0 (by decide))
    have e1 := (kr.cell 1).trans (bkA_get (fun _ => 0) 1 (by decide))
    have e2 := (kr.cell 2).trans (bkA_get (fun _ => 0) 2 (by decide))
    have e3 := (kr.cell 3).trans (bkA_get (fun _ => 0) 3 (by decide))
    have e4 := (kr.cell 4).trans (bkA_get (fun _ => 0) 4 (by decide))
    have e5 := (kr.cell 5).trans (bkA_get (fun _ => 0) 5 (by decide))
    have e6 := (kr.cell 6).trans (bkA_get (fun _ => 0) 6 (by decide))
    have e7 := (kr.cell 7).trans (bkA_get (fun _ => 0) 7 (by decide))
    have z0 := kr.frozen 0
    have z1 := kr.frozen 1
    have z2 := kr.frozen 2
    have z3 := kr.frozen 3
    have z4 := kr.frozen 4
    have z5 := kr.frozen 5
    have z6 := kr.frozen 6
    have z7 := kr.frozen 7
    have hl1 := kx.lt
    have hl2 := kr.lt
    clear kx kr hK1 hz hx
    go_wp2_with fail
    exact bodyPost_ret (v := .agg (bkA x)) (by simp [results, Tryd.results26, go_sem, bkA, *]) rfl ⟨x, rfl, HB.out, ((((((((hb01.setCell (p := ⟨w.heap.size + 1, 0, none⟩) (Nat.le_succ _) _).setCell (p := ⟨w.heap.size + 1, 1, none⟩) (Nat.le_succ _) _).setCell (p := ⟨w.heap.size + 1, 2, none⟩) (Nat.le_succ _) _).setCell (p := ⟨w.heap.size + 1, 3, none⟩) (Nat.le_succ _) _).setCell (p := ⟨w.heap.size + 1, 4, none⟩) (Nat.le_succ _) _).setCell (p := ⟨w.heap.size + 1, 5, none⟩) (Nat.le_succ _) _).setCell (p := ⟨w.heap.size + 1, 6, none⟩) (Nat.le_succ _) _).setCell (p := ⟨w.heap.size + 1, 7, none⟩) (Nat.le_succ _) _)⟩
  | false =>
    have c0 := (kx.cell 0).trans (bkA_get x 0 (by decide))
    have c1 := (kx.cell 1).trans (bkA_get x 1 (by decide))
    have c2 := (kx.cell 2).trans (bkA_get x 2 (by decide))
    have c3 := (kx.cell 3).trans (bkA_get x 3 (by decide))
    have c4 := (kx.cell 4).trans (bkA_get x 4 (by decide))
    have c5 := (kx.cell 5).trans (bkA_get x 5 (by decide))
    have c6 := (kx.cell 6).trans (bkA_get x 6 (by decide))
    have c7 := (kx.cell 7).trans (bkA_get x 7 (by decide))
    have hl := kx.lt
    have hpp := planes_any x hx w1
    unfold plA at hpp
    go_wp2_with fail
    refine hpp.mono ?_
    rintro e w2 ⟨rfl, hb2⟩
    have hb02 : Below w.heap.size w w2 := hb01.trans (hb2.mono hb01.size)
    have kr := kr.under hb2
    have hK2 := hK1.under hb2
    clear c0 c1 c2 c3 c4 c5 c6 c7 hl hb2 hb01 hK1 kx hpp
    go_upto_region 5 with fail
    obtain ⟨W2, hW2⟩ : ∃ W2, (w2.alloc (.cells #[.int .u64 (plN x 0), .int .u64 (plN x 1)] 114)).alloc (.cells #[.int .u64 0, .int .u64 0] 114) = W2 := ⟨_, rfl⟩
    have hb2' : Below w2.heap.size w2 W2 := by rw [← hW2]; go_grown
    have k5 : Blk W2 w2.heap.size 114 (plA (plN x)) := by rw [← hW2]; exact (Blk.newAt w2 _ _ _ rfl).alloc _
    have k6 : Blk W2 (w2.heap.size + 1) 114 (plA fun _ => 0) := by rw [← hW2]; exact Blk.newAt _ _ _ _ (by simp)
    have hrx : w.heap.size + 1 < w2.heap.size := kr.lt
    change Code.wp _ _ _ _ ((w2.alloc (.cells #[.int .u64 (plN x 0), .int .u64 (plN x 1)] 114)).alloc (.cells #[.int .u64 0, .int .u64 0] 114))
    rw [hW2]
    clear hW2
    have kr := kr.under hb2'
    have hK3 := hK2.under hb2'
    have hb3 := hb02.trans (hb2'.mono hb02.size)
    have hsz : w.heap.size ≤ w2.heap.size := hb02.size
    clear hb02 hK2 hb2'
    have hlc : W2.cell? ⟨g, 0, none⟩ = some (.int .i64 l) := by obtain ⟨_, _, _, k, _⟩ := hK3; exact k.cell 0
    have hgl : g < W2.heap.size := by have := hK3.low; omega
    have hhl := fun W => halves_l l W
    go_wp2_with fail
    refine (hhl _).mono ?_
    rintro e w' ⟨rfl, rfl⟩
    go_wp2_with fail
    clear hhl hlc hgl
    generalize w2.heap.size = p5 at *
    go_loopw [19] (fun t wr => StR w B g l b0 b1 s0 s1 x p5 (p5 + 1) (w.heap.size + 1) t wr) (fun t _ => 2 - (intOf t).toNat)
    case atStart => exact ⟨0, fun _ => 0, Nat.zero_le _, rfl, fun h hh => absurd hh (Nat.not_lt_zero _), fun _ _ => rfl, k6, k5, kr, hK3, hb3⟩
    case round =>
      clear k6 k5 kr hK3 hb3
      obtain ⟨k, P, hk, rfl, hP, hP0, k6, k5, kr, hK4, hb4⟩ := hrel
      have HP := Lib.hid hP
      have HP0 := Lib.hid hP0
      clear hP hP0
      by_cases hlt : k < Ce.H l
      · have hdb : decide ((k : Int) < ((Ce.H l : Nat) : Int)) = true := by simpa using hlt
        have p0 := (k5.cell 0).trans (plA_get (plN x) 0 (by decide))
        have p1 := (k5.cell 1).trans (plA_get (plN x) 1 (by decide))
        have hl5 := k5.lt
        have hl6 := k6.lt
        have hnx := fun W (hb : Below wr.heap.size wr W) => bnext_any B g l b0 b1 s0 s1 k hg.lat hlt hg.h0 hg.h1 hg.h2 hg.h3 x W (hK4.under hb)
        have hk2 : (k : Int) < 2 := by omega
        go_wp2_with fail
        refine (hnx _ (Below.refl _ _)).mono ?_
        rintro e w5 ⟨z, rfl, hz, hb5⟩
        have hb5' := hb4.trans (hb5.mono hb4.size)
        have k5 := k5.under hb5
        have k6 := k6.under hb5
        have kr := kr.under hb5
        have hK5 := hK4.under hb5
        have hk1 : k < 2 := by omega
        have hl6 := k6.lt
        have hf := k6.frozen k
        have hsome := (k6.cell k).trans (plA_get P k hk1)
        have hps : (plA P).setIfInBounds k (.int .u64 z) = plA fun i => if i = k then z else P i := plA_set P k z hk1
        have k6' : Blk (w5.setCell ⟨p5 + 1, k, none⟩ (.int .u64 z)) (p5 + 1) 114 (plA fun i => if i = k then z else P i) := by rw [← hps]; exact k6.set_ k _
        have k5' := k5.far (p := ⟨p5 + 1, k, none⟩) (by show p5 ≠ p5 + 1; omega) (.int .u64 z)
        have kr' := kr.far (p := ⟨p5 + 1, k, none⟩) (by show w.heap.size + 1 ≠ p5 + 1; omega) (.int .u64 z)
        have hK6 : KerAt (w5.setCell ⟨p5 + 1, k, none⟩ (.int .u64 z)) B g l b0 b1 s0 s1 := hK5.same (by simp) (fun j hj => Below.heap_setCell w5 ⟨p5 + 1, k, none⟩ _ j (by show j ≠ p5 + 1; omega))
        have hb6 := hb5'.setCell (p := ⟨p5 + 1, k, none⟩) (by show w.heap.size ≤ p5 + 1; omega) (.int .u64 z)
        have HA := Lib.hid k6'
        have HB := Lib.hid k5'
        have HC := Lib.hid kr'
        have HD := Lib.hid hK6
        have HE := Lib.hid hb6
        clear k6' k5' kr' hK6 hb6 hnx hb5 hb5' p0 p1 hl5 hK4 hb4 hK5 hps
        go_wp2_with fail
        exact ⟨⟨k + 1, _, by omega, by go_num, fun h hh => by
          by_cases e : h = k
          · subst e; rw [if_pos rfl]; exact hz
          · rw [if_neg e]; exact HP.out h (by omega), fun h hh => by rw [if_neg (by omega)]; exact HP0.out h (by omega), HA.out, HB.out, HC.out, HD.out, HE.out⟩, by simp [intOf]; omega⟩
      · obtain rfl : k = Ce.H l := by omega
        have hPl : ∀ h, h < 2 → P h < 2 ^ 64 := fun h _ => by
          by_cases e : h < Ce.H l
          · exact (HP.out h e).1
          · rw [HP0.out h (by omega)]; decide
        have HY := Lib.hid (bstp_of (x := x) HP.out fun h e => HP0.out h (by omega))
        have htg := together_any P hPl wr
        unfold plA at htg
        have p0 := (k6.cell 0).trans (plA_get P 0 (by decide))
        have p1 := (k6.cell 1).trans (plA_get P 1 (by decide))
        have hl6 := k6.lt
        clear k5 k6 hK4 hPl
        go_wp2_with fail
        refine htg.mono ?_
        rintro e w5 ⟨rfl, hb5⟩
        have kr5 := kr.under hb5
        have hb5 := hb4.trans (hb5.mono hb4.size)
        have hl1 := kr5.lt
        have e0 := (kr5.cell 0).trans (bkA_get (fun _ => 0) 0 (by decide))
        have z0 := kr5.frozen 0
        have e1 := (kr5.cell 1).trans (bkA_get (fun _ => 0) 1 (by decide))
        have z1 := kr5.frozen 1
        have e2 := (kr5.cell 2).trans (bkA_get (fun _ => 0) 2 (by decide))
        have z2 := kr5.frozen 2
        have e3 := (kr5.cell 3).trans (bkA_get (fun _ => 0) 3 (by decide))
        have z3 := kr5.frozen 3
        have e4 := (kr5.cell 4).trans (bkA_get (fun _ => 0) 4 (by decide))
        have z4 := kr5.frozen 4
        have e5 := (kr5.cell 5).trans (bkA_get (fun _ => 0) 5 (by decide))
        have z5 := kr5.frozen 5
        have e6 := (kr5.cell 6).trans (bkA_get (fun _ => 0) 6 (by decide))
        have z6 := kr5.frozen 6
        have e7 := (kr5.cell 7).trans (bkA_get (fun _ => 0) 7 (by decide))
        have z7 := kr5.frozen 7
        clear kr kr5 hb4 htg p0 p1 hl6
        unfold bkA
        go_wp2_with fail
        exact bodyPost_ret (v := .agg (bkA (tgB P))) (by simp [results, Tryd.results26, go_sem, bkA, *]) rfl ⟨tgB P, rfl, HY.out, ((((((((hb5.setCell (p := ⟨w.heap.size + 1, 0, none⟩) (Nat.le_succ _) _).setCell (p := ⟨w.heap.size + 1, 1, none⟩) (Nat.le_succ _) _).setCell (p := ⟨w.heap.size + 1, 2, none⟩) (Nat.le_succ _) _).setCell (p := ⟨w.heap.size + 1, 3, none⟩) (Nat.le_succ _) _).setCell (p := ⟨w.heap.size + 1, 4, none⟩) (Nat.le_succ _) _).setCell (p := ⟨w.heap.size + 1, 5, none⟩) (Nat.le_succ _) _).setCell (p := ⟨w.heap.size + 1, 6, none⟩) (Nat.le_succ _) _).setCell (p := ⟨w.heap.size + 1, 7, none⟩) (Nat.le_succ _) _)⟩
end Go.Proofs.YtcmfkdhadmfgkaaDoor.Bk
