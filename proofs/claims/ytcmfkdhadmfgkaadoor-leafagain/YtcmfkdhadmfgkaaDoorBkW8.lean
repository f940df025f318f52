/- Several texts, joined. -/
import Derived.Test.YtcmfkdhadmfgkaaDoorBkP1
import Derived.Test.YtcmfkdhadmfgkaaDoorBkW6
import Derived.Test.YtcmfkdhadmfgkaaDoorBkEq
import Derived.Test.YtcmfkdhadmfgkaaDoorTbW6
import Derived.Test.YtcmfkdhadmfgkaaDoorFlG
/- Contracts of package block: spread, together. -/
namespace Go.Proofs.YtcmfkdhadmfgkaaDoor.Bk
open Go.RowKit Go.Proofs.YtcmfkdhadmfgkaaDoor.Ba Go.Proofs.YtcmfkdhadmfgkaaDoor.Si Go.Lib

theorem sp_od (b : Nat) (h : b < 256) : spN b = od b := sp_fin ⟨b, h⟩
theorem spread_any (b : Nat) (h : b < 256) (w : World) :
    Calls Tryd.prog 78 #[.int .u8 b] w fun e w' => e = .returned (.int .u16 (od b)) ∧ w = w' := by
  rw [← sp_od b h]
  have hs : spN b = sp3 (sp2 (sp1 b)) := rfl
  rw [hs]
  clear hs
  have key : ∀ (r k m : Nat), r < 65536 → m < 65536 → bits .or .u16 (r : Int) (IntKind.u16.wrap ((r : Int) * k)) = ((r ||| r * k % 65536 : Nat) : Int) ∧ bits .and .u16 ((r ||| r * k % 65536 : Nat) : Int) (m : Int) = (((r ||| r * k % 65536) &&& m : Nat) : Int) ∧ ((r ||| r * k % 65536) &&& m) < 65536 := by
    intro r k m hr hm
    have hk : r * k % 65536 < 65536 := Nat.mod_lt _ (by decide)
    have h1 := u16_or_nat r (r * k % 65536) hr hk
    have h2 : r ||| r * k % 65536 < 65536 := Nat.or_lt_two_pow (n := 16) hr hk
    refine ⟨?_, u16_and_nat _ m h2 hm, Nat.lt_of_le_of_lt Nat.and_le_left h2⟩
    rw [← h1, IntKind.wrap_u16]
    simp
  obtain ⟨o1, a1, l1⟩ := key b 16 3855 (by omega) (by decide)
  have s1 : (b ||| b * 16 % 65536) &&& 3855 = sp1 b := rfl
  rw [s1] at a1 l1
  rw [show IntKind.u16.wrap ((b : Int) * (16 : Nat)) = (b : Int) * 16 by rw [IntKind.wrap_u16]; omega] at o1
  clear s1
  generalize b ||| b * 16 % 65536 = t1 at *
  generalize sp1 b = r1 at *
  obtain ⟨o2, a2, l2⟩ := key r1 4 13107 l1 (by decide)
  have s2 : (r1 ||| r1 * 4 % 65536) &&& 13107 = sp2 r1 := rfl
  rw [s2] at a2 l2
  clear s2
  generalize r1 ||| r1 * 4 % 65536 = t2 at *
  generalize sp2 r1 = r2 at *
  obtain ⟨o3, a3, l3⟩ := key r2 2 21845 l2 (by decide)
  have s3 : (r2 ||| r2 * 2 % 65536) &&& 21845 = sp3 r2 := rfl
  rw [s3] at a3 l3
  clear s3
  generalize r2 ||| r2 * 2 % 65536 = t3 at *
  generalize sp3 r2 = r3 at *
  clear key
  simp only [show ((4 : Nat) : Int) = 4 from rfl, show ((2 : Nat) : Int) = 2 from rfl, show ((3855 : Nat) : Int) = 3855 from rfl, show ((13107 : Nat) : Int) = 13107 from rfl, show ((21845 : Nat) : Int) = 21845 from rfl] at o2 o3 a1 a2 a3
  go_enter Tryd.func78, Tryd.ntmps78
  go_wp2
  go_ret
  exact ⟨rfl, rfl⟩
/-! together. -/
theorem idx_p (P : Nat → Nat) (k : Nat) (h : k < 2) (W : World) : (Instr.index 114 (.agg #[.int .u64 (P 0), .int .u64 (P 1)]) (.int .i64 (k : Int))).run Tryd.prog W = .ok (.int .u64 (P k)) W := by
  have h2 : k = 0 ∨ k = 1 := by omega
  clear h
  rcases h2 with rfl | rfl
  all_goals
    refine Eq.trans (b := Result.ok (.int .u64 _) W) ?_ rfl
    kernel_rfl
/-- A row of which so many Halves are laid. -/
def tgH (P : Nat → Nat) (b : Nat) : Nat → Nat
  | 0 => 0
  | 1 => od (P 0 / 2 ^ (8 * b) % 256)
  | _ => tgR (P 0) (P 1) b
def tgB (P : Nat → Nat) (b : Nat) : Nat := tgR (P 0) (P 1) b
theorem od_half (b : Nat) (h : b < 256) : od b < 32768 := by
  have : ∀ b : Fin 256, od b.val < 32768 := by decide +kernel
  exact this ⟨b, h⟩
theorem tg_or (P : Nat → Nat) (b h : Nat) (hh : h < 2) : bits .or .u16 ((tgH P b h : Nat) : Int) (IntKind.u16.wrap (((od (P h / 2 ^ (8 * b) % 256) : Nat) : Int) * 2 ^ h)) = ((tgH P b (h + 1) : Nat) : Int) := by
  have h2 : h = 0 ∨ h = 1 := by omega
  rcases h2 with rfl | rfl
  · have h1 := od_half (P 0 / 2 ^ (8 * b) % 256) (Nat.mod_lt _ (by decide))
    have := u16_or_nat 0 (od (P 0 / 2 ^ (8 * b) % 256)) (by decide) (by omega)
    rw [Nat.zero_or] at this
    rw [IntKind.wrap_u16, Int.pow_zero, Int.mul_one, show ((od (P 0 / 2 ^ (8 * b) % 256) : Nat) : Int) % 65536 = ((od (P 0 / 2 ^ (8 * b) % 256) : Nat) : Int) by omega]
    exact this
  · have h1 := od_half (P 1 / 2 ^ (8 * b) % 256) (Nat.mod_lt _ (by decide))
    have h0 := od_half (P 0 / 2 ^ (8 * b) % 256) (Nat.mod_lt _ (by decide))
    have := u16_or_nat (od (P 0 / 2 ^ (8 * b) % 256)) (od (P 1 / 2 ^ (8 * b) % 256) * 2) (by omega) (by omega)
    rw [IntKind.wrap_u16, Int.pow_one, show ((od (P 1 / 2 ^ (8 * b) % 256) : Nat) : Int) * 2 % 65536 = ((od (P 1 / 2 ^ (8 * b) % 256) * 2 : Nat) : Int) by omega]
    exact this
def TgR (w : World) (P : Nat → Nat) (t : Value) (wr : World) : Prop := ∃ (k : Nat) (x : Nat → Nat), k ≤ 8 ∧ t = .int .i64 k ∧ (∀ r, r < 8 → x r = if r < k then tgB P r else 0) ∧ Blk wr (w.heap.size + 2) 27 (bkA x) ∧ Blk wr (w.heap.size + 1) 27 (bkA fun _ => 0) ∧ Blk wr w.heap.size 114 (plA P) ∧ Below w.heap.size w wr
def TgI (w : World) (P : Nat → Nat) (k : Nat) (t : Value) (wr : World) : Prop := ∃ (h : Nat) (x : Nat → Nat), h ≤ 2 ∧ t = .int .i64 h ∧ (∀ r, r < 8 → x r = if r < k then tgB P r else if r = k then tgH P k h else 0) ∧ Blk wr (w.heap.size + 2) 27 (bkA x) ∧ Blk wr (w.heap.size + 1) 27 (bkA fun _ => 0) ∧ Blk wr w.heap.size 114 (plA P) ∧ Below w.heap.size w wr
set_option maxRecDepth 100000 in
set_option maxHeartbeats 1000000 in
theorem together_any (P : Nat → Nat) (hP : ∀ h, h < 2 → P h < 2 ^ 64) (w : World) :
    Calls Tryd.prog 57 #[.agg (plA P)] w fun e w' => e = .returned (.agg (bkA (tgB P))) ∧ Below w.heap.size w w' := by
  have HP := Lib.hid hP
  clear hP
  go_enter Tryd.func57, Tryd.ntmps57
  go_upto_region 2 with fail
  obtain ⟨W0, hW0⟩ : ∃ W0, ((w.alloc (.cells (plA P) 114)).alloc (.cells (bkA fun _ => 0) 27)).alloc (.cells (bkA fun _ => 0) 27) = W0 := ⟨_, rfl⟩
  have kp : Blk W0 w.heap.size 114 (plA P) := by rw [← hW0]; exact ((Blk.newAt w _ _ _ rfl).alloc _).alloc _
  have k1 : Blk W0 (w.heap.size + 1) 27 (bkA fun _ => 0) := by rw [← hW0]; exact (Blk.newAt _ _ _ _ (by simp)).alloc _
  have k2 : Blk W0 (w.heap.size + 2) 27 (bkA fun _ => 0) := by rw [← hW0]; exact Blk.newAt _ _ _ _ (by simp)
  have hB0 : Below w.heap.size w W0 := by rw [← hW0]; go_grown
  change Code.wp _ _ _ _ (((w.alloc (.cells (plA P) 114)).alloc (.cells (bkA fun _ => 0) 27)).alloc (.cells (bkA fun _ => 0) 27))
  rw [hW0]
  clear hW0
  go_wp2_with fail
  go_loopw [7] (fun t wr => TgR w P t wr) (fun t _ => 8 - (intOf t).toNat)
  case atStart => exact ⟨0, fun _ => 0, by omega, rfl, fun r _ => by simp, k2, k1, kp, hB0⟩
  case round =>
    clear k1 k2 hB0 kp
    obtain ⟨k, x, hk, rfl, hx, k2, k1, kp, hB⟩ := hrel
    by_cases hlt : k < 8
    · have hdb : decide ((k : Int) < 8) = true := by simp; omega
      have c0 := (kp.cell 0).trans (plA_get P 0 (by decide))
      have c1 := (kp.cell 1).trans (plA_get P 1 (by decide))
      have hlp := kp.lt
      have HX := Lib.hid hx
      clear hx
      go_wp2_with fail
      clear hdb c0 c1 hlp
      go_loopw [11] (fun t wr => TgI w P k t wr) (fun t _ => 2 - (intOf t).toNat)
      case atStart => exact ⟨0, x, by omega, rfl, fun r hr => by rw [HX.out r hr]; split; rfl; split <;> rfl, k2, k1, kp, hB⟩
      case round =>
        clear k1 k2 hB HX x kp
        obtain ⟨h, x, hh, rfl, hx, k2, k1, kp, hB⟩ := hrel
        by_cases hlh : h < 2
        · have hdh : decide ((h : Int) < 2) = true := by simp; omega
          have hidx := idx_p P h hlh
          have hc := (k2.cell k).trans (bkA_get x k hlt)
          have hz := k2.frozen k
          have hl := k2.lt
          have hk8 : (k : Int) < 8 := by omega
          obtain ⟨q, hq⟩ : ∃ q : Nat, 8 * k = q := ⟨_, rfl⟩
          have hq2 : (8 : Int) * (k : Int) = (q : Int) := by omega
          have hq64 : q < 64 := by omega
          have hph := HP.out h hlh
          have e : IntKind.u8.wrap ((P h : Int) / 2 ^ q) = ((P h / 2 ^ q % 256 : Nat) : Int) := by rw [IntKind.wrap_u8]; simp
          have hsp : ∀ W, Calls Tryd.prog 78 #[.int .u8 (IntKind.u8.wrap ((P h : Int) / 2 ^ q))] W fun e w' => e = .returned (.int .u16 (od (P h / 2 ^ q % 256) : Nat)) ∧ W = w' := fun W => by
            rw [e]
            exact spread_any (P h / 2 ^ q % 256) (Nat.mod_lt _ (by decide)) W
          have ho := tg_or P k h hlh
          have hxk := hx k hlt
          rw [if_neg (Nat.lt_irrefl k), if_pos rfl] at hxk
          rw [← hxk, hq] at ho
          have hw1 : IntKind.i64.wrap (q : Int) = (q : Int) := IntWalk.i64_in _ (by omega)
          have HO := Lib.hid ho
          have HX := Lib.hid hx
          clear e ho hxk hx hq hk8
          go_upto_region 8 with fail
          go_region_with (first | (go_at_call 78; refine (hsp _).mono ?_; rintro e w' ⟨rfl, rfl⟩))
          all_goals
            have HY : Hid (∀ i, i < 8 → (if i = k then tgH P k (h + 1) else x i) = if i < k then tgB P i else if i = k then tgH P k (h + 1) else 0) := Lib.hid fun i hi => by
              by_cases e : i = k
              · rw [if_pos e, if_neg (by omega), if_pos e]
              · rw [if_neg e, HX.out i hi, if_neg e, if_neg e]
            have k2' : Blk (wr.setCell ⟨w.heap.size + 2, k, none⟩ (.int .u16 (tgH P k (h + 1) : Nat))) (w.heap.size + 2) 27 (bkA fun i => if i = k then tgH P k (h + 1) else x i) := by
              rw [← bkA_set x k _ hlt]
              exact k2.set_ k _
            have k1' := k1.far (p := ⟨w.heap.size + 2, k, none⟩) (by show w.heap.size + 1 ≠ w.heap.size + 2; omega) (.int .u16 (tgH P k (h + 1) : Nat))
            have kp' := kp.far (p := ⟨w.heap.size + 2, k, none⟩) (by show w.heap.size ≠ w.heap.size + 2; omega) (.int .u16 (tgH P k (h + 1) : Nat))
            have hB' := hB.setCell (p := ⟨w.heap.size + 2, k, none⟩) (by show w.heap.size ≤ w.heap.size + 2; omega) (.int .u16 (tgH P k (h + 1) : Nat))
            have HK := Lib.hid k2'
            have HK1 := Lib.hid k1'
            have HKp := Lib.hid kp'
            have HBB := Lib.hid hB'
            clear k2' k1' kp' hB' hw1 hsp hc hz hidx
          all_goals go_wp2_with fail
          all_goals
            rw [HO.out]
            exact ⟨⟨h + 1, _, by omega, by go_num, HY.out, HK.out, HK1.out, HKp.out, HBB.out.trans ⟨rfl, rfl, rfl, Nat.le_refl _, fun _ _ => rfl⟩⟩, by simp [intOf]; omega⟩
        · obtain rfl : h = 2 := by omega
          have HY : Hid (∀ i, i < 8 → x i = if i < k + 1 then tgB P i else 0) := Lib.hid fun i hi => by
            rw [hx i hi]
            by_cases e : i < k
            · rw [if_pos e, if_pos (by omega)]
            · rw [if_neg e]
              by_cases e2 : i = k
              · rw [if_pos e2, if_pos (by omega), e2]; rfl
              · rw [if_neg e2, if_neg (by omega)]
          clear hx
          go_wp2_with fail
          exact ⟨⟨k + 1, x, by omega, by go_num, HY.out, k2, k1, kp, hB⟩, by simp [intOf]; omega⟩
    · obtain rfl : k = 8 := by omega
      have e : bkA x = bkA (tgB P) := by
        unfold bkA
        rw [hx 0 (by decide), hx 1 (by decide), hx 2 (by decide), hx 3 (by decide), hx 4 (by decide), hx 5 (by decide), hx 6 (by decide), hx 7 (by decide)]
        rfl
      rw [e] at k2
      have hl1 := k1.lt
      have hl2 := k2.lt
      have d0 := (k2.cell 0).trans (bkA_get _ 0 (by decide))
      have d1 := (k2.cell 1).trans (bkA_get _ 1 (by decide))
      have d2 := (k2.cell 2).trans (bkA_get _ 2 (by decide))
      have d3 := (k2.cell 3).trans (bkA_get _ 3 (by decide))
      have d4 := (k2.cell 4).trans (bkA_get _ 4 (by decide))
      have d5 := (k2.cell 5).trans (bkA_get _ 5 (by decide))
      have d6 := (k2.cell 6).trans (bkA_get _ 6 (by decide))
      have d7 := (k2.cell 7).trans (bkA_get _ 7 (by decide))
      have e0 := (k1.cell 0).trans (bkA_get (fun _ => 0) 0 (by decide))
      have z0 := k1.frozen 0
      have e1 := (k1.cell 1).trans (bkA_get (fun _ => 0) 1 (by decide))
      have z1 := k1.frozen 1
      have e2 := (k1.cell 2).trans (bkA_get (fun _ => 0) 2 (by decide))
      have z2 := k1.frozen 2
      have e3 := (k1.cell 3).trans (bkA_get (fun _ => 0) 3 (by decide))
      have z3 := k1.frozen 3
      have e4 := (k1.cell 4).trans (bkA_get (fun _ => 0) 4 (by decide))
      have z4 := k1.frozen 4
      have e5 := (k1.cell 5).trans (bkA_get (fun _ => 0) 5 (by decide))
      have z5 := k1.frozen 5
      have e6 := (k1.cell 6).trans (bkA_get (fun _ => 0) 6 (by decide))
      have z6 := k1.frozen 6
      have e7 := (k1.cell 7).trans (bkA_get (fun _ => 0) 7 (by decide))
      have z7 := k1.frozen 7
      clear hx e kp k1 k2
      go_wp2_with fail
      exact bodyPost_ret (v := .agg (bkA (tgB P))) (by simp [results, Tryd.results57, go_sem, bkA, *]) rfl ⟨rfl, ((((((((hB.setCell (p := ⟨w.heap.size + 1, 0, none⟩) (Nat.le_succ _) _).setCell (p := ⟨w.heap.size + 1, 1, none⟩) (Nat.le_succ _) _).setCell (p := ⟨w.heap.size + 1, 2, none⟩) (Nat.le_succ _) _).setCell (p := ⟨w.heap.size + 1, 3, none⟩) (Nat.le_succ _) _).setCell (p := ⟨w.heap.size + 1, 4, none⟩) (Nat.le_succ _) _).setCell (p := ⟨w.heap.size + 1, 5, none⟩) (Nat.le_succ _) _).setCell (p := ⟨w.heap.size + 1, 6, none⟩) (Nat.le_succ _) _).setCell (p := ⟨w.heap.size + 1, 7, none⟩) (Nat.le_succ _) _)⟩
end Go.Proofs.YtcmfkdhadmfgkaaDoor.Bk

/- Contracts of package block: next, Step, Table. -/
namespace Go.Proofs.YtcmfkdhadmfgkaaDoor.Bk
open Go.RowKit Go.Proofs.YtcmfkdhadmfgkaaDoor.Ba Go.Proofs.YtcmfkdhadmfgkaaDoor.Si Go.Lib
open Go.Proofs.YtcmfkdhadmfgkaaDoor.Fl (C)
open Go.Proofs.YtcmfkdhadmfgkaaDoor.Tb (sel)

theorem mix_int2 (d lo hi : Nat) (hd : d < 2 ^ 64) (hl : lo < 2 ^ 64) (hh : hi < 2 ^ 64) : bits .or .u64 (bits .and .u64 d hi) (bits .and .u64 ((d ^^^ 18446744073709551615 : Nat) : Int) lo) = ((mixN d lo hi : Nat) : Int) := by
  have h1 : d ^^^ 18446744073709551615 < 2 ^ 64 := Nat.xor_lt_two_pow hd (by decide)
  rw [Tb.u64_and _ _ h1 hl, Tb.u64_and _ _ hd hh, Tb.u64_or _ _ (Nat.lt_of_le_of_lt Nat.and_le_right hh) (Nat.lt_of_le_of_lt Nat.and_le_right hl), Nat.or_comm]
  rfl
/-- The next generation's plane. -/
def NxB (l h : Nat) (x : Nat → Nat) (b0 b1 s0 s1 z : Nat) : Prop := z < 2 ^ 64 ∧ ∀ n, n < 64 → z.testBit n = (sel b0 b1 s0 s1 h ((plN x h).testBit n)).testBit (numS l x (NB l h) n)
theorem nx_of {l h : Nat} {x : Nat → Nat} {b0 b1 s0 s1 zb zs : Nat} (hb : ChB (sel b0 b1 s0 s1 h false) (dgT l h x (NB l h).length) zb) (hs : ChB (sel b0 b1 s0 s1 h true) (dgT l h x (NB l h).length) zs) : NxB l h x b0 b1 s0 s1 (mixN (plN x h) zb zs) := by
  refine ⟨mix_lt hb.1 hs.1, fun n hn => ?_⟩
  rw [mix_bit hn, hb.2 n hn, hs.2 n hn]
  unfold numS dgT
  rw [List.take_of_length_le (Nat.le_refl _)]
  cases (plN x h).testBit n <;> rfl
set_option maxRecDepth 100000 in
set_option maxHeartbeats 2000000 in
theorem bnext_any (B g l b0 b1 s0 s1 h : Nat) (hl : l = 1 ∨ l = 2 ∨ l = 3) (hh : h < Ce.H l) (q0 : b0 < 2 ^ 64) (q1 : b1 < 2 ^ 64) (q2 : s0 < 2 ^ 64) (q3 : s1 < 2 ^ 64) (x : Nat → Nat) (w : World) (hK : KerAt w B g l b0 b1 s0 s1) :
    Calls Tryd.prog 56 #[.pointer (some ⟨g, 0, none⟩), .agg (plA (plN x)), .int .i64 h] w fun e w' => ∃ z : Nat, e = .returned (.int .u64 z) ∧ NxB l h x b0 b1 s0 s1 z ∧ Below w.heap.size w w' := by
  have h2 := H2 l
  have hh2 : (h : Int) < 2 := by omega
  have hB := hK.low
  have hgB := hK.1
  go_enter Tryd.func56, Tryd.ntmps56
  go_upto_region 2 with fail
  obtain ⟨W0, hW0⟩ : ∃ W0, (w.alloc (.cells (plA (plN x)) 114)).alloc (.cells #[.int .u64 0, .int .u64 0, .int .u64 0, .int .u64 0, .int .u64 0, .int .u64 0] 152) = W0 := ⟨_, rfl⟩
  have kp : Blk W0 w.heap.size 114 (plA (plN x)) := by rw [← hW0]; exact (Blk.newAt w _ _ _ rfl).alloc _
  have kr : Blk W0 (w.heap.size + 1) 152 #[.int .u64 0, .int .u64 0, .int .u64 0, .int .u64 0, .int .u64 0, .int .u64 0] := by rw [← hW0]; exact Blk.newAt _ _ _ _ (by simp)
  have hb0 : Below w.heap.size w W0 := by rw [← hW0]; go_grown
  change Code.wp _ _ _ _ ((w.alloc (.cells (plA (plN x)) 114)).alloc (.cells #[.int .u64 0, .int .u64 0, .int .u64 0, .int .u64 0, .int .u64 0, .int .u64 0] 152))
  rw [hW0]
  clear hW0
  have hr : RmAt W0 (w.heap.size + 1) [] := ⟨by simp, _, rfl, kr, fun i d hd => by simp at hd⟩
  have hK0 := hK.under hb0
  have hn : ∀ W : World, W.heap = W0.heap → Calls Tryd.prog 76 #[.pointer (some ⟨g, 0, none⟩), .agg (plA (plN x)), .int .i64 h, .slice (some ⟨w.heap.size + 1, 0, none⟩) 0 6] W fun e w' => e = .returned (.slice (some ⟨w.heap.size + 1, 0, none⟩) (dgT l h x (NB l h).length).length 6) ∧ RmAt w' (w.heap.size + 1) (dgT l h x (NB l h).length) ∧ W.grownBy w' (some (w.heap.size + 1)) := fun W e =>
    neigh_any B g l b0 b1 s0 s1 h (w.heap.size + 1) hl hh x W (hK0.same (by rw [e]; exact Nat.le_refl _) (fun k _ => by rw [e])) (by omega) (hr.same (by rw [e]))
  have p0 := (kp.cell 0).trans (plA_get (plN x) 0 (by decide))
  have p1 := (kp.cell 1).trans (plA_get (plN x) 1 (by decide))
  have hpl := kp.lt
  have hrl := kr.lt
  have HK := Lib.hid hK0
  clear hK hK0 hr kr
  have hdl := dgT_lt l h x (NB l h).length
  have HNx : Hid (∀ zb zs, ChB (sel b0 b1 s0 s1 h false) (dgT l h x (NB l h).length) zb → ChB (sel b0 b1 s0 s1 h true) (dgT l h x (NB l h).length) zs → NxB l h x b0 b1 s0 s1 (mixN (plN x h) zb zs)) := Lib.hid fun zb zs hb hs => nx_of hb hs
  generalize dgT l h x (NB l h).length = D at *
  go_region_with (go_at_call 76; refine (hn W0.drew rfl).mono ?_; rintro e w1 ⟨rfl, hR1, hgr⟩)
  all_goals
    have hgr : W0.grownBy w1 (some (w.heap.size + 1)) := ⟨hgr.os, hgr.tape, hgr.output, hgr.size, hgr.block⟩
    have kp1 := kp.grown hgr (fun e => by injection e with e; omega)
    have hb1 : Below w.heap.size w w1 := hb0.grown hgr hb0.size (fun k hk => by injection hk with hk; omega)
    have hK1 := HK.out.same hgr.size (fun k hk => hgr.block k (by have := HK.out.low; omega) (fun e => by injection e with e; omega))
    have hc := (kp1.cell h).trans (plA_get (plN x) h (by omega))
    have hpl1 := kp1.lt
    have hgl1 : g < w1.heap.size := by omega
    obtain ⟨_, v0, v1, kk, _, _⟩ := hK1
    obtain ⟨bh, hbh⟩ : ∃ b, sel b0 b1 s0 s1 h false = b := ⟨_, rfl⟩
    obtain ⟨sh, hsh⟩ : ∃ b, sel b0 b1 s0 s1 h true = b := ⟨_, rfl⟩
    have hcb : w1.cell? ⟨g, 1 + h, none⟩ = some (.int .u64 bh) := by
      rw [kk.cell (1 + h) (by omega), ← hbh]
      have : h = 0 ∨ h = 1 := by omega
      rcases this with rfl | rfl <;> rfl
    have hcs : w1.cell? ⟨g, 3 + h, none⟩ = some (.int .u64 sh) := by
      rw [kk.cell (3 + h) (by omega), ← hsh]
      have : h = 0 ∨ h = 1 := by omega
      rcases this with rfl | rfl <;> rfl
    have hbl : bh < 2 ^ 64 := by rw [← hbh]; exact Tb.sel_lt q0 q1 q2 q3 h false
    have hsl : sh < 2 ^ 64 := by rw [← hsh]; exact Tb.sel_lt q0 q1 q2 q3 h true
    have HN := Lib.hid (show ∀ zb zs, ChB bh D zb → ChB sh D zs → NxB l h x b0 b1 s0 s1 (mixN (plN x h) zb zs) by rw [← hbh, ← hsh]; exact HNx.out)
    clear HNx hbh hsh kk hgr kp kp1 p0 p1 hpl hrl hn HK
    have hx := xor_ones (plN x h) (plN_lt x h)
    have hpn := plN_lt x h
    generalize plN x h = pl at *
    have HX := Lib.hid (fun zb zs h1 h2 => mix_int2 pl zb zs hpn h1 h2)
    have keep : ∀ W', Below w1.heap.size w1.drew W' → W'.cell? ⟨g, 1 + h, none⟩ = some (.int .u64 bh) ∧ W'.cell? ⟨g, 3 + h, none⟩ = some (.int .u64 sh) := fun W' hb => ⟨(hb.cell (p := ⟨g, 1 + h, none⟩) hgl1).trans hcb, (hb.cell (p := ⟨g, 3 + h, none⟩) hgl1).trans hcs⟩
    have hR2 : RmAt w1.drew (w.heap.size + 1) D := hR1
    have hchb : ∀ W', Below w1.heap.size w1.drew W' → Calls Tryd.prog 77 #[.int .u64 bh, .slice (some ⟨w.heap.size + 1, 0, none⟩) D.length 6] W' fun e w' => ∃ z : Nat, e = .returned (.int .u64 z) ∧ ChB bh D z ∧ Below W'.heap.size W' w' := fun W' hb => choose_any D bh _ W' hbl hdl (hR2.under hb)
    have hchs : Calls Tryd.prog 77 #[.int .u64 sh, .slice (some ⟨w.heap.size + 1, 0, none⟩) D.length 6] w1.drew fun e w' => ∃ z : Nat, e = .returned (.int .u64 z) ∧ ChB sh D z ∧ Below w1.heap.size w1.drew w' := choose_any D sh _ _ hsl hdl hR2
    clear hR1 hR2
    go_upto_region 4 with fail
    go_region_held3 (fun w' => w'.cell? ⟨g, 1 + h, none⟩ = some (.int .u64 bh) ∧ w'.cell? ⟨g, 3 + h, none⟩ = some (.int .u64 sh)) (first | exact keep _ (Below.refl _ _) | exact ⟨hcb, hcs⟩)
      (first
        | (go_at_call 77; (with_reducible refine Calls.mono (hchb _ hkb) ?_); rintro e wY ⟨zb, rfl, hzb, hbY⟩; have hkc : Below w1.heap.size w1.drew wY := hkb.trans (hbY.mono hkb.size); clear hbY; obtain ⟨hcb, hcs⟩ := keep _ hkc)
        | (go_at_call 77; (with_reducible refine Calls.mono hchs ?_); rintro e wZ ⟨zs, rfl, hzs, hkb⟩; obtain ⟨hcb, hcs⟩ := keep _ hkb))
  all_goals
    go_wp2_with fail
    go_ret
  all_goals
    refine ⟨mixN pl zb zs, ?_, HN.out zb zs hzb hzs, hb1.trans (((show Below w1.heap.size w1 w1.drew from ⟨rfl, rfl, rfl, Nat.le_refl _, fun _ _ => rfl⟩).trans hkc).mono hb1.size)⟩
    rw [← HX.out zb zs hzb.1 hzs.1]
    rfl
end Go.Proofs.YtcmfkdhadmfgkaaDoor.Bk

/- The contract of a kernel's Step. -/
namespace Go.Proofs.YtcmfkdhadmfgkaaDoor.Bk
open Go.RowKit Go.Proofs.YtcmfkdhadmfgkaaDoor.Ba Go.Proofs.YtcmfkdhadmfgkaaDoor.Si Go.Lib
open Go.Proofs.YtcmfkdhadmfgkaaDoor.Fl (C valid nbC nb_nil nxT bare_of)
open Go.Proofs.YtcmfkdhadmfgkaaDoor.Tb (sel)

/-- The next generation of a block, with none outside. -/
structure BStp (l b0 b1 s0 s1 : Nat) (x Y : Nat → Nat) : Prop where
  lt : ∀ r, r < 8 → Y r < 65536
  bit : ∀ n h, n < 64 → h < 2 → (Y (n / 8)).testBit (2 * (n % 8) + h) = (decide (h < Ce.H l) && (sel b0 b1 s0 s1 h ((plN x h).testBit n)).testBit (numS l x (NB l h) n))
theorem tgB_bit (P : Nat → Nat) (n h : Nat) (hh : h < 2) : (tgB P (n / 8)).testBit (2 * (n % 8) + h) = (P h).testBit n := by
  unfold tgB
  rw [tgR_bit _ _ _ _ (by omega)]
  have h2 : h = 0 ∨ h = 1 := by omega
  have e : 8 * (n / 8) + n % 8 = n := by omega
  rcases h2 with rfl | rfl
  · rw [if_pos (by omega), show (2 * (n % 8) + 0) / 2 = n % 8 by omega, e]
  · rw [if_neg (by omega), show (2 * (n % 8) + 1) / 2 = n % 8 by omega, e]
theorem bstp_of {l b0 b1 s0 s1 : Nat} {x P : Nat → Nat} (h : ∀ h, h < Ce.H l → NxB l h x b0 b1 s0 s1 (P h)) (h0 : ∀ h, ¬ h < Ce.H l → P h = 0) : BStp l b0 b1 s0 s1 x (tgB P) := by
  refine ⟨fun r _ => tgR_lt _ _ _, fun n k hn hk => ?_⟩
  rw [tgB_bit P n k hk]
  by_cases e : k < Ce.H l
  · rw [(h k e).2 n hn]
    simp [e]
  · rw [h0 k e]
    simp [e]
theorem plN_nil {x : Nat → Nat} (h : ∀ r, r < 8 → x r = 0) (k n : Nat) : (plN x k).testBit n = false := by
  rw [plN_bit]
  by_cases hn : n < 64
  · rw [h _ (by omega)]; simp
  · simp [hn]
theorem liv_nil {x : Nat → Nat} (h : ∀ r, r < 8 → x r = 0) (c : C) : liv x c = false := by
  unfold liv
  by_cases hc : (0 ≤ c.1 ∧ c.1 < 8) ∧ (0 ≤ c.2.1 ∧ c.2.1 < 8)
  · rw [h _ (by omega)]; simp
  · simp [hc]
theorem H_val {l h : Nat} (hh : h < Ce.H l) (n : Nat) : valid l (plc n h) := by
  unfold valid plc Ce.H at *
  dsimp only
  split at hh <;> split <;> omega
theorem bstp_nil {l b0 b1 s0 s1 : Nat} (hg : Fl.Good l b0 b1 s0 s1) {x : Nat → Nat} (h : ∀ r, r < 8 → x r = 0) : BStp l b0 b1 s0 s1 x x := by
  refine ⟨fun r hr => by rw [h r hr]; decide, fun n k hn hk => ?_⟩
  rw [h _ (by omega), plN_nil h]
  by_cases e : k < Ce.H l
  · have hv := H_val e n
    have hz : numS l x (NB l k) n = 0 := by
      rw [num_nb hg.latI hv hn (S := []) fun e _ => by rw [liv_nil h]; simp]
      exact nb_nil _ _
    have hb := bare_of hg.ok (k : Int)
    unfold nxT at hb
    rw [Int.toNat_natCast] at hb
    rw [hz, hb]
    simp
  · simp [e]
theorem halves_l (l : Nat) (w : World) : Calls Tryd.prog 50 #[.int .i64 l] w fun e w' => e = .returned (.int .i64 (Ce.H l)) ∧ w = w' := by
  go_enter Tryd.func50, Tryd.ntmps50
  by_cases h : l = 1
  · have hb : ((l : Int) == 1) = true := by rw [beq_iff_eq]; omega
    have hH : Ce.H l = 1 := by unfold Ce.H; rw [if_pos (by omega)]
    go_wp2
    go_ret
    exact ⟨ret_int (by rw [hH]; rfl), rfl⟩
  · have hb : ((l : Int) == 1) = false := by rw [beq_eq_false_iff_ne]; omega
    have hH : Ce.H l = 2 := by unfold Ce.H; rw [if_neg (by omega)]
    go_wp2
    go_ret
    exact ⟨ret_int (by rw [hH]; rfl), rfl⟩
def StR (w : World) (B g l b0 b1 s0 s1 : Nat) (x : Nat → Nat) (P5 P6 Rv : Nat) (t : Value) (wr : World) : Prop :=
  ∃ (k : Nat) (P : Nat → Nat), k ≤ Ce.H l ∧ t = .int .i64 k ∧ (∀ h, h < k → NxB l h x b0 b1 s0 s1 (P h)) ∧ (∀ h, k ≤ h → P h = 0) ∧ Blk wr P6 114 (plA P) ∧ Blk wr P5 114 (plA (plN x)) ∧ Blk wr Rv 27 (bkA fun _ => 0) ∧ KerAt wr B g l b0 b1 s0 s1 ∧ Below w.heap.size w wr
set_option maxRecDepth 100000 in
set_option maxHeartbeats 2000000 in
theorem bstep_any (B g l b0 b1 s0 s1 : Nat) (hg : Fl.Good l b0 b1 s0 s1) (x : Nat → Nat) (hx : ∀ r, r < 8 → x r < 65536) (w : World) (hK : KerAt w B g l b0 b1 s0 s1) :
    Calls Tryd.prog 26 #[.pointer (some ⟨g, 0, none⟩), .agg (bkA x)] w fun e w' => ∃ Y, e = .returned (.agg (bkA Y)) ∧ BStp l b0 b1 s0 s1 x Y ∧ Below w.heap.size w w' := by
  have hlow := hK.low
  have hgB := hK.1
  have h2 := H2 l
  go_enter Tryd.func26, Tryd.ntmps26
  go_upto_region 1 with fail
  obtain ⟨W0, hW0⟩ : ∃ W0, (w.alloc (.cells (bkA x) 27)).alloc (.cells (bkA fun _ => 0) 27) = W0 := ⟨_, rfl⟩
  have kx : Blk W0 w.heap.size 27 (bkA x) := by rw [← hW0]; exact (Blk.newAt w _ _ _ rfl).alloc _
  have kr : Blk W0 (w.heap.size + 1) 27 (bkA fun _ => 0) := by rw [← hW0]; exact Blk.newAt _ _ _ _ (by simp)
  have hb0 : Below w.heap.size w W0 := by rw [← hW0]; go_grown
  change Code.wp _ _ _ _ ((w.alloc (.cells (bkA x) 27)).alloc (.cells (bkA fun _ => 0) 27))
  rw [hW0]
  clear hW0
  have hK0 := hK.under hb0
  have c0 := (kx.cell 0).trans (bkA_get x 0 (by decide))
  have c1 := (kx.cell 1).trans (bkA_get x 1 (by decide))
  have c2 := (kx.cell 2).trans (bkA_get x 2 (by decide))
  have c3 := (kx.cell 3).trans (bkA_get x 3 (by decide))
  have c4 := (kx.cell 4).trans (bkA_get x 4 (by decide))
  have c5 := (kx.cell 5).trans (bkA_get x 5 (by decide))
  have c6 := (kx.cell 6).trans (bkA_get x 6 (by decide))
  have c7 := (kx.cell 7).trans (bkA_get x 7 (by decide))
  have hl := kx.lt
  go_wp2_with fail
  refine (empty_any x _).mono ?_
  rintro e w1 ⟨rfl, hb1⟩
  have hb01 : Below w.heap.size w w1 := hb0.trans (hb1.mono hb0.size)
  have kx := kx.under hb1
  have kr := kr.under hb1
  have hK1 := hK0.under hb1
  clear c0 c1 c2 c3 c4 c5 c6 c7 hl hb1 hb0 hK0 hK
  cases hnil : nilB x with
  | true =>
    have hz := (nilB_iff x).1 hnil
    have HB := Lib.hid (bstp_nil hg hz)
    have d0 := (kx.cell 0).trans (bkA_get x 0 (by decide))
    have d1 := (kx.cell 1).trans (bkA_get x 1 (by decide))
    have d2 := (kx.cell 2).trans (bkA_get x 2 (by decide))
    have d3 := (kx.cell 3).trans (bkA_get x 3 (by decide))
    have d4 := (kx.cell 4).trans (bkA_get x 4 (by decide))
    have d5 := (kx.cell 5).trans (bkA_get x 5 (by decide))
    have d6 := (kx.cell 6).trans (bkA_get x 6 (by decide))
    have d7 := (kx.cell 7).trans (bkA_get x 7 (by decide))
    have e0 := (kr.cell 0).trans (bkA_get (fun _ => 0) 0 (by decide))
    have e1 := (kr.cell 1).trans (bkA_get (fun _ => 0) 1 (by decide))
    have e2 := (kr.cell 2).trans (bkA_get (fun _ => 0) 2 (by decide))
    have e3 := (kr.cell 3).trans (bkA_get (fun _ => 0) 3 (by decide))
    have e4 := (kr.cell 4).trans (bkA_get (fun _ => 0) 4 (by decide))
    have e5 := (kr.cell 5).trans (bkA_get (fun _ => 0) 5 (by decide))
    have e6 := (kr.cell 6).trans (bkA_get (fun _ => 0) 6 (by decide))
    have e7 := (kr.cell 7).trans (bkA_get (fun _ => 0) 7 (by decide))
    have z0 := kr.frozen 0
    have z1 := kr.frozen 1
    have z2 := kr.frozen 2
    have z3 := kr.frozen 3
    have z4 := kr.frozen 4
    have z5 := kr.frozen 5
    have z6 := kr.frozen 6
    have z7 := kr.frozen 7
    have hl1 := kx.lt
    have hl2 := kr.lt
    clear kx kr hK1 hz hx
    go_wp2_with fail
    exact bodyPost_ret (v := .agg (bkA x)) (by simp [results, Tryd.results26, go_sem, bkA, *]) rfl ⟨x, rfl, HB.out, ((((((((hb01.setCell (p := ⟨w.heap.size + 1, 0, none⟩) (Nat.le_succ _) _).setCell (p := ⟨w.heap.size + 1, 1, none⟩) (Nat.le_succ _) _).setCell (p := ⟨w.heap.size + 1, 2, none⟩) (Nat.le_succ _) _).setCell (p := ⟨w.heap.size + 1, 3, none⟩) (Nat.le_succ _) _).setCell (p := ⟨w.heap.size + 1, 4, none⟩) (Nat.le_succ _) _).setCell (p := ⟨w.heap.size + 1, 5, none⟩) (Nat.le_succ _) _).setCell (p := ⟨w.heap.size + 1, 6, none⟩) (Nat.le_succ _) _).setCell (p := ⟨w.heap.size + 1, 7, none⟩) (Nat.le_succ _) _)⟩
  | false =>
    have c0 := (kx.cell 0).trans (bkA_get x 0 (by decide))
    have c1 := (kx.cell 1).trans (bkA_get x 1 (by decide))
    have c2 := (kx.cell 2).trans (bkA_get x 2 (by decide))
    have c3 := (kx.cell 3).trans (bkA_get x 3 (by decide))
    have c4 := (kx.cell 4).trans (bkA_get x 4 (by decide))
    have c5 := (kx.cell 5).trans (bkA_get x 5 (by decide))
    have c6 := (kx.cell 6).trans (bkA_get x 6 (by decide))
    have c7 := (kx.cell 7).trans (bkA_get x 7 (by decide))
    have hl := kx.lt
    have hpp := planes_any x hx w1
    unfold plA at hpp
    go_wp2_with fail
    refine hpp.mono ?_
    rintro e w2 ⟨rfl, hb2⟩
    have hb02 : Below w.heap.size w w2 := hb01.trans (hb2.mono hb01.size)
    have kr := kr.under hb2
    have hK2 := hK1.under hb2
    clear c0 c1 c2 c3 c4 c5 c6 c7 hl hb2 hb01 hK1 kx hpp
    go_upto_region 5 with fail
    obtain ⟨W2, hW2⟩ : ∃ W2, (w2.alloc (.cells #[.int .u64 (plN x 0), .int .u64 (plN x 1)] 114)).alloc (.cells #[.int .u64 0, .int .u64 0] 114) = W2 := ⟨_, rfl⟩
    have hb2' : Below w2.heap.size w2 W2 := by rw [← hW2]; go_grown
    have k5 : Blk W2 w2.heap.size 114 (plA (plN x)) := by rw [← hW2]; exact (Blk.newAt w2 _ _ _ rfl).alloc _
    have k6 : Blk W2 (w2.heap.size + 1) 114 (plA fun _ => 0) := by rw [← hW2]; exact Blk.newAt _ _ _ _ (by simp)
    have hrx : w.heap.size + 1 < w2.heap.size := kr.lt
    change Code.wp _ _ _ _ ((w2.alloc (.cells #[.int .u64 (plN x 0), .int .u64 (plN x 1)] 114)).alloc (.cells #[.int .u64 0, .int .u64 0] 114))
    rw [hW2]
    clear hW2
    have kr := kr.under hb2'
    have hK3 := hK2.under hb2'
    have hb3 := hb02.trans (hb2'.mono hb02.size)
    have hsz : w.heap.size ≤ w2.heap.size := hb02.size
    clear hb02 hK2 hb2'
    have hlc : W2.cell? ⟨g, 0, none⟩ = some (.int .i64 l) := by obtain ⟨_, _, _, k, _⟩ := hK3; exact k.cell 0
    have hgl : g < W2.heap.size := by have := hK3.low; omega
    have hhl := fun W => halves_l l W
    go_wp2_with fail
    refine (hhl _).mono ?_
    rintro e w' ⟨rfl, rfl⟩
    go_wp2_with fail
    clear hhl hlc hgl
    generalize w2.heap.size = p5 at *
    go_loopw [19] (fun t wr => StR w B g l b0 b1 s0 s1 x p5 (p5 + 1) (w.heap.size + 1) t wr) (fun t _ => 2 - (intOf t).toNat)
    case atStart => exact ⟨0, fun _ => 0, Nat.zero_le _, rfl, fun h hh => absurd hh (Nat.not_lt_zero _), fun _ _ => rfl, k6, k5, kr, hK3, hb3⟩
    case round =>
      clear k6 k5 kr hK3 hb3
      obtain ⟨k, P, hk, rfl, hP, hP0, k6, k5, kr, hK4, hb4⟩ := hrel
      have HP := Lib.hid hP
      have HP0 := Lib.hid hP0
      clear hP hP0
      by_cases hlt : k < Ce.H l
      · have hdb : decide ((k : Int) < ((Ce.H l : Nat) : Int)) = true := by simpa using hlt
        have p0 := (k5.cell 0).trans (plA_get (plN x) 0 (by decide))
        have p1 := (k5.cell 1).trans (plA_get (plN x) 1 (by decide))
        have hl5 := k5.lt
        have hl6 := k6.lt
        have hnx := fun W (hb : Below wr.heap.size wr W) => bnext_any B g l b0 b1 s0 s1 k hg.lat hlt hg.h0 hg.h1 hg.h2 hg.h3 x W (hK4.under hb)
        have hk2 : (k : Int) < 2 := by omega
        go_wp2_with fail
        refine (hnx _ (Below.refl _ _)).mono ?_
        rintro e w5 ⟨z, rfl, hz, hb5⟩
        have hb5' := hb4.trans (hb5.mono hb4.size)
        have k5 := k5.under hb5
        have k6 := k6.under hb5
        have kr := kr.under hb5
        have hK5 := hK4.under hb5
        have hk1 : k < 2 := by omega
        have hl6 := k6.lt
        have hf := k6.frozen k
        have hsome := (k6.cell k).trans (plA_get P k hk1)
        have hps : (plA P).setIfInBounds k (.int .u64 z) = plA fun i => if i = k then z else P i := plA_set P k z hk1
        have k6' : Blk (w5.setCell ⟨p5 + 1, k, none⟩ (.int .u64 z)) (p5 + 1) 114 (plA fun i => if i = k then z else P i) := by rw [← hps]; exact k6.set_ k _
        have k5' := k5.far (p := ⟨p5 + 1, k, none⟩) (by show p5 ≠ p5 + 1; omega) (.int .u64 z)
        have kr' := kr.far (p := ⟨p5 + 1, k, none⟩) (by show w.heap.size + 1 ≠ p5 + 1; omega) (.int .u64 z)
        have hK6 : KerAt (w5.setCell ⟨p5 + 1, k, none⟩ (.int .u64 z)) B g l b0 b1 s0 s1 := hK5.same (by simp) (fun j hj => Below.heap_setCell w5 ⟨p5 + 1, k, none⟩ _ j (by show j ≠ p5 + 1; omega))
        have hb6 := hb5'.setCell (p := ⟨p5 + 1, k, none⟩) (by show w.heap.size ≤ p5 + 1; omega) (.int .u64 z)
        have HA := Lib.hid k6'
        have HB := Lib.hid k5'
        have HC := Lib.hid kr'
        have HD := Lib.hid hK6
        have HE := Lib.hid hb6
        clear k6' k5' kr' hK6 hb6 hnx hb5 hb5' p0 p1 hl5 hK4 hb4 hK5 hps
        go_wp2_with fail
        exact ⟨⟨k + 1, _, by omega, by go_num, fun h hh => by
          by_cases e : h = k
          · subst e; rw [if_pos rfl]; exact hz
          · rw [if_neg e]; exact HP.out h (by omega), fun h hh => by rw [if_neg (by omega)]; exact HP0.out h (by omega), HA.out, HB.out, HC.out, HD.out, HE.out⟩, by simp [intOf]; omega⟩
      · obtain rfl : k = Ce.H l := by omega
        have hPl : ∀ h, h < 2 → P h < 2 ^ 64 := fun h _ => by
          by_cases e : h < Ce.H l
          · exact (HP.out h e).1
          · rw [HP0.out h (by omega)]; decide
        have HY := Lib.hid (bstp_of (x := x) HP.out fun h e => HP0.out h (by omega))
        have htg := together_any P hPl wr
        unfold plA at htg
        have p0 := (k6.cell 0).trans (plA_get P 0 (by decide))
        have p1 := (k6.cell 1).trans (plA_get P 1 (by decide))
        have hl6 := k6.lt
        clear k5 k6 hK4 hPl
        go_wp2_with fail
        refine htg.mono ?_
        rintro e w5 ⟨rfl, hb5⟩
        have kr5 := kr.under hb5
        have hb5 := hb4.trans (hb5.mono hb4.size)
        have hl1 := kr5.lt
        have e0 := (kr5.cell 0).trans (bkA_get (fun _ => 0) 0 (by decide))
        have z0 := kr5.frozen 0
        have e1 := (kr5.cell 1).trans (bkA_get (fun _ => 0) 1 (by decide))
        have z1 := kr5.frozen 1
        have e2 := (kr5.cell 2).trans (bkA_get (fun _ => 0) 2 (by decide))
        have z2 := kr5.frozen 2
        have e3 := (kr5.cell 3).trans (bkA_get (fun _ => 0) 3 (by decide))
        have z3 := kr5.frozen 3
        have e4 := (kr5.cell 4).trans (bkA_get (fun _ => 0) 4 (by decide))
        have z4 := kr5.frozen 4
        have e5 := (kr5.cell 5).trans (bkA_get (fun _ => 0) 5 (by decide))
        have z5 := kr5.frozen 5
        have e6 := (kr5.cell 6).trans (bkA_get (fun _ => 0) 6 (by decide))
        have z6 := kr5.frozen 6
        have e7 := (kr5.cell 7).trans (bkA_get (fun _ => 0) 7 (by decide))
        have z7 := kr5.frozen 7
        clear kr kr5 hb4 htg p0 p1 hl6
        unfold bkA
        go_wp2_with fail
        exact bodyPost_ret (v := .agg (bkA (tgB P))) (by simp [results, Tryd.results26, go_sem, bkA, *]) rfl ⟨tgB P, rfl, HY.out, ((((((((hb5.setCell (p := ⟨w.heap.size + 1, 0, none⟩) (Nat.le_succ _) _).setCell (p := ⟨w.heap.size + 1, 1, none⟩) (Nat.le_succ _) _).setCell (p := ⟨w.heap.size + 1, 2, none⟩) (Nat.le_succ _) _).setCell (p := ⟨w.heap.size + 1, 3, none⟩) (Nat.le_succ _) _).setCell (p := ⟨w.heap.size + 1, 4, none⟩) (Nat.le_succ _) _).setCell (p := ⟨w.heap.size + 1, 5, none⟩) (Nat.le_succ _) _).setCell (p := ⟨w.heap.size + 1, 6, none⟩) (Nat.le_succ _) _).setCell (p := ⟨w.heap.size + 1, 7, none⟩) (Nat.le_succ _) _)⟩
end Go.Proofs.YtcmfkdhadmfgkaaDoor.Bk
