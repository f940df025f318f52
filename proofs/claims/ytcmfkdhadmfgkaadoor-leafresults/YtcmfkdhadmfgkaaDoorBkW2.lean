/- Contracts of package block: spread, together. -/
import Derived.Test.YtcmfkdhadmfgkaaDoorBkP1
namespace Go.Proofs.YtcmfkdhadmfgkaaDoor.Bk
open Go.RowKit Go.Proofs.YtcmfkdhadmfgkaaDoor.Ba Go.Proofs.YtcmfkdhadmfgkaaDoor.Si Go.Lib

theorem sp_od (b : Nat) (h : b < 256) : spN b = od b := sp_fin ⟨b, h⟩
theorem spread_any (b : Nat) (h : b < 256) (w : World) :
    Calls Tryd.prog 78 #[.int .u8 b] w fun e w' => e = .returned (.int .u16 (od b)) ∧ w = w' := by
  rw [← sp_od b h]
  have hs : spN b = sp3 (sp2 (sp1 b)) := rfl
  rw [hs]
  clear hs
  have key : ∀ (r k m : Nat), r < 65536 → m < 65536 → bits .or .u16 (r : Int) (IntKind.u16.wrap ((r : Int) * k)) = ((r ||| r * k % 65536 : Nat) : Int) ∧ bits .and .u16 ((r ||| r * k % 65536 : Nat) : Int) (m : Int) = (((r ||| r * k % 65536) &&& m : Nat) : Int) ∧ ((r ||| r * k % 65536) &&& m) < 65536 := by
    intro r k m hr hm
    have hk : r * k % 65536 < 65536 := Nat.mod_lt _ (by decide)
    have h1 := u16_or_nat r (r * k % 65536) hr hk
    have h2 : r ||| r * k % 65536 < 65536 := Nat.or_lt_two_pow (n := 16) hr hk
    refine ⟨?_, u16_and_nat _ m h2 hm, Nat.lt_of_le_of_lt Nat.and_le_left h2⟩
    rw [← h1, IntKind.wrap_u16]
    simp
  obtain ⟨o1, a1, l1⟩ := key b 16 3855 (by omega) (by decide)
  have s1 : (b ||| b * 16 % 65536) &&& 3855 = sp1 b := rfl
  rw [s1] at a1 l1
  rw [show IntKind.u16.wrap ((b : Int) * (16 : Nat)) = (b : Int) * 16 by rw [IntKind.wrap_u16]; omega] at o1
  clear s1
  generalize b ||| b * 16 % 65536 = t1 at *
  generalize sp1 b = r1 at *
  obtain ⟨o2, a2, l2⟩ := key r1 4 13107 l1 (by decide)
  have s2 : (r1 ||| r1 * 4 % 65536) &&& 13107 = sp2 r1 := rfl
  rw [s2] at a2 l2
  clear s2
  generalize r1 ||| r1 * 4 % 65536 = t2 at *
  generalize sp2 r1 = r2 at *
  obtain ⟨o3, a3, l3⟩ := key r2 2 21845 l2 (by decide)
  have s3 : (r2 ||| r2 * 2 % 65536) &&& 21845 = sp3 r2 := rfl
  rw [s3] at a3 l3
  clear s3
  generalize r2 ||| r2 * 2 % 65536 = t3 at *
  generalize sp3 r2 = r3 at *
  clear key
  simp only [show ((4 : Nat) : Int) = 4 from rfl, show ((2 : Nat) : Int) = 2 from rfl, show ((3855 : Nat) : Int) = 3855 from rfl, show ((13107 : Nat) : Int) = 13107 from rfl, show ((21845 : Nat) : Int) = 21845 from rfl] at o2 o3 a1 a2 a3
  go_enter Tryd.func78, Tryd.ntmps78
  go_wp2
  go_ret
  exact ⟨rfl, rfl⟩
/-! together. -/
theorem idx_p (P : Nat → Nat) (k : Nat) (h : k < 2) (W : World) : (Instr.index 114 (.agg #[.int .u64 (P 0), .int .u64 (P 1)]) (.int .i64 (k : Int))).run Tryd.prog W = .ok (.int .u64 (P k)) W := by
  have h2 : k = 0 ∨ k = 1 := by omega
  clear h
  rcases h2 with rfl | rfl
  all_goals
    refine Eq.trans (b := Result.ok (.int .u64 _) W) ?_ rfl
    kernel_rfl
/-- A row of which so many Halves are laid. -/
def tgH (P : Nat → Nat) (b : Nat) : Nat → Nat
  | 0 => 0
  | 1 => od (P 0 / 2 ^ (8 * b) % 256)
  | _ => tgR (P 0) (P 1) b
def tgB (P : Nat → Nat) (b : Nat) : Nat := tgR (P 0) (P 1) b
theorem od_half (b : Nat) (h : b < 256) : od b < 32768 := by
  have : ∀ b : Fin 256, od b.val < 32768 := by decide +kernel
  exact this ⟨b, h⟩
theorem tg_or (P : Nat → Nat) (b h : Nat) (hh : h < 2) : bits .or .u16 ((tgH P b h : Nat) : Int) (IntKind.u16.wrap (((od (P h / 2 ^ (8 * b) % 256) : Nat) : Int) * 2 ^ h)) = ((tgH P b (h + 1) : Nat) : Int) := by
  have h2 : h = 0 ∨ h = 1 := by omega
  rcases h2 with rfl | rfl
  · have h1 := od_half (P 0 / 2 ^ (8 * b) % 256) (Nat.mod_lt _ (by decide))
    have := u16_or_nat 0 (od (P 0 / 2 ^ (8 * b) % 256)) (by decide) (by omega)
    rw [Nat.zero_or] at this
    rw [IntKind.wrap_u16, Int.pow_zero, Int.mul_one, show ((od (P 0 / 2 ^ (8 * b) % 256) : Nat) : Int) % 65536 = ((od (P 0 / 2 ^ (8 * b) % 256) : Nat) : Int) by omega]
    exact this
  · have h1 := od_half (P 1 / 2 ^ (8 * b) % 256) (Nat.mod_lt _ (by decide))
    have h0 := od_half (P 0 / 2 ^ (8 * b) % 256) (Nat.mod_lt _ (by decide))
    have := u16_or_nat (od (P 0 / 2 ^ (8 * b) % 256)) (od (P 1 / 2 ^ (8 * b) % 256) * 2) (by omega) (by omega)
    rw [IntKind.wrap_u16, Int.pow_one, show ((od (P 1 / 2 ^ (8 * b) % 256) : Nat) : Int) * 2 % 65536 = ((od (P 1 / 2 ^ (8 * b) % 256) * 2 : Nat) : Int) by omega]
    exact this
def TgR (w : World) (P : Nat → Nat) (t : Value) (wr : World) : Prop := ∃ (k : Nat) (x : Nat → Nat), k ≤ 8 ∧ t = .int .i64 k ∧ (∀ r, r < 8 → x r = if r < k then tgB P r else 0) ∧ Blk wr (w.heap.size + 2) 27 (bkA x) ∧ Blk wr (w.heap.size + 1) 27 (bkA fun _ => 0) ∧ Blk wr w.heap.size 114 (plA P) ∧ Below w.heap.size w wr
def TgI (w : World) (P : Nat → Nat) (k : Nat) (t : Value) (wr : World) : Prop := ∃ (h : Nat) (x : Nat → Nat), h ≤ 2 ∧ t = .int .i64 h ∧ (∀ r, r < 8 → x r = if r < k then tgB P r else if r = k then tgH P k h else 0) ∧ Blk wr (w.heap.size + 2) 27 (bkA x) ∧ Blk wr (w.heap.size + 1) 27 (bkA fun _ => 0) ∧ Blk wr w.heap.size 114 (plA P) ∧ Below w.heap.size w wr
set_option maxRecDepth 100000 in
set_option maxHeartbeats 1000000 in
theorem together_any (P : Nat → Nat) (hP : ∀ h, h < 2 → P h < 2 ^ 64) (w : World) :
    Calls Tryd.prog 57 #[.agg (plA P)] w fun e w' => e = .returned (.agg (bkA (tgB P))) ∧ Below w.heap.size w w' := by
  have HP := Lib.hid hP
  clear hP
  go_enter Tryd.func57, Tryd.ntmps57
  go_upto_region 2 with fail
  obtain ⟨W0, hW0⟩ : ∃ W0, ((w.alloc (.cells (plA P) 114)).alloc (.cells (bkA fun _ => 0) 27)).alloc (.cells (bkA fun _ => 0) 27) = W0 := ⟨_, rfl⟩
  have kp : Blk W0 w.heap.size 114 (plA P) := by rw [← hW0]; exact ((Blk.newAt w _ _ _ rfl).alloc _).alloc _
  have k1 : Blk W0 (w.heap.size + 1) 27 (bkA fun _ => 0) := by rw [← hW0]; exact (Blk.newAt _ _ _ _ (by simp)).alloc _
  have k2 : Blk W0 (w.heap.size + 2) 27 (bkA fun _ => 0) := by rw [← hW0]; exact Blk.newAt _ _ _ _ (by simp)
  have hB0 : Below w.heap.size w W0 := by rw [← hW0]; go_grown
  change Code.wp _ _ _ _ (((w.alloc (.cells (plA P) 114)).alloc (.cells (bkA fun _ => 0) 27)).alloc (.cells (bkA fun _ => 0) 27))
  rw [hW0]
  clear hW0
  go_wp2_with fail
  go_loopw [7] (fun t wr => TgR w P t wr) (fun t _ => 8 - (intOf t).toNat)
  case atStart => exact ⟨0, fun _ => 0, by omega, rfl, fun r _ => by simp, k2, k1, kp, hB0⟩
  case round =>
    clear k1 k2 hB0 kp
    obtain ⟨k, x, hk, rfl, hx, k2, k1, kp, hB⟩ := hrel
    by_cases hlt : k < 8
    · have hdb : decide ((k : Int) < 8) = true := by simp; omega
      have c0 := (kp.cell 0).trans (plA_get P 0 (by decide))
      have c1 := (kp.cell 1).trans (plA_get P 1 (by decide))
      have hlp := kp.lt
      have HX := Lib.hid hx
      clear hx
      go_wp2_with fail
      clear hdb c0 c1 hlp
      go_loopw [11] (fun t wr => TgI w P k t wr) (fun t _ => 2 - (intOf t).toNat)
      case atStart => exact ⟨0, x, by omega, rfl, fun r hr => by rw [HX.out r hr]; split; rfl; split <;> rfl, k2, k1, kp, hB⟩
      case round =>
        clear k1 k2 hB HX x kp
        obtain ⟨h, x, hh, rfl, hx, k2, k1, kp, hB⟩ := hrel
        by_cases hlh : h < 2
        · have hdh : decide ((h : Int) < 2) = true := by simp; omega
          have hidx := idx_p P h hlh
          have hc := (k2.cell k).trans (bkA_get x k hlt)
          have hz := k2.frozen k
          have hl := k2.lt
          have hk8 : (k : Int) < 8 := by omega
          obtain ⟨q, hq⟩ : ∃ q : Nat, 8 * k = q := ⟨_, rfl⟩
          have hq2 : (8 : Int) * (k : Int) = (q : Int) := by omega
          have hq64 : q < 64 := by omega
          have hph := HP.out h hlh
          have e : IntKind.u8.wrap ((P h : Int) / 2 ^ q) = ((P h / 2 ^ q % 256 : Nat) : Int) := by rw [IntKind.wrap_u8]; simp
          have hsp : ∀ W, Calls Tryd.prog 78 #[.int .u8 (IntKind.u8.wrap ((P h : Int) / 2 ^ q))] W fun e w' => e = .returned (.int .u16 (od (P h / 2 ^ q % 256) : Nat)) ∧ W = w' := fun W => by
            rw [e]
            exact spread_any (P h / 2 ^ q % 256) (Nat.mod_lt _ (by decide)) W
          have ho := tg_or P k h hlh
          have hxk := hx k hlt
          rw [if_neg (Nat.lt_irrefl k), if_pos rfl] at hxk
          rw [← hxk, hq] at ho
          have hw1 : IntKind.i64.wrap (q : Int) = (q : Int) := IntWalk.i64_in _ (by omega)
          have HO := Lib.hid ho
          have HX := Lib.hid hx
          clear e ho hxk hx hq hk8
          go_upto_region 8 with fail
          go_region_with (first | (go_at_call 78; refine (hsp _).mono ?_; rintro e w' ⟨rfl, rfl⟩))
          all_goals
            have HY : Hid (∀ i, i < 8 → (if i = k then tgH P k (h + 1) else x i) = if i < k then tgB P i else if i = k then tgH P k (h + 1) else 0) := Lib.hid fun i hi => by
              by_cases e : i = k
              · rw [if_pos e, if_neg (by omega), if_pos e]
              · rw [if_neg e, HX.out i hi, if_neg e, if_neg e]
            have k2' : Blk (wr.setCell ⟨w.heap.size + 2, k, none⟩ (.int .u16 (tgH P k (h + 1) : Nat))) (w.heap.size + 2) 27 (bkA fun i => if i = k then tgH P k (h + 1) else x i) := by
              rw [← bkA_set x k _ hlt]
              exact k2.set_ k _
            have k1' := k1.far (p := ⟨w.heap.size + 2, k, none⟩) (by show w.heap.size + 1 ≠ w.heap.size + 2; omega) (.int .u16 (tgH P k (h + 1) : Nat))
            have kp' := kp.far (p := ⟨w.heap.size + 2, k, none⟩) (by show w.heap.size ≠ w.heap.size + 2; omega) (.int .u16 (tgH P k (h + 1) : Nat))
            have hB' := hB.setCell (p := ⟨w.heap.size + 2, k, none⟩) (by show w.heap.size ≤ w.heap.size + 2; omega) (.int .u16 (tgH P k (h + 1) : Nat))
            have HK := Lib.hid k2'
            have HK1 := Lib.hid k1'
            have HKp := Lib.hid kp'
            have HBB := Lib.hid hB'
            clear k2' k1' kp' hB' hw1 hsp hc hz hidx
          all_goals go_wp2_with fail
          all_goals
            rw [HO.out]
            exact ⟨⟨h + 1, _, by omega, by go_num, HY.out, HK.out, HK1.out, HKp.out, HBB.out.trans ⟨rfl, rfl, rfl, Nat.le_refl _, fun _ _ => rfl⟩⟩, by simp [intOf]; omega⟩
        · obtain rfl : h = 2 := by omega
          have HY : Hid (∀ i, i < 8 → x i = if i < k + 1 then tgB P i else 0) := Lib.hid fun i hi => by
            rw [hx i hi]
            by_cases e : i < k
            · rw [if_pos e, if_pos (by omega)]
            · rw [if_neg e]
              by_cases e2 : i = k
              · rw [if_pos e2, if_pos (by omega), e2]; rfl
              · rw [if_neg e2, if_neg (by omega)]
          clear hx
          go_wp2_with fail
          exact ⟨⟨k + 1, x, by omega, by go_num, HY.out, k2, k1, kp, hB⟩, by simp [intOf]; omega⟩
    · obtain rfl : k = 8 := by omega
      have e : bkA x = bkA (tgB P) := by
        unfold bkA
        rw [hx 0 (by decide), hx 1 (by decide), hx 2 (by decide), hx 3 (by decide), hx 4 (by decide), hx 5 (by decide), hx 6 (by decide), hx 7 (by decide)]
        rfl
      rw [e] at k2
      have hl1 := k1.lt
      have hl2 := k2.lt
      have d0 := (k2.cell 0).trans (bkA_get _ 0 (by decide))
      have d1 := (k2.cell 1).trans (bkA_get _ 1 (by decide))
      have d2 := (k2.cell 2).trans (bkA_get _ 2 (by decide))
      have d3 := (k2.cell 3).trans (bkA_get _ 3 (by decide))
      have d4 := (k2.cell 4).trans (bkA_get _ 4 (by decide))
      have d5 := (k2.cell 5).trans (bkA_get _ 5 (by decide))
      have d6 := (k2.cell 6).trans (bkA_get _ 6 (by decide))
      have d7 := (k2.cell 7).trans (bkA_get _ 7 (by decide))
      have e0 := (k1.cell 0).trans (bkA_get (fun _ => 0) 0 (by decide))
      have z0 := k1.frozen 0
      have e1 := (k1.cell 1).trans (bkA_get (fun _ => 0) 1 (by decide))
      have z1 := k1.frozen 1
      have e2 := (k1.cell 2).trans (bkA_get (fun _ => 0) 2 (by decide))
      have z2 := k1.frozen 2
      have e3 := (k1.cell 3).trans (bkA_get (fun _ => 0) 3 (by decide))
      have z3 := k1.frozen 3
      have e4 := (k1.cell 4).trans (bkA_get (fun _ => 0) 4 (by decide))
      have z4 := k1.frozen 4
      have e5 := (k1.cell 5).trans (bkA_get (fun _ => 0) 5 (by decide))
      have z5 := k1.frozen 5
      have e6 := (k1.cell 6).trans (bkA_get (fun _ => 0) 6 (by decide))
      have z6 := k1.frozen 6
      have e7 := (k1.cell 7).trans (bkA_get (fun _ => 0) 7 (by decide))
      have z7 := k1.frozen 7
      clear hx e kp k1 k2
      go_wp2_with fail
      exact bodyPost_ret (v := .agg (bkA (tgB P))) (by simp [results, Tryd.results57, go_sem, bkA, *]) rfl ⟨rfl, ((((((((hB.setCell (p := ⟨w.heap.size + 1, 0, none⟩) (Nat.le_succ _) _).setCell (p := ⟨w.heap.size + 1, 1, none⟩) (Nat.le_succ _) _).setCell (p := ⟨w.heap.size + 1, 2, none⟩) (Nat.le_succ _) _).setCell (p := ⟨w.heap.size + 1, 3, none⟩) (Nat.le_succ _) _).setCell (p := ⟨w.heap.size + 1, 4, none⟩) (Nat.le_succ _) _).setCell (p := ⟨w.heap.size + 1, 5, none⟩) (Nat.le_succ _) _).setCell (p := ⟨w.heap.size + 1, 6, none⟩) (Nat.le_succ _) _).setCell (p := ⟨w.heap.size + 1, 7, none⟩) (Nat.le_succ _) _)⟩
end Go.Proofs.YtcmfkdhadmfgkaaDoor.Bk
