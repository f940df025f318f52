/- Contracts of package block: toward, a neighbour's of. -/
import Derived.Test.YtcmfkdhadmfgkaaDoorBkN2
import Derived.Test.YtcmfkdhadmfgkaaDoorBkP1
namespace Go.Proofs.YtcmfkdhadmfgkaaDoor.Bk
open Go.RowKit Go.Proofs.YtcmfkdhadmfgkaaDoor.Ba Go.Proofs.YtcmfkdhadmfgkaaDoor.Si Go.Lib

/-- A neighbour: which Half, how many bits away, in which columns. -/
def nbrA (A B h : Int) (k : Nat) : Array Value := #[.int .i64 h, .int .i64 (awayI A B), .int .u64 (maskT A k)]
theorem mask_or {A : Int} {k : Nat} (hk : k < 64) (h : rowB A k = true) : bits .or .u64 ((maskT A k : Nat) : Int) (IntKind.u64.wrap ((2 : Int) ^ k)) = ((maskT A (k + 1) : Nat) : Int) := by
  have h1 := maskT_lt A k
  have h2 : (2 : Nat) ^ k < 2 ^ 64 := Nat.pow_lt_pow_right (by decide) hk
  rw [pow_nat, Tb.wrapU _ h2, Tb.u64_or _ _ (Nat.lt_trans h1 h2) h2, mask_yes h]
def TwR (w : World) (A B h aw : Int) (t : Value) (wr : World) : Prop := ∃ k : Nat, k ≤ 64 ∧ t = .int .i64 k ∧ Blk wr w.heap.size 72 #[.int .i64 A, .int .i64 B, .int .i64 h] ∧ Blk wr (w.heap.size + 2) 109 #[.int .i64 h, .int .i64 aw, .int .u64 (maskT A k)] ∧ Blk wr (w.heap.size + 1) 109 #[.int .i64 0, .int .i64 0, .int .u64 0] ∧ Below w.heap.size w wr
set_option maxRecDepth 100000 in
set_option maxHeartbeats 1000000 in
theorem toward_any (A B h : Int) (hA : -1 ≤ A ∧ A ≤ 1) (hB : -1 ≤ B ∧ B ≤ 1) (w : World) :
    Calls Tryd.prog 52 #[.agg #[.int .i64 A, .int .i64 B, .int .i64 h]] w fun e w' => e = .returned (.agg (nbrA A B h 64)) ∧ Below w.heap.size w w' := by
  have haw : 8 * B + A = awayI A B := rfl
  have m0 : maskT A 0 = 0 := rfl
  obtain ⟨b8, hb8⟩ : ∃ x, 8 * B = x := ⟨_, rfl⟩
  rw [hb8] at haw
  obtain ⟨aw, haw2⟩ : ∃ x, awayI A B = x := ⟨_, rfl⟩
  rw [haw2] at haw
  have b1 : -8 ≤ b8 ∧ b8 ≤ 8 := by omega
  have w1 : wrap64 b8 = b8 := IntWalk.wrap64_in _ (by omega)
  have w2 : wrap64 aw = aw := IntWalk.wrap64_in _ (by omega)
  go_enter Tryd.func52, Tryd.ntmps52
  go_wp2_with fail
  have kc := ((Blk.newAt w 72 #[.int .i64 A, .int .i64 B, .int .i64 h] _ rfl).alloc (.cells #[.int .i64 0, .int .i64 0, .int .u64 0] 109)).alloc (.cells #[.int .i64 h, .int .i64 aw, .int .u64 0] 109)
  have kz := (Blk.newAt (w.alloc (.cells #[.int .i64 A, .int .i64 B, .int .i64 h] 72)) 109 #[.int .i64 0, .int .i64 0, .int .u64 0] (w.heap.size + 1) (by simp)).alloc (.cells #[.int .i64 h, .int .i64 aw, .int .u64 0] 109)
  have kn := Blk.newAt ((w.alloc (.cells #[.int .i64 A, .int .i64 B, .int .i64 h] 72)).alloc (.cells #[.int .i64 0, .int .i64 0, .int .u64 0] 109)) 109 #[.int .i64 h, .int .i64 aw, .int .u64 0] (w.heap.size + 2) (by simp)
  have hb0 : Below w.heap.size w (((w.alloc (.cells #[.int .i64 A, .int .i64 B, .int .i64 h] 72)).alloc (.cells #[.int .i64 0, .int .i64 0, .int .u64 0] 109)).alloc (.cells #[.int .i64 h, .int .i64 aw, .int .u64 0] 109)) := by go_grown
  clear m0 haw hb8 b1 w1 w2
  go_loopw [17] (fun t wr => TwR w A B h aw t wr) (fun t _ => 64 - (intOf t).toNat)
  case atStart => exact ⟨0, by omega, rfl, kc, kn, kz, hb0⟩
  case round =>
    clear kc kn kz hb0
    obtain ⟨k, hk, rfl, kc, kn, kz, hbw⟩ := hrel
    by_cases hlt : k < 64
    · have hdb : decide ((k : Int) < 64) = true := by simp; omega
      obtain ⟨m, hm⟩ : ∃ m : Nat, k % 8 = m := ⟨_, rfl⟩
      have hm8 : m < 8 := by omega
      have hrm : (k : Int) % 8 = (m : Int) := by omega
      obtain ⟨x, hx⟩ : ∃ x : Int, (m : Int) + A = x := ⟨_, rfl⟩
      have hw : wrap64 x = x := IntWalk.wrap64_in _ (by omega)
      have hxb : -1 ≤ x ∧ x ≤ 8 := by omega
      have c0 := kc.cell 0
      simp only [List.getElem?_toArray, List.getElem?_cons_zero] at c0
      have hlc := kc.lt
      have hln := kn.lt
      have c2 := kn.cell 2
      simp only [List.getElem?_toArray, List.getElem?_cons_zero, List.getElem?_cons_succ] at c2
      have f2 := kn.frozen 2
      have hR : rowB A k = decide (0 ≤ x ∧ x < 8) := by unfold rowB; rw [hm, hx]
      cases hr : rowB A k with
      | true =>
        rw [hr] at hR
        have hx2 : 0 ≤ x ∧ x < 8 := by simpa using hR.symm
        obtain ⟨x0, x8⟩ := hx2
        have d0 : decide (0 ≤ x) = true := by simpa using x0
        have d8 : decide (x < 8) = true := by simpa using x8
        have ho := mask_or hlt hr
        have HO := Lib.hid ho
        clear hm hR hr hxb ho
        go_upto_region 7 with fail
        go_region
        all_goals
          have kn' : Blk (wr.setCell ⟨w.heap.size + 2, 2, none⟩ (.int .u64 (maskT A (k + 1) : Nat))) (w.heap.size + 2) 109 #[.int .i64 h, .int .i64 aw, .int .u64 (maskT A (k + 1))] := kn.set_ 2 _
          have kc' := kc.far (p := ⟨w.heap.size + 2, 2, none⟩) (by show w.heap.size ≠ w.heap.size + 2; omega) (.int .u64 (maskT A (k + 1) : Nat))
          have kz' := kz.far (p := ⟨w.heap.size + 2, 2, none⟩) (by show w.heap.size + 1 ≠ w.heap.size + 2; omega) (.int .u64 (maskT A (k + 1) : Nat))
          have hB' := hbw.setCell (p := ⟨w.heap.size + 2, 2, none⟩) (by show w.heap.size ≤ w.heap.size + 2; omega) (.int .u64 (maskT A (k + 1) : Nat))
          have HK := Lib.hid kn'
          have HC := Lib.hid kc'
          have HZ := Lib.hid kz'
          have HBB := Lib.hid hB'
          clear kn' kc' kz' hB' c2 f2 c0
        all_goals go_wp2_with fail
        all_goals rw [HO.out]
        all_goals exact ⟨⟨k + 1, by omega, by go_num, HC.out, HK.out, HZ.out, HBB.out.trans ⟨rfl, rfl, rfl, Nat.le_refl _, fun _ _ => rfl⟩⟩, by simp [intOf]; omega⟩
      | false =>
        rw [hr] at hR
        have hmn := mask_no hr
        have HM := Lib.hid hmn
        by_cases x0 : 0 ≤ x
        · have x8 : ¬ x < 8 := fun h => by rw [decide_eq_true (show 0 ≤ x ∧ x < 8 from ⟨x0, h⟩)] at hR; cases hR
          have d0 : decide (0 ≤ x) = true := by simpa using x0
          have d8 : decide (x < 8) = false := by simpa using x8
          clear hm hR hr hxb hmn
          go_wp2_with fail
          exact ⟨⟨k + 1, by omega, by go_num, kc, by rw [HM.out]; exact kn, kz, hbw⟩, by simp [intOf]; omega⟩
        · have d0 : decide (0 ≤ x) = false := by simpa using x0
          clear hm hR hr hxb hmn
          go_wp2_with fail
          exact ⟨⟨k + 1, by omega, by go_num, kc, by rw [HM.out]; exact kn, kz, hbw⟩, by simp [intOf]; omega⟩
    · obtain rfl : k = 64 := by omega
      have d0 := kn.cell 0
      have d1 := kn.cell 1
      have d2 := kn.cell 2
      have e0 := kz.cell 0
      have e1 := kz.cell 1
      have e2 := kz.cell 2
      simp only [List.getElem?_toArray, List.getElem?_cons_zero, List.getElem?_cons_succ] at d0 d1 d2 e0 e1 e2
      have z0 := kz.frozen 0
      have z1 := kz.frozen 1
      have z2 := kz.frozen 2
      have hl1 := kz.lt
      have hl2 := kn.lt
      have HA := Lib.hid haw2
      clear kn kz kc haw2
      go_wp2_with fail
      exact bodyPost_ret (v := .agg (nbrA A B h 64)) (by simp [results, Tryd.results52, go_sem, nbrA, HA.out, *]) rfl ⟨rfl, ((hbw.setCell (p := ⟨w.heap.size + 1, 0, none⟩) (Nat.le_succ _) _).setCell (p := ⟨w.heap.size + 1, 1, none⟩) (Nat.le_succ _) _).setCell (p := ⟨w.heap.size + 1, 2, none⟩) (Nat.le_succ _) _⟩
/-! A neighbour's of. -/
theorem ofI_neg {p : Nat} {A B : Int} {q : Nat} (h : awayI A B = -(q : Int)) (hq : 0 < q) (hq2 : q < 64) : bits .and .u64 (IntKind.u64.wrap ((p : Int) * 2 ^ q)) ((maskT A 64 : Nat) : Int) = ((ofN p A B : Nat) : Int) := by
  have e : IntKind.u64.wrap ((p : Int) * 2 ^ q) = ((p * 2 ^ q % 2 ^ 64 : Nat) : Int) := by
    rw [IntKind.wrap_u64, pow_nat, ← Int.natCast_mul]
    simp
  rw [e, Tb.u64_and _ _ (Nat.mod_lt _ (by decide)) (maskT_lt A 64)]
  unfold ofN
  rw [if_pos (by omega), show (-awayI A B).toNat = q by omega]
theorem ofI_pos {p : Nat} {A B : Int} {q : Nat} (hp : p < 2 ^ 64) (h : awayI A B = (q : Int)) : bits .and .u64 ((p : Int) / 2 ^ q) ((maskT A 64 : Nat) : Int) = ((ofN p A B : Nat) : Int) := by
  have e : ((p : Int) / 2 ^ q) = ((p / 2 ^ q : Nat) : Int) := by simp
  rw [e, Tb.u64_and _ _ (Nat.lt_of_le_of_lt (Nat.div_le_self _ _) hp) (maskT_lt A 64)]
  unfold ofN
  rw [if_neg (by omega), show (awayI A B).toNat = q by omega]
theorem nbof_any (P : Nat → Nat) (hP : ∀ h, h < 2 → P h < 2 ^ 64) (A B : Int) (h : Nat) (hA : -1 ≤ A ∧ A ≤ 1) (hB : -1 ≤ B ∧ B ≤ 1) (hh : h < 2) (w : World) :
    Calls Tryd.prog 87 #[.agg (nbrA A B h 64), .agg (plA P)] w fun e w' => e = .returned (.int .u64 (ofN (P h) A B)) ∧ Below w.heap.size w w' := by
  have hph := hP h hh
  have hh2 : (h : Int) < 2 := by omega
  have hab : -9 ≤ awayI A B ∧ awayI A B ≤ 9 := by unfold awayI; omega
  go_enter Tryd.func87, Tryd.ntmps87
  go_upto_region 1 with fail
  obtain ⟨W0, hW0⟩ : ∃ W0, (w.alloc (.cells (nbrA A B h 64) 109)).alloc (.cells (plA P) 114) = W0 := ⟨_, rfl⟩
  have kb : Blk W0 w.heap.size 109 (nbrA A B h 64) := by rw [← hW0]; exact (Blk.newAt w _ _ _ rfl).alloc _
  have kp : Blk W0 (w.heap.size + 1) 114 (plA P) := by rw [← hW0]; exact Blk.newAt _ _ _ _ (by simp)
  have hB0 : Below w.heap.size w W0 := by rw [← hW0]; go_grown
  change Code.wp _ _ _ _ ((w.alloc (.cells (nbrA A B h 64) 109)).alloc (.cells (plA P) 114))
  rw [hW0]
  clear hW0
  have hc := (kp.cell h).trans (plA_get P h hh)
  have n0 := kb.cell 0
  have n1 := kb.cell 1
  have n2 := kb.cell 2
  simp only [nbrA, List.getElem?_toArray, List.getElem?_cons_zero, List.getElem?_cons_succ] at n0 n1 n2
  have hl := kp.lt
  by_cases hneg : awayI A B < 0
  · obtain ⟨q, hq⟩ : ∃ q : Nat, awayI A B = -(q : Int) := ⟨(-awayI A B).toNat, by omega⟩
    have ho := ofI_neg (p := P h) hq (by omega) (by omega)
    have hq1 : 0 < q := by omega
    have hq9 : q ≤ 9 := by omega
    rw [hq] at n1
    have hdn : decide (-(q : Int) < 0) = true := by simp; omega
    have hnq : - -(q : Int) = (q : Int) := by omega
    have HO := Lib.hid ho
    clear hq hneg hab kb kp ho
    go_upto_region 2 with fail
    go_region
    all_goals go_wp2_with fail
    all_goals go_ret
    all_goals exact ⟨ret_int (by rw [← HO.out]), by first | exact hB0 | (refine below_dr _ ?_; exact hB0)⟩
  · obtain ⟨q, hq⟩ : ∃ q : Nat, awayI A B = (q : Int) := ⟨(awayI A B).toNat, by omega⟩
    have ho := ofI_pos (p := P h) hph hq
    have hq9 : q ≤ 9 := by omega
    rw [hq] at n1
    have hdn : decide ((q : Int) < 0) = false := by simp
    have HO := Lib.hid ho
    clear hq hneg hab kb kp ho
    go_upto_region 3 with fail
    go_region
    all_goals go_wp2_with fail
    all_goals go_ret
    all_goals exact ⟨ret_int (by rw [← HO.out]), by first | exact hB0 | (refine below_dr _ ?_; exact hB0)⟩
end Go.Proofs.YtcmfkdhadmfgkaaDoor.Bk
