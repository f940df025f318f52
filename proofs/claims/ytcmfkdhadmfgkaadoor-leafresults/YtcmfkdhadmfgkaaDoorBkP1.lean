/- Contracts of package block: planes. -/
import Derived.Test.YtcmfkdhadmfgkaaDoorBkM
import Derived.Test.YtcmfkdhadmfgkaaDoorTbM
import Derived.BigQuiet
import Derived.Deep.RegionHeld3
namespace Go.Proofs.YtcmfkdhadmfgkaaDoor.Bk
open Go.RowKit Go.Proofs.YtcmfkdhadmfgkaaDoor.Ba Go.Proofs.YtcmfkdhadmfgkaaDoor.Si Go.Lib

/-- Both planes. -/
def plA (P : Nat → Nat) : Array Value := #[.int .u64 (P 0), .int .u64 (P 1)]
theorem plA_get (P : Nat → Nat) (h : Nat) (hh : h < 2) : (plA P)[h]? = some (.int .u64 (P h)) := by
  have : h = 0 ∨ h = 1 := by omega
  rcases this with rfl | rfl <;> rfl
theorem plA_set (P : Nat → Nat) (h v : Nat) (hh : h < 2) : (plA P).setIfInBounds h (.int .u64 v) = plA (fun i => if i = h then v else P i) := by
  have : h = 0 ∨ h = 1 := by omega
  rcases this with rfl | rfl <;> rfl
theorem idx_b (x : Nat → Nat) (k : Nat) (h : k < 8) (W : World) : (Instr.index 27 (.agg #[.int .u16 (x 0), .int .u16 (x 1), .int .u16 (x 2), .int .u16 (x 3), .int .u16 (x 4), .int .u16 (x 5), .int .u16 (x 6), .int .u16 (x 7)]) (.int .i64 (k : Int))).run Tryd.prog W = .ok (.int .u16 (x k)) W := by
  have h8 : k = 0 ∨ k = 1 ∨ k = 2 ∨ k = 3 ∨ k = 4 ∨ k = 5 ∨ k = 6 ∨ k = 7 := by omega
  clear h
  rcases h8 with rfl | rfl | rfl | rfl | rfl | rfl | rfl | rfl
  all_goals
    refine Eq.trans (b := Result.ok (.int .u16 _) W) ?_ rfl
    kernel_rfl
theorem pl_or (x : Nat → Nat) (h k : Nat) (hk : k < 8) : bits .or .u64 ((plT x h k : Nat) : Int) (IntKind.u64.wrap (((plF x h k : Nat) : Int) * 2 ^ (8 * k))) = ((plT x h (k + 1) : Nat) : Int) := by
  have h1 := plT_lt x h k
  have h2 := plF_lt x h k
  have h64 : 2 ^ (8 * k) ≤ 2 ^ 56 := Nat.pow_le_pow_right (by decide) (by omega)
  have h3 : plF x h k * 2 ^ (8 * k) < 2 ^ 64 := by
    have : plF x h k * 2 ^ (8 * k) ≤ 255 * 2 ^ 56 := Nat.mul_le_mul (by omega) h64
    exact Nat.lt_of_le_of_lt this (by decide)
  have e : ((plF x h k : Nat) : Int) * 2 ^ (8 * k) = ((plF x h k * 2 ^ (8 * k) : Nat) : Int) := by rw [pow_nat, ← Int.natCast_mul]
  rw [e, Tb.wrapU _ h3, Tb.u64_or _ _ (by omega) h3]
  unfold plT
  rw [dg_or (plF_lt x h) k]
def PlR (w : World) (x : Nat → Nat) (t : Value) (wr : World) : Prop := ∃ (k : Nat) (P : Nat → Nat), k ≤ 8 ∧ t = .int .i64 k ∧ (∀ h, h < 2 → P h = plT x h k) ∧ Blk wr (w.heap.size + 2) 114 (plA P) ∧ Blk wr (w.heap.size + 1) 114 (plA fun _ => 0) ∧ Below w.heap.size w wr
def PlI (w : World) (x : Nat → Nat) (k : Nat) (t : Value) (wr : World) : Prop := ∃ (h : Nat) (P : Nat → Nat), h ≤ 2 ∧ t = .int .i64 h ∧ (∀ i, i < 2 → P i = plT x i (if i < h then k + 1 else k)) ∧ Blk wr (w.heap.size + 2) 114 (plA P) ∧ Blk wr (w.heap.size + 1) 114 (plA fun _ => 0) ∧ Below w.heap.size w wr
set_option maxRecDepth 100000 in
set_option maxHeartbeats 1000000 in
theorem planes_any (x : Nat → Nat) (hx : ∀ r, r < 8 → x r < 65536) (w : World) :
    Calls Tryd.prog 55 #[.agg (bkA x)] w fun e w' => e = .returned (.agg (plA (plN x))) ∧ Below w.heap.size w w' := by
  have HX := Lib.hid hx
  clear hx
  go_enter Tryd.func55, Tryd.ntmps55
  go_upto_region 2 with fail
  obtain ⟨W0, hW0⟩ : ∃ W0, ((w.alloc (.cells (bkA x) 27)).alloc (.cells (plA fun _ => 0) 114)).alloc (.cells (plA fun _ => 0) 114) = W0 := ⟨_, rfl⟩
  have kb : Blk W0 w.heap.size 27 (bkA x) := by rw [← hW0]; exact ((Blk.newAt w _ _ _ rfl).alloc _).alloc _
  have k1 : Blk W0 (w.heap.size + 1) 114 (plA fun _ => 0) := by rw [← hW0]; exact (Blk.newAt _ _ _ _ (by simp)).alloc _
  have k2 : Blk W0 (w.heap.size + 2) 114 (plA fun _ => 0) := by rw [← hW0]; exact Blk.newAt _ _ _ _ (by simp)
  have hB0 : Below w.heap.size w W0 := by rw [← hW0]; go_grown
  change Code.wp _ _ _ _ (((w.alloc (.cells (bkA x) 27)).alloc (.cells (plA fun _ => 0) 114)).alloc (.cells (plA fun _ => 0) 114))
  rw [hW0]
  clear hW0
  have c0 := (kb.cell 0).trans (bkA_get x 0 (by decide))
  have c1 := (kb.cell 1).trans (bkA_get x 1 (by decide))
  have c2 := (kb.cell 2).trans (bkA_get x 2 (by decide))
  have c3 := (kb.cell 3).trans (bkA_get x 3 (by decide))
  have c4 := (kb.cell 4).trans (bkA_get x 4 (by decide))
  have c5 := (kb.cell 5).trans (bkA_get x 5 (by decide))
  have c6 := (kb.cell 6).trans (bkA_get x 6 (by decide))
  have c7 := (kb.cell 7).trans (bkA_get x 7 (by decide))
  have hl := kb.lt
  go_wp2_with fail
  clear c0 c1 c2 c3 c4 c5 c6 c7 hl kb
  go_loopw [8] (fun t wr => PlR w x t wr) (fun t _ => 8 - (intOf t).toNat)
  case atStart => exact ⟨0, fun _ => 0, by omega, rfl, fun h _ => rfl, k2, k1, hB0⟩
  case round =>
    clear k1 k2 hB0
    obtain ⟨k, P, hk, rfl, hP, k2, k1, hB⟩ := hrel
    by_cases hlt : k < 8
    · have hdb : decide ((k : Int) < 8) = true := by simp; omega
      have hidx := idx_b x k hlt
      have HP := Lib.hid hP
      have hxk := HX.out k hlt
      clear hP
      go_wp2_with fail
      clear hdb hidx
      go_loopw [12] (fun t wr => PlI w x k t wr) (fun t _ => 2 - (intOf t).toNat)
      case atStart => exact ⟨0, P, by omega, rfl, fun i hi => by rw [HP.out i hi, if_neg (by omega)], k2, k1, hB⟩
      case round =>
        clear k1 k2 hB HP P
        obtain ⟨h, P, hh, rfl, hP, k2, k1, hB⟩ := hrel
        by_cases hlh : h < 2
        · have hdh : decide ((h : Int) < 2) = true := by simp; omega
          have hc := (k2.cell h).trans (plA_get P h hlh)
          have hz := k2.frozen h
          have hl := k2.lt
          have hh2 : (h : Int) < 2 := by omega
          obtain ⟨q, hq⟩ : ∃ q : Nat, 8 * k = q := ⟨_, rfl⟩
          have hq2 : (8 : Int) * (k : Int) = (q : Int) := by omega
          have hq64 : q < 64 := by omega
          have e : ((x k : Int) / 2 ^ h) = ((x k / 2 ^ h : Nat) : Int) := by simp
          have hsq : ∀ W, Calls Tryd.prog 75 #[.int .u16 ((x k : Int) / 2 ^ h)] W fun e w' => e = .returned (.int .u8 (plF x h k : Nat)) ∧ W = w' := fun W => by
            rw [e]
            exact squeeze_any (x k / 2 ^ h) (Nat.lt_of_le_of_lt (Nat.div_le_self _ _) hxk) W
          have ho := pl_or x h k hlt
          have hPh := hP h hlh
          rw [if_neg (Nat.lt_irrefl h)] at hPh
          rw [← hPh, hq] at ho
          have hpf := plF_lt x h k
          have HO := Lib.hid ho
          have HP := Lib.hid hP
          have hpf2 : (plF x h k : Int) < 256 := by omega
          have hw1 : IntKind.i64.wrap (q : Int) = (q : Int) := IntWalk.i64_in _ (by omega)
          have hw2 : IntKind.u64.wrap ((plF x h k : Nat) : Int) = ((plF x h k : Nat) : Int) := by rw [IntKind.wrap_u64]; omega
          clear e ho hPh hP hq
          go_upto_region 8 with fail
          go_region_with (first | (go_at_call 75; refine (hsq _).mono ?_; rintro e w' ⟨rfl, rfl⟩))
          all_goals
            have HY : Hid (∀ i, i < 2 → (if i = h then plT x h (k + 1) else P i) = plT x i (if i < h + 1 then k + 1 else k)) := Lib.hid fun i hi => by
              by_cases e : i = h
              · rw [if_pos e, e, if_pos (by omega)]
              · rw [if_neg e, HP.out i hi]
                by_cases e2 : i < h
                · rw [if_pos e2, if_pos (by omega)]
                · rw [if_neg e2, if_neg (by omega)]
            have k2' : Blk (wr.setCell ⟨w.heap.size + 2, h, none⟩ (.int .u64 (plT x h (k + 1) : Nat))) (w.heap.size + 2) 114 (plA fun i => if i = h then plT x h (k + 1) else P i) := by
              rw [← plA_set P h _ hlh]
              exact k2.set_ h _
            have k1' := k1.far (p := ⟨w.heap.size + 2, h, none⟩) (by show w.heap.size + 1 ≠ w.heap.size + 2; omega) (.int .u64 (plT x h (k + 1) : Nat))
            have hB' := hB.setCell (p := ⟨w.heap.size + 2, h, none⟩) (by show w.heap.size ≤ w.heap.size + 2; omega) (.int .u64 (plT x h (k + 1) : Nat))
            have HK := Lib.hid k2'
            have HK1 := Lib.hid k1'
            have HBB := Lib.hid hB'
            clear k2' k1' hB' hw1 hw2 hsq hc hz
          all_goals go_wp2_with fail
          all_goals
            rw [HO.out]
            exact ⟨⟨h + 1, _, by omega, by go_num, HY.out, HK.out, HK1.out, HBB.out.trans ⟨rfl, rfl, rfl, Nat.le_refl _, fun _ _ => rfl⟩⟩, by simp [intOf]; omega⟩
        · obtain rfl : h = 2 := by omega
          have HY : Hid (∀ i, i < 2 → P i = plT x i (k + 1)) := Lib.hid fun i hi => by rw [hP i hi, if_pos hi]
          clear hP
          go_wp2_with fail
          exact ⟨⟨k + 1, P, by omega, by go_num, HY.out, k2, k1, hB⟩, by simp [intOf]; omega⟩
    · obtain rfl : k = 8 := by omega
      have e : plA P = plA (plN x) := by
        unfold plA
        rw [hP 0 (by decide), hP 1 (by decide)]
        rfl
      rw [e] at k2
      have HE := Lib.hid e
      have d0 := (k2.cell 0).trans (plA_get _ 0 (by decide))
      have d1 := (k2.cell 1).trans (plA_get _ 1 (by decide))
      have e0 := (k1.cell 0).trans (plA_get _ 0 (by decide))
      have e1 := (k1.cell 1).trans (plA_get _ 1 (by decide))
      have z0 := k1.frozen 0
      have z1 := k1.frozen 1
      have hl1 := k1.lt
      have hl2 := k2.lt
      clear hP e k2 k1 HE
      go_wp2_with fail
      exact bodyPost_ret (v := .agg (plA (plN x))) (by simp [results, Tryd.results55, go_sem, plA, *]) rfl ⟨rfl, (hB.setCell (p := ⟨w.heap.size + 1, 0, none⟩) (Nat.le_succ _) _).setCell (p := ⟨w.heap.size + 1, 1, none⟩) (Nat.le_succ _) _⟩
end Go.Proofs.YtcmfkdhadmfgkaaDoor.Bk
