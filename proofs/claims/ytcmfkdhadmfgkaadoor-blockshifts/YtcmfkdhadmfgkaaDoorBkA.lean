/- The laws' own awake; Own. -/
import Derived.Test.YtcmfkdhadmfgkaaDoorBkW10
namespace Go.Proofs.YtcmfkdhadmfgkaaDoor.Bk
open Go.RowKit Go.Proofs.YtcmfkdhadmfgkaaDoor.Ba Go.Proofs.YtcmfkdhadmfgkaaDoor.Si Go.Lib
open Go.Proofs.YtcmfkdhadmfgkaaDoor.Fl (C)
open Go.Proofs.YtcmfkdhadmfgkaaDoor.Ax (SixIs)
open Go.Proofs.YtcmfkdhadmfgkaaDoor.Tb (Tab sel wrongT)

theorem own10_any (a b c d : Nat) (w : World) :
    Calls Tryd.prog 11 #[.agg #[.int .u32 a, .int .u32 b, .int .u32 c, .int .u32 d]] w fun e w' => e = .returned (.agg #[.int .u32 a, .int .u32 b, .int .u32 c, .int .u32 d]) ∧ Below w.heap.size w w' := by
  go_enter Tryd.func11, Tryd.ntmps11
  go_wp2
  exact bodyPost_ret (v := .agg #[.int .u32 a, .int .u32 b, .int .u32 c, .int .u32 d]) (by simp [results, Tryd.results11, go_sem, *]) rfl ⟨rfl, by go_grown⟩
/-- Two blocks of the same bits. -/
theorem bk_ext {x y : Nat → Nat} (hx : ∀ r, r < 8 → x r < 65536) (hy : ∀ r, r < 8 → y r < 65536) (h : ∀ n h, n < 64 → h < 2 → (x (n / 8)).testBit (2 * (n % 8) + h) = (y (n / 8)).testBit (2 * (n % 8) + h)) : ∀ r, r < 8 → x r = y r := fun r hr => by
  refine Nat.eq_of_testBit_eq fun i => ?_
  by_cases hi : i < 16
  · have := h (8 * r + i / 2) (i % 2) (by omega) (by omega)
    rw [show (8 * r + i / 2) / 8 = r by omega, show 2 * ((8 * r + i / 2) % 8) + i % 2 = i by omega] at this
    exact this
  · have e : (65536 : Nat) ≤ 2 ^ i := Nat.le_trans (by decide : 65536 ≤ 2 ^ 16) (Nat.pow_le_pow_right (by decide) (by omega))
    rw [Nat.testBit_lt_two_pow (Nat.lt_of_lt_of_le (hx r hr) e), Nat.testBit_lt_two_pow (Nat.lt_of_lt_of_le (hy r hr) e)]
theorem bk_eq {x y : Nat → Nat} (h : ∀ r, r < 8 → x r = y r) : bkA x = bkA y := by
  unfold bkA
  rw [h 0 (by decide), h 1 (by decide), h 2 (by decide), h 3 (by decide), h 4 (by decide), h 5 (by decide), h 6 (by decide), h 7 (by decide)]
def oneF (i : Nat) : Nat := if i = 0 then 1 else 0
def allF (_ : Nat) : Nat := 4294967295
theorem aw_fin : ∀ n : Fin 64, ∀ h : Fin 2, (decide (h.val < Ce.H 1) && (sel 0 0 1 0 h.val ((plN (ofB oneF) h.val).testBit n.val)).testBit (numS 1 (ofB oneF) (NB 1 h.val) n.val)) = (ofB oneF (n.val / 8)).testBit (2 * (n.val % 8) + h.val) := by decide +kernel
theorem aw_rows : ∀ r : Fin 8, ofB oneF r.val < 65536 := by decide
theorem aw_step {Y : Nat → Nat} (h : BStp 1 0 0 1 0 (ofB oneF) Y) : bkA Y = bkA (ofB oneF) :=
  bk_eq (bk_ext h.lt (fun r hr => aw_rows ⟨r, hr⟩) fun n k hn hk => by
    rw [h.bit n k hn hk]
    exact aw_fin ⟨n, hn⟩ ⟨k, hk⟩)
theorem aw_mid : lfT (ofB allF) 2 2 4 = 4294967295 := by decide +kernel
theorem all_rows : ∀ r : Fin 8, ofB allF r.val < 65536 := by decide
theorem aw_good : Fl.Good 1 0 0 1 0 := ⟨.inl rfl, by decide, by decide, by decide, by decide, by decide +kernel⟩
theorem eql_self (x : Nat → Nat) (w : World) : (binOp .eql 27 (.agg (bkA x)) (.agg (bkA x))).run Tryd.prog w = .ok (.bool true) w := by
  rw [eql_bk]
  simp
set_option maxRecDepth 100000 in
set_option maxHeartbeats 4000000 in
theorem awake10 (w : World) (hs : SixIs w) : Calls Tryd.prog 9 #[] w fun e w' => e = .returned (.bool true) ∧ Below w.heap.size w w' := by
  have hnw := bnew_any 1 0 0 1 0 aw_good w hs
  have hof : ∀ W, Calls Tryd.prog 10 #[.agg #[.int .u32 1, .int .u32 0, .int .u32 0, .int .u32 0]] W fun e w' => e = .returned (.agg (bkA (ofB oneF))) ∧ Below W.heap.size W w' := fun W => bof_any oneF (by intro i _; unfold oneF; split <;> decide) W
  go_enter Tryd.func9, Tryd.ntmps9
  go_wp2_with fail
  refine hnw.mono ?_
  rintro e w1 ⟨g, rfl, hK, hgg, hb1⟩
  clear hnw
  unfold bkA at hof
  go_wp2_with fail
  refine (hof _).mono ?_
  rintro e w2 ⟨rfl, hb2⟩
  have hK2 := hK.under hb2
  have hb12 := hb1.trans (hb2.mono hb1.size)
  clear hof hK
  go_upto_region 4 with fail
  obtain ⟨W, hW⟩ : ∃ W, w2.alloc (.cells #[.int .u16 (ofB oneF 0), .int .u16 (ofB oneF 1), .int .u16 (ofB oneF 2), .int .u16 (ofB oneF 3), .int .u16 (ofB oneF 4), .int .u16 (ofB oneF 5), .int .u16 (ofB oneF 6), .int .u16 (ofB oneF 7)] 27) = W := ⟨_, rfl⟩
  have kx : Blk W w2.heap.size 27 (bkA (ofB oneF)) := by rw [← hW]; exact Blk.newAt w2 _ _ _ rfl
  have hb2W : Below w2.heap.size w2 W := by rw [← hW]; go_grown
  change Code.wp _ _ _ _ (w2.alloc (.cells #[.int .u16 (ofB oneF 0), .int .u16 (ofB oneF 1), .int .u16 (ofB oneF 2), .int .u16 (ofB oneF 3), .int .u16 (ofB oneF 4), .int .u16 (ofB oneF 5), .int .u16 (ofB oneF 6), .int .u16 (ofB oneF 7)] 27))
  rw [hW]
  clear hW
  have hK3 := hK2.under hb2W
  have hbW := hb12.trans (hb2W.mono hb12.size)
  have hxl := kx.lt
  have hrow : ∀ r, r < 8 → ofB oneF r < 65536 := fun r hr => aw_rows ⟨r, hr⟩
  have hstp : ∀ W', Below W.heap.size W.drew W' → Calls Tryd.prog 26 #[.pointer (some ⟨g, 0, none⟩), .agg (bkA (ofB oneF))] W' fun e w' => e = .returned (.agg (bkA (ofB oneF))) ∧ Below W.heap.size W.drew w' := fun W' hb => by
    refine (bstep_any w1.heap.size g 1 0 0 1 0 aw_good (ofB oneF) hrow W' (hK3.under ((show Below W.heap.size W W.drew from ⟨rfl, rfl, rfl, Nat.le_refl _, fun _ _ => rfl⟩).trans hb))).mono ?_
    rintro e w' ⟨Y, rfl, hY, hb'⟩
    exact ⟨by rw [aw_step hY], hb.trans (hb'.mono hb.size)⟩
  have hemp : ∀ W', Below W.heap.size W.drew W' → Calls Tryd.prog 18 #[.agg (bkA (ofB oneF))] W' fun e w' => e = .returned (.bool false) ∧ Below W.heap.size W.drew w' := fun W' hb => by
    refine (empty_any (ofB oneF) W').mono ?_
    rintro e w' ⟨rfl, hb'⟩
    exact ⟨by rw [show nilB (ofB oneF) = false by decide], hb.trans (hb'.mono hb.size)⟩
  have hsta : ∀ W', Below W.heap.size W.drew W' → Calls Tryd.prog 17 #[.agg (bkA (ofB oneF)), .int .i64 0, .int .i64 0] W' fun e w' => e = .returned (.int .i64 1) ∧ Below W.heap.size W.drew w' := fun W' hb => by
    refine (bstate_in (ofB oneF) hrow 0 0 (by decide) (by decide) W').mono ?_
    rintro e w' ⟨rfl, hb'⟩
    exact ⟨by rw [show ofB oneF 0 / 2 ^ (2 * 0) % 4 = 1 by decide]; rfl, hb.trans (hb'.mono hb.size)⟩
  have hofa : ∀ W', Below W.heap.size W.drew W' → Calls Tryd.prog 10 #[.agg #[.int .u32 4294967295, .int .u32 4294967295, .int .u32 4294967295, .int .u32 4294967295]] W' fun e w' => e = .returned (.agg (bkA (ofB allF))) ∧ Below W.heap.size W.drew w' := fun W' hb => by
    refine (bof_any allF (fun i _ => by unfold allF; decide) W').mono ?_
    rintro e w' ⟨rfl, hb'⟩
    exact ⟨rfl, hb.trans (hb'.mono hb.size)⟩
  have hmid : ∀ W', Below W.heap.size W.drew W' → Calls Tryd.prog 14 #[.agg (bkA (ofB allF))] W' fun e w' => e = .returned (.int .u32 4294967295) ∧ Below W.heap.size W.drew w' := fun W' hb => by
    refine (middle_any (ofB allF) (fun r hr => all_rows ⟨r, hr⟩) W').mono ?_
    rintro e w' ⟨rfl, hb'⟩
    exact ⟨by rw [aw_mid]; rfl, hb.trans (hb'.mono hb.size)⟩
  have heq := eql_self (ofB oneF)
  clear hK2 hb12 hb2 hb1 hK3 hb2W hrow
  unfold bkA at hstp hemp hsta hofa hmid heq kx
  generalize ofB oneF = x at *
  generalize ofB allF = y at *
  have c0 : W.cell? ⟨w2.heap.size, 0, none⟩ = some (.int .u16 (x 0)) := kx.cell 0
  have c1 : W.cell? ⟨w2.heap.size, 1, none⟩ = some (.int .u16 (x 1)) := kx.cell 1
  have c2 : W.cell? ⟨w2.heap.size, 2, none⟩ = some (.int .u16 (x 2)) := kx.cell 2
  have c3 : W.cell? ⟨w2.heap.size, 3, none⟩ = some (.int .u16 (x 3)) := kx.cell 3
  have c4 : W.cell? ⟨w2.heap.size, 4, none⟩ = some (.int .u16 (x 4)) := kx.cell 4
  have c5 : W.cell? ⟨w2.heap.size, 5, none⟩ = some (.int .u16 (x 5)) := kx.cell 5
  have c6 : W.cell? ⟨w2.heap.size, 6, none⟩ = some (.int .u16 (x 6)) := kx.cell 6
  have c7 : W.cell? ⟨w2.heap.size, 7, none⟩ = some (.int .u16 (x 7)) := kx.cell 7
  have keep : ∀ w', Below W.heap.size W.drew w' → w'.cell? ⟨w2.heap.size, 0, none⟩ = some (.int .u16 (x 0)) ∧ w'.cell? ⟨w2.heap.size, 1, none⟩ = some (.int .u16 (x 1)) ∧ w'.cell? ⟨w2.heap.size, 2, none⟩ = some (.int .u16 (x 2)) ∧ w'.cell? ⟨w2.heap.size, 3, none⟩ = some (.int .u16 (x 3)) ∧ w'.cell? ⟨w2.heap.size, 4, none⟩ = some (.int .u16 (x 4)) ∧ w'.cell? ⟨w2.heap.size, 5, none⟩ = some (.int .u16 (x 5)) ∧ w'.cell? ⟨w2.heap.size, 6, none⟩ = some (.int .u16 (x 6)) ∧ w'.cell? ⟨w2.heap.size, 7, none⟩ = some (.int .u16 (x 7)) := fun w' hb => ⟨(hb.cell (p := ⟨w2.heap.size, 0, none⟩) hxl).trans c0, (hb.cell (p := ⟨w2.heap.size, 1, none⟩) hxl).trans c1, (hb.cell (p := ⟨w2.heap.size, 2, none⟩) hxl).trans c2, (hb.cell (p := ⟨w2.heap.size, 3, none⟩) hxl).trans c3, (hb.cell (p := ⟨w2.heap.size, 4, none⟩) hxl).trans c4, (hb.cell (p := ⟨w2.heap.size, 5, none⟩) hxl).trans c5, (hb.cell (p := ⟨w2.heap.size, 6, none⟩) hxl).trans c6, (hb.cell (p := ⟨w2.heap.size, 7, none⟩) hxl).trans c7⟩
  clear kx
  go_region_held3 (fun w' => w'.cell? ⟨w2.heap.size, 0, none⟩ = some (.int .u16 (x 0)) ∧ w'.cell? ⟨w2.heap.size, 1, none⟩ = some (.int .u16 (x 1)) ∧ w'.cell? ⟨w2.heap.size, 2, none⟩ = some (.int .u16 (x 2)) ∧ w'.cell? ⟨w2.heap.size, 3, none⟩ = some (.int .u16 (x 3)) ∧ w'.cell? ⟨w2.heap.size, 4, none⟩ = some (.int .u16 (x 4)) ∧ w'.cell? ⟨w2.heap.size, 5, none⟩ = some (.int .u16 (x 5)) ∧ w'.cell? ⟨w2.heap.size, 6, none⟩ = some (.int .u16 (x 6)) ∧ w'.cell? ⟨w2.heap.size, 7, none⟩ = some (.int .u16 (x 7))) (first | exact keep _ (Below.refl _ _) | exact ⟨c0, c1, c2, c3, c4, c5, c6, c7⟩)
      (first
        | (go_at_call 10; refine Calls.mono (hofa _ (by first | exact hkb | exact Below.refl _ _)) ?_; rintro e wZ ⟨rfl, hbZ⟩; have hkb : Below W.heap.size W.drew wZ := hbZ; clear hbZ; obtain ⟨c0, c1, c2, c3, c4, c5, c6, c7⟩ := keep _ hkb)
        | (go_at_call 14; refine Calls.mono (hmid _ (by first | exact hkb | exact Below.refl _ _)) ?_; rintro e wZ ⟨rfl, hbZ⟩; have hkb : Below W.heap.size W.drew wZ := hbZ; clear hbZ; obtain ⟨c0, c1, c2, c3, c4, c5, c6, c7⟩ := keep _ hkb)
        | (go_at_call 26; refine Calls.mono (hstp _ (by first | exact hkb | exact Below.refl _ _)) ?_; rintro e wZ ⟨rfl, hbZ⟩; have hkb : Below W.heap.size W.drew wZ := hbZ; clear hbZ; obtain ⟨c0, c1, c2, c3, c4, c5, c6, c7⟩ := keep _ hkb)
        | (go_at_call 18; refine Calls.mono (hemp _ (by first | exact hkb | exact Below.refl _ _)) ?_; rintro e wZ ⟨rfl, hbZ⟩; have hkb : Below W.heap.size W.drew wZ := hbZ; clear hbZ; obtain ⟨c0, c1, c2, c3, c4, c5, c6, c7⟩ := keep _ hkb)
        | (go_at_call 17; refine Calls.mono (hsta _ (by first | exact hkb | exact Below.refl _ _)) ?_; rintro e wZ ⟨rfl, hbZ⟩; have hkb : Below W.heap.size W.drew wZ := hbZ; clear hbZ; obtain ⟨c0, c1, c2, c3, c4, c5, c6, c7⟩ := keep _ hkb))
  all_goals
    have HF := Lib.hid (hbW.trans (((show Below W.heap.size W W.drew from ⟨rfl, rfl, rfl, Nat.le_refl _, fun _ _ => rfl⟩).trans hkb).mono hbW.size))
    go_wp2_with fail
    go_ret
    exact ⟨rfl, HF.out⟩
end Go.Proofs.YtcmfkdhadmfgkaaDoor.Bk
