/- Contracts of package tree: levels, squares. -/
import Derived.Test.YtahlinekbllkaaaGreatDoorTrM3
import Derived.Test.YtahlinekbllkaaaGreatDoorBs
import Derived.Laws.BitsAllLaws
import Derived.Laws.BitsLemmas
namespace Go.Proofs.YtahlinekbllkaaaGreatDoor.Tr
open Go.RowKit Go.Proofs.YtahlinekbllkaaaGreatDoor.Ba Go.Lib

/-- How far a root goes. -/
def hfN (l : Int) : Nat := (min (max l 1) 44 - 1).toNat
def hf (l : Int) : Int := 2 ^ hfN l
theorem hfN_le (l : Int) : hfN l ≤ 43 := by unfold hfN; omega
theorem hf_nat (l : Int) : hf l = ((2 ^ hfN l : Nat) : Int) := by unfold hf; simp
theorem hf_bd (l : Int) : 1 ≤ hf l ∧ hf l ≤ 8796093022208 := by
  have h1 : 1 ≤ 2 ^ hfN l := Nat.one_le_two_pow
  have h2 : (2 : Nat) ^ hfN l ≤ 2 ^ 43 := Nat.pow_le_pow_right (by decide) (hfN_le l)
  have h3 : (2 : Nat) ^ 43 = 8796093022208 := by decide
  rw [hf_nat]
  omega
theorem hf_low {l : Int} (h : l ≤ 1) : hf l = 1 := by
  have : hfN l = 0 := by unfold hfN; omega
  unfold hf; rw [this]; rfl
theorem hf_high {l : Int} (h : 44 ≤ l) : hf l = 8796093022208 := by
  have : hfN l = 43 := by unfold hfN; omega
  unfold hf; rw [this]; rfl
theorem hf_mid {l : Int} (h1 : 1 ≤ l) (h2 : l ≤ 44) : hf l = 2 ^ (l.toNat - 1) := by
  have : hfN l = l.toNat - 1 := by unfold hfN; omega
  unfold hf; rw [this]
theorem wrap_hf (l : Int) : wrap64 (hf l) = hf l := by
  have := hf_bd l
  unfold wrap64
  omega
theorem ret_i {a b : Int} (h : a = b) : Ending.returned (.int .i64 a) = .returned (.int .i64 b) := by rw [h]
theorem half_any (l : Int) (w : World) :
    Calls Tryz.prog 33 #[.int .i64 l] w fun e w' => e = .returned (.int .i64 (hf l)) ∧ w = w' := by
  have hw := Lib.hid (wrap_hf l)
  by_cases h1 : l < 1
  · have e := Lib.hid (hf_low (l := l) (by omega))
    go_enter Tryz.func33, Tryz.ntmps33
    go_wp2
    go_ret
    exact ⟨ret_i (by rw [e.out] <;> decide), rfl⟩
  · by_cases h2 : 44 ≤ l
    · have e := Lib.hid (hf_high (l := l) (by omega))
      go_enter Tryz.func33, Tryz.ntmps33
      go_wp2
      all_goals
        go_ret
        exact ⟨ret_i (by rw [e.out]; first | (unfold wrap64; omega) | (obtain rfl : l = 44 := (by omega); rw [show (2 : Int) ^ (Int.toNat 44 - 1) = 8796093022208 from rfl]; unfold wrap64; omega) | omega), rfl⟩
    · have e := Lib.hid (hf_mid (l := l) (by omega) (by omega))
      rw [e.out] at hw
      go_enter Tryz.func33, Tryz.ntmps33
      go_wp2
      all_goals
        go_ret
        exact ⟨ret_i (by rw [e.out]; first | exact hw.out | omega), rfl⟩
/-! Squares. -/
/-- Nothing old has turned, and no draw was taken back. -/
structure Gw (w w' : World) : Prop where
  below : Below w.heap.size w w'
  drawn : w.drawn ≤ w'.drawn
theorem Gw.refl (w : World) : Gw w w := ⟨Below.refl _ _, Nat.le_refl _⟩
theorem Gw.trans {a b c : World} (h : Gw a b) (k : Gw b c) : Gw a c := ⟨h.below.trans (k.below.mono h.below.size), Nat.le_trans h.drawn k.drawn⟩
theorem Gw.grow {w w' : World} (h : Gw w w') : ∃ q os, w' = Sort.grow (w.drewN q) os := by
  obtain ⟨⟨h1, h2, h3, h4, h5⟩, h6⟩ := h
  refine ⟨w'.drawn - w.drawn, w'.heap.extract w.heap.size w'.heap.size, ?_⟩
  cases w
  cases w'
  simp only [Sort.grow, World.drewN] at *
  subst h1 h2 h3
  congr 1
  · refine Array.ext_getElem? fun i => ?_
    rw [Array.getElem?_append]
    split
    · rename_i hi
      exact h5 i hi
    · rename_i hi
      rw [Array.getElem?_extract]
      split
      · congr 1; omega
      · rw [Array.getElem?_eq_none (by omega)]
  · omega
theorem plus_any (a b c d : Int) (w : World) (ha : -70368744177664 ≤ a ∧ a ≤ 70368744177664) (hb : -70368744177664 ≤ b ∧ b ≤ 70368744177664) (hc : -70368744177664 ≤ c ∧ c ≤ 70368744177664) (hd : -70368744177664 ≤ d ∧ d ≤ 70368744177664) :
    Calls Tryz.prog 71 #[.agg #[.int .i64 a, .int .i64 b], .agg #[.int .i64 c, .int .i64 d]] w fun e w' => e = .returned (.agg #[.int .i64 (a + c), .int .i64 (b + d)]) ∧ Gw w w' := by
  go_enter Tryz.func71, Tryz.ntmps71
  go_wp2
  exact bodyPost_ret (v := .agg #[.int .i64 (a + c), .int .i64 (b + d)]) (by simp [results, Tryz.results71, go_sem]) rfl ⟨rfl, by go_grown, by simp⟩
abbrev Sq (x y l : Int) : Value := .agg #[.int .i64 x, .int .i64 y, .int .i64 l]
theorem whole_any (l : Int) (w : World) :
    Calls Tryz.prog 37 #[.int .i64 l] w fun e w' => e = .returned (Sq (-hf l) (-hf l) l) ∧ Gw w w' := by
  have hh := hf_bd l
  have hc := fun W => half_any l W
  generalize hf l = H at *
  go_enter Tryz.func37, Tryz.ntmps37
  go_wp2_with (first | (go_at_call 33; refine (hc _).mono ?_; rintro e w' ⟨rfl, rfl⟩))
  exact bodyPost_ret (v := Sq (-H) (-H) l) (by simp [results, Tryz.results37, go_sem]) rfl ⟨rfl, by go_grown, by simp⟩
/-- Half of a node's side is half of a root's, too. -/
theorem hf_sd (d : Nat) (h : d ≤ 42) : hf ((d : Int) + 2) = 2 ^ (d + 1) := by
  rw [hf_mid (by omega) (by omega)]
  congr 1
theorem sd_half (d : Nat) : sd (d + 1) = 2 * sd d ∧ (2 : Int) ^ (d + 2) = sd d := ⟨sd_succ d, rfl⟩
theorem sd_le : ∀ d, d ≤ 42 → sd d ≤ 17592186044416 := fun d h => by
  have h2 : (2 : Nat) ^ (d + 2) ≤ 2 ^ 44 := Nat.pow_le_pow_right (by decide) (by omega)
  have h3 : (2 : Nat) ^ 44 = 17592186044416 := by decide
  have : sd d = ((2 ^ (d + 2) : Nat) : Int) := by unfold sd; simp
  omega
/-- A square that may be: its numbers are no greater than a root's. -/
structure SqOk (d : Nat) (x y : Int) : Prop where
  lv : d ≤ 42
  x0 : -8796093022208 ≤ x
  x1 : x + sd d ≤ 8796093022208
  y0 : -8796093022208 ≤ y
  y1 : y + sd d ≤ 8796093022208
theorem SqOk.kid {d : Nat} {x y : Int} (h : SqOk (d + 1) x y) {q : Nat} (hq : q < 4) : SqOk d (px d x q) (py d y q) := by
  obtain ⟨h0, h1, h2, h3, h4⟩ := h
  have hp := sd_pos d
  rw [sd_succ] at h2 h4
  rcases pxy (d := d) (x := x) (y := y) hq with ⟨e, e1, e2⟩ | ⟨e, e1, e2⟩ | ⟨e, e1, e2⟩ | ⟨e, e1, e2⟩ <;> rw [e1, e2] <;> exact ⟨by omega, by omega, by omega, by omega, by omega⟩
theorem SqOk.whole {d : Nat} (h : d ≤ 42) (_h1 : 1 ≤ d) : SqOk d (-hf ((d : Int) + 2)) (-hf ((d : Int) + 2)) := by
  have e := hf_sd d h
  have e2 : sd d = 2 * 2 ^ (d + 1) := by unfold sd; rw [show d + 2 = d + 1 + 1 by omega, Int.pow_succ]; omega
  have hb := hf_bd ((d : Int) + 2)
  rw [e] at hb ⊢
  exact ⟨h, by omega, by omega, by omega, by omega⟩
theorem keepK {W w' : World} {A P : Nat} {x y l a b : Int} (kS : Blk W A 81 #[.int .i64 x, .int .i64 y, .int .i64 l]) (kP : Blk W P 38 #[.int .i64 a, .int .i64 b]) (hb : Below W.heap.size W w') :
    (w'.cell? ⟨A, 0, none⟩ = some (.int .i64 x) ∧ w'.cell? ⟨A, 1, none⟩ = some (.int .i64 y) ∧ w'.cell? ⟨A, 2, none⟩ = some (.int .i64 l)) ∧ w'.cell? ⟨P, 0, none⟩ = some (.int .i64 a) ∧ w'.cell? ⟨P, 1, none⟩ = some (.int .i64 b) :=
  ⟨⟨(kS.under hb).cell 0, (kS.under hb).cell 1, (kS.under hb).cell 2⟩, (kP.under hb).cell 0, (kP.under hb).cell 1⟩
theorem kid_any (d q : Nat) (x y : Int) (w : World) (h : SqOk (d + 1) x y) (hq : q < 4) :
    Calls Tryz.prog 49 #[Sq x y ((d : Int) + 3), .int .i64 q] w fun e w' => e = .returned (Sq (px d x q) (py d y q) ((d : Int) + 2)) ∧ Gw w w' := by
  have hh := fun W => half_any ((d : Int) + 3) W
  have e1 : hf ((d : Int) + 3) = sd d := by rw [show (d : Int) + 3 = ((d + 1 : Nat) : Int) + 2 by omega, hf_sd _ h.lv]; rfl
  rw [e1] at hh
  have hsp := sd_pos d
  have hsl := sd_le (d + 1) h.lv
  rw [sd_succ] at hsl
  obtain ⟨h0, h1, h2, h3, h4⟩ := h
  rw [sd_succ] at h2 h4
  have hpl := fun a b W ha hb => plus_any x y a b W (by omega) (by omega) ha hb
  rcases pxy (d := d) (x := x) (y := y) hq with ⟨rfl, e2, e3⟩ | ⟨rfl, e2, e3⟩ | ⟨rfl, e2, e3⟩ | ⟨rfl, e2, e3⟩ <;> rw [e2, e3] <;> clear e2 e3
  · (go_enter Tryz.func49, Tryz.ntmps49; go_wp2_with (first | (go_at_call 33; refine (hh _).mono ?_; rintro e w' ⟨rfl, rfl⟩)); (have kS := ((Blk.newAt w 81 #[.int .i64 x, .int .i64 y, .int .i64 ((d : Int) + 3)] _ rfl).alloc (.cells #[.int .i64 0, .int .i64 0, .int .i64 0] 81)).alloc (.cells #[.int .i64 (0), .int .i64 (0)] 38)); (have kR := (Blk.newAt (w.alloc (.cells #[.int .i64 x, .int .i64 y, .int .i64 ((d : Int) + 3)] 81)) 81 #[.int .i64 0, .int .i64 0, .int .i64 0] (w.heap.size + 1) (by simp)).alloc (.cells #[.int .i64 (0), .int .i64 (0)] 38)); (have kP := Blk.newAt ((w.alloc (.cells #[.int .i64 x, .int .i64 y, .int .i64 ((d : Int) + 3)] 81)).alloc (.cells #[.int .i64 0, .int .i64 0, .int .i64 0] 81)) 38 #[.int .i64 (0), .int .i64 (0)] (w.heap.size + 1 + 1) (by simp)); (have hg : Gw w (((w.alloc (.cells #[.int .i64 x, .int .i64 y, .int .i64 ((d : Int) + 3)] 81)).alloc (.cells #[.int .i64 0, .int .i64 0, .int .i64 0] 81)).alloc (.cells #[.int .i64 (0), .int .i64 (0)] 38)) := ⟨by go_grown, by simp⟩); (generalize ((w.alloc (.cells #[.int .i64 x, .int .i64 y, .int .i64 ((d : Int) + 3)] 81)).alloc (.cells #[.int .i64 0, .int .i64 0, .int .i64 0] 81)).alloc (.cells #[.int .i64 (0), .int .i64 (0)] 38) = w3 at *); (obtain ⟨⟨s0, s1, s2⟩, p0, p1⟩ := keepK kS kP (Below.refl _ _)); (have ew : IntKind.i64.wrap ((d : Int) + 3 - 1) = (d : Int) + 2 := (by rw [show (d : Int) + 3 - 1 = (d : Int) + 2 by omega]; exact IntWalk.i64_in _ (by omega))); have hkb : Gw w3 w3 := Gw.refl _; have hl0 := kS.lt; have hl1 := kR.lt; have hl2 := kP.lt; clear hh; (go_region_held3 (fun w' => (w'.cell? ⟨w.heap.size, 0, none⟩ = some (.int .i64 x) ∧ w'.cell? ⟨w.heap.size, 1, none⟩ = some (.int .i64 y) ∧ w'.cell? ⟨w.heap.size, 2, none⟩ = some (.int .i64 ((d : Int) + 3))) ∧ w'.cell? ⟨w.heap.size + 1 + 1, 0, none⟩ = some (.int .i64 (0)) ∧ w'.cell? ⟨w.heap.size + 1 + 1, 1, none⟩ = some (.int .i64 (0)) ) (first | (refine keepK kS kP ?_; (have := hkb.below); go_grown; done) | (go_keep)) (first | (go_at_call 71; refine (hpl (0) (0) _ (by omega) (by omega)).mono ?_; rintro e w5 ⟨rfl, hg5⟩; have hkb : Gw w3 w5 := ⟨Ba.below_call hg5.below (by go_grown) (by go_size), by have := hg5.drawn; simp at this ⊢; omega⟩; have kR5 := kR.under hkb.below; obtain ⟨z0, z1, z2⟩ : w5.cell? ⟨w.heap.size + 1, 0, none⟩ = some (.int .i64 0) ∧ w5.cell? ⟨w.heap.size + 1, 1, none⟩ = some (.int .i64 0) ∧ w5.cell? ⟨w.heap.size + 1, 2, none⟩ = some (.int .i64 0) := ⟨kR5.cell 0, kR5.cell 1, kR5.cell 2⟩; have f0 := kR5.frozen 0; have f1 := kR5.frozen 1; have f2 := kR5.frozen 2; have hl5 := kR5.lt; obtain ⟨⟨s0', s1', s2'⟩, p0', p1'⟩ := keepK kS kP hkb.below))); all_goals (go_wp2_with fail); all_goals (exact bodyPost_ret (v := Sq (x) (y) ((d : Int) + 2)) (by simp [results, Tryz.results49, go_sem, *]) rfl ⟨rfl, ⟨by have := (hg.trans hkb).below; go_grown, by have := (hg.trans hkb).drawn; simp; omega⟩⟩))
  · (go_enter Tryz.func49, Tryz.ntmps49; go_wp2_with (first | (go_at_call 33; refine (hh _).mono ?_; rintro e w' ⟨rfl, rfl⟩)); (have kS := ((Blk.newAt w 81 #[.int .i64 x, .int .i64 y, .int .i64 ((d : Int) + 3)] _ rfl).alloc (.cells #[.int .i64 0, .int .i64 0, .int .i64 0] 81)).alloc (.cells #[.int .i64 (sd d), .int .i64 (0)] 38)); (have kR := (Blk.newAt (w.alloc (.cells #[.int .i64 x, .int .i64 y, .int .i64 ((d : Int) + 3)] 81)) 81 #[.int .i64 0, .int .i64 0, .int .i64 0] (w.heap.size + 1) (by simp)).alloc (.cells #[.int .i64 (sd d), .int .i64 (0)] 38)); (have kP := Blk.newAt ((w.alloc (.cells #[.int .i64 x, .int .i64 y, .int .i64 ((d : Int) + 3)] 81)).alloc (.cells #[.int .i64 0, .int .i64 0, .int .i64 0] 81)) 38 #[.int .i64 (sd d), .int .i64 (0)] (w.heap.size + 1 + 1) (by simp)); (have hg : Gw w (((w.alloc (.cells #[.int .i64 x, .int .i64 y, .int .i64 ((d : Int) + 3)] 81)).alloc (.cells #[.int .i64 0, .int .i64 0, .int .i64 0] 81)).alloc (.cells #[.int .i64 (sd d), .int .i64 (0)] 38)) := ⟨by go_grown, by simp⟩); (generalize ((w.alloc (.cells #[.int .i64 x, .int .i64 y, .int .i64 ((d : Int) + 3)] 81)).alloc (.cells #[.int .i64 0, .int .i64 0, .int .i64 0] 81)).alloc (.cells #[.int .i64 (sd d), .int .i64 (0)] 38) = w3 at *); (obtain ⟨⟨s0, s1, s2⟩, p0, p1⟩ := keepK kS kP (Below.refl _ _)); (have ew : IntKind.i64.wrap ((d : Int) + 3 - 1) = (d : Int) + 2 := (by rw [show (d : Int) + 3 - 1 = (d : Int) + 2 by omega]; exact IntWalk.i64_in _ (by omega))); have hkb : Gw w3 w3 := Gw.refl _; have hl0 := kS.lt; have hl1 := kR.lt; have hl2 := kP.lt; clear hh; (go_region_held3 (fun w' => (w'.cell? ⟨w.heap.size, 0, none⟩ = some (.int .i64 x) ∧ w'.cell? ⟨w.heap.size, 1, none⟩ = some (.int .i64 y) ∧ w'.cell? ⟨w.heap.size, 2, none⟩ = some (.int .i64 ((d : Int) + 3))) ∧ w'.cell? ⟨w.heap.size + 1 + 1, 0, none⟩ = some (.int .i64 (sd d)) ∧ w'.cell? ⟨w.heap.size + 1 + 1, 1, none⟩ = some (.int .i64 (0)) ) (first | (refine keepK kS kP ?_; (have := hkb.below); go_grown; done) | (go_keep)) (first | (go_at_call 71; refine (hpl (sd d) (0) _ (by omega) (by omega)).mono ?_; rintro e w5 ⟨rfl, hg5⟩; have hkb : Gw w3 w5 := ⟨Ba.below_call hg5.below (by go_grown) (by go_size), by have := hg5.drawn; simp at this ⊢; omega⟩; have kR5 := kR.under hkb.below; obtain ⟨z0, z1, z2⟩ : w5.cell? ⟨w.heap.size + 1, 0, none⟩ = some (.int .i64 0) ∧ w5.cell? ⟨w.heap.size + 1, 1, none⟩ = some (.int .i64 0) ∧ w5.cell? ⟨w.heap.size + 1, 2, none⟩ = some (.int .i64 0) := ⟨kR5.cell 0, kR5.cell 1, kR5.cell 2⟩; have f0 := kR5.frozen 0; have f1 := kR5.frozen 1; have f2 := kR5.frozen 2; have hl5 := kR5.lt; obtain ⟨⟨s0', s1', s2'⟩, p0', p1'⟩ := keepK kS kP hkb.below))); all_goals (go_wp2_with fail); all_goals (exact bodyPost_ret (v := Sq (x + sd d) (y) ((d : Int) + 2)) (by simp [results, Tryz.results49, go_sem, *]) rfl ⟨rfl, ⟨by have := (hg.trans hkb).below; go_grown, by have := (hg.trans hkb).drawn; simp; omega⟩⟩))
  · (go_enter Tryz.func49, Tryz.ntmps49; go_wp2_with (first | (go_at_call 33; refine (hh _).mono ?_; rintro e w' ⟨rfl, rfl⟩)); (have kS := ((Blk.newAt w 81 #[.int .i64 x, .int .i64 y, .int .i64 ((d : Int) + 3)] _ rfl).alloc (.cells #[.int .i64 0, .int .i64 0, .int .i64 0] 81)).alloc (.cells #[.int .i64 (0), .int .i64 (sd d)] 38)); (have kR := (Blk.newAt (w.alloc (.cells #[.int .i64 x, .int .i64 y, .int .i64 ((d : Int) + 3)] 81)) 81 #[.int .i64 0, .int .i64 0, .int .i64 0] (w.heap.size + 1) (by simp)).alloc (.cells #[.int .i64 (0), .int .i64 (sd d)] 38)); (have kP := Blk.newAt ((w.alloc (.cells #[.int .i64 x, .int .i64 y, .int .i64 ((d : Int) + 3)] 81)).alloc (.cells #[.int .i64 0, .int .i64 0, .int .i64 0] 81)) 38 #[.int .i64 (0), .int .i64 (sd d)] (w.heap.size + 1 + 1) (by simp)); (have hg : Gw w (((w.alloc (.cells #[.int .i64 x, .int .i64 y, .int .i64 ((d : Int) + 3)] 81)).alloc (.cells #[.int .i64 0, .int .i64 0, .int .i64 0] 81)).alloc (.cells #[.int .i64 (0), .int .i64 (sd d)] 38)) := ⟨by go_grown, by simp⟩); (generalize ((w.alloc (.cells #[.int .i64 x, .int .i64 y, .int .i64 ((d : Int) + 3)] 81)).alloc (.cells #[.int .i64 0, .int .i64 0, .int .i64 0] 81)).alloc (.cells #[.int .i64 (0), .int .i64 (sd d)] 38) = w3 at *); (obtain ⟨⟨s0, s1, s2⟩, p0, p1⟩ := keepK kS kP (Below.refl _ _)); (have ew : IntKind.i64.wrap ((d : Int) + 3 - 1) = (d : Int) + 2 := (by rw [show (d : Int) + 3 - 1 = (d : Int) + 2 by omega]; exact IntWalk.i64_in _ (by omega))); have hkb : Gw w3 w3 := Gw.refl _; have hl0 := kS.lt; have hl1 := kR.lt; have hl2 := kP.lt; clear hh; (go_region_held3 (fun w' => (w'.cell? ⟨w.heap.size, 0, none⟩ = some (.int .i64 x) ∧ w'.cell? ⟨w.heap.size, 1, none⟩ = some (.int .i64 y) ∧ w'.cell? ⟨w.heap.size, 2, none⟩ = some (.int .i64 ((d : Int) + 3))) ∧ w'.cell? ⟨w.heap.size + 1 + 1, 0, none⟩ = some (.int .i64 (0)) ∧ w'.cell? ⟨w.heap.size + 1 + 1, 1, none⟩ = some (.int .i64 (sd d)) ) (first | (refine keepK kS kP ?_; (have := hkb.below); go_grown; done) | (go_keep)) (first | (go_at_call 71; refine (hpl (0) (sd d) _ (by omega) (by omega)).mono ?_; rintro e w5 ⟨rfl, hg5⟩; have hkb : Gw w3 w5 := ⟨Ba.below_call hg5.below (by go_grown) (by go_size), by have := hg5.drawn; simp at this ⊢; omega⟩; have kR5 := kR.under hkb.below; obtain ⟨z0, z1, z2⟩ : w5.cell? ⟨w.heap.size + 1, 0, none⟩ = some (.int .i64 0) ∧ w5.cell? ⟨w.heap.size + 1, 1, none⟩ = some (.int .i64 0) ∧ w5.cell? ⟨w.heap.size + 1, 2, none⟩ = some (.int .i64 0) := ⟨kR5.cell 0, kR5.cell 1, kR5.cell 2⟩; have f0 := kR5.frozen 0; have f1 := kR5.frozen 1; have f2 := kR5.frozen 2; have hl5 := kR5.lt; obtain ⟨⟨s0', s1', s2'⟩, p0', p1'⟩ := keepK kS kP hkb.below))); all_goals (go_wp2_with fail); all_goals (exact bodyPost_ret (v := Sq (x) (y + sd d) ((d : Int) + 2)) (by simp [results, Tryz.results49, go_sem, *]) rfl ⟨rfl, ⟨by have := (hg.trans hkb).below; go_grown, by have := (hg.trans hkb).drawn; simp; omega⟩⟩))
  · (go_enter Tryz.func49, Tryz.ntmps49; go_wp2_with (first | (go_at_call 33; refine (hh _).mono ?_; rintro e w' ⟨rfl, rfl⟩)); (have kS := ((Blk.newAt w 81 #[.int .i64 x, .int .i64 y, .int .i64 ((d : Int) + 3)] _ rfl).alloc (.cells #[.int .i64 0, .int .i64 0, .int .i64 0] 81)).alloc (.cells #[.int .i64 (sd d), .int .i64 (sd d)] 38)); (have kR := (Blk.newAt (w.alloc (.cells #[.int .i64 x, .int .i64 y, .int .i64 ((d : Int) + 3)] 81)) 81 #[.int .i64 0, .int .i64 0, .int .i64 0] (w.heap.size + 1) (by simp)).alloc (.cells #[.int .i64 (sd d), .int .i64 (sd d)] 38)); (have kP := Blk.newAt ((w.alloc (.cells #[.int .i64 x, .int .i64 y, .int .i64 ((d : Int) + 3)] 81)).alloc (.cells #[.int .i64 0, .int .i64 0, .int .i64 0] 81)) 38 #[.int .i64 (sd d), .int .i64 (sd d)] (w.heap.size + 1 + 1) (by simp)); (have hg : Gw w (((w.alloc (.cells #[.int .i64 x, .int .i64 y, .int .i64 ((d : Int) + 3)] 81)).alloc (.cells #[.int .i64 0, .int .i64 0, .int .i64 0] 81)).alloc (.cells #[.int .i64 (sd d), .int .i64 (sd d)] 38)) := ⟨by go_grown, by simp⟩); (generalize ((w.alloc (.cells #[.int .i64 x, .int .i64 y, .int .i64 ((d : Int) + 3)] 81)).alloc (.cells #[.int .i64 0, .int .i64 0, .int .i64 0] 81)).alloc (.cells #[.int .i64 (sd d), .int .i64 (sd d)] 38) = w3 at *); (obtain ⟨⟨s0, s1, s2⟩, p0, p1⟩ := keepK kS kP (Below.refl _ _)); (have ew : IntKind.i64.wrap ((d : Int) + 3 - 1) = (d : Int) + 2 := (by rw [show (d : Int) + 3 - 1 = (d : Int) + 2 by omega]; exact IntWalk.i64_in _ (by omega))); have hkb : Gw w3 w3 := Gw.refl _; have hl0 := kS.lt; have hl1 := kR.lt; have hl2 := kP.lt; clear hh; (go_region_held3 (fun w' => (w'.cell? ⟨w.heap.size, 0, none⟩ = some (.int .i64 x) ∧ w'.cell? ⟨w.heap.size, 1, none⟩ = some (.int .i64 y) ∧ w'.cell? ⟨w.heap.size, 2, none⟩ = some (.int .i64 ((d : Int) + 3))) ∧ w'.cell? ⟨w.heap.size + 1 + 1, 0, none⟩ = some (.int .i64 (sd d)) ∧ w'.cell? ⟨w.heap.size + 1 + 1, 1, none⟩ = some (.int .i64 (sd d)) ) (first | (refine keepK kS kP ?_; (have := hkb.below); go_grown; done) | (go_keep)) (first | (go_at_call 71; refine (hpl (sd d) (sd d) _ (by omega) (by omega)).mono ?_; rintro e w5 ⟨rfl, hg5⟩; have hkb : Gw w3 w5 := ⟨Ba.below_call hg5.below (by go_grown) (by go_size), by have := hg5.drawn; simp at this ⊢; omega⟩; have kR5 := kR.under hkb.below; obtain ⟨z0, z1, z2⟩ : w5.cell? ⟨w.heap.size + 1, 0, none⟩ = some (.int .i64 0) ∧ w5.cell? ⟨w.heap.size + 1, 1, none⟩ = some (.int .i64 0) ∧ w5.cell? ⟨w.heap.size + 1, 2, none⟩ = some (.int .i64 0) := ⟨kR5.cell 0, kR5.cell 1, kR5.cell 2⟩; have f0 := kR5.frozen 0; have f1 := kR5.frozen 1; have f2 := kR5.frozen 2; have hl5 := kR5.lt; obtain ⟨⟨s0', s1', s2'⟩, p0', p1'⟩ := keepK kS kP hkb.below))); all_goals (go_wp2_with fail); all_goals (exact bodyPost_ret (v := Sq (x + sd d) (y + sd d) ((d : Int) + 2)) (by simp [results, Tryz.results49, go_sem, *]) rfl ⟨rfl, ⟨by have := (hg.trans hkb).below; go_grown, by have := (hg.trans hkb).drawn; simp; omega⟩⟩))
end Go.Proofs.YtahlinekbllkaaaGreatDoor.Tr
