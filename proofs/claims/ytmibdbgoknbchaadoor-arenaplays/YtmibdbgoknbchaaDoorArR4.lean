/- The document's arena: Empty. -/
import Derived.Test.YtmibdbgoknbchaaDoorArR3
namespace Go.Proofs.YtmibdbgoknbchaaDoor.Ar
open Go.RowKit Go.Proofs.YtmibdbgoknbchaaDoor.Ba Go.Proofs.YtmibdbgoknbchaaDoor.Mp Go.Lib Go.Maps

def okL (L : List RN) : Prop := ∀ x ∈ L, x.count ≤ 4611686018427387904 ∧ 2 ≤ x.level ∧ x.level ≤ 44
def eLR (most : Int) : Nat → List RN → List RN × Int × Int
  | 0, L => (L, 0, 0)
  | n + 1, L => if (eLR most n L).2.2 = 0 then joinRR (eLR most n L).1 most (eLR most n L).2.1 (eLR most n L).2.1 (eLR most n L).2.1 (eLR most n L).2.1 else eLR most n L
def emptyRR (L : List RN) (most level : Int) : List RN × Int × Int := if level < 2 then (L, 0, 4) else if 44 < level then (L, 0, 7) else eLR most (level - 2).toNat L
theorem addRR_ok {L : List RN} {most : Int} {n : RN} (h : okL L) (hn : n.count ≤ 4611686018427387904 ∧ 2 ≤ n.level ∧ n.level ≤ 44) : okL (addRR L most n).1 := by
  unfold addRR
  split
  · exact h
  · split
    · exact h
    · intro x hx
      simp only [List.mem_append, List.mem_singleton] at hx
      rcases hx with hx | rfl
      · exact h x hx
      · exact hn
theorem atR_mem {L : List RN} {a : Int} (h : kok L a a = true) : atR L a ∈ L := by
  simp only [kok, Bool.and_eq_true, decide_eq_true_eq] at h
  unfold atR
  rw [List.getElem?_eq_getElem (show a.toNat < L.length by omega)]
  exact List.getElem_mem _
theorem joinRR_ok {L : List RN} {most a b c d : Int} (h : okL L) : okL (joinRR L most a b c d).1 := by
  unfold joinRR
  split
  · rename_i hk
    have ha := h _ (atR_mem (List.all_eq_true.1 hk a (by simp)))
    split
    · exact h
    · refine addRR_ok h ⟨ksum_le _ _, ?_, ?_⟩ <;> dsimp only <;> omega
  · exact h
theorem joinRR_len (L : List RN) (most a b c d : Int) : L.length ≤ (joinRR L most a b c d).1.length ∧ (joinRR L most a b c d).1.length ≤ L.length + 1 := by
  unfold joinRR
  split
  · split
    · simp
    · exact addRR_len L most _
  · simp
theorem addRR_code {L : List RN} {most : Int} {n : RN} (h : (addRR L most n).2.2 ≠ 0) : (addRR L most n).1 = L ∧ (addRR L most n).2.1 = 0 := by
  unfold addRR at h ⊢
  split
  · rename_i he; rw [he] at h; simp at h
  · rename_i he
    rw [he] at h
    split
    · exact ⟨rfl, rfl⟩
    · rename_i hf; simp [hf] at h
theorem joinRR_code {L : List RN} {most a b c d : Int} (h : (joinRR L most a b c d).2.2 ≠ 0) : (joinRR L most a b c d).1 = L ∧ (joinRR L most a b c d).2.1 = 0 := by
  unfold joinRR at h ⊢
  split
  · rename_i hk
    rw [if_pos hk] at h
    split
    · exact ⟨rfl, rfl⟩
    · rename_i hf
      rw [if_neg hf] at h
      exact addRR_code h
  · exact ⟨rfl, rfl⟩
theorem eLR_len (most : Int) (L : List RN) : ∀ n, L.length ≤ (eLR most n L).1.length ∧ (eLR most n L).1.length ≤ L.length + n
  | 0 => ⟨Nat.le_refl _, Nat.le_refl _⟩
  | n + 1 => by
    have ih := eLR_len most L n
    unfold eLR
    split
    · have := joinRR_len (eLR most n L).1 most (eLR most n L).2.1 (eLR most n L).2.1 (eLR most n L).2.1 (eLR most n L).2.1
      omega
    · omega
theorem eLR_ok (most : Int) {L : List RN} (h : okL L) : ∀ n, okL (eLR most n L).1
  | 0 => h
  | n + 1 => by
    have ih := eLR_ok most h n
    unfold eLR
    split
    · exact joinRR_ok ih
    · exact ih
theorem eLR_stop (most : Int) {L : List RN} {m : Nat} (h : (eLR most m L).2.2 ≠ 0) : ∀ n, eLR most (m + n) L = eLR most m L
  | 0 => rfl
  | n + 1 => by
    have ih := eLR_stop most h n
    have e : eLR most (m + (n + 1)) L = if (eLR most (m + n) L).2.2 = 0 then joinRR (eLR most (m + n) L).1 most (eLR most (m + n) L).2.1 (eLR most (m + n) L).2.1 (eLR most (m + n) L).2.1 (eLR most (m + n) L).2.1 else eLR most (m + n) L := rfl
    rw [e, ih, if_neg h]
def EpR (w : World) (L : List RN) (most : Int) (N : Nat) (t7 t8 : Value) (wr : World) : Prop :=
  ∃ (m g cap : Nat), m ≤ N ∧ t8 = .int .i64 ((m : Int) + 2) ∧ t7 = .int .i64 (eLR most m L).2.1 ∧ (eLR most m L).2.2 = 0 ∧ Blk wr w.heap.size 29 #[.slice (some ⟨g, 0, none⟩) (eLR most m L).1.length cap, .int .i64 most] ∧ Blk wr (w.heap.size + 1) 29 #[.slice none 0 0, .int .i64 0] ∧ RAt wr g cap (eLR most m L).1 ∧ Below w.heap.size w wr
set_option maxRecDepth 100000 in
set_option maxHeartbeats 1000000 in
theorem refempty_mid (g cap N : Nat) (L : List RN) (most : Int) (w : World) (h : RAt w g cap L) (hN : L.length ≤ 90000) (h1 : 0 < L.length) (hL : okL L) (hn : N ≤ 42) :
    Calls Tryd.prog 30 #[AV g cap L most, .int .i64 ((N : Int) + 2)] w fun e w' => ∃ g' cap', e = .returned (.tuple #[AV g' cap' (eLR most N L).1 most, .int .i64 (eLR most N L).2.1, .int .i64 (eLR most N L).2.2]) ∧ RAt w' g' cap' (eLR most N L).1 ∧ Below w.heap.size w w' := by
  have HR := Lib.hid h
  have b0 := (Blk.newAt w 29 #[.slice (some ⟨g, 0, none⟩) L.length cap, .int .i64 most] _ rfl).alloc (.cells #[.slice none 0 0, .int .i64 0] 29)
  have b1 := Blk.newAt (w.alloc (.cells #[.slice (some ⟨g, 0, none⟩) L.length cap, .int .i64 most] 29)) 29 #[.slice none 0 0, .int .i64 0] (w.heap.size + 1) (by simp)
  have hb0 : Below w.heap.size w ((w.alloc (.cells #[.slice (some ⟨g, 0, none⟩) L.length cap, .int .i64 most] 29)).alloc (.cells #[.slice none 0 0, .int .i64 0] 29)) := ((Below.refl _ _).alloc (Nat.le_refl _) _).alloc (by simp) _
  have hr0 := h.below hb0
  have i2 : ¬ (N : Int) + 2 < 2 := by omega
  have i4 : ¬ 44 < (N : Int) + 2 := by omega
  unfold AV
  clear h
  go_enter Tryd.func30, Tryd.ntmps30
  go_wp2_with fail
  go_loopw [7, 8] (fun t7 t8 wr => EpR w L most N t7 t8 wr) (fun _ t8 _ => N + 2 - (intOf t8).toNat)
  case atStart => exact ⟨0, g, cap, Nat.zero_le _, rfl, rfl, rfl, b0, b1, hr0, hb0⟩
  case round =>
    clear b0 b1 hb0 hr0
    obtain ⟨m, G, C, hm, rfl, rfl, hc0, k0, k1, hra, hb⟩ := hrel
    have hlen := eLR_len most L m
    have hok := eLR_ok most hL m
    have HNx := Lib.hid (show eLR most (m + 1) L = joinRR (eLR most m L).1 most (eLR most m L).2.1 (eLR most m L).2.1 (eLR most m L).2.1 (eLR most m L).2.1 by show (if _ then _ else _) = _; rw [if_pos hc0])
    have HE := Lib.hid (show eLR most m L = ((eLR most m L).1, (eLR most m L).2.1, 0) by rw [← hc0])
    have z0 := k0.cell 0
    have z1 := k0.cell 1
    have fz0 := k0.frozen 0
    have fz1 := k0.frozen 1
    have r0 := k1.cell 0
    have r1 := k1.cell 1
    have fr0 := k1.frozen 0
    have fr1 := k1.frozen 1
    simp only [List.getElem?_toArray, List.getElem?_cons_zero, List.getElem?_cons_succ] at z0 z1 r0 r1
    have lz := k0.lt
    have lr := k1.lt
    by_cases hlt : m < N
    · have hi : (m : Int) + 2 < (N : Int) + 2 := by omega
      generalize (eLR most m L).1 = L1 at *
      generalize (eLR most m L).2.1 = at1 at *
      have hj := refjoin_any G C L1 most at1 at1 at1 at1 wr hra (by omega) (by omega) hok
      rw [← HNx.out] at hj
      unfold AV at hj
      have hlr := joinRR_len L1 most at1 at1 at1 at1
      rw [← HNx.out] at hlr
      have HCo := Lib.hid (fun hc => joinRR_code (L := L1) (most := most) (a := at1) (b := at1) (c := at1) (d := at1) hc)
      rw [← HNx.out] at HCo
      have HSt := Lib.hid (fun hc => eLR_stop most (L := L) (m := m + 1) hc (N - (m + 1)))
      rw [show m + 1 + (N - (m + 1)) = N by omega] at HSt
      obtain ⟨R, hR⟩ : ∃ R, eLR most (m + 1) L = R := ⟨_, rfl⟩
      rw [hR] at hj hlr HCo HSt
      have HRm := Lib.hid hR
      clear hR HNx
      go_wp2_with fail
      refine hj.mono ?_
      rintro e w1 ⟨g1, c1, rfl, hra1, hb1⟩
      have j0 := k0.under hb1
      have j1 := k1.under hb1
      have hbw := hb.trans (hb1.mono hb.size)
      have hraw := hra.below hb1
      clear hj hb1 z0 z1 fz0 fz1 r0 r1 fr0 fr1 lz lr k0 k1
      by_cases hcode : R.2.2 = 0
      · rw [hcode]
        have z0 := j0.cell 0
        have z1 := j0.cell 1
        have fz0 := j0.frozen 0
        have fz1 := j0.frozen 1
        simp only [List.getElem?_toArray, List.getElem?_cons_zero, List.getElem?_cons_succ] at z0 z1
        have lz := j0.lt
        have hgn : g1 ≠ w.heap.size := hra1.ne (by omega) z0
        go_wp2_with fail
        refine ⟨⟨m + 1, g1, c1, by omega, by go_num, by rw [HRm.out], by rw [HRm.out]; exact hcode, ?_, ?_, ?_, ?_⟩, by simp [intOf]; omega⟩
        · rw [HRm.out]
          exact ((j0.set_ 0 _).set_ 1 _).alloc _
        · exact ((j1.far (by dsimp only; omega) _).far (by dsimp only; omega) _).alloc _
        · rw [HRm.out]
          exact (RAt.set (RAt.set hra1 hgn _) hgn _).below ((Below.refl _ _).alloc (Nat.le_refl _) _)
        · exact ((hbw.setCell (Nat.le_refl _) _).setCell (Nat.le_refl _) _).alloc (by simp; exact hbw.size) _
      · obtain ⟨hR1, hR2⟩ := HCo.out hcode
        have HF := Lib.hid (HSt.out hcode)
        have hcb : (R.2.2 == 0) = false := by simpa using hcode
        have hcn : (R.2.2 != 0) = true := by simp [hcode]
        have z0 := j0.cell 0
        have z1 := j0.cell 1
        have r0 := j1.cell 0
        have r1 := j1.cell 1
        have fr0 := j1.frozen 0
        have fr1 := j1.frozen 1
        simp only [List.getElem?_toArray, List.getElem?_cons_zero, List.getElem?_cons_succ] at z0 z1 r0 r1
        have lz := j0.lt
        have lr := j1.lt
        have hgn : G ≠ w.heap.size + 1 := hraw.ne (by omega) r0
        have HX := Lib.hid hraw
        have HRR := Lib.hid (show R = (L1, 0, R.2.2) by rw [← hR1, ← hR2])
        clear j0 j1 hraw hra hra1 HCo HSt HE hR1 hR2 hcode hok hlr
        generalize R.2.2 = code at *
        go_wp2
        exact bodyPost_ret (v := .tuple #[.agg #[.slice (some ⟨G, 0, none⟩) L1.length C, .int .i64 most], .int .i64 0, .int .i64 code]) (by simp [results, Tryd.results30, go_sem, *]) rfl ⟨G, C, by rw [HF.out, HRR.out], by rw [HF.out, HRR.out]; exact (RAt.set (p := ⟨w.heap.size + 1, 1, none⟩) (RAt.set (p := ⟨w.heap.size + 1, 0, none⟩) HX.out hgn _) hgn _).below ((Below.refl _ _).alloc (Nat.le_refl _) _), ((hbw.setCell (p := ⟨w.heap.size + 1, 0, none⟩) (Nat.le_succ _) _).setCell (p := ⟨w.heap.size + 1, 1, none⟩) (Nat.le_succ _) _).alloc (by simp; exact hbw.size) _⟩
    · obtain rfl : m = N := by omega
      have hi : ¬ (m : Int) + 2 < (m : Int) + 2 := by omega
      have hgn : G ≠ w.heap.size + 1 := hra.ne (by omega) r0
      generalize (eLR most m L).1 = L1 at *
      generalize (eLR most m L).2.1 = at1 at *
      clear k0 k1
      go_wp2
      exact bodyPost_ret (v := .tuple #[.agg #[.slice (some ⟨G, 0, none⟩) L1.length C, .int .i64 most], .int .i64 at1, .int .i64 0]) (by simp [results, Tryd.results30, go_sem, *]) rfl ⟨G, C, by rw [HE.out], by rw [HE.out]; exact RAt.set (p := ⟨w.heap.size + 1, 1, none⟩) (RAt.set (p := ⟨w.heap.size + 1, 0, none⟩) hra hgn _) hgn _, (hb.setCell (p := ⟨w.heap.size + 1, 0, none⟩) (Nat.le_succ _) _).setCell (p := ⟨w.heap.size + 1, 1, none⟩) (Nat.le_succ _) _⟩
theorem refempty_low (g cap : Nat) (L : List RN) (most level : Int) (w : World) (h : RAt w g cap L) (hl : level < 2) :
    Calls Tryd.prog 30 #[AV g cap L most, .int .i64 level] w fun e w' => ∃ g' cap', e = .returned (.tuple #[AV g' cap' L most, .int .i64 0, .int .i64 4]) ∧ RAt w' g' cap' L ∧ Below w.heap.size w w' := by
  have HR := Lib.hid h
  unfold AV
  clear h
  go_enter Tryd.func30, Tryd.ntmps30
  go_wp2
  exact bodyPost_ret (v := .tuple #[.agg #[.slice (some ⟨g, 0, none⟩) L.length cap, .int .i64 most], .int .i64 0, .int .i64 4]) (by simp [results, Tryd.results30, go_sem]) rfl ⟨g, cap, rfl, HR.out.below (by go_grown), by go_grown⟩
theorem refempty_high (g cap : Nat) (L : List RN) (most level : Int) (w : World) (h : RAt w g cap L) (hl : 44 < level) :
    Calls Tryd.prog 30 #[AV g cap L most, .int .i64 level] w fun e w' => ∃ g' cap', e = .returned (.tuple #[AV g' cap' L most, .int .i64 0, .int .i64 7]) ∧ RAt w' g' cap' L ∧ Below w.heap.size w w' := by
  have HR := Lib.hid h
  have hl2 : ¬ level < 2 := by omega
  unfold AV
  clear h
  go_enter Tryd.func30, Tryd.ntmps30
  go_wp2
  exact bodyPost_ret (v := .tuple #[.agg #[.slice (some ⟨g, 0, none⟩) L.length cap, .int .i64 most], .int .i64 0, .int .i64 7]) (by simp [results, Tryd.results30, go_sem]) rfl ⟨g, cap, rfl, HR.out.below (by go_grown), by go_grown⟩
/-- Empty. -/
theorem refempty_any (g cap : Nat) (L : List RN) (most level : Int) (w : World) (h : RAt w g cap L) (hN : L.length ≤ 90000) (h1 : 0 < L.length) (hL : okL L) :
    Calls Tryd.prog 30 #[AV g cap L most, .int .i64 level] w fun e w' => ∃ g' cap', e = .returned (.tuple #[AV g' cap' (emptyRR L most level).1 most, .int .i64 (emptyRR L most level).2.1, .int .i64 (emptyRR L most level).2.2]) ∧ RAt w' g' cap' (emptyRR L most level).1 ∧ Below w.heap.size w w' := by
  unfold emptyRR
  by_cases h2 : level < 2
  · rw [if_pos h2]
    exact refempty_low g cap L most level w h h2
  · rw [if_neg h2]
    by_cases h4 : 44 < level
    · rw [if_pos h4]
      exact refempty_high g cap L most level w h h4
    · rw [if_neg h4]
      have e : level = (((level - 2).toNat : Nat) : Int) + 2 := by omega
      have := refempty_mid g cap (level - 2).toNat L most w h hN h1 hL (by omega)
      rw [← e] at this
      exact this
/-! SetMost. -/
def setS (S : Sta) (n : Int) : Sta := { S with more := max n 64 - 64 }
def setR (S : Sta) (n : Int) : Option Nat × Sta := if max n 64 < ((S.N.length + 1 : Nat) : Int) then (some 8, S) else (none, setS S n)
theorem setmost_any (g : Nat) (n : Int) (hn : -9223372036854775808 ≤ n ∧ n ≤ 9223372036854775807) (S : Sta) (P : Nat → Prop) (w : World) (h : ArAt w g S P) (hN : S.N.length ≤ 1000000) :
    Calls Tryd.prog 20 #[Pt g, .int .i64 n] w fun e w' => e = .returned (errV (setR S n).1) ∧ ArAt w' g (setR S n).2 P ∧ Off P w w' := by
  have hl := len_any g S P w h hN
  have HA := Lib.hid h
  obtain ⟨p, cap, lv, jn, ⟨c0, -, -, -⟩, -⟩ := h.cells
  have hlt := h.lt
  have f0 : w.frozen? ⟨g, 0, none⟩ = false := by
    obtain ⟨_, _, _, kb, -⟩ := h
    exact kb.frozen 0
  have HS := Lib.hid (show ∀ x : Int, x = max n 64 - 64 → ArAt (w.setCell ⟨g, 0, none⟩ (.int .i64 x)) g (setS S n) P from fun x hx => by
    obtain ⟨s, lv, jn, kb, ho, hL, hJ, hp, hk, hc, hm1, hm2⟩ := HA.out
    refine ⟨s, lv, jn, ?_, own_same ho fun b hb => Below.heap_setCell _ _ _ b (fun e => own_blk_ne ho kb (by decide) (by rw [hb, e])), hL.same fun b hb => Below.heap_setCell _ _ _ b (fun e => hL.blk kb (by rw [hb, e])), hJ.same fun b hb => Below.heap_setCell _ _ _ b (fun e => hJ.blk kb (by rw [hb, e])), hp, hk, hc, by simp only [setS]; omega, by simp only [setS]; omega⟩
    subst hx
    exact kb.set_ 0 _)
  clear h
  by_cases hf : max n 64 < ((S.N.length + 1 : Nat) : Int)
  · have HR := Lib.hid (show setR S n = (some 8, S) by unfold setR; rw [if_pos hf])
    clear HS
    go_enter Tryd.func20, Tryd.ntmps20
    go_wp2_with fail
    all_goals
      refine hl.mono ?_
      rintro e w' ⟨rfl, rfl⟩
      go_wp2
      exact bodyPost_ret (v := errV (some 8)) (by simp [results, Tryd.results20, go_sem, errV]) rfl ⟨by rw [HR.out], by rw [HR.out]; exact HA.out, Off.refl⟩
  · have HR := Lib.hid (show setR S n = (none, setS S n) by unfold setR; rw [if_neg hf])
    have hpg := HA.out.p
    go_enter Tryd.func20, Tryd.ntmps20
    go_wp2_with fail
    all_goals
      refine hl.mono ?_
      rintro e w' ⟨rfl, rfl⟩
      go_wp2
      exact bodyPost_ret (v := errV none) (by simp [results, Tryd.results20, go_sem, errV]) rfl ⟨by rw [HR.out], by rw [HR.out]; exact HS.out _ (by omega), Off.refl.setCell (fun _ => hpg) _⟩
end Go.Proofs.YtmibdbgoknbchaaDoor.Ar
