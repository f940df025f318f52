/- The document's arena: Leaf. -/
import Derived.Test.YtmibdbgoknbchaaDoorArR1
import Derived.Test.YtmibdbgoknbchaaDoorSiS
namespace Go.Proofs.YtmibdbgoknbchaaDoor.Ar
open Go.RowKit Go.Proofs.YtmibdbgoknbchaaDoor.Ba Go.Proofs.YtmibdbgoknbchaaDoor.Mp Go.Lib Go.Maps

theorem RAt.ne {w : World} {g cap b l c : Nat} {L : List RN} {p : Option Addr} (h : RAt w g cap L) (hl : 0 < L.length) (hv : w.cell? ⟨b, 0, none⟩ = some (.slice p l c)) : g ≠ b := by
  intro e
  subst e
  have h1 := h.2.1 0 (.int .i64 (L[0]'hl).level) (by
    have := flatR_get L 0 (L[0]'hl) (List.getElem?_eq_getElem hl) 0 (by decide)
    simpa [encR] using this)
  rw [hv] at h1
  cases h1
theorem addRR_len (L : List RN) (most : Int) (n : RN) : L.length ≤ (addRR L most n).1.length ∧ (addRR L most n).1.length ≤ L.length + 1 := by
  unfold addRR
  split
  · simp
  · split <;> simp
theorem st_sum (f k : Nat) : Si.pcn f (2 * (k + 1)) = Si.pcn f (2 * k) + (Si.st f k % 2 + Si.st f k / 2) := by
  have h := Si.st_bit f k
  have l1 := Nat.mod_lt (f / 2 ^ (2 * k)) (show 2 > 0 by decide)
  have l2 := Nat.mod_lt (f / 2 ^ (2 * k + 1)) (show 2 > 0 by decide)
  rw [show 2 * (k + 1) = 2 * k + 1 + 1 by omega]
  show Si.pcn f (2 * k) + f / 2 ^ (2 * k) % 2 + f / 2 ^ (2 * k + 1) % 2 = _
  omega
def LfR (f : Nat) (t7 t13 : Value) : Prop := ∃ k : Nat, k ≤ 16 ∧ t13 = .int .i64 k ∧ t7 = .int .u64 (Si.pcn f (2 * k) : Nat)
def lfN (f : Nat) : RN := ⟨2, f, 0, 0, 0, 0, Si.pcn f 32⟩
set_option maxRecDepth 100000 in
theorem refleaf_any (g cap f : Nat) (L : List RN) (most : Int) (w : World) (h : RAt w g cap L) (hN : L.length ≤ 100000) (h1 : 0 < L.length) (hf : okU f) :
    Calls Tryd.prog 13 #[AV g cap L most, .int .u32 f] w fun e w' => ∃ g' cap', e = .returned (.tuple #[AV g' cap' (addRR L most (lfN f)).1 most, .int .i64 (addRR L most (lfN f)).2.1, .int .i64 (addRR L most (lfN f)).2.2]) ∧ RAt w' g' cap' (addRR L most (lfN f)).1 ∧ Below w.heap.size w w' := by
  have HR := Lib.hid h
  have hs := fun W => Si.refstates_any f hf W
  have b0 := (Blk.newAt w 29 #[.slice (some ⟨g, 0, none⟩) L.length cap, .int .i64 most] _ rfl).alloc (.cells #[.slice none 0 0, .int .i64 0] 29)
  have b1 := Blk.newAt (w.alloc (.cells #[.slice (some ⟨g, 0, none⟩) L.length cap, .int .i64 most] 29)) 29 #[.slice none 0 0, .int .i64 0] (w.heap.size + 1) (by simp)
  have hb0 : Below w.heap.size w ((w.alloc (.cells #[.slice (some ⟨g, 0, none⟩) L.length cap, .int .i64 most] 29)).alloc (.cells #[.slice none 0 0, .int .i64 0] 29)) := ((Below.refl _ _).alloc (Nat.le_refl _) _).alloc (by simp) _
  have had := fun W hW => refadd_any g cap L most (lfN f) W hW hN
  obtain ⟨r, hr⟩ : ∃ r, addRR L most (lfN f) = r := ⟨_, rfl⟩
  have hrl : 0 < r.1.length := by rw [← hr]; have := (addRR_len L most (lfN f)).1; omega
  rw [hr] at had ⊢
  unfold lfN at had
  unfold AV
  have hpc := fun k => Si.pcn_le f k
  clear h hr
  go_enter Tryd.func13, Tryd.ntmps13
  go_wp2_with fail
  refine (hs _).mono ?_
  rintro e w1 ⟨v, rfl, hown, hb⟩
  have c0 := b0.under hb
  have c1 := b1.under hb
  have hb1 := hb0.trans (hb.mono hb0.size)
  clear hb hb0 b0 b1 hs
  obtain ⟨p, cp, rfl⟩ := own_slice hown
  obtain ⟨G, cp', hG⟩ : ∃ G c, Value.slice p 16 cp = .slice (some ⟨G, 0, none⟩) 16 c := by
    rcases hown.2 with ⟨_, h0⟩ | ⟨G, c, cur, hv, _⟩
    · cases h0
    · exact ⟨G, c, hv⟩
  rw [hG] at hown ⊢
  have hGl := own_lt0 hown G rfl
  have hcell : ∀ k, k < 16 → w1.cell? ⟨G, k, none⟩ = some (.int .i64 (Si.st f k)) := fun k hk => by
    rw [hown.cellAt k (by omega)]
    simp [Si.ints, hk]
  go_wp2_with fail
  go_loop [7, 13] (fun t7 t13 => LfR f t7 t13) (fun _ t13 => 16 - (intOf t13).toNat)
  case atStart => exact ⟨0, Nat.zero_le _, rfl, rfl⟩
  case round =>
    obtain ⟨k, hk, rfl, rfl⟩ := hrel
    by_cases hlt : k < 16
    · have HS := Lib.hid (st_sum f k)
      have hp1 := hpc (2 * k)
      have hc := hcell k hlt
      have hst : Si.st f k < 4 := by
        have := Si.st_bit f k
        omega
      have i1 : (k : Int) < 16 := by omega
      have i2 : (0 : Int) ≤ (k : Int) := by omega
      have HX : (Si.st f k : Int).tmod 2 = ((Si.st f k % 2 : Nat) : Int) := by rw [Int.tmod_eq_emod_of_nonneg (by omega)]; omega
      have HY : (Si.st f k : Int).tdiv 2 = ((Si.st f k / 2 : Nat) : Int) := by rw [Int.tdiv_eq_ediv_of_nonneg (by omega)]; omega
      clear hcell had hpc HR c0 c1 hown
      generalize Si.st f k = x at *
      generalize hq : Si.pcn f (2 * k) = qq at *
      clear hq
      go_wp2
      exact ⟨⟨k + 1, by omega, by go_num, by rw [HS.out]; simp⟩, by simp [intOf]; omega⟩
    · obtain rfl : k = 16 := by omega
      have hp1 := hpc (2 * 16)
      have z0 := c0.cell 0
      have z1 := c0.cell 1
      simp only [List.getElem?_toArray, List.getElem?_cons_zero, List.getElem?_cons_succ] at z0 z1
      have lz := c0.lt
      have hra := HR.out.below hb1
      have hadd := had w1 hra
      clear had hcell hown hpc
      have e32 : Si.pcn f (2 * 16) = Si.pcn f 32 := rfl
      rw [e32]
      generalize Si.pcn f 32 = pc at *
      go_wp2_with fail
      refine hadd.mono ?_
      rintro e w2 ⟨g', cap', rfl, hra2, hb⟩
      have d1 := c1.under hb
      have hb2 := hb1.trans (hb.mono hb1.size)
      have r0 := d1.cell 0
      have r1 := d1.cell 1
      have fr0 := d1.frozen 0
      have fr1 := d1.frozen 1
      simp only [List.getElem?_toArray, List.getElem?_cons_zero, List.getElem?_cons_succ] at r0 r1
      have lr := d1.lt
      have hgn : g' ≠ w.heap.size + 1 := hra2.ne hrl r0
      have HRA := Lib.hid hra2
      clear hadd hra hra2 c0 c1 d1 z0 z1 hb
      unfold AV
      go_wp2
      exact bodyPost_ret (v := .tuple #[.agg #[.slice (some ⟨g', 0, none⟩) r.1.length cap', .int .i64 most], .int .i64 r.2.1, .int .i64 r.2.2]) (by simp [results, Tryd.results13, go_sem, *]) rfl ⟨g', cap', rfl, RAt.set (RAt.set HRA.out (by dsimp only; omega) _) (by dsimp only; omega) _, by go_grown⟩
end Go.Proofs.YtmibdbgoknbchaaDoor.Ar
