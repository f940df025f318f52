/- Contracts of package block: next, Step, Table. -/
import Derived.Test.YtcmfkdhadmfgkaaDoorBkW6
import Derived.Test.YtcmfkdhadmfgkaaDoorBkW2
import Derived.Test.YtcmfkdhadmfgkaaDoorBkEq
import Derived.Test.YtcmfkdhadmfgkaaDoorTbW6
namespace Go.Proofs.YtcmfkdhadmfgkaaDoor.Bk
open Go.RowKit Go.Proofs.YtcmfkdhadmfgkaaDoor.Ba Go.Proofs.YtcmfkdhadmfgkaaDoor.Si Go.Lib
open Go.Proofs.YtcmfkdhadmfgkaaDoor.Fl (C)
open Go.Proofs.YtcmfkdhadmfgkaaDoor.Tb (sel)

theorem mix_int2 (d lo hi : Nat) (hd : d < 2 ^ 64) (hl : lo < 2 ^ 64) (hh : hi < 2 ^ 64) : bits .or .u64 (bits .and .u64 d hi) (bits .and .u64 ((d ^^^ 18446744073709551615 : Nat) : Int) lo) = ((mixN d lo hi : Nat) : Int) := by
  have h1 : d ^^^ 18446744073709551615 < 2 ^ 64 := Nat.xor_lt_two_pow hd (by decide)
  rw [Tb.u64_and _ _ h1 hl, Tb.u64_and _ _ hd hh, Tb.u64_or _ _ (Nat.lt_of_le_of_lt Nat.and_le_right hh) (Nat.lt_of_le_of_lt Nat.and_le_right hl), Nat.or_comm]
  rfl
/-- The next generation's plane. -/
def NxB (l h : Nat) (x : Nat → Nat) (b0 b1 s0 s1 z : Nat) : Prop := z < 2 ^ 64 ∧ ∀ n, n < 64 → z.testBit n = (sel b0 b1 s0 s1 h ((plN x h).testBit n)).testBit (numS l x (NB l h) n)
theorem nx_of {l h : Nat} {x : Nat → Nat} {b0 b1 s0 s1 zb zs : Nat} (hb : ChB (sel b0 b1 s0 s1 h false) (dgT l h x (NB l h).length) zb) (hs : ChB (sel b0 b1 s0 s1 h true) (dgT l h x (NB l h).length) zs) : NxB l h x b0 b1 s0 s1 (mixN (plN x h) zb zs) := by
  refine ⟨mix_lt hb.1 hs.1, fun n hn => ?_⟩
  rw [mix_bit hn, hb.2 n hn, hs.2 n hn]
  unfold numS dgT
  rw [List.take_of_length_le (Nat.le_refl _)]
  cases (plN x h).testBit n <;> rfl
set_option maxRecDepth 100000 in
set_option maxHeartbeats 2000000 in
theorem bnext_any (B g l b0 b1 s0 s1 h : Nat) (hl : l = 1 ∨ l = 2 ∨ l = 3) (hh : h < Ce.H l) (q0 : b0 < 2 ^ 64) (q1 : b1 < 2 ^ 64) (q2 : s0 < 2 ^ 64) (q3 : s1 < 2 ^ 64) (x : Nat → Nat) (w : World) (hK : KerAt w B g l b0 b1 s0 s1) :
    Calls Tryd.prog 56 #[.pointer (some ⟨g, 0, none⟩), .agg (plA (plN x)), .int .i64 h] w fun e w' => ∃ z : Nat, e = .returned (.int .u64 z) ∧ NxB l h x b0 b1 s0 s1 z ∧ Below w.heap.size w w' := by
  have h2 := H2 l
  have hh2 : (h : Int) < 2 := by omega
  have hB := hK.low
  have hgB := hK.1
  go_enter Tryd.func56, Tryd.ntmps56
  go_upto_region 2 with fail
  obtain ⟨W0, hW0⟩ : ∃ W0, (w.alloc (.cells (plA (plN x)) 114)).alloc (.cells #[.int .u64 0, .int .u64 0, .int .u64 0, .int .u64 0, .int .u64 0, .int .u64 0] 152) = W0 := ⟨_, rfl⟩
  have kp : Blk W0 w.heap.size 114 (plA (plN x)) := by rw [← hW0]; exact (Blk.newAt w _ _ _ rfl).alloc _
  have kr : Blk W0 (w.heap.size + 1) 152 #[.int .u64 0, .int .u64 0, .int .u64 0, .int .u64 0, .int .u64 0, .int .u64 0] := by rw [← hW0]; exact Blk.newAt _ _ _ _ (by simp)
  have hb0 : Below w.heap.size w W0 := by rw [← hW0]; go_grown
  change Code.wp _ _ _ _ ((w.alloc (.cells (plA (plN x)) 114)).alloc (.cells #[.int .u64 0, .int .u64 0, .int .u64 0, .int .u64 0, .int .u64 0, .int .u64 0] 152))
  rw [hW0]
  clear hW0
  have hr : RmAt W0 (w.heap.size + 1) [] := ⟨by simp, _, rfl, kr, fun i d hd => by simp at hd⟩
  have hK0 := hK.under hb0
  have hn : ∀ W : World, W.heap = W0.heap → Calls Tryd.prog 76 #[.pointer (some ⟨g, 0, none⟩), .agg (plA (plN x)), .int .i64 h, .slice (some ⟨w.heap.size + 1, 0, none⟩) 0 6] W fun e w' => e = .returned (.slice (some ⟨w.heap.size + 1, 0, none⟩) (dgT l h x (NB l h).length).length 6) ∧ RmAt w' (w.heap.size + 1) (dgT l h x (NB l h).length) ∧ W.grownBy w' (some (w.heap.size + 1)) := fun W e =>
    neigh_any B g l b0 b1 s0 s1 h (w.heap.size + 1) hl hh x W (hK0.same (by rw [e]; exact Nat.le_refl _) (fun k _ => by rw [e])) (by omega) (hr.same (by rw [e]))
  have p0 := (kp.cell 0).trans (plA_get (plN x) 0 (by decide))
  have p1 := (kp.cell 1).trans (plA_get (plN x) 1 (by decide))
  have hpl := kp.lt
  have hrl := kr.lt
  have HK := Lib.hid hK0
  clear hK hK0 hr kr
  have hdl := dgT_lt l h x (NB l h).length
  have HNx : Hid (∀ zb zs, ChB (sel b0 b1 s0 s1 h false) (dgT l h x (NB l h).length) zb → ChB (sel b0 b1 s0 s1 h true) (dgT l h x (NB l h).length) zs → NxB l h x b0 b1 s0 s1 (mixN (plN x h) zb zs)) := Lib.hid fun zb zs hb hs => nx_of hb hs
  generalize dgT l h x (NB l h).length = D at *
  go_region_with (go_at_call 76; refine (hn W0.drew rfl).mono ?_; rintro e w1 ⟨rfl, hR1, hgr⟩)
  all_goals
    have hgr : W0.grownBy w1 (some (w.heap.size + 1)) := ⟨hgr.os, hgr.tape, hgr.output, hgr.size, hgr.block⟩
    have kp1 := kp.grown hgr (fun e => by injection e with e; omega)
    have hb1 : Below w.heap.size w w1 := hb0.grown hgr hb0.size (fun k hk => by injection hk with hk; omega)
    have hK1 := HK.out.same hgr.size (fun k hk => hgr.block k (by have := HK.out.low; omega) (fun e => by injection e with e; omega))
    have hc := (kp1.cell h).trans (plA_get (plN x) h (by omega))
    have hpl1 := kp1.lt
    have hgl1 : g < w1.heap.size := by omega
    obtain ⟨_, v0, v1, kk, _, _⟩ := hK1
    obtain ⟨bh, hbh⟩ : ∃ b, sel b0 b1 s0 s1 h false = b := ⟨_, rfl⟩
    obtain ⟨sh, hsh⟩ : ∃ b, sel b0 b1 s0 s1 h true = b := ⟨_, rfl⟩
    have hcb : w1.cell? ⟨g, 1 + h, none⟩ = some (.int .u64 bh) := by
      rw [kk.cell (1 + h) (by omega), ← hbh]
      have : h = 0 ∨ h = 1 := by omega
      rcases this with rfl | rfl <;> rfl
    have hcs : w1.cell? ⟨g, 3 + h, none⟩ = some (.int .u64 sh) := by
      rw [kk.cell (3 + h) (by omega), ← hsh]
      have : h = 0 ∨ h = 1 := by omega
      rcases this with rfl | rfl <;> rfl
    have hbl : bh < 2 ^ 64 := by rw [← hbh]; exact Tb.sel_lt q0 q1 q2 q3 h false
    have hsl : sh < 2 ^ 64 := by rw [← hsh]; exact Tb.sel_lt q0 q1 q2 q3 h true
    have HN := Lib.hid (show ∀ zb zs, ChB bh D zb → ChB sh D zs → NxB l h x b0 b1 s0 s1 (mixN (plN x h) zb zs) by rw [← hbh, ← hsh]; exact HNx.out)
    clear HNx hbh hsh kk hgr kp kp1 p0 p1 hpl hrl hn HK
    have hx := xor_ones (plN x h) (plN_lt x h)
    have hpn := plN_lt x h
    generalize plN x h = pl at *
    have HX := Lib.hid (fun zb zs h1 h2 => mix_int2 pl zb zs hpn h1 h2)
    have keep : ∀ W', Below w1.heap.size w1.drew W' → W'.cell? ⟨g, 1 + h, none⟩ = some (.int .u64 bh) ∧ W'.cell? ⟨g, 3 + h, none⟩ = some (.int .u64 sh) := fun W' hb => ⟨(hb.cell (p := ⟨g, 1 + h, none⟩) hgl1).trans hcb, (hb.cell (p := ⟨g, 3 + h, none⟩) hgl1).trans hcs⟩
    have hR2 : RmAt w1.drew (w.heap.size + 1) D := hR1
    have hchb : ∀ W', Below w1.heap.size w1.drew W' → Calls Tryd.prog 77 #[.int .u64 bh, .slice (some ⟨w.heap.size + 1, 0, none⟩) D.length 6] W' fun e w' => ∃ z : Nat, e = .returned (.int .u64 z) ∧ ChB bh D z ∧ Below W'.heap.size W' w' := fun W' hb => choose_any D bh _ W' hbl hdl (hR2.under hb)
    have hchs : Calls Tryd.prog 77 #[.int .u64 sh, .slice (some ⟨w.heap.size + 1, 0, none⟩) D.length 6] w1.drew fun e w' => ∃ z : Nat, e = .returned (.int .u64 z) ∧ ChB sh D z ∧ Below w1.heap.size w1.drew w' := choose_any D sh _ _ hsl hdl hR2
    clear hR1 hR2
    go_upto_region 4 with fail
    go_region_held3 (fun w' => w'.cell? ⟨g, 1 + h, none⟩ = some (.int .u64 bh) ∧ w'.cell? ⟨g, 3 + h, none⟩ = some (.int .u64 sh)) (first | exact keep _ (Below.refl _ _) | exact ⟨hcb, hcs⟩)
      (first
        | (go_at_call 77; (with_reducible refine Calls.mono (hchb _ hkb) ?_); rintro e wY ⟨zb, rfl, hzb, hbY⟩; have hkc : Below w1.heap.size w1.drew wY := hkb.trans (hbY.mono hkb.size); clear hbY; obtain ⟨hcb, hcs⟩ := keep _ hkc)
        | (go_at_call 77; (with_reducible refine Calls.mono hchs ?_); rintro e wZ ⟨zs, rfl, hzs, hkb⟩; obtain ⟨hcb, hcs⟩ := keep _ hkb))
  all_goals
    go_wp2_with fail
    go_ret
  all_goals
    refine ⟨mixN pl zb zs, ?_, HN.out zb zs hzb hzs, hb1.trans (((show Below w1.heap.size w1 w1.drew from ⟨rfl, rfl, rfl, Nat.le_refl _, fun _ _ => rfl⟩).trans hkc).mono hb1.size)⟩
    rw [← HX.out zb zs hzb.1 hzs.1]
    rfl
end Go.Proofs.YtcmfkdhadmfgkaaDoor.Bk
