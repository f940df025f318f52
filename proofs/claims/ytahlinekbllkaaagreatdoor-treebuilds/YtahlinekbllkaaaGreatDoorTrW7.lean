/- Contracts of package tree: build, level by level. -/
import Derived.Test.YtahlinekbllkaaaGreatDoorTrW6
namespace Go.Proofs.YtahlinekbllkaaaGreatDoor.Tr
open Go.RowKit Go.Proofs.YtahlinekbllkaaaGreatDoor.Ba Go.Proofs.YtahlinekbllkaaaGreatDoor.Ar Go.Lib

theorem join_ext {S : Sta} (T : Tw S) (k : K4) {i : Nat} {er : Option Nat} {S' : Sta} (h : joinR S k = (i, er, S')) : Ext S S' := by
  have ht := join_tw T k
  rw [show S' = (joinR S k).2.2 by rw [h]]
  clear h
  revert ht
  unfold joinR
  split
  · exact fun _ => Ext.refl T
  · split
    · exact fun _ => Ext.refl T
    · split
      · exact fun _ => Ext.refl T
      · rename_i hfu
        exact fun ht => ⟨ht, rfl, ⟨[_], rfl⟩, fun _ => cap_add hfu _⟩
def BuildC (d : Nat) : Prop := ∀ (x y : Int) (PL A B : List Plot) (a : Option Addr) (cap g b G : Nat) (S : Sta) (E : Nat → Nat) (P : Nat → Prop) (w : World), SqOk d x y → Pls d x y PL → PL.length ≤ cap → (0 < PL.length → a = some ⟨G, A.length * 3, none⟩) → PlRow w G (A ++ PL ++ B) → ArAt w g S P → (∀ k, w.heap.size ≤ k → P k) →
  Blk w b 110 (bc g E) → ¬ P b → ¬ P G → b ≠ G → Tw S → EOk S E → ne S.N + cost d PL ≤ 800000 → PL.length ≤ 100000 →
  Calls Tryz.prog 57 #[Pt b, Sq x y ((d : Int) + 2), .slice a PL.length cap] w fun e w' => ∃ (i : Nat) (er : Option Nat) (S' : Sta) (PL' : List Plot), e = .returned (.tuple #[.int .u32 i, errV er]) ∧ Bd S d x y PL i er S' ∧ Kp w P g b S' w' ∧ PL'.Perm PL ∧ PlRow w' G (A ++ PL' ++ B) ∧ Off (fun k => P k ∨ k = b ∨ k = G) w w'
theorem ix_part {v0 v1 v2 v3 : Value} {d q : Nat} {x y : Int} {G : Nat} {A L : List Plot} (h0 : PartV v0 G (A.length + ahd d x y 0 L) (prt d x y 0 L).length) (h1 : PartV v1 G (A.length + ahd d x y 1 L) (prt d x y 1 L).length) (h2 : PartV v2 G (A.length + ahd d x y 2 L) (prt d x y 2 L).length) (h3 : PartV v3 G (A.length + ahd d x y 3 L) (prt d x y 3 L).length) (hq : q < 4) :
    ∃ a cap, (∀ w, (Instr.index 140 (.agg #[v0, v1, v2, v3]) (.int .i64 q)).run Tryz.prog w = .ok (.slice a (prt d x y q L).length cap) w) ∧ (prt d x y q L).length ≤ cap ∧ (0 < (prt d x y q L).length → a = some ⟨G, (A.length + ahd d x y q L) * 3, none⟩) := by
  obtain ⟨a0, c0, rfl, p0, r0⟩ := h0
  obtain ⟨a1, c1, rfl, p1, r1⟩ := h1
  obtain ⟨a2, c2, rfl, p2, r2⟩ := h2
  obtain ⟨a3, c3, rfl, p3, r3⟩ := h3
  rcases four hq with rfl | rfl | rfl | rfl
  · exact ⟨a0, c0, fun w => by kernel_rfl, p0, r0⟩
  · exact ⟨a1, c1, fun w => by kernel_rfl, p1, r1⟩
  · exact ⟨a2, c2, fun w => by kernel_rfl, p2, r2⟩
  · exact ⟨a3, c3, fun w => by kernel_rfl, p3, r3⟩
/-- The kids so far. -/
def BlR (w0 : World) (P : Nat → Prop) (g b G d : Nat) (x y : Int) (S : Sta) (A L B : List Plot) (t41 : Value) (wr : World) : Prop :=
  ∃ (q : Nat) (k : K4) (S1 : Sta) (M : List Plot), q ≤ 4 ∧ t41 = .int .i64 q ∧ Bk S d x y L q k S1 ∧ Kp wr (fun j => P j ∧ j ≠ w0.heap.size ∧ j ≠ w0.heap.size + 1) g b S1 wr ∧ ok4 k ∧ Blk wr w0.heap.size 81 #[.int .i64 x, .int .i64 y, .int .i64 ((d : Int) + 3)] ∧ Blk wr (w0.heap.size + 1) 93 #[.int .u32 k.1, .int .u32 k.2.1, .int .u32 k.2.2.1, .int .u32 k.2.2.2] ∧
    M.length = ahd d x y q L ∧ (M ++ rst d x y q L).Perm L ∧ PlRow wr G (A ++ M ++ rst d x y q L ++ B) ∧ Off (fun k => P k ∨ k = b ∨ k = G) w0 wr
theorem mid_perm {M P2 P R L : List Plot} (h : (M ++ (P ++ R)).Perm L) (h2 : P2.Perm P) : (M ++ P2 ++ R).Perm L := by
  rw [List.append_assoc]
  exact ((h2.append_right R).append_left M).trans h
theorem cost_perm {L L' : List Plot} (d : Nat) (h : L'.Perm L) : cost d L' = cost d L := by unfold cost; rw [h.length_eq]
theorem kset_cells (k : K4) {q : Nat} (i : Nat) (h : q < 4) : (#[.int .u32 k.1, .int .u32 k.2.1, .int .u32 k.2.2.1, .int .u32 k.2.2.2] : Array Value).setIfInBounds q (.int .u32 i) = #[.int .u32 (kset k q i).1, .int .u32 (kset k q i).2.1, .int .u32 (kset k q i).2.2.1, .int .u32 (kset k q i).2.2.2] := by
  rcases four h with rfl | rfl | rfl | rfl <;> rfl
theorem kset_ok {k : K4} {q i : Nat} (h : ok4 k) (hq : q < 4) (hi : okU i) : ok4 (kset k q i) := by
  obtain ⟨h0, h1, h2, h3⟩ := h
  rcases four hq with rfl | rfl | rfl | rfl
  · exact ⟨hi, h1, h2, h3⟩
  · exact ⟨h0, hi, h2, h3⟩
  · exact ⟨h0, h1, hi, h3⟩
  · exact ⟨h0, h1, h2, hi⟩
theorem keepJ {W w' : World} {b K : Nat} {u v0 v1 v2 v3 : Value} (h : W.cell? ⟨b, 0, none⟩ = some u) (k0 : W.cell? ⟨K, 0, none⟩ = some v0) (k1 : W.cell? ⟨K, 1, none⟩ = some v1) (k2 : W.cell? ⟨K, 2, none⟩ = some v2) (k3 : W.cell? ⟨K, 3, none⟩ = some v3) (e1 : w'.heap[b]? = W.heap[b]?) (e2 : w'.heap[K]? = W.heap[K]?) :
    w'.cell? ⟨b, 0, none⟩ = some u ∧ w'.cell? ⟨K, 0, none⟩ = some v0 ∧ w'.cell? ⟨K, 1, none⟩ = some v1 ∧ w'.cell? ⟨K, 2, none⟩ = some v2 ∧ w'.cell? ⟨K, 3, none⟩ = some v3 :=
  have e : ∀ i, w'.cell? ⟨K, i, none⟩ = W.cell? ⟨K, i, none⟩ := fun i => World.cell?_of_block (a := ⟨K, i, none⟩) e2
  ⟨(World.cell?_of_block (a := ⟨b, 0, none⟩) e1).trans h, (e 0).trans k0, (e 1).trans k1, (e 2).trans k2, (e 3).trans k3⟩
set_option maxRecDepth 100000 in
set_option maxHeartbeats 2000000 in
theorem build_step (d : Nat) (ih : BuildC d) (x y : Int) (PL A B : List Plot) (cap g b G : Nat) (S : Sta) (E : Nat → Nat) (P : Nat → Prop) (w : World) (h : SqOk (d + 1) x y) (hP : Pls (d + 1) x y PL) (hne : PL ≠ []) (hc : PL.length ≤ cap) (hr : PlRow w G (A ++ PL ++ B)) (hA : ArAt w g S P) (hPn : ∀ k, w.heap.size ≤ k → P k)
    (hb : Blk w b 110 (bc g E)) (hPb : ¬ P b) (hPG : ¬ P G) (hbG : b ≠ G) (T : Tw S) (hE : EOk S E) (hN : ne S.N + cost (d + 1) PL ≤ 800000) (hL : PL.length ≤ 100000) :
    Calls Tryz.prog 57 #[Pt b, Sq x y ((d : Int) + 3), .slice (some ⟨G, A.length * 3, none⟩) PL.length cap] w fun e w' => ∃ (i : Nat) (er : Option Nat) (S' : Sta) (PL' : List Plot), e = .returned (.tuple #[.int .u32 i, errV er]) ∧ Bd S (d + 1) x y PL i er S' ∧ Kp w P g b S' w' ∧ PL'.Perm PL ∧ PlRow w' G (A ++ PL' ++ B) ∧ Off (fun k => P k ∨ k = b ∨ k = G) w w' := by
  have hl0 : ((PL.length : Nat) : Int) ≠ 0 := by
    have : PL.length ≠ 0 := fun e => hne (List.eq_nil_of_length_eq_zero e)
    omega
  have hl0' : (((PL.length : Nat) : Int) == 0) = false := by simpa using hl0
  have hlv : (d : Int) + 3 ≠ 2 := by omega
  have hpa := fun W hr => parted_any d x y G cap A PL B W h hr hc hL
  have kS := ((Blk.newAt w 81 #[.int .i64 x, .int .i64 y, .int .i64 ((d : Int) + 3)] _ rfl).alloc (.cells #[.int .u32 0, .int .u32 0, .int .u32 0, .int .u32 0] 93))
  have kK := Blk.newAt (w.alloc (.cells #[.int .i64 x, .int .i64 y, .int .i64 ((d : Int) + 3)] 81)) 93 #[.int .u32 0, .int .u32 0, .int .u32 0, .int .u32 0] (w.heap.size + 1) (by simp)
  have hbw : Below w.heap.size w ((w.alloc (.cells #[.int .i64 x, .int .i64 y, .int .i64 ((d : Int) + 3)] 81)).alloc (.cells #[.int .u32 0, .int .u32 0, .int .u32 0, .int .u32 0] 93)) := by go_grown
  have hsz := hbw.size
  have HR := Lib.hid (hr.under hbw)
  have HA := Lib.hid ((hA.weak (P' := fun j => P j ∧ j ≠ w.heap.size ∧ j ≠ w.heap.size + 1) fun j hj hlt => ⟨hj, by omega, by omega⟩).under hbw)
  have HB := Lib.hid (hb.under hbw)
  have HW := Lib.hid hbw
  have hlb := hb.lt
  have hlG := hr.lt
  have HPn := Lib.hid hPn
  have HPs := Lib.hid hP
  have HNe := Lib.hid hne
  have HE := Lib.hid hE
  have HT := Lib.hid T
  have HS := Lib.hid h
  have HC := Lib.hid hN
  have s2 := kS.cell 2
  have s1 := kS.cell 1
  have s0 := kS.cell 0
  simp only [List.getElem?_toArray, List.getElem?_cons_zero, List.getElem?_cons_succ] at s0 s1 s2
  clear hA hb hbw hr hPn hP hne hE T h hN
  go_enter Tryz.func57, Tryz.ntmps57
  go_upto_region 6 with fail
  have HSZ := Lib.hid (show w.heap.size + 1 < ((w.alloc (.cells #[.int .i64 x, .int .i64 y, .int .i64 ((d : Int) + 3)] 81)).alloc (.cells #[.int .u32 0, .int .u32 0, .int .u32 0, .int .u32 0] 93)).heap.size by simp)
  clear hsz
  generalize (w.alloc (.cells #[.int .i64 x, .int .i64 y, .int .i64 ((d : Int) + 3)] 81)).alloc (.cells #[.int .u32 0, .int .u32 0, .int .u32 0, .int .u32 0] 93) = W at *
  go_wp2_with fail
  refine (hpa _ HR.out).mono ?_
  rintro e w1 ⟨L', v0, v1, v2, v3, hp, hs, rfl, hr1, hg1, hv0, hv1, hv2, hv3⟩
  have HP := Lib.hid hp
  have HSo := Lib.hid hs
  have HR1 := Lib.hid hr1
  have hw := HW.out.size
  have kS1 := kS.grown hg1 (by simp; omega)
  have kK1 := kK.grown hg1 (by simp; omega)
  have hA1 := HA.out.same (w' := w1) fun k hk hlt => hg1.block k hlt (fun e => by cases e; exact hPG hk.1)
  have hB1 := HB.out.grown hg1 (by simp; exact hbG)
  have hO1 := ((Off.of_below (P := fun k => P k ∨ k = b ∨ k = G) HW.out)).trans ⟨hg1.os, hg1.tape, hg1.output, hg1.size, fun k hk hn => hg1.block k hk (fun e => hn (.inr (.inr (by cases e; rfl))))⟩
  have HA1 := Lib.hid hA1
  have HB1 := Lib.hid hB1
  have HO1 := Lib.hid hO1
  have HV := fun q (hq : q < 4) => ix_part hv0 hv1 hv2 hv3 hq
  have HIx := Lib.hid HV
  have HkS1 := Lib.hid kS1
  have HkK1 := Lib.hid kK1
  have HL := Lib.hid hp.length_eq
  clear hpa hp hs hr1 hg1 hv0 hv1 hv2 hv3 kS kK kS1 kK1 hA1 hB1 hO1 HV s0 s1 s2 HA HB HR HW HSZ hw
  go_wp2_with fail
  go_loopw [41] (fun t41 wr => BlR w P g b G d x y S A L' B t41 wr) (fun t41 _ => 4 - (intOf t41).toNat)
  case atStart =>
    exact ⟨0, (0, 0, 0, 0), S, [], by omega, rfl, bk_zero HT.out _, ⟨HA1.out, E, HE.out, HB1.out⟩, ⟨by decide, by decide, by decide, by decide⟩, HkS1.out, HkK1.out, by unfold ahd; rw [rst_zero]; simp, by rw [rst_zero]; exact List.Perm.refl _, by rw [rst_zero, List.append_nil]; exact HR1.out, HO1.out⟩
  case round =>
    obtain ⟨q, k, S1, M, hq, rfl, hK, ⟨hA, E1, hE1, hB⟩, hk4, kS, kK, hM, hMp, hRow, hO⟩ := hrel
    have HK := Lib.hid hK
    have HE1 := Lib.hid hE1
    have HMp := Lib.hid hMp
    have HM := Lib.hid hM
    have HRow := Lib.hid hRow
    have HO := Lib.hid hO
    have HA := Lib.hid hA
    have HB := Lib.hid hB
    have HkS := Lib.hid kS
    have HkK := Lib.hid kK
    clear hK hE1 hMp hM hRow hO hA hB
    by_cases hlt : q < 4
    · obtain ⟨a, cp, hix, hcp, ha⟩ := HIx.out q hlt
      have s2 := kS.cell 2
      have s1 := kS.cell 1
      have s0 := kS.cell 0
      simp only [List.getElem?_toArray, List.getElem?_cons_zero, List.getElem?_cons_succ] at s0 s1 s2
      have hd1 : decide ((q : Int) < 4) = true := by simp; omega
      have HAd := Lib.hid ha
      have hkid := fun W => kid_any d q x y W HS.out hlt
      have hsS := kS.lt
      have hsK := kK.lt
      have hrn := rst_next q HSo.out
      have hPs := pls_perm HPs.out HP.out
      have hql : (prt d x y q L').length ≤ L'.length := List.length_filter_le _ _
      have HQl := Lib.hid hql
      have HPs' := Lib.hid hPs
      have HCo : Hid (ne S1.N + cost d (prt d x y q L') ≤ 800000 ∧ L' ≠ []) := Lib.hid (by
        have hne' : L' ≠ [] := fun e => HNe.out (List.eq_nil_of_length_eq_zero (by rw [← HL.out, e]; rfl))
        have h1 := HK.out.len
        have h2 := costK_all (d := d) (x := x) (y := y) (PL := L') hne' (q := q + 1) (by omega)
        have h3 := cost_perm (d + 1) HP.out
        have h4 := HC.out
        rw [costK] at h2
        exact ⟨by omega, hne'⟩)
      have hmm : (A ++ M).length = A.length + ahd d x y q L' := by rw [List.length_append, HM.out]
      have hrow2 : PlRow wr G (A ++ M ++ prt d x y q L' ++ (rst d x y (q + 1) L' ++ B)) := by
        have := HRow.out
        rwa [hrn, ← List.append_assoc (A ++ M), List.append_assoc _ _ B] at this
      have HRn := Lib.hid hrn
      have HRow2 := Lib.hid hrow2
      have HMm := Lib.hid hmm
      clear ha kS kK hrn hPs hql hmm hrow2
      go_wp2_with fail
      refine (hkid _).mono ?_
      rintro e w2 ⟨rfl, hg2⟩
      have hbo := hg2.below
      have hz2 := hbo.size
      have hih := ih (px d x q) (py d y q) (prt d x y q L') (A ++ M) (rst d x y (q + 1) L' ++ B) a cp g b G S1 E1 (fun j => P j ∧ j ≠ w.heap.size ∧ j ≠ w.heap.size + 1) w2 (HS.out.kid hlt) (prt_pls HPs'.out q) hcp (fun h0 => by rw [HMm.out]; exact HAd.out h0)
        (HRow2.out.under hbo) (HA.out.under hbo) (fun k hk => ⟨HPn.out k (by omega), by omega, by omega⟩) (HB.out.under hbo) (fun h => hPb h.1) (fun h => hPG h.1) hbG HK.out.ext.tw HE1.out HCo.out.1 (by have := HQl.out; have := HL.out; omega)
      have HBo := Lib.hid hbo
      clear hkid hg2 hbo s0 s1 s2
      go_wp2_with fail
      refine hih.mono ?_
      rintro e w3 ⟨i, er, S2, PL2, rfl, hBd, ⟨hA3, E3, hE3, hB3⟩, hp3, hr3, hO3⟩
      have HBd := Lib.hid hBd
      have HE3 := Lib.hid hE3
      have HP3 := Lib.hid hp3
      have HR3 := Lib.hid hr3
      have HA3 := Lib.hid hA3
      have HB3 := Lib.hid hB3
      have kS3 := hO3.blk (HkS.out.under HBo.out) (fun h => by rcases h with h | h | h; exact h.2.1 rfl; omega; omega)
      have kK3 := hO3.blk (HkK.out.under HBo.out) (fun h => by rcases h with h | h | h; exact h.2.2 rfl; omega; omega)
      have hOw : Off (fun k => P k ∨ k = b ∨ k = G) w w3 := (HO.out.trans (Off.of_below HBo.out)).trans (hO3.weak fun k _ hk => by rcases hk with h | h | h; exact .inl h.1; exact .inr (.inl h); exact .inr (.inr h))
      have HO3 := Lib.hid hOw
      have HkS3 := Lib.hid kS3
      have HkK3 := Lib.hid kK3
      have hpm : (M ++ PL2 ++ rst d x y (q + 1) L').Perm L' := mid_perm (by rw [← HRn.out]; exact HMp.out) HP3.out
      have hpr : PlRow w3 G (A ++ (M ++ PL2 ++ rst d x y (q + 1) L') ++ B) := by
        have := HR3.out
        rwa [show A ++ M ++ PL2 ++ (rst d x y (q + 1) L' ++ B) = A ++ (M ++ PL2 ++ rst d x y (q + 1) L') ++ B by simp only [List.append_assoc]] at this
      have HPm := Lib.hid hpm
      have HPr := Lib.hid hpr
      have hOl := Lib.hid (show S2.N.length ≤ 1000000 by have := HBd.out.len; have := HCo.out.1; have := em_le HBd.out.ext.tw; omega)
      clear hih hBd hE3 hp3 hr3 hA3 hB3 hO3 hOw hpm hpr
      rcases er with _ | c
      · unfold errV
        have hq0 : (0 : Int) ≤ (q : Int) := by omega
        have hq4 : (q : Int) < 4 := by omega
        have fz := kK3.frozen q
        have hkl := kK3.lt
        obtain ⟨vq, hvq⟩ : ∃ vq, w3.cell? ⟨w.heap.size + 1, q, none⟩ = some vq := by
          rw [kK3.cell]
          rcases four hlt with rfl | rfl | rfl | rfl <;> exact ⟨_, rfl⟩
        clear kS3 kK3
        go_wp2_with fail
        have hne1 : ∀ k', k' ≠ w.heap.size + 1 → (w3.setCell ⟨w.heap.size + 1, q, none⟩ (.int .u32 i)).heap[k']? = w3.heap[k']? := fun k' hk' => Below.heap_setCell _ _ _ _ hk'
        refine ⟨⟨q + 1, kset k q i, S2, M ++ PL2, by omega, by go_num, bk_step HT.out HPs'.out HK.out hlt HBd.out, ⟨HA3.out.same fun k' hk' _ => hne1 k' hk'.2.2, E3, HE3.out, (hne1 b (by omega)).trans HB3.out⟩, kset_ok hk4 hlt (bd_okU HBd.out hOl.out), (hne1 _ (by omega)).trans HkS3.out, ?_, ?_, HPm.out, ?_, HO3.out.setCell (fun h => by dsimp only at h; omega) _⟩, by simp [intOf]; omega⟩
        · have := HkK3.out.set_ q (.int .u32 i)
          rwa [kset_cells k i hlt] at this
        · rw [List.length_append, HM.out, HP3.out.length_eq, ahd_next q HSo.out]
        · have := HPr.out.same (hne1 G (by omega))
          rwa [show A ++ (M ++ PL2 ++ rst d x y (q + 1) L') ++ B = A ++ (M ++ PL2) ++ rst d x y (q + 1) L' ++ B by simp only [List.append_assoc]] at this
      · unfold errV
        clear kS3 kK3
        go_wp2_with fail
        exact bodyPost_ret (v := .tuple #[.int .u32 0, errV (some c)]) (by simp [results, Tryz.results57, go_sem, errV]) rfl ⟨0, some c, S2, M ++ PL2 ++ rst d x y (q + 1) L', rfl, bd_perm HP.out (bk_stop HT.out HPs'.out HCo.out.2 HK.out hlt HBd.out), ⟨HA3.out.weak fun k hk _ => hk.1, E3, HE3.out, HB3.out⟩, HPm.out.trans HP.out, HPr.out, HO3.out⟩
    · obtain rfl : q = 4 := by omega
      have hne' : L' ≠ [] := fun e => HNe.out (List.eq_nil_of_length_eq_zero (by rw [← HL.out, e]; rfl))
      have hlen := HK.out.len
      have hcs := costK_all (d := d) (x := x) (y := y) (PL := L') hne' (q := 4) (by omega)
      have hcp := cost_perm (d + 1) HP.out
      have hcc := HC.out
      have hem := em_le HK.out.ext.tw
      have hj := fun W hW hQ => join_any g k S1 (fun j => P j ∧ j ≠ w.heap.size ∧ j ≠ w.heap.size + 1) W hW hk4 hQ (by omega)
      have HD := Lib.hid (bk_done HT.out (pls_perm HPs.out HP.out) hne' (by have := HS.out.lv; omega) HK.out)
      have k0 := kK.cell 0
      have k1 := kK.cell 1
      have k2 := kK.cell 2
      have k3 := kK.cell 3
      simp only [List.getElem?_toArray, List.getElem?_cons_zero, List.getElem?_cons_succ] at k0 k1 k2 k3
      have hkl := kK.lt
      have hsl := kS.lt
      have c0 := HB.out.cell 0
      rw [bc_zero] at c0
      have hbl := HB.out.lt
      have hGl := HRow.out.lt
      have HQ : Hid (∀ k, wr.heap.size ≤ k → (P k ∧ k ≠ w.heap.size ∧ k ≠ w.heap.size + 1)) := Lib.hid fun k hk => ⟨HPn.out k (by omega), by omega, by omega⟩
      clear hlen hcs hcp hcc hem kK kS
      rcases hR : joinR S1 k with ⟨i, er, S5⟩
      rw [hR] at hj HD
      have HJ := Lib.hid hR
      dsimp only at hj
      clear hR
      go_upto_region 14 with fail
      rcases er with _ | c
      · simp only [errV] at hj
        go_region_held3 (fun w' => w'.cell? ⟨b, 0, none⟩ = some (.pointer (some ⟨g, 0, none⟩)) ∧ w'.cell? ⟨w.heap.size + 1, 0, none⟩ = some (.int .u32 k.1) ∧ w'.cell? ⟨w.heap.size + 1, 1, none⟩ = some (.int .u32 k.2.1) ∧ w'.cell? ⟨w.heap.size + 1, 2, none⟩ = some (.int .u32 k.2.2.1) ∧ w'.cell? ⟨w.heap.size + 1, 3, none⟩ = some (.int .u32 k.2.2.2))
          (first | (exact keepJ c0 k0 k1 k2 k3 rfl rfl) | (exact keepJ c0 k0 k1 k2 k3 (hO6.block b hbl (fun h => hPb h.1)) (hO6.block (w.heap.size + 1) hkl (fun h => h.2.2 rfl))))
          (first | (go_at_call 75; refine (hj _ (HA.out.under (by go_grown)) (fun k hk => HQ.out k (by simp at hk; omega))).mono ?_; rintro e w5 ⟨rfl, hA5, hO5⟩; have hO6 : Off (fun j => P j ∧ j ≠ w.heap.size ∧ j ≠ w.heap.size + 1) wr w5 := ⟨hO5.os, hO5.tape, hO5.output, hO5.size, hO5.block⟩; clear hO5))
        all_goals go_wp2_with fail
        all_goals exact bodyPost_ret (v := .tuple #[.int .u32 i, errV (none)]) (by simp [results, Tryz.results57, go_sem, errV]) rfl ⟨i, none, S5, M ++ rst d x y 4 L', rfl, bd_perm HP.out HD.out, ⟨hA5.weak fun k hk _ => hk.1, E1, HE1.out.ext HK.out.ext.tw (join_ext HK.out.ext.tw k HJ.out), hO6.blk HB.out (fun h => hPb h.1)⟩, HMp.out.trans HP.out, ((show A ++ M ++ rst d x y 4 L' ++ B = A ++ (M ++ rst d x y 4 L') ++ B by simp only [List.append_assoc]) ▸ HRow.out).same (hO6.block G hGl (fun h => hPG h.1)), HO.out.trans (hO6.weak fun k _ hk => .inl hk.1)⟩
      · simp only [errV] at hj
        go_region_held3 (fun w' => w'.cell? ⟨b, 0, none⟩ = some (.pointer (some ⟨g, 0, none⟩)) ∧ w'.cell? ⟨w.heap.size + 1, 0, none⟩ = some (.int .u32 k.1) ∧ w'.cell? ⟨w.heap.size + 1, 1, none⟩ = some (.int .u32 k.2.1) ∧ w'.cell? ⟨w.heap.size + 1, 2, none⟩ = some (.int .u32 k.2.2.1) ∧ w'.cell? ⟨w.heap.size + 1, 3, none⟩ = some (.int .u32 k.2.2.2))
          (first | (exact keepJ c0 k0 k1 k2 k3 rfl rfl) | (exact keepJ c0 k0 k1 k2 k3 (hO6.block b hbl (fun h => hPb h.1)) (hO6.block (w.heap.size + 1) hkl (fun h => h.2.2 rfl))))
          (first | (go_at_call 75; refine (hj _ (HA.out.under (by go_grown)) (fun k hk => HQ.out k (by simp at hk; omega))).mono ?_; rintro e w5 ⟨rfl, hA5, hO5⟩; have hO6 : Off (fun j => P j ∧ j ≠ w.heap.size ∧ j ≠ w.heap.size + 1) wr w5 := ⟨hO5.os, hO5.tape, hO5.output, hO5.size, hO5.block⟩; clear hO5))
        all_goals go_wp2_with fail
        all_goals exact bodyPost_ret (v := .tuple #[.int .u32 i, errV (some c)]) (by simp [results, Tryz.results57, go_sem, errV]) rfl ⟨i, some c, S5, M ++ rst d x y 4 L', rfl, bd_perm HP.out HD.out, ⟨hA5.weak fun k hk _ => hk.1, E1, HE1.out.ext HK.out.ext.tw (join_ext HK.out.ext.tw k HJ.out), hO6.blk HB.out (fun h => hPb h.1)⟩, HMp.out.trans HP.out, ((show A ++ M ++ rst d x y 4 L' ++ B = A ++ (M ++ rst d x y 4 L') ++ B by simp only [List.append_assoc]) ▸ HRow.out).same (hO6.block G hGl (fun h => hPG h.1)), HO.out.trans (hO6.weak fun k _ hk => .inl hk.1)⟩
theorem build_any : ∀ d, BuildC d
  | 0 => fun x y PL A B a cap g b G S E P w h hP hc ha hr hA hPn hb hPb hPG hbG T hE hN hL => by
    cases PL with
    | nil =>
      refine (build_nil 0 x y a cap g b S E P w (by omega) hA hPn hb hPb T hE (by have := em_le T; omega)).mono ?_
      rintro e w' ⟨i, er, S', rfl, h1, h2, h3⟩
      exact ⟨i, er, S', [], rfl, h1, h2, List.Perm.refl _, hr.same (h3.block G hr.lt (fun h => by rcases h with h | h; exact hPG h; exact hbG h.symm)), h3.weak fun k _ hk => by rcases hk with h | h; exact .inl h; exact .inr (.inl h)⟩
    | cons p L =>
      obtain ⟨rfl, hp⟩ := pls_one hP
      obtain rfl := ha (by simp)
      refine (build_leaf x y p A B cap g b G S E P w hp (hP.all p (by simp)).lt hr hc hA hPn hb hPb hPG T hE (by have := em_le T; omega)).mono ?_
      rintro e w' ⟨i, er, S', rfl, h1, h2, h3, h4⟩
      exact ⟨i, er, S', [p], rfl, h1, h2, List.Perm.refl _, h3, h4.weak fun k _ hk => by rcases hk with h | h; exact .inl h; exact .inr (.inl h)⟩
  | d + 1 => fun x y PL A B a cap g b G S E P w h hP hc ha hr hA hPn hb hPb hPG hbG T hE hN hL => by
    by_cases hn : PL = []
    · subst hn
      refine (build_nil (d + 1) x y a cap g b S E P w h.lv hA hPn hb hPb T hE (by have := em_le T; omega)).mono ?_
      rintro e w' ⟨i, er, S', rfl, h1, h2, h3⟩
      exact ⟨i, er, S', [], rfl, h1, h2, List.Perm.refl _, hr.same (h3.block G hr.lt (fun h => by rcases h with h | h; exact hPG h; exact hbG h.symm)), h3.weak fun k _ hk => by rcases hk with h | h; exact .inl h; exact .inr (.inl h)⟩
    · obtain rfl := ha (by rcases PL with _ | ⟨p, L⟩; exact absurd rfl hn; simp)
      have := build_step d (build_any d) x y PL A B cap g b G S E P w h hP hn hc hr hA hPn hb hPb hPG hbG T hE hN hL
      rwa [show (d : Int) + 3 = ((d + 1 : Nat) : Int) + 2 by omega] at this
end Go.Proofs.YtahlinekbllkaaaGreatDoor.Tr
