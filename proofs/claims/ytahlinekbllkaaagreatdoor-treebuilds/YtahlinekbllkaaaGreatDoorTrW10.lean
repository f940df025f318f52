/- Contracts of package tree: Build. -/
import Derived.Test.YtahlinekbllkaaaGreatDoorTrW7
import Derived.Test.YtahlinekbllkaaaGreatDoorTrW8
import Derived.Test.YtahlinekbllkaaaGreatDoorTrW9
import Derived.Deep.WholeRow
import Derived.Laws.Tables
namespace Go.Proofs.YtahlinekbllkaaaGreatDoor.Tr
open Go.RowKit Go.Proofs.YtahlinekbllkaaaGreatDoor.Ba Go.Proofs.YtahlinekbllkaaaGreatDoor.Se Go.Proofs.YtahlinekbllkaaaGreatDoor.Si Go.Proofs.YtahlinekbllkaaaGreatDoor.Ar Go.Lib

theorem fold_in (lo hi lo2 hi2 : Int) : ∀ (L : List (Int × Int × Int)) (q : Q), (lo ≤ q.1 ∧ q.2.2.1 < hi) ∧ (lo2 ≤ q.2.1 ∧ q.2.2.2 < hi2) → (∀ c ∈ L, (lo ≤ c.1 ∧ c.1 < hi) ∧ (lo2 ≤ c.2.1 ∧ c.2.1 < hi2)) →
    (lo ≤ (L.foldl bstep q).1 ∧ (L.foldl bstep q).2.2.1 < hi) ∧ (lo2 ≤ (L.foldl bstep q).2.1 ∧ (L.foldl bstep q).2.2.2 < hi2)
  | [], q, h, _ => h
  | c :: L, q, h, hc => by
    have := hc c (by simp)
    exact fold_in lo hi lo2 hi2 L (bstep q c) (by unfold bstep; dsimp only; omega) fun d hd => hc d (by simp [hd])
theorem fold_out : ∀ (L : List (Int × Int × Int)) (q : Q), ((L.foldl bstep q).1 ≤ q.1 ∧ (L.foldl bstep q).2.1 ≤ q.2.1 ∧ q.2.2.1 ≤ (L.foldl bstep q).2.2.1 ∧ q.2.2.2 ≤ (L.foldl bstep q).2.2.2) ∧
    ∀ c ∈ L, (L.foldl bstep q).1 ≤ c.1 ∧ (L.foldl bstep q).2.1 ≤ c.2.1 ∧ c.1 ≤ (L.foldl bstep q).2.2.1 ∧ c.2.1 ≤ (L.foldl bstep q).2.2.2
  | [], q => ⟨⟨Int.le_refl _, Int.le_refl _, Int.le_refl _, Int.le_refl _⟩, fun c h => by simp at h⟩
  | c :: L, q => by
    obtain ⟨h1, h2⟩ := fold_out L (bstep q c)
    have e : (bstep q c).1 ≤ q.1 ∧ (bstep q c).1 ≤ c.1 ∧ (bstep q c).2.1 ≤ q.2.1 ∧ (bstep q c).2.1 ≤ c.2.1 ∧ q.2.2.1 ≤ (bstep q c).2.2.1 ∧ c.1 ≤ (bstep q c).2.2.1 ∧ q.2.2.2 ≤ (bstep q c).2.2.2 ∧ c.2.1 ≤ (bstep q c).2.2.2 := by unfold bstep; dsimp only; omega
    rw [List.foldl_cons]
    refine ⟨by omega, fun d hd => ?_⟩
    rcases List.mem_cons.1 hd with rfl | hd
    · omega
    · exact h2 d hd
theorem ins_zero (l : Int) : insB l 0 0 = true := by
  have := hf_bd l
  unfold insB
  rw [decide_eq_true_eq]
  omega
theorem boxL_cons (x : Int × Int × Int) (L : List (Int × Int × Int)) : boxL (x :: L) = (x :: L).foldl bstep (x.1, x.2.1, x.1, x.2.1) := by
  show boxN _ _ _ = _
  unfold boxN
  rw [List.take_length]
/-- A root has a box, if it has its cells. -/
theorem box_has {l : Int} {L : List (Int × Int × Int)} (h : ∀ c ∈ L, insB l c.1 c.2.1 = true) : hasB l (boxL L) = true := by
  cases L with
  | nil => exact Bool.and_eq_true_iff.2 ⟨ins_zero l, ins_zero l⟩
  | cons x L =>
    have hx : ∀ c ∈ x :: L, (-hf l ≤ c.1 ∧ c.1 < hf l) ∧ (-hf l ≤ c.2.1 ∧ c.2.1 < hf l) := fun c hc => by have := h c hc; unfold insB at this; rwa [decide_eq_true_eq] at this
    have h0 := hx x (by simp)
    have h1 := fold_in (-hf l) (hf l) (-hf l) (hf l) (x :: L) (x.1, x.2.1, x.1, x.2.1) h0 hx
    have h2 := (fold_out (x :: L) (x.1, x.2.1, x.1, x.2.1)).1
    dsimp only at h2
    unfold hasB insB
    rw [boxL_cons, Bool.and_eq_true, decide_eq_true_eq, decide_eq_true_eq]
    omega
theorem box_all {l : Int} {L : List (Int × Int × Int)} (h : hasB l (boxL L) = true) : ∀ c ∈ L, insB l c.1 c.2.1 = true := by
  cases L with
  | nil => intro c hc; simp at hc
  | cons x L =>
    intro c hc
    have h2 := (fold_out (x :: L) (x.1, x.2.1, x.1, x.2.1)).2 c hc
    unfold hasB insB at h
    rw [boxL_cons, Bool.and_eq_true, decide_eq_true_eq, decide_eq_true_eq] at h
    unfold insB
    rw [decide_eq_true_eq]
    omega
/-- The root of a list's cells. -/
structure Bt (S : Sta) (L : List (Int × Int × Int)) (d i : Nat) (er : Option Nat) (S' : Sta) : Prop where
  pos : 1 ≤ d
  lv : Lst (boxL L) (d + 2)
  ext : Ext S S'
  ok : (er = none ∧ lvOk S'.N d i ∧ ∀ c, c ∈ cellsL S'.N d i (-hf ((d : Int) + 2)) (-hf ((d : Int) + 2)) ↔ c ∈ L) ∨ (er = some 8 ∧ i = 0 ∧ full S')
  len : ne S'.N ≤ ne S.N + L.length * 43
  old : ∀ j, lvOk S.N d j → (∀ c, c ∈ cellsL S.N d j (-hf ((d : Int) + 2)) (-hf ((d : Int) + 2)) ↔ c ∈ L) → i = j ∧ er = none ∧ S' = S
theorem bt_of {S S' : Sta} {L : List (Int × Int × Int)} {PL : List Plot} {d i : Nat} {er : Option Nat} (hd : 1 ≤ d) (hl : Lst (boxL L) (d + 2)) (hm : ∀ c, memP PL c ↔ c ∈ L) (hlen : PL.length ≤ L.length) (h : Bd S d (-hf ((d : Int) + 2)) (-hf ((d : Int) + 2)) PL i er S') : Bt S L d i er S' := by
  have hh := hl.hi
  refine ⟨hd, hl, h.ext, ?_, ?_, fun j hj hc => h.old j hj fun c => by rw [hc c, hm c]⟩
  · rcases h.ok with ⟨h1, h2, h3⟩ | h1
    · exact .inl ⟨h1, h2, fun c => by rw [h3 c, hm c]⟩
    · exact .inr h1
  · have h1 := h.len
    unfold cost at h1
    have h2 : PL.length * (d + 1) ≤ L.length * 43 := Nat.mul_le_mul hlen (by omega)
    omega
theorem build_is {Pr : Program} {ops : Array Oper} {rest : List Oper} {o : Oper} {a : Act} {w : World} {Q : Exit → Act → World → Prop} (hg : o.guard = none) (t : TypeId) (parts : Array (Nat × Operand)) (ho : o.op = .build t parts)
    (cells : Array Value) (hf : Pr.built t (parts.map fun (i, x) => (i, a.eval x)).toList = some cells) (h : wpList Pr ops Q rest (a.put o.dst (.agg cells)) w) : wpList Pr ops Q (o :: rest) a w :=
  wpList_build hg t parts ho (by rw [hf]; rfl) (by rw [hf]; exact h)
theorem store_new {Pr : Program} {ops : Array Oper} {rest : List Oper} {o : Oper} {a : Act} {Q : Exit → Act → World → Prop} (hgd : o.guard = none) (ty : TypeId) (x y : Operand) (ho : o.op = .store ty x y)
    (W : World) (t : TypeId) (old cells : Array Value) (hx : a.eval x = .pointer (some ⟨W.heap.size, 0, none⟩)) (hy : a.eval y = .agg cells) (hi : (Pr.info? ty).map (·.size) = some cells.size)
    (hold : old.size = cells.size) (h1 : cells.all (·.oneCell') = true)
    (h : wpList Pr ops Q rest (a.put o.dst undef) (W.alloc (.cells cells t))) : wpList Pr ops Q (o :: rest) a (W.alloc (.cells old t)) :=
  wpList_store_row hgd ty x y ho W.heap.size cells hx hy t old (heap_alloc_new W _) hi hold h1 (by rw [World.setRow_alloc_new]; exact h)
set_option maxRecDepth 100000 in
set_option maxHeartbeats 1000000 in
theorem build_top (v : Value) (L : List (Int × Int × Int)) (g : Nat) (S : Sta) (P : Nat → Prop) (w : World) (h : SetAt w v L) (hin : ∀ c ∈ L, insB 44 c.1 c.2.1 = true) (hh : ∀ c ∈ L, c.2.2 = 0 ∨ c.2.2 = 1) (hL : L.length ≤ 1000) (hA : ArAt w g S P) (hP : ∀ k, w.heap.size ≤ k → P k) (T : Tw S) (hN : ne S.N ≤ 700000) :
    Calls Tryz.prog 25 #[Pt g, v] w fun e w' => ∃ (i : Nat) (er : Option Nat) (S' : Sta) (d : Nat), e = .returned (.tuple #[.int .u32 i, errV er]) ∧ Bt S L d i er S' ∧ ArAt w' g S' P ∧ Off P w w' := by
  have hSm : ∀ c ∈ L, Sm c := fun c hc => by
    have h1 := hin c hc
    unfold insB at h1
    rw [decide_eq_true_eq] at h1
    have := hf_bd 44
    exact ⟨by omega, by omega, hh c hc⟩
  have hbx := fun W hW => box_any v L W hW (by omega)
  have hha := fun W => has_any 44 (boxL L) W
  rw [box_has hin] at hha
  have hle := fun W => level_any (boxL L) W
  have HPl := Lib.hid (fun W hW => plots_any v L W hW hSm hL)
  have HIn := Lib.hid hin
  have HSm := Lib.hid hSm
  have HA := Lib.hid hA
  have HT := Lib.hid T
  have HU := Lib.hid h
  have HPn := Lib.hid hP
  generalize hq : boxL L = q at *
  have HQ := Lib.hid hq
  clear hin hSm hh hA T hP hq
  go_enter Tryz.func25, Tryz.ntmps25
  go_wp2_with fail
  refine (hbx _ h).mono ?_
  rintro e w1 ⟨rfl, hb1⟩
  have HB1 := Lib.hid hb1
  clear hbx h hb1
  have kB := Blk.newAt w1 40 (Bx q) _ rfl
  obtain ⟨b0, b1, b2, b3⟩ := keepB kB (Below.refl _ _)
  have hbl := kB.lt
  have hw1 := HB1.out.size
  have HB2 := Lib.hid (HB1.out.alloc hw1 (.cells (Bx q) 40))
  have HKB := Lib.hid kB
  clear kB
  go_upto_region 2 with fail
  go_wp2_with fail
  refine (hha _).mono ?_
  rintro e w2 ⟨rfl, hb2⟩
  have HB3 := Lib.hid (HB2.out.trans (hb2.mono HB2.out.size))
  have kB2 := HKB.out.under hb2
  have HKB2 := Lib.hid kB2
  clear hha hb2 b0 b1 b2 b3 kB2
  go_upto_region 4 with fail
  have hbu : Tryz.prog.built 110 [(0, Pt g)] = some (bc g fun _ => 0) := by kernel_rfl
  have hiB : (Tryz.prog.info? 110).map (·.size) = some (bc g fun _ => 0).size := by kernel_rfl
  have h1c : (bc g fun _ => 0).all (·.oneCell') = true := by kernel_rfl
  have HE := Lib.hid (rfl : (fun _ : Nat => 0) = (fun _ : Nat => 0))
  go_upto_region 5 with (first | (refine build_is rfl _ _ rfl (bc g fun _ => 0) hbu ?_) | (refine store_new rfl _ _ _ rfl w2 110 _ (bc g fun _ => 0) rfl rfl hiB rfl h1c ?_))
  have kbd := Blk.newAt w2 110 (bc g fun _ => 0) _ rfl
  have HB4 := Lib.hid (HB3.out.alloc HB3.out.size (.cells (bc g fun _ => 0) 110))
  have kB4 := HKB2.out.alloc (.cells (bc g fun _ => 0) 110)
  have hbd : w2.heap.size < (w2.alloc (.cells (bc g fun _ => 0) 110)).heap.size := kbd.lt
  have hwz : w.heap.size ≤ w2.heap.size := HB3.out.size
  clear hbu hiB h1c
  generalize w2.alloc (.cells (bc g fun _ => 0) 110) = w4 at *
  obtain ⟨b0, b1, b2, b3⟩ := keepB kB4 (Below.refl _ _)
  have hbl4 := kB4.lt
  have HKD := Lib.hid kbd
  clear kbd kB4 hbl
  go_wp2_with fail
  refine (hle _).mono ?_
  rintro e w5 ⟨l, rfl, hl, hb5⟩
  have HL := Lib.hid hl
  have h3 := hl.lo
  have h44 := hl.hi
  have HB5 := Lib.hid (HB4.out.trans (hb5.mono HB4.out.size))
  have HKD5 := Lib.hid (HKD.out.under hb5)
  have hwh := fun W => whole_any (l : Int) W
  clear hle hl hb5 b0 b1 b2 b3
  go_wp2_with fail
  refine (hwh _).mono ?_
  rintro e w6 ⟨rfl, hg6⟩
  have HB6 := Lib.hid (HB5.out.trans (hg6.below.mono HB5.out.size))
  have HKD6 := Lib.hid (HKD5.out.under hg6.below)
  have hpl := HPl.out _ (HU.out.below HB6.out)
  clear hwh hg6
  go_wp2_with fail
  refine hpl.mono ?_
  rintro e w7 ⟨pv, PL, rfl, hof, hlen, hown, hb7⟩
  have HB7 := Lib.hid (HB6.out.trans (hb7.mono HB6.out.size))
  have HKD7 := Lib.hid (HKD6.out.under hb7)
  have HOf := Lib.hid hof
  have hzb6 : w.heap.size ≤ w6.heap.size := HB6.out.size
  have hzb7 : w.heap.size ≤ w7.heap.size := HB7.out.size
  have hlb : w2.heap.size < w6.heap.size := HKD6.out.lt
  have hlb7 : w2.heap.size < w7.heap.size := HKD7.out.lt
  have hlq : w1.heap.size < w2.heap.size := HKB2.out.lt
  obtain ⟨G, a, cp, rfl, hcp, ha, hGb, hrow⟩ : ∃ (G : Nat) (a : Option Addr) (cp : Nat), pv = .slice a PL.length cp ∧ PL.length ≤ cp ∧ (0 < PL.length → a = some ⟨G, 0, none⟩) ∧ (w.heap.size ≤ G ∧ G ≠ w2.heap.size) ∧ PlRow w7 G ([] ++ PL ++ []) := by
    by_cases hn : PL = []
    · subst hn
      obtain ⟨p, c, rfl⟩ := own_slice hown
      refine ⟨w1.heap.size, p, c, rfl, Nat.zero_le _, fun h => absurd h (by simp), ⟨hw1, by omega⟩, ?_⟩
      exact ⟨fun i d hd => by simp at hd, fun i hi => by simp at hi, by omega⟩
    · obtain ⟨G, cp, rfl, hc, hG, hr⟩ := plrow_own hown hn
      exact ⟨G, some ⟨G, 0, none⟩, cp, rfl, hc, fun _ => rfl, ⟨by omega, by omega⟩, by simpa using hr⟩
  obtain ⟨d, rfl⟩ : ∃ d : Nat, l = d + 2 := ⟨l - 2, by omega⟩
  have hd1 : 1 ≤ d := by omega
  have hd2 : d ≤ 42 := by omega
  have hin2 : ∀ c ∈ L, insB ((d : Int) + 2) c.1 c.2.1 = true := by
    rcases Nat.lt_or_ge (d + 2) 44 with h | h
    · have hy := HL.out.yes h
      rw [← HQ.out] at hy
      intro c hc
      have := box_all hy c hc
      rwa [show ((d + 2 : Nat) : Int) = (d : Int) + 2 by omega] at this
    · intro c hc
      have := HIn.out c hc
      rwa [show (44 : Int) = (d : Int) + 2 by omega] at this
  have hpls : Pls d (-hf ((d : Int) + 2)) (-hf ((d : Int) + 2)) PL := of_pls HOf.out HSm.out hd1 hd2 fun c hc => by
    have := hin2 c hc
    unfold insB at this
    rw [decide_eq_true_eq] at this
    exact this
  have hPz := fun k hk => HPn.out k hk
  have hA7 : ArAt w7 g S (fun k => P k ∧ (k < w.heap.size ∨ w7.heap.size ≤ k)) := (HA.out.weak (P' := fun k => P k ∧ (k < w.heap.size ∨ w7.heap.size ≤ k)) fun k hk hlt => ⟨hk, .inl hlt⟩).under HB7.out
  have hcost : ne S.N + cost d PL ≤ 800000 := by
    unfold cost
    have : PL.length * (d + 1) ≤ 1000 * 43 := Nat.mul_le_mul (by omega) (by omega)
    omega
  have hbc := build_any d (-hf ((d : Int) + 2)) (-hf ((d : Int) + 2)) PL [] [] a cp g w2.heap.size G S (fun _ => 0) (fun k => P k ∧ (k < w.heap.size ∨ w7.heap.size ≤ k)) w7 (SqOk.whole hd2 hd1) hpls hcp (fun h => by rw [ha h]; rfl) hrow hA7 (fun k hk => ⟨hPz k (by omega), .inr hk⟩) HKD7.out (fun h => by have := HKD7.out.lt; rcases h.2 with h | h <;> omega) (fun h => by have := hrow.lt; rcases h.2 with h | h <;> omega) hGb.2.symm HT.out (EOk.zero S) hcost (by omega)
  rw [show ((d + 2 : Nat) : Int) = (d : Int) + 2 by omega]
  have HGb := Lib.hid hGb
  have HHl := Lib.hid hlen
  clear hpl hof hlen hown hb7 hcp ha hGb hrow hin2 hpls hPz hA7 hcost
  go_wp2_with fail
  refine hbc.mono ?_
  rintro e w8 ⟨i, er, S', PL', rfl, hBd, hKp, hp8, hr8, hO8⟩
  have HBt := Lib.hid (bt_of hd1 (by rw [HQ.out]; exact HL.out) (fun c => of_mem HOf.out HSm.out c) HHl.out hBd)
  have HA8 := Lib.hid (hKp.ar.weak (P' := P) fun k hk _ => hk.1)
  have HO := Lib.hid (((Off.of_below (P := fun k => (P k ∧ (k < w.heap.size ∨ w7.heap.size ≤ k)) ∨ k = w2.heap.size ∨ k = G) HB7.out).trans hO8).weak (P' := P) fun k hk h => by rcases h with h | h | h; exact h.1; omega; have := HGb.out.1; omega)
  clear hbc hBd hKp hp8 hr8 hO8
  go_wp2_with fail
  exact bodyPost_ret (v := .tuple #[.int .u32 i, errV er]) (by simp [results, Tryz.results25, go_sem]) rfl ⟨i, er, S', d, rfl, HBt.out, HA8.out, HO.out⟩
end Go.Proofs.YtahlinekbllkaaaGreatDoor.Tr
