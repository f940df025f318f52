/- set's Shift and Turn, where nothing goes beyond: all cells are brought, and the set is made of them. -/
import Derived.Test.YtplldlfbcblncaaGreatDoorSeW4
namespace Go.Proofs.YtplldlfbcblncaaGreatDoor.Se
open Go.RowKit Go.Proofs.YtplldlfbcblncaaGreatDoor.Ax Go.Proofs.YtplldlfbcblncaaGreatDoor.Ba Go.Shelf Go.Lib Go.Sort

def zC : C := (0, 0, 0)
theorem made_get (m j : Nat) (h : j < m) : (madeCells (Value.agg #[.int .i64 0, .int .i64 0, .int .i64 0]).cells m).toList[j]? = some (.int .i64 0) := by
  have h3 : j % 3 = 0 ∨ j % 3 = 1 ∨ j % 3 = 2 := by omega
  simp [madeCells, Value.cells, h]
  rcases h3 with e | e | e <;> simp [e]
theorem HR.under {w w' : World} {g : Nat} {d : List C} (h : HR w g d) (hb : Below w.heap.size w w') : HR w' g d :=
  ⟨h.1.below hb, fun i hi => (hb.frozen (p := ⟨g, i, none⟩) h.1.2).trans (h.2 i hi)⟩
theorem made_hr {w1 : World} {base g n : Nat} (h : w1.ownsRow base 45 3 (.slice (some ⟨g, 0, none⟩) n n) n (madeCells (Value.agg #[.int .i64 0, .int .i64 0, .int .i64 0]).cells (n * 3)).toList) : HR w1 g (List.replicate n zC) := by
  have hg : g < w1.heap.size := (h.lt g rfl).2
  refine ⟨⟨fun i d hd => ?_, hg⟩, fun i _ => h.frozenAt i⟩
  have hi : i < n := by have := (List.getElem?_eq_some_iff.1 hd).1; simpa using this
  have e : d = zC := by have := (List.getElem?_eq_some_iff.1 hd).2; simpa using this.symm
  subst e
  exact ⟨(h.cellAt (i * 3) (by omega)).trans (made_get _ _ (by omega)), (h.cellAt (i * 3 + 1) (by omega)).trans (made_get _ _ (by omega)), (h.cellAt (i * 3 + 1 + 1) (by omega)).trans (made_get _ _ (by omega))⟩
def brL (L : List C) (f : C → C) (k : Nat) : List C := (L.take k).map f ++ List.replicate (L.length - k) zC
theorem brL_len (L : List C) (f : C → C) (k : Nat) (hk : k ≤ L.length) : (brL L f k).length = L.length := by simp [brL]; omega
theorem brL_set {L : List C} {k : Nat} {x : C} (f : C → C) (hx : L[k]? = some x) : (brL L f k).set k (f x) = brL L f (k + 1) := by
  have hk : k < L.length := (List.getElem?_eq_some_iff.1 hx).1
  unfold brL
  have hl : ((L.take k).map f).length = k := by simp; omega
  rw [List.set_append_right _ _ (by omega), hl, Nat.sub_self, List.take_add_one, hx, show L.length - k = (L.length - (k + 1)) + 1 by omega, List.replicate_succ]
  simp
def BrR (w : World) (L : List C) (f : C → C) (i : Value) (wr : World) : Prop := ∃ k : Nat, k ≤ L.length ∧ i = .int .i64 k ∧ HR wr w.heap.size (brL L f k) ∧ Below w.heap.size w wr
set_option maxRecDepth 100000 in
set_option maxHeartbeats 4000000 in
theorem bring_shift (v : Value) (L : List C) (f : C → C) (P : Nat) (w : World) (h : SetAt w v L) (hL : L.length ≤ 1000000)
    (hmv : ∀ W, Below w.heap.size w W → ∀ c ∈ L, Calls Tryz.prog 23 #[Ce c, .pointer (some ⟨P, 0, none⟩)] W fun e w' => e = .returned (.tuple #[Ce (f c), .nilIface]) ∧ Below W.heap.size W w') :
    Calls Tryz.prog 22 #[v, .func (.func 23) #[] #[.pointer (some ⟨P, 0, none⟩)]] w fun e w' => ∃ v', e = .returned (.tuple #[v', .nilIface]) ∧ SetAt w' v' (ofL (L.map f)) ∧ Below w.heap.size w w' := by
  obtain ⟨i0, hi0, hz0, hz1, hz2⟩ := info_parts cell_info
  have HU := Lib.hid h
  have HMV := Lib.hid hmv
  have key : ∀ v, SetAt w v L → ∃ p cap, v = .slice p L.length cap := by
    rintro v (⟨rfl, rfl⟩ | ⟨g, cap, rfl, _, _⟩)
    · exact ⟨none, 0, rfl⟩
    · exact ⟨_, _, rfl⟩
  obtain ⟨p, cap, rfl⟩ := key v h
  clear h key hmv
  go_enter Tryz.func22, Tryz.ntmps22
  go_wp2_with (at_make; refine wpList_make_full w rfl _ _ 25 rfl w.heap.size 45 i0 _ 3 Tryz.underlying25 hi0 hz0 hz1 .i64 .i64 _ _ L.length rfl rfl rfl rfl (by rw [hz2]; omega) (by unfold maxLen; omega) (Nat.le_refl _) ?_)
  intro w1 hown hgr
  have hb1 : Below w.heap.size w w1 := (Below.refl _ _).grown hgr (Nat.le_refl _) (by simp)
  have hHR := made_hr hown
  clear hown hgr
  go_wp2_with fail
  go_loopw [16] (fun i wr => BrR w L f i wr) (fun i _ => L.length - (intOf i).toNat)
  case atStart => exact ⟨0, Nat.zero_le _, rfl, by simpa [brL] using hHR, hb1⟩
  case round =>
    clear hHR hb1
    obtain ⟨k, hk, rfl, hM, hb⟩ := hrel
    have hz := hb.size
    by_cases hlt : k < L.length
    · obtain ⟨x, hx⟩ : ∃ x, L[k]? = some x := ⟨_, List.getElem?_eq_getElem hlt⟩
      rcases HU.out.below hb with ⟨_, hnil⟩ | ⟨g, cp, hv, _, hr⟩
      · subst hnil; simp at hlt
      · injection hv with hv1 hv2 hv3
        subst hv1 hv3
        clear hv2
        obtain ⟨c0, c1, c2⟩ := hr.1 k x hx
        have hgl := hr.2
        have hb2 := hb.alloc hz (.cells #[.int .i64 x.1, .int .i64 x.2.1, .int .i64 x.2.2] 45)
        have hmc := HMV.out _ hb2 x (List.mem_of_getElem? hx)
        have HS := Lib.hid (brL_set f hx)
        clear hx hr
        have hgl2 := hM.1.2
        go_wp2_with fail
        refine hmc.mono ?_
        rintro e w3 ⟨rfl, hb3⟩
        have hM3 := hM.under ((Below.refl _ _).alloc (Nat.le_refl _) (.cells #[.int .i64 x.1, .int .i64 x.2.1, .int .i64 x.2.2] 45))
        have hM4 := hM3.under hb3
        have hb4 := hb2.trans (hb3.mono hb2.size)
        have hM5 := hM4.under ((Below.refl _ _).alloc (Nat.le_refl _) (.cells #[.int .i64 (f x).1, .int .i64 (f x).2.1, .int .i64 (f x).2.2] 45))
        have hb5 := hb4.alloc hb4.size (.cells #[.int .i64 (f x).1, .int .i64 (f x).2.1, .int .i64 (f x).2.2] 45)
        have hz5 := hb4.size
        have hlenB := brL_len L f k hk
        obtain ⟨y, hy⟩ : ∃ y, (brL L f k)[k]? = some y := ⟨_, List.getElem?_eq_getElem (by omega)⟩
        obtain ⟨b0, b1, b2⟩ := hM4.1.1 k y hy
        have f0 := hM4.2 (k * 3) (by omega)
        have f1 := hM4.2 (k * 3 + 1) (by omega)
        have f2 := hM4.2 (k * 3 + 1 + 1) (by omega)
        have hgl3 := hM5.1.2
        have hgl4 := hM4.1.2
        have hset := hr_set hM4 k (by omega) (f x)
        rw [HS.out] at hset
        have hset' := hset.under ((Below.refl _ _).alloc (Nat.le_refl _) (.cells #[.int .i64 (f x).1, .int .i64 (f x).2.1, .int .i64 (f x).2.2] 45))
        have hbs : Below w.heap.size w (w3.setCells w.heap.size (k * 3) (encC (f x))) := hb4.grown (grown_set (grown_refl w3 (some w.heap.size)) (k * 3) (encC (f x))) hb4.size (fun q hq => by injection hq with hq; omega)
        have hbs' := hbs.alloc hbs.size (.cells #[.int .i64 (f x).1, .int .i64 (f x).2.1, .int .i64 (f x).2.2] 45)
        clear hmc hM hM3 hM4 hM5 c0 c1 c2 hgl hb2 hb3 hgl2 hy
        have hwl : w.heap.size ≠ w3.heap.size := by omega
        go_wp2_with fail
        go_roundw
        case rel => exact ⟨k + 1, by omega, by go_num, hset', hbs'⟩
        case measure => simp [intOf]; omega
    · obtain rfl : k = L.length := by omega
      have hfin : brL L f L.length = L.map f := by simp [brL]
      rw [hfin] at hM
      have hlm : (L.map f).length = L.length := by simp
      have hof := of_any (.slice (some ⟨w.heap.size, 0, none⟩) L.length L.length) (L.map f) wr (.inr ⟨w.heap.size, L.length, by rw [hlm], by omega, hM.1⟩) (by omega)
      go_wp2_with fail
      refine hof.mono ?_
      rintro e w3 ⟨v3, rfl, hs3, hb3⟩
      go_wp2_with fail
      exact bodyPost_ret (v := .tuple #[v3, .nilIface]) (by simp [results, Tryz.results22, go_sem]) rfl ⟨_, rfl, hs3, hb.trans (hb3.mono hz)⟩
set_option maxRecDepth 100000 in
set_option maxHeartbeats 4000000 in
theorem bring_turn (v : Value) (L : List C) (f : C → C) (P R : Nat) (w : World) (h : SetAt w v L) (hL : L.length ≤ 1000000)
    (hmv : ∀ W, Below w.heap.size w W → ∀ c ∈ L, Calls Tryz.prog 27 #[Ce c, .pointer (some ⟨P, 0, none⟩), .pointer (some ⟨R, 0, none⟩)] W fun e w' => e = .returned (.tuple #[Ce (f c), .nilIface]) ∧ Below W.heap.size W w') :
    Calls Tryz.prog 22 #[v, .func (.func 27) #[] #[.pointer (some ⟨P, 0, none⟩), .pointer (some ⟨R, 0, none⟩)]] w fun e w' => ∃ v', e = .returned (.tuple #[v', .nilIface]) ∧ SetAt w' v' (ofL (L.map f)) ∧ Below w.heap.size w w' := by
  obtain ⟨i0, hi0, hz0, hz1, hz2⟩ := info_parts cell_info
  have HU := Lib.hid h
  have HMV := Lib.hid hmv
  have key : ∀ v, SetAt w v L → ∃ p cap, v = .slice p L.length cap := by
    rintro v (⟨rfl, rfl⟩ | ⟨g, cap, rfl, _, _⟩)
    · exact ⟨none, 0, rfl⟩
    · exact ⟨_, _, rfl⟩
  obtain ⟨p, cap, rfl⟩ := key v h
  clear h key hmv
  go_enter Tryz.func22, Tryz.ntmps22
  go_wp2_with (at_make; refine wpList_make_full w rfl _ _ 25 rfl w.heap.size 45 i0 _ 3 Tryz.underlying25 hi0 hz0 hz1 .i64 .i64 _ _ L.length rfl rfl rfl rfl (by rw [hz2]; omega) (by unfold maxLen; omega) (Nat.le_refl _) ?_)
  intro w1 hown hgr
  have hb1 : Below w.heap.size w w1 := (Below.refl _ _).grown hgr (Nat.le_refl _) (by simp)
  have hHR := made_hr hown
  clear hown hgr
  go_wp2_with fail
  go_loopw [16] (fun i wr => BrR w L f i wr) (fun i _ => L.length - (intOf i).toNat)
  case atStart => exact ⟨0, Nat.zero_le _, rfl, by simpa [brL] using hHR, hb1⟩
  case round =>
    clear hHR hb1
    obtain ⟨k, hk, rfl, hM, hb⟩ := hrel
    have hz := hb.size
    by_cases hlt : k < L.length
    · obtain ⟨x, hx⟩ : ∃ x, L[k]? = some x := ⟨_, List.getElem?_eq_getElem hlt⟩
      rcases HU.out.below hb with ⟨_, hnil⟩ | ⟨g, cp, hv, _, hr⟩
      · subst hnil; simp at hlt
      · injection hv with hv1 hv2 hv3
        subst hv1 hv3
        clear hv2
        obtain ⟨c0, c1, c2⟩ := hr.1 k x hx
        have hgl := hr.2
        have hb2 := hb.alloc hz (.cells #[.int .i64 x.1, .int .i64 x.2.1, .int .i64 x.2.2] 45)
        have hmc := HMV.out _ hb2 x (List.mem_of_getElem? hx)
        have HS := Lib.hid (brL_set f hx)
        clear hx hr
        have hgl2 := hM.1.2
        go_wp2_with fail
        refine hmc.mono ?_
        rintro e w3 ⟨rfl, hb3⟩
        have hM3 := hM.under ((Below.refl _ _).alloc (Nat.le_refl _) (.cells #[.int .i64 x.1, .int .i64 x.2.1, .int .i64 x.2.2] 45))
        have hM4 := hM3.under hb3
        have hb4 := hb2.trans (hb3.mono hb2.size)
        have hM5 := hM4.under ((Below.refl _ _).alloc (Nat.le_refl _) (.cells #[.int .i64 (f x).1, .int .i64 (f x).2.1, .int .i64 (f x).2.2] 45))
        have hb5 := hb4.alloc hb4.size (.cells #[.int .i64 (f x).1, .int .i64 (f x).2.1, .int .i64 (f x).2.2] 45)
        have hz5 := hb4.size
        have hlenB := brL_len L f k hk
        obtain ⟨y, hy⟩ : ∃ y, (brL L f k)[k]? = some y := ⟨_, List.getElem?_eq_getElem (by omega)⟩
        obtain ⟨b0, b1, b2⟩ := hM4.1.1 k y hy
        have f0 := hM4.2 (k * 3) (by omega)
        have f1 := hM4.2 (k * 3 + 1) (by omega)
        have f2 := hM4.2 (k * 3 + 1 + 1) (by omega)
        have hgl3 := hM5.1.2
        have hgl4 := hM4.1.2
        have hset := hr_set hM4 k (by omega) (f x)
        rw [HS.out] at hset
        have hset' := hset.under ((Below.refl _ _).alloc (Nat.le_refl _) (.cells #[.int .i64 (f x).1, .int .i64 (f x).2.1, .int .i64 (f x).2.2] 45))
        have hbs : Below w.heap.size w (w3.setCells w.heap.size (k * 3) (encC (f x))) := hb4.grown (grown_set (grown_refl w3 (some w.heap.size)) (k * 3) (encC (f x))) hb4.size (fun q hq => by injection hq with hq; omega)
        have hbs' := hbs.alloc hbs.size (.cells #[.int .i64 (f x).1, .int .i64 (f x).2.1, .int .i64 (f x).2.2] 45)
        clear hmc hM hM3 hM4 hM5 c0 c1 c2 hgl hb2 hb3 hgl2 hy
        have hwl : w.heap.size ≠ w3.heap.size := by omega
        go_wp2_with fail
        go_roundw
        case rel => exact ⟨k + 1, by omega, by go_num, hset', hbs'⟩
        case measure => simp [intOf]; omega
    · obtain rfl : k = L.length := by omega
      have hfin : brL L f L.length = L.map f := by simp [brL]
      rw [hfin] at hM
      have hlm : (L.map f).length = L.length := by simp
      have hof := of_any (.slice (some ⟨w.heap.size, 0, none⟩) L.length L.length) (L.map f) wr (.inr ⟨w.heap.size, L.length, by rw [hlm], by omega, hM.1⟩) (by omega)
      go_wp2_with fail
      refine hof.mono ?_
      rintro e w3 ⟨v3, rfl, hs3, hb3⟩
      go_wp2_with fail
      exact bodyPost_ret (v := .tuple #[v3, .nilIface]) (by simp [results, Tryz.results22, go_sem]) rfl ⟨_, rfl, hs3, hb.trans (hb3.mono hz)⟩
/-! Shift. -/
def shC (a b : Int) (c : C) : C := (c.1 + a, c.2.1 + b, c.2.2)
theorem shift1_any (P : Nat) (a b : Int) (c : C) (W : World) (hP : Blk W P 34 #[.int .i64 a, .int .i64 b]) (h1 : goodB c.1 c.2.1 = true) (h2 : goodB a b = true) (h3 : goodB (c.1 + a) (c.2.1 + b) = true) :
    Calls Tryz.prog 23 #[Ce c, .pointer (some ⟨P, 0, none⟩)] W fun e w' => e = .returned (.tuple #[Ce (shC a b c), .nilIface]) ∧ Below W.heap.size W w' := by
  have p0 := hP.cell 0
  have p1 := hP.cell 1
  simp only [List.getElem?_toArray, List.getElem?_cons_zero, List.getElem?_cons_succ] at p0 p1
  have hpl := hP.lt
  have hpu := fun w => plus_good c.1 c.2.1 a b w h1 h2 h3
  clear hP
  go_enter Tryz.func23, Tryz.ntmps23
  go_wp2_with fail
  refine (hpu _).mono ?_
  rintro e w1 ⟨rfl, hb⟩
  have k2 : Blk w1 W.heap.size 45 #[.int .i64 c.1, .int .i64 c.2.1, .int .i64 c.2.2] := ((Blk.newAt W _ _ _ rfl).alloc _).under hb
  have k3 : Blk w1 (W.heap.size + 1) 45 #[.int .i64 0, .int .i64 0, .int .i64 0] := (Blk.newAt (W.alloc _) _ _ _ (by simp)).under hb
  have hb1 : Below W.heap.size W w1 := Ba.below_call hb (by go_grown) (by simp; omega)
  have hz := hb1.size
  have c0 := k2.cell 2
  have r0 := k3.cell 0
  have r1 := k3.cell 1
  have r2 := k3.cell 2
  have f0 := k3.frozen 0
  have f1 := k3.frozen 1
  have f2 := k3.frozen 2
  simp only [List.getElem?_toArray, List.getElem?_cons_zero, List.getElem?_cons_succ] at c0 r0 r1 r2
  have hl2 := k2.lt
  have hl3 := k3.lt
  clear hb hpu
  go_wp2_with fail
  exact bodyPost_ret (v := .tuple #[Ce (shC a b c), .nilIface]) (by simp [results, Tryz.results23, go_sem, shC, *]) rfl ⟨rfl, by go_grown⟩
theorem shift_any (v : Value) (L : List C) (a b : Int) (w : World) (h : SetAt w v L) (hL : L.length ≤ 1000000) (hg : goodB a b = true) (hc : ∀ c ∈ L, goodB c.1 c.2.1 = true ∧ goodB (c.1 + a) (c.2.1 + b) = true) :
    Calls Tryz.prog 8 #[v, Pt a b] w fun e w' => ∃ v', e = .returned (.tuple #[v', .nilIface]) ∧ SetAt w' v' (ofL (L.map (shC a b))) ∧ Below w.heap.size w w' := by
  have hb0 : Below w.heap.size w (w.alloc (.cells #[.int .i64 a, .int .i64 b] 34)) := (Below.refl _ _).alloc (Nat.le_refl _) _
  have kp := Blk.newAt w 34 #[.int .i64 a, .int .i64 b] _ rfl
  have hbr := bring_shift v L (shC a b) w.heap.size _ (h.below hb0) hL (fun W hW c hcL => shift1_any w.heap.size a b c W (kp.under hW) (hc c hcL).1 hg (hc c hcL).2)
  go_enter Tryz.func8, Tryz.ntmps8
  go_wp2_with fail
  refine hbr.mono ?_
  rintro e w1 ⟨v1, rfl, hs, hb1⟩
  go_wp2_with fail
  exact bodyPost_ret (v := .tuple #[v1, .nilIface]) (by simp [results, Tryz.results8, go_sem]) rfl ⟨_, rfl, hs, hb0.trans (hb1.mono hb0.size)⟩
end Go.Proofs.YtplldlfbcblncaaGreatDoor.Se
