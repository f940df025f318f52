/- What becomes of a set whose cells are brought elsewhere, or can't be: Shift and Turn of both sides. -/
import Derived.Test.YtplldlfbcblncaaGreatDoorSeC1
import Derived.Test.YtplldlfbcblncaaGreatDoorSeB1
import Derived.Test.YtplldlfbcblncaaGreatDoorSeR2
import Derived.Test.YtplldlfbcblncaaGreatDoorCeW10
import Derived.Test.YtplldlfbcblncaaGreatDoorAxR
namespace Go.Proofs.YtplldlfbcblncaaGreatDoor.Se
open Go.Proofs.YtplldlfbcblncaaGreatDoor.Ax hiding Er
open Go.RowKit Go.Proofs.YtplldlfbcblncaaGreatDoor.Ba Go.Lib
open Go.Proofs.YtplldlfbcblncaaGreatDoor.Ce (onA onB onH halvesV latB chkV)

/-- What is told of a cell: 0 and where it is, or a code. -/
abbrev Mv := C → Int × C
def cdM (f : Mv) (L : List C) (k : Nat) : Int := match L[k]? with | none => 0 | some c => (f c).1
def mvOut (f : Mv) (L : List C) : List C × (Int × Int) := match ckN (cdM f L) L.length with | none => (ofL (L.map fun c => (f c).2), (0, -1)) | some k => ([], (cdM f L k, (k : Int)))
theorem mv_none {f : Mv} {L : List C} (h : ckN (cdM f L) L.length = none) : mvOut f L = (ofL (L.map fun c => (f c).2), (0, -1)) := by unfold mvOut; rw [h]
theorem mv_some {f : Mv} {L : List C} {k : Nat} {c : C} (hk : L[k]? = some c) (h : ckN (cdM f L) k = none) (h0 : (f c).1 ≠ 0) : mvOut f L = ([], ((f c).1, (k : Int))) := by
  have e : cdM f L k = (f c).1 := by unfold cdM; rw [hk]
  unfold mvOut
  rw [ckN_here h (by rw [e]; exact h0) (List.getElem?_eq_some_iff.1 hk).1]
  dsimp only
  rw [e]
theorem mv_next {f : Mv} {L : List C} {k : Nat} {c : C} (hk : L[k]? = some c) (h : ckN (cdM f L) k = none) (h0 : (f c).1 = 0) : ckN (cdM f L) (k + 1) = none := ckN_next h (by unfold cdM; rw [hk]; exact h0)
/-- What the one that moves a cell answers. -/
def MvPost (f : Mv) (c : C) (W : World) (e : Ending) (w' : World) : Prop :=
  (((f c).1 = 0 ∧ e = .returned (.tuple #[Ce (f c).2, .nilIface])) ∨ ((f c).1 ≠ 0 ∧ ∃ d : C, e = .returned (.tuple #[Ce d, Er (f c).1]))) ∧ Below W.heap.size W w'
/-- What Shift, Turn and bring answer. -/
def BrPost (f : Mv) (L : List C) (W : World) (e : Ending) (w' : World) : Prop :=
  ∃ v E, e = .returned (.tuple #[v, E]) ∧ SetAt w' v (mvOut f L).1 ∧ ErrAs w' E (mvOut f L).2 ∧ Below W.heap.size W w'
def BmR (w : World) (L : List C) (f : Mv) (i : Value) (wr : World) : Prop := ∃ k : Nat, k ≤ L.length ∧ i = .int .i64 k ∧ ckN (cdM f L) k = none ∧ HR wr w.heap.size (brL L (fun c => (f c).2) k) ∧ Below w.heap.size w wr
set_option maxRecDepth 100000 in
set_option maxHeartbeats 4000000 in
theorem bringm_shift (v : Value) (L : List C) (f : Mv) (P : Nat) (w : World) (h : SetAt w v L) (hL : L.length ≤ 1000000)
    (hmv : ∀ W, Below w.heap.size w W → ∀ c ∈ L, Calls Tryz.prog 23 #[Ce c, .pointer (some ⟨P, 0, none⟩)] W (MvPost f c W)) :
    Calls Tryz.prog 22 #[v, .func (.func 23) #[] #[.pointer (some ⟨P, 0, none⟩)]] w (BrPost f L w) := by
  obtain ⟨i0, hi0, hz0, hz1, hz2⟩ := info_parts cell_info
  have HU := Lib.hid h
  have HMV := Lib.hid hmv
  have key : ∀ v, SetAt w v L → ∃ p cap, v = .slice p L.length cap := by
    rintro v (⟨rfl, rfl⟩ | ⟨g, cap, rfl, _, _⟩)
    · exact ⟨none, 0, rfl⟩
    · exact ⟨_, _, rfl⟩
  obtain ⟨p, cap, rfl⟩ := key v h
  clear h key hmv
  go_enter Tryz.func22, Tryz.ntmps22
  go_wp2_with (at_make; refine wpList_make_full w rfl _ _ 25 rfl w.heap.size 45 i0 _ 3 Tryz.underlying25 hi0 hz0 hz1 .i64 .i64 _ _ L.length rfl rfl rfl rfl (by rw [hz2]; omega) (by unfold maxLen; omega) (Nat.le_refl _) ?_)
  intro w1 hown hgr
  have hb1 : Below w.heap.size w w1 := (Below.refl _ _).grown hgr (Nat.le_refl _) (by simp)
  have hHR := made_hr hown
  clear hown hgr
  go_wp2_with fail
  go_loopw [16] (fun i wr => BmR w L f i wr) (fun i _ => L.length - (intOf i).toNat)
  case atStart => exact ⟨0, Nat.zero_le _, rfl, rfl, by simpa [brL] using hHR, hb1⟩
  case round =>
    clear hHR hb1
    obtain ⟨k, hk, rfl, hck, hM, hb⟩ := hrel
    have hz := hb.size
    have HCK := Lib.hid hck
    clear hck
    by_cases hlt : k < L.length
    · obtain ⟨x, hx⟩ : ∃ x, L[k]? = some x := ⟨_, List.getElem?_eq_getElem hlt⟩
      rcases HU.out.below hb with ⟨_, hnil⟩ | ⟨g, cp, hv, _, hr⟩
      · subst hnil; simp at hlt
      · injection hv with hv1 hv2 hv3
        subst hv1 hv3
        clear hv2
        obtain ⟨c0, c1, c2⟩ := hr.1 k x hx
        have hgl := hr.2
        have hb2 := hb.alloc hz (.cells #[.int .i64 x.1, .int .i64 x.2.1, .int .i64 x.2.2] 45)
        have hmc := HMV.out _ hb2 x (List.mem_of_getElem? hx)
        have HS := Lib.hid (brL_set (fun c => (f c).2) hx)
        have HX := Lib.hid hx
        clear hx hr
        have hgl2 := hM.1.2
        go_wp2_with fail
        refine hmc.mono ?_
        rintro e w3 ⟨⟨hf0, rfl⟩ | ⟨hf0, d, rfl⟩, hb3⟩
        · have HN := Lib.hid (mv_next HX.out HCK.out hf0)
          clear hf0
          have hM3 := hM.under ((Below.refl _ _).alloc (Nat.le_refl _) (.cells #[.int .i64 x.1, .int .i64 x.2.1, .int .i64 x.2.2] 45))
          have hM4 := hM3.under hb3
          have hb4 := hb2.trans (hb3.mono hb2.size)
          have hM5 := hM4.under ((Below.refl _ _).alloc (Nat.le_refl _) (.cells #[.int .i64 (f x).2.1, .int .i64 (f x).2.2.1, .int .i64 (f x).2.2.2] 45))
          have hb5 := hb4.alloc hb4.size (.cells #[.int .i64 (f x).2.1, .int .i64 (f x).2.2.1, .int .i64 (f x).2.2.2] 45)
          have hz5 := hb4.size
          have hlenB := brL_len L (fun c => (f c).2) k hk
          obtain ⟨y, hy⟩ : ∃ y, (brL L (fun c => (f c).2) k)[k]? = some y := ⟨_, List.getElem?_eq_getElem (by omega)⟩
          obtain ⟨b0, b1, b2⟩ := hM4.1.1 k y hy
          have f0 := hM4.2 (k * 3) (by omega)
          have f1 := hM4.2 (k * 3 + 1) (by omega)
          have f2 := hM4.2 (k * 3 + 1 + 1) (by omega)
          have hgl3 := hM5.1.2
          have hgl4 := hM4.1.2
          have hset := hr_set hM4 k (by omega) (f x).2
          rw [HS.out] at hset
          have hset' := hset.under ((Below.refl _ _).alloc (Nat.le_refl _) (.cells #[.int .i64 (f x).2.1, .int .i64 (f x).2.2.1, .int .i64 (f x).2.2.2] 45))
          have hbs : Below w.heap.size w (w3.setCells w.heap.size (k * 3) (encC (f x).2)) := hb4.grown (grown_set (grown_refl w3 (some w.heap.size)) (k * 3) (encC (f x).2)) hb4.size (fun q hq => by injection hq with hq; omega)
          have hbs' := hbs.alloc hbs.size (.cells #[.int .i64 (f x).2.1, .int .i64 (f x).2.2.1, .int .i64 (f x).2.2.2] 45)
          clear hmc hM hM3 hM4 hM5 c0 c1 c2 hgl hb2 hb3 hgl2 hy
          have hwl : w.heap.size ≠ w3.heap.size := by omega
          go_wp2_with fail
          go_roundw
          case rel => exact ⟨k + 1, by omega, by go_num, HN.out, hset', hbs'⟩
          case measure => simp [intOf]; omega
        · have HO := Lib.hid (mv_some HX.out HCK.out hf0)
          have hne : ∀ W, (binOp .neq 30 (Er (f x).1) .nilIface).run Tryz.prog W = .ok (.bool true) W := fun W => by simp [go_sem]
          have hb4 := hb2.trans (hb3.mono hb2.size)
          have hz5 := hb4.size
          have hwr := fun W => wrap_any k (f x).1 W
          clear hf0 hmc hM c0 c1 c2 hgl hgl2 hb3
          go_wp2_with fail
          refine (hwr _).mono ?_
          rintro e w4 ⟨v4, rfl, hE4, hb6⟩
          have hb7 := Ba.below_call hb6 (show Below w.heap.size w _ by go_grown) (by go_size)
          clear hwr hb6
          go_wp2_with fail
          exact bodyPost_ret (v := .tuple #[.slice none 0 0, v4]) (by simp [results, Tryz.results22, go_sem]) rfl ⟨_, _, rfl, by rw [HO.out]; exact .inl ⟨rfl, rfl⟩, by rw [HO.out]; exact hE4, hb7⟩
    · obtain rfl : k = L.length := by omega
      have hfin : brL L (fun c => (f c).2) L.length = L.map (fun c => (f c).2) := by simp [brL]
      rw [hfin] at hM
      have HO := Lib.hid (mv_none HCK.out)
      have hlm : (L.map (fun c => (f c).2)).length = L.length := by simp
      have hof := of_any (.slice (some ⟨w.heap.size, 0, none⟩) L.length L.length) (L.map (fun c => (f c).2)) wr (.inr ⟨w.heap.size, L.length, by rw [hlm], by omega, hM.1⟩) (by omega)
      go_wp2_with fail
      refine hof.mono ?_
      rintro e w3 ⟨v3, rfl, hs3, hb3⟩
      go_wp2_with fail
      exact bodyPost_ret (v := .tuple #[v3, .nilIface]) (by simp [results, Tryz.results22, go_sem]) rfl ⟨_, _, rfl, by rw [HO.out]; exact hs3, by rw [HO.out]; exact .inl ⟨rfl, rfl⟩, hb.trans (hb3.mono hz)⟩
set_option maxRecDepth 100000 in
set_option maxHeartbeats 4000000 in
theorem bringm_turn (v : Value) (L : List C) (f : Mv) (P R : Nat) (w : World) (h : SetAt w v L) (hL : L.length ≤ 1000000)
    (hmv : ∀ W, Below w.heap.size w W → ∀ c ∈ L, Calls Tryz.prog 27 #[Ce c, .pointer (some ⟨P, 0, none⟩), .pointer (some ⟨R, 0, none⟩)] W (MvPost f c W)) :
    Calls Tryz.prog 22 #[v, .func (.func 27) #[] #[.pointer (some ⟨P, 0, none⟩), .pointer (some ⟨R, 0, none⟩)]] w (BrPost f L w) := by
  obtain ⟨i0, hi0, hz0, hz1, hz2⟩ := info_parts cell_info
  have HU := Lib.hid h
  have HMV := Lib.hid hmv
  have key : ∀ v, SetAt w v L → ∃ p cap, v = .slice p L.length cap := by
    rintro v (⟨rfl, rfl⟩ | ⟨g, cap, rfl, _, _⟩)
    · exact ⟨none, 0, rfl⟩
    · exact ⟨_, _, rfl⟩
  obtain ⟨p, cap, rfl⟩ := key v h
  clear h key hmv
  go_enter Tryz.func22, Tryz.ntmps22
  go_wp2_with (at_make; refine wpList_make_full w rfl _ _ 25 rfl w.heap.size 45 i0 _ 3 Tryz.underlying25 hi0 hz0 hz1 .i64 .i64 _ _ L.length rfl rfl rfl rfl (by rw [hz2]; omega) (by unfold maxLen; omega) (Nat.le_refl _) ?_)
  intro w1 hown hgr
  have hb1 : Below w.heap.size w w1 := (Below.refl _ _).grown hgr (Nat.le_refl _) (by simp)
  have hHR := made_hr hown
  clear hown hgr
  go_wp2_with fail
  go_loopw [16] (fun i wr => BmR w L f i wr) (fun i _ => L.length - (intOf i).toNat)
  case atStart => exact ⟨0, Nat.zero_le _, rfl, rfl, by simpa [brL] using hHR, hb1⟩
  case round =>
    clear hHR hb1
    obtain ⟨k, hk, rfl, hck, hM, hb⟩ := hrel
    have hz := hb.size
    have HCK := Lib.hid hck
    clear hck
    by_cases hlt : k < L.length
    · obtain ⟨x, hx⟩ : ∃ x, L[k]? = some x := ⟨_, List.getElem?_eq_getElem hlt⟩
      rcases HU.out.below hb with ⟨_, hnil⟩ | ⟨g, cp, hv, _, hr⟩
      · subst hnil; simp at hlt
      · injection hv with hv1 hv2 hv3
        subst hv1 hv3
        clear hv2
        obtain ⟨c0, c1, c2⟩ := hr.1 k x hx
        have hgl := hr.2
        have hb2 := hb.alloc hz (.cells #[.int .i64 x.1, .int .i64 x.2.1, .int .i64 x.2.2] 45)
        have hmc := HMV.out _ hb2 x (List.mem_of_getElem? hx)
        have HS := Lib.hid (brL_set (fun c => (f c).2) hx)
        have HX := Lib.hid hx
        clear hx hr
        have hgl2 := hM.1.2
        go_wp2_with fail
        refine hmc.mono ?_
        rintro e w3 ⟨⟨hf0, rfl⟩ | ⟨hf0, d, rfl⟩, hb3⟩
        · have HN := Lib.hid (mv_next HX.out HCK.out hf0)
          clear hf0
          have hM3 := hM.under ((Below.refl _ _).alloc (Nat.le_refl _) (.cells #[.int .i64 x.1, .int .i64 x.2.1, .int .i64 x.2.2] 45))
          have hM4 := hM3.under hb3
          have hb4 := hb2.trans (hb3.mono hb2.size)
          have hM5 := hM4.under ((Below.refl _ _).alloc (Nat.le_refl _) (.cells #[.int .i64 (f x).2.1, .int .i64 (f x).2.2.1, .int .i64 (f x).2.2.2] 45))
          have hb5 := hb4.alloc hb4.size (.cells #[.int .i64 (f x).2.1, .int .i64 (f x).2.2.1, .int .i64 (f x).2.2.2] 45)
          have hz5 := hb4.size
          have hlenB := brL_len L (fun c => (f c).2) k hk
          obtain ⟨y, hy⟩ : ∃ y, (brL L (fun c => (f c).2) k)[k]? = some y := ⟨_, List.getElem?_eq_getElem (by omega)⟩
          obtain ⟨b0, b1, b2⟩ := hM4.1.1 k y hy
          have f0 := hM4.2 (k * 3) (by omega)
          have f1 := hM4.2 (k * 3 + 1) (by omega)
          have f2 := hM4.2 (k * 3 + 1 + 1) (by omega)
          have hgl3 := hM5.1.2
          have hgl4 := hM4.1.2
          have hset := hr_set hM4 k (by omega) (f x).2
          rw [HS.out] at hset
          have hset' := hset.under ((Below.refl _ _).alloc (Nat.le_refl _) (.cells #[.int .i64 (f x).2.1, .int .i64 (f x).2.2.1, .int .i64 (f x).2.2.2] 45))
          have hbs : Below w.heap.size w (w3.setCells w.heap.size (k * 3) (encC (f x).2)) := hb4.grown (grown_set (grown_refl w3 (some w.heap.size)) (k * 3) (encC (f x).2)) hb4.size (fun q hq => by injection hq with hq; omega)
          have hbs' := hbs.alloc hbs.size (.cells #[.int .i64 (f x).2.1, .int .i64 (f x).2.2.1, .int .i64 (f x).2.2.2] 45)
          clear hmc hM hM3 hM4 hM5 c0 c1 c2 hgl hb2 hb3 hgl2 hy
          have hwl : w.heap.size ≠ w3.heap.size := by omega
          go_wp2_with fail
          go_roundw
          case rel => exact ⟨k + 1, by omega, by go_num, HN.out, hset', hbs'⟩
          case measure => simp [intOf]; omega
        · have HO := Lib.hid (mv_some HX.out HCK.out hf0)
          have hne : ∀ W, (binOp .neq 30 (Er (f x).1) .nilIface).run Tryz.prog W = .ok (.bool true) W := fun W => by simp [go_sem]
          have hb4 := hb2.trans (hb3.mono hb2.size)
          have hz5 := hb4.size
          have hwr := fun W => wrap_any k (f x).1 W
          clear hf0 hmc hM c0 c1 c2 hgl hgl2 hb3
          go_wp2_with fail
          refine (hwr _).mono ?_
          rintro e w4 ⟨v4, rfl, hE4, hb6⟩
          have hb7 := Ba.below_call hb6 (show Below w.heap.size w _ by go_grown) (by go_size)
          clear hwr hb6
          go_wp2_with fail
          exact bodyPost_ret (v := .tuple #[.slice none 0 0, v4]) (by simp [results, Tryz.results22, go_sem]) rfl ⟨_, _, rfl, by rw [HO.out]; exact .inl ⟨rfl, rfl⟩, by rw [HO.out]; exact hE4, hb7⟩
    · obtain rfl : k = L.length := by omega
      have hfin : brL L (fun c => (f c).2) L.length = L.map (fun c => (f c).2) := by simp [brL]
      rw [hfin] at hM
      have HO := Lib.hid (mv_none HCK.out)
      have hlm : (L.map (fun c => (f c).2)).length = L.length := by simp
      have hof := of_any (.slice (some ⟨w.heap.size, 0, none⟩) L.length L.length) (L.map (fun c => (f c).2)) wr (.inr ⟨w.heap.size, L.length, by rw [hlm], by omega, hM.1⟩) (by omega)
      go_wp2_with fail
      refine hof.mono ?_
      rintro e w3 ⟨v3, rfl, hs3, hb3⟩
      go_wp2_with fail
      exact bodyPost_ret (v := .tuple #[v3, .nilIface]) (by simp [results, Tryz.results22, go_sem]) rfl ⟨_, _, rfl, by rw [HO.out]; exact hs3, by rw [HO.out]; exact .inl ⟨rfl, rfl⟩, hb.trans (hb3.mono hz)⟩
end Go.Proofs.YtplldlfbcblncaaGreatDoor.Se
