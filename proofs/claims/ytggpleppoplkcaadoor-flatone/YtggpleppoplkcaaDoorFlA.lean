/- Several texts, joined. -/
import Derived.Test.YtggpleppoplkcaaDoorFlW3
import Derived.Test.YtggpleppoplkcaaDoorTbC5
import Derived.Test.YtggpleppoplkcaaDoorSeCk
import Derived.Test.YtggpleppoplkcaaDoorFlSh
import Derived.Test.YtggpleppoplkcaaDoorTbW2
/- Contracts of package flat: check, Step, Steps. -/
namespace Go.Proofs.YtggpleppoplkcaaDoor.Fl
open Go.RowKit Go.Proofs.YtggpleppoplkcaaDoor.Ax Go.Proofs.YtggpleppoplkcaaDoor.Mp Go.Lib Go.Maps
open Go.Proofs.YtggpleppoplkcaaDoor.Se (SetAt Rising ofL mem_ofL rising_ofL of_any)
open Go.Proofs.YtggpleppoplkcaaDoor.Tb (Tab sel wrongT)

/-- A table that may be, and of what it is not nothing is born of nothing. -/
theorem bare_of {l b0 b1 s0 s1 : Nat} (h : wrongT l b0 b1 s0 s1 = false) : Bare (nxT b0 b1 s0 s1) := by
  intro x
  unfold wrongT Tb.wrongH at h
  simp only [Bool.or_eq_false_iff] at h
  obtain ⟨⟨h1, _⟩, h2, _⟩ := h
  have e : ∀ b : Nat, (b &&& 1 != 0) = false → b.testBit 0 = false := fun b hb => by
    rw [Nat.and_one_is_mod] at hb
    rw [Nat.testBit_zero]
    simp at hb ⊢
    omega
  unfold nxT sel
  simp only [Bool.false_eq_true, if_false]
  split
  · exact e _ h1
  · exact e _ h2
theorem clone_set (v : Value) (S : List C) (w : World) (h : SetAt w v S) (hL : S.length ≤ 1000000) :
    Calls Tryd.prog 31 #[v] w fun e w' => ∃ v', e = .returned v' ∧ SetAt w' v' S ∧ Below w.heap.size w w' := by
  rcases h with ⟨rfl, rfl⟩ | ⟨g, cap, rfl, hc, hr⟩
  · have hcon := AnyE.slices_Clone_nil Tryd.layCloneS 0 0 w
    change Calls Tryd.prog 31 _ _ _ at hcon
    refine hcon.mono ?_
    rintro e w' ⟨rfl, rfl⟩
    exact ⟨_, rfl, .inl ⟨rfl, rfl⟩, Below.refl _ _⟩
  · obtain ⟨i0, hi0, hz0, hz1, hz2⟩ := info_parts Se.cell_info
    have hcon := AnyE.slices_Clone Tryd.layCloneS i0 _ 3 24 hi0 hz0 hz1 hz2 rfl (by decide) Tryd.sizeOf60 g 0 S.length cap (Se.flat S) w (Se.flat_len S) (by unfold maxLen; omega) (by omega) hr.flat (Se.one_flat S)
    change Calls Tryd.prog 31 _ _ _ at hcon
    refine hcon.mono ?_
    rintro e w' ⟨v', rfl, ho, _, hb⟩
    exact ⟨v', rfl, Se.set_of_own (base := w.heap.size) ho, hb⟩
theorem fine_of {l : Int} {S : List C} (hv : ∀ c ∈ S, valid l c) (hsz : ∀ c ∈ S, (-2000000 ≤ c.1 ∧ c.1 ≤ 2000000) ∧ (-2000000 ≤ c.2.1 ∧ c.2.1 ≤ 2000000)) : ∀ c ∈ S, Se.Fine l c := fun c hc => by
  have h1 := hv c hc
  have h2 := hsz c hc
  exact ⟨by omega, by omega, h1.1, by have := h1.2; unfold Ce.halvesV; exact this⟩
/-- What is asked of a table, and of a set. -/
structure Good (l b0 b1 s0 s1 : Nat) : Prop where
  lat : l = 1 ∨ l = 2 ∨ l = 3
  h0 : b0 < 2 ^ 64
  h1 : b1 < 2 ^ 64
  h2 : s0 < 2 ^ 64
  h3 : s1 < 2 ^ 64
  ok : wrongT l b0 b1 s0 s1 = false
theorem Good.latI {l b0 b1 s0 s1 : Nat} (h : Good l b0 b1 s0 s1) : (l : Int) = 1 ∨ (l : Int) = 2 ∨ (l : Int) = 3 := by have := h.lat; omega
structure GoodS (l : Nat) (S : List C) : Prop where
  rising : Rising S
  val : ∀ c ∈ S, valid l c
  near : ∀ c ∈ S, (-2000000 ≤ c.1 ∧ c.1 ≤ 2000000) ∧ (-2000000 ≤ c.2.1 ∧ c.2.1 ≤ 2000000)
  len : S.length ≤ 71000
theorem check_good (l b0 b1 s0 s1 : Nat) (hg : Good l b0 b1 s0 s1) (v : Value) (S : List C) (w : World) (h : SetAt w v S) (hS : GoodS l S) :
    Calls Tryd.prog 30 #[Tab l b0 b1 s0 s1, v] w fun e w' => e = .returned .nilIface ∧ Below w.heap.size w w' := by
  have hk := fun W => Tb.check_nil l b0 b1 s0 s1 hg.lat hg.h0 hg.h1 hg.h2 hg.h3 hg.ok W
  have hs := fun W (hW : SetAt W v S) => Se.check_set v S l W hW hS.rising (Nat.le_trans hS.len (by decide)) hg.latI (fine_of hS.val hS.near)
  have kt := Ba.Blk.newAt w 30 (TabC l b0 b1 s0 s1) _ rfl
  have hb0 : Below w.heap.size w (w.alloc (.cells (TabC l b0 b1 s0 s1) 30)) := (Below.refl _ _).alloc (Nat.le_refl _) _
  have h0 := h.below hb0
  clear h
  go_enter Tryd.func30, Tryd.ntmps30
  go_wp2_with fail
  refine (hk _).mono ?_
  rintro e w1 ⟨rfl, hb1⟩
  have t0 := (kt.under hb1).cell 0
  simp only [List.getElem?_toArray, List.getElem?_cons_zero] at t0
  have lt0 := (kt.under hb1).lt
  have hbw := hb0.trans (hb1.mono hb0.size)
  have h1 := h0.below hb1
  clear hk kt hb0 hb1 h0
  go_wp2_with fail
  refine (hs _ h1).mono ?_
  rintro e w2 ⟨rfl, hb2⟩
  have hbw2 := hbw.trans (hb2.mono hbw.size)
  go_wp2
  go_ret
  exact ⟨rfl, hbw2⟩
theorem step_any (l b0 b1 s0 s1 : Nat) (hg : Good l b0 b1 s0 s1) (v : Value) (S : List C) (w : World) (hs : SixIs w) (h : SetAt w v S) (hS : GoodS l S) :
    Calls Tryd.prog 12 #[Tab l b0 b1 s0 s1, v] w fun e w' => ∃ v' R, e = .returned (.tuple #[v', .nilIface]) ∧ SetAt w' v' R ∧ Stp (nxT b0 b1 s0 s1) l S R ∧ R.length ≤ 13 * S.length ∧ Below w.heap.size w w' := by
  have hk := fun W hW => check_good l b0 b1 s0 s1 hg v S W hW hS
  have hn := fun W hq hW => next_set l b0 b1 s0 s1 hg.h0 hg.h1 hg.h2 hg.h3 v S W hq hg.latI hW hS.rising hS.len hS.val hS.near (bare_of hg.ok)
  have kt := Ba.Blk.newAt w 30 (TabC l b0 b1 s0 s1) _ rfl
  have hb0 : Below w.heap.size w (w.alloc (.cells (TabC l b0 b1 s0 s1) 30)) := (Below.refl _ _).alloc (Nat.le_refl _) _
  have h0 := h.below hb0
  clear h
  go_enter Tryd.func12, Tryd.ntmps12
  go_wp2_with fail
  refine (hk _ h0).mono ?_
  rintro e w1 ⟨rfl, hb1⟩
  obtain ⟨t0, t1, t2, t3, t4⟩ : w1.cell? ⟨w.heap.size, 0, none⟩ = some (.int .i64 l) ∧ w1.cell? ⟨w.heap.size, 1, none⟩ = some (.int .u64 b0) ∧ w1.cell? ⟨w.heap.size, 2, none⟩ = some (.int .u64 b1) ∧ w1.cell? ⟨w.heap.size, 3, none⟩ = some (.int .u64 s0) ∧ w1.cell? ⟨w.heap.size, 4, none⟩ = some (.int .u64 s1) := ⟨(kt.under hb1).cell 0, (kt.under hb1).cell 1, (kt.under hb1).cell 2, (kt.under hb1).cell 3, (kt.under hb1).cell 4⟩
  have lt0 := (kt.under hb1).lt
  have hbw := hb0.trans (hb1.mono hb0.size)
  have h1 := h0.below hb1
  clear hk kt hb0 hb1 h0
  go_wp2_with fail
  refine (hn _ (hs.below hbw) h1).mono ?_
  rintro e w2 ⟨v', R, rfl, hR, hst, hl, hb2⟩
  have hbw2 := hbw.trans (hb2.mono hbw.size)
  clear hn
  go_wp2
  exact bodyPost_ret (v := .tuple #[v', .nilIface]) (by simp [results, Tryd.results12, go_sem]) rfl ⟨v', R, rfl, hR, hst, hl, hbw2⟩
theorem pow13 {i : Nat} (h : i ≤ 3) : 13 ^ i ≤ 2197 := by
  have : i = 0 ∨ i = 1 ∨ i = 2 ∨ i = 3 := by omega
  rcases this with rfl | rfl | rfl | rfl <;> decide
theorem pow134 {i : Nat} (h : i ≤ 4) : 13 ^ i ≤ 28561 := by
  have : i = 0 ∨ i = 1 ∨ i = 2 ∨ i = 3 ∨ i = 4 := by omega
  rcases this with rfl | rfl | rfl | rfl | rfl <;> decide
def SpR (w : World) (l b0 b1 s0 s1 n : Nat) (S : List C) (t9 t10 : Value) (wr : World) : Prop :=
  ∃ (i : Nat) (M : List C), i ≤ n ∧ t10 = .int .i64 i ∧ SetAt wr t9 M ∧ StpN (nxT b0 b1 s0 s1) l i S M ∧ M.length ≤ 13 ^ i * S.length ∧ Ba.Blk wr w.heap.size 30 (TabC l b0 b1 s0 s1) ∧ Below w.heap.size w wr
theorem stpN_tail {nx : Int → Bool → Nat → Bool} {l : Int} (hb : Bare nx) {S : List C} : ∀ {i : Nat} (k : Nat), StpN nx l i S [] → StpN nx l (i + k) S []
  | _, 0, h => h
  | _, k + 1, h => ⟨[], stpN_tail hb k h, stp_nil hb⟩
set_option maxRecDepth 100000 in
set_option maxHeartbeats 2000000 in
theorem steps_any (l b0 b1 s0 s1 : Nat) (hg : Good l b0 b1 s0 s1) (v : Value) (S : List C) (n : Nat) (hn4 : n ≤ 4) (w : World) (hs : SixIs w) (h : SetAt w v S) (hS : GoodS l S) (hsz : ∀ c ∈ S, (-1500000 ≤ c.1 ∧ c.1 ≤ 1500000) ∧ (-1500000 ≤ c.2.1 ∧ c.2.1 ≤ 1500000)) (hl : S.length ≤ 32) :
    Calls Tryd.prog 11 #[Tab l b0 b1 s0 s1, v, .int .i64 n] w fun e w' => ∃ v' R, e = .returned (.tuple #[v', .nilIface]) ∧ SetAt w' v' R ∧ StpN (nxT b0 b1 s0 s1) l n S R ∧ R.length ≤ 28561 * S.length ∧ Below w.heap.size w w' := by
  have hk := fun W hW => check_good l b0 b1 s0 s1 hg v S W hW hS
  have hc := fun W hW => clone_set v S W hW (by omega)
  have kt := Ba.Blk.newAt w 30 (TabC l b0 b1 s0 s1) _ rfl
  have hb0 : Below w.heap.size w (w.alloc (.cells (TabC l b0 b1 s0 s1) 30)) := (Below.refl _ _).alloc (Nat.le_refl _) _
  have h0 := h.below hb0
  have hn0 : ¬ (n : Int) < 0 := by omega
  clear h
  go_enter Tryd.func11, Tryd.ntmps11
  go_wp2_with fail
  refine (hk _ h0).mono ?_
  rintro e w1 ⟨rfl, hb1⟩
  have kt1 := kt.under hb1
  have hbw := hb0.trans (hb1.mono hb0.size)
  have h1 := h0.below hb1
  clear hk kt hb0 hb1 h0
  go_wp2_with fail
  refine (hc _ h1).mono ?_
  rintro e w2 ⟨v2, rfl, h2, hb2⟩
  have kt2 := kt1.under hb2
  have hbw2 := hbw.trans (hb2.mono hbw.size)
  clear hc h1 hbw kt1 hb2
  go_wp2_with fail
  go_loopw [9, 10] (fun t9 t10 wr => SpR w l b0 b1 s0 s1 n S t9 t10 wr) (fun _ t10 _ => n - (intOf t10).toNat)
  case atStart => exact ⟨0, S, Nat.zero_le _, rfl, h2, rfl, by simp, kt2, hbw2⟩
  case round =>
    clear h2 kt2 hbw2
    obtain ⟨i, M, hi, rfl, hM, hst, hml, kt, hb⟩ := hrel
    have key : ∃ p cap, u9 = .slice p M.length cap := by
      rcases hM with ⟨rfl, rfl⟩ | ⟨g, cap, rfl, _⟩
      · exact ⟨_, _, rfl⟩
      · exact ⟨_, _, rfl⟩
    obtain ⟨p, cap, rfl⟩ := key
    have HST := Lib.hid hst
    have HM := Lib.hid hM
    clear hst hM
    by_cases hlt : i < n
    · by_cases hz : 0 < M.length
      · have hM13 : M.length ≤ 2197 * S.length := Nat.le_trans hml (Nat.mul_le_mul_right _ (pow13 (show i ≤ 3 by omega)))
        have hMg : GoodS l M := ⟨StpN.rising hS.rising HST.out, StpN.val hS.val HST.out, fun c hc => by
          have := stpN_wi hg.latI (bare_of hg.ok) (m := 1500000) hsz HST.out c hc
          omega, by omega⟩
        have hnx := fun W hq hW => next_set l b0 b1 s0 s1 hg.h0 hg.h1 hg.h2 hg.h3 (.slice p M.length cap) M W hq hg.latI hW hMg.rising hMg.len hMg.val hMg.near (bare_of hg.ok)
        obtain ⟨t0, t1, t2, t3, t4⟩ : wr.cell? ⟨w.heap.size, 0, none⟩ = some (.int .i64 l) ∧ wr.cell? ⟨w.heap.size, 1, none⟩ = some (.int .u64 b0) ∧ wr.cell? ⟨w.heap.size, 2, none⟩ = some (.int .u64 b1) ∧ wr.cell? ⟨w.heap.size, 3, none⟩ = some (.int .u64 s0) ∧ wr.cell? ⟨w.heap.size, 4, none⟩ = some (.int .u64 s1) := ⟨kt.cell 0, kt.cell 1, kt.cell 2, kt.cell 3, kt.cell 4⟩
        have lt0 := kt.lt
        have hlt2 : (i : Int) < (n : Int) := by omega
        have hz2 : (0 : Int) < (M.length : Int) := by omega
        have HML := Lib.hid hml
        clear hMg hM13 hml hlt
        go_wp2_with fail
        refine (hnx _ (hs.below hb) HM.out).mono ?_
        rintro e w3 ⟨v3, R, rfl, hR, hst3, hl3, hb3⟩
        have kt3 := kt.under hb3
        have hb4 := hb.trans (hb3.mono hb.size)
        clear hnx t0 t1 t2 t3 t4 lt0 kt hb hb3
        go_wp2_with fail
        refine ⟨⟨i + 1, R, by omega, by go_num, hR, ⟨M, HST.out, hst3⟩, ?_, kt3, hb4⟩, by simp [intOf]; omega⟩
        have h5 := HML.out
        have : 13 ^ (i + 1) * S.length = 13 * (13 ^ i * S.length) := by rw [Nat.pow_succ, Nat.mul_comm (13 ^ i) 13, Nat.mul_assoc]
        rw [this]
        exact Nat.le_trans hl3 (Nat.mul_le_mul_left 13 h5)
      · obtain rfl : M = [] := List.eq_nil_of_length_eq_zero (by omega)
        have hlt2 : (i : Int) < (n : Int) := by omega
        have htail := stpN_tail (bare_of hg.ok) (n - i) HST.out
        rw [show i + (n - i) = n by omega] at htail
        clear kt
        go_wp2_with fail
        exact bodyPost_ret (v := .tuple #[.slice p 0 cap, .nilIface]) (by simp [results, Tryd.results11, go_sem]) rfl ⟨_, [], rfl, HM.out, htail, Nat.zero_le _, hb⟩
    · obtain rfl : i = n := by omega
      have hd : decide ((i : Int) < (i : Int)) = false := by simp
      have hM13 : M.length ≤ 28561 * S.length := Nat.le_trans hml (Nat.mul_le_mul_right _ (pow134 hn4))
      clear kt hml
      go_wp2_with fail
      exact bodyPost_ret (v := .tuple #[.slice p M.length cap, .nilIface]) (by simp [results, Tryd.results11, go_sem]) rfl ⟨_, M, rfl, HM.out, HST.out, hM13, hb⟩
end Go.Proofs.YtggpleppoplkcaaDoor.Fl

/- The laws' own awake. -/
namespace Go.Proofs.YtggpleppoplkcaaDoor.Fl
open Go.RowKit Go.Proofs.YtggpleppoplkcaaDoor.Ax Go.Proofs.YtggpleppoplkcaaDoor.Ba Go.Lib Go.Maps
open Go.Proofs.YtggpleppoplkcaaDoor.Se (SetAt Rising ofL mem_ofL rising_ofL of_any rising_ext)
open Go.Proofs.YtggpleppoplkcaaDoor.Tb (Tab sel wrongT ringsTo rings_any u64_or Cl)

def awB : Nat := 282668995843688
theorem aw_o : ringsTo 2 111 64 = 281483583426632 := by decide +kernel
theorem aw_m : ringsTo 2 109 64 = 1116692677664 := by decide +kernel
theorem aw_p : ringsTo 2 112 64 = 68719739392 := by decide +kernel
def awS : List C := [(0, 0, 0), (1, 0, 0)]
def awR : List C := [(1, -1, 0), (0, 1, 0)]
theorem aw_good : Good 1 awB 0 0 0 := ⟨.inl rfl, by decide, by decide, by decide, by decide, by decide +kernel⟩
theorem awS_of : ofL [(0, 0, 0), (1, 0, 0)] = awS := by decide
theorem awS_rising : Rising awS := by rw [← awS_of]; exact rising_ofL _
theorem awR_of : ofL [(1, -1, 0), (0, 1, 0)] = awR := by decide
theorem awR_rising : Rising awR := by rw [← awR_of]; exact rising_ofL _
theorem awS_good : GoodS 1 awS := ⟨awS_rising, by decide, by decide, by decide⟩
theorem aw_fin : ∀ x ∈ [(-1 : Int), 0, 1, 2], ∀ y ∈ [(-1 : Int), 0, 1], (nxT awB 0 0 0 0 (decide (((x, y, 0) : C) ∈ awS)) (nbC 1 awS (x, y, 0)) = true ↔ ((x, y, 0) : C) ∈ awR) := by decide +kernel
theorem aw_uniq {R : List C} (h : Stp (nxT awB 0 0 0) 1 awS R) : R = awR := by
  refine rising_ext h.1 awR_rising fun c => ⟨fun hc => ?_, fun hc => ?_⟩
  · have hv := h.val c hc
    obtain ⟨d, hd, hx, hy⟩ := stp_near (.inl rfl) (bare_of aw_good.ok) h hc
    have hn := ((h.2 c).1 hc).2
    obtain ⟨x, y, z⟩ := c
    simp [awS] at hd
    unfold valid at hv
    simp at hv
    obtain rfl : z = 0 := by omega
    have h1 : x = -1 ∨ x = 0 ∨ x = 1 ∨ x = 2 := by rcases hd with rfl | rfl <;> simp at hx <;> omega
    have h2 : y = -1 ∨ y = 0 ∨ y = 1 := by rcases hd with rfl | rfl <;> simp at hy <;> omega
    exact (aw_fin x (by simpa using h1) y (by simpa using h2)).1 hn
  · simp [awR] at hc
    rcases hc with rfl | rfl
    · exact (h.2 _).2 ⟨by decide, (aw_fin 1 (by decide) (-1) (by decide)).2 (by decide)⟩
    · exact (h.2 _).2 ⟨by decide, (aw_fin 0 (by decide) 1 (by decide)).2 (by decide)⟩
def AwR (w : World) (t2 t3 : Value) (wx : World) : Prop := t3 = .nilIface ∧ SetAt wx t2 awR ∧ Below w.heap.size w wx
theorem keepT5 {W w' : World} {Z : Nat} {l : Int} {b0 b1 s0 s1 : Nat} (kz : Ba.Blk W Z 30 (TabC l b0 b1 s0 s1)) (hb : Below W.heap.size W w') :
    w'.cell? ⟨Z, 0, none⟩ = some (.int .i64 l) ∧ w'.cell? ⟨Z, 1, none⟩ = some (.int .u64 b0) ∧ w'.cell? ⟨Z, 2, none⟩ = some (.int .u64 b1) ∧ w'.cell? ⟨Z, 3, none⟩ = some (.int .u64 s0) ∧ w'.cell? ⟨Z, 4, none⟩ = some (.int .u64 s1) :=
  ⟨(kz.under hb).cell 0, (kz.under hb).cell 1, (kz.under hb).cell 2, (kz.under hb).cell 3, (kz.under hb).cell 4⟩
theorem two_set (w : World) : SetAt (w.alloc (.cells #[.int .i64 0, .int .i64 0, .int .i64 0, .int .i64 1, .int .i64 0, .int .i64 0] 60)) (.slice (some ⟨w.heap.size, 0, none⟩) 2 2) [(0, 0, 0), (1, 0, 0)] := by
  have k4 := Blk.newAt w 60 #[.int .i64 0, .int .i64 0, .int .i64 0, .int .i64 1, .int .i64 0, .int .i64 0] _ rfl
  refine .inr ⟨_, 2, rfl, by decide, ⟨fun i d hd => ?_, k4.lt⟩⟩
  have hi : i < 2 := (List.getElem?_eq_some_iff.1 hd).1
  have h3 : i = 0 ∨ i = 1 := by omega
  rcases h3 with rfl | rfl <;> simp at hd <;> subst hd <;> exact ⟨k4.cell _, k4.cell _, k4.cell _⟩
set_option maxRecDepth 100000 in
set_option maxHeartbeats 4000000 in
theorem awake8_any (w : World) (hs : SixIs w) :
    Calls Tryd.prog 7 #[] w fun e w' => e = .returned (.bool true) ∧ Below w.heap.size w w' := by
  have r1 := rings_any 2 111
  have r2 := rings_any 2 109
  have r3 := rings_any 2 112
  rw [aw_o] at r1
  rw [aw_m] at r2
  rw [aw_p] at r3
  dsimp only [Cl] at r1 r2 r3
  have e1 : bits .or .u64 281483583426632 1116692677664 = 282600276104296 := by decide +kernel
  have e2 : bits .or .u64 282600276104296 68719739392 = 282668995843688 := by decide +kernel
  go_enter Tryd.func7, Tryd.ntmps7
  go_wp2_with fail
  refine (r1 _).mono ?_
  rintro e w1 ⟨rfl, hb1⟩
  go_wp2_with fail
  refine (r2 _).mono ?_
  rintro e w2 ⟨rfl, hb2⟩
  have hb3 := hb1.trans (hb2.mono hb1.size)
  clear hb1 hb2 r1 r2
  go_wp2_with fail
  refine (r3 _).mono ?_
  rintro e w3 ⟨rfl, hb4⟩
  have hb5 := hb3.trans (hb4.mono hb3.size)
  clear hb3 hb4 r3
  go_upto_region 2 with fail
  have kz := Blk.newAt w3 30 (TabC 1 awB 0 0 0) _ rfl
  have hb6 := hb5.alloc hb5.size (.cells (TabC 1 awB 0 0 0) 30)
  have hs6 := hs.below hb6
  clear hs hb5
  change Code.wp _ _ _ _ (w3.alloc (.cells (TabC 1 awB 0 0 0) 30))
  have HW := Lib.hid hb6
  generalize w3.alloc (.cells (TabC 1 awB 0 0 0) 30) = w4 at *
  generalize w3.heap.size = Z at *
  obtain ⟨t0, t1, t2, t3, t4⟩ := keepT5 kz (Below.refl _ _)
  have hzl := kz.lt
  clear hb6
  go_cut [2, 3] (fun t2 t3 wx => AwR w4 t2 t3 wx)
  case first =>
    have hkb : Below w4.heap.size w4 w4 := Below.refl _ _
    go_region_held3 (fun w' => w'.cell? ⟨Z, 0, none⟩ = some (.int .i64 1) ∧ w'.cell? ⟨Z, 1, none⟩ = some (.int .u64 awB) ∧ w'.cell? ⟨Z, 2, none⟩ = some (.int .u64 0) ∧ w'.cell? ⟨Z, 3, none⟩ = some (.int .u64 0) ∧ w'.cell? ⟨Z, 4, none⟩ = some (.int .u64 0)) (first | (refine keepT5 kz ?_; go_grown; done))
      (first
        | (go_at_call 12; refine (step_any 1 awB 0 0 0 aw_good v5 awS _ (hs6.below (by go_grown)) (by first | exact hset | (refine hset.below ?_; go_grown)) awS_good).mono ?_; rintro e w7 ⟨v7, R, rfl, hR, hst, _, hb⟩; have hkb : Below w4.heap.size w4 w7 := Ba.below_call hb (by go_grown) (by first | exact hkb.size | go_size); obtain rfl := aw_uniq hst; clear hb hst)
        | (go_at_call 18; refine (of_any _ [(0, 0, 0), (1, 0, 0)] _ ((two_set w4).below (by first | exact Below.refl _ _ | exact (Below.refl _ _).drew | exact Ba.below_dr _ (Below.refl _ _) | go_grown)) (by decide)).mono ?_; rintro e w5 ⟨v5, rfl, hset, hb⟩; rw [awS_of] at hset; have hkb : Below w4.heap.size w4 w5 := Ba.below_call hb (by go_grown) (by first | exact hkb.size | (simp; omega) | simp | go_size); clear hb))
    all_goals go_wp2_with fail
    all_goals go_meet
    all_goals exact ⟨rfl, hR, by go_grown⟩
  case rest =>
    obtain ⟨rfl, hR, hb8⟩ := hcut
    have hb9 := HW.out.trans (hb8.mono HW.out.size)
    clear kz hs6 t0 t1 t2 t3 t4 hzl HW hb8
    rcases hR with ⟨_, h⟩ | ⟨g, cap, rfl, hcap, hr⟩
    · cases h
    · obtain ⟨c0, c1, c2⟩ := hr.1 0 (1, -1, 0) rfl
      obtain ⟨d0, d1, d2⟩ := hr.1 1 (0, 1, 0) rfl
      have hgl := hr.2
      have ez : ∀ w, (binOp .eql 60 (.agg #[.int .i64 1, .int .i64 (-1), .int .i64 0]) (.agg #[.int .i64 1, .int .i64 (-1), .int .i64 0])).run Tryd.prog w = .ok (.bool true) w := fun w => Se.eq_c (1, -1, 0) (1, -1, 0) w
      have ez2 : ∀ w, (binOp .eql 60 (.agg #[.int .i64 0, .int .i64 1, .int .i64 0]) (.agg #[.int .i64 0, .int .i64 1, .int .i64 0])).run Tryd.prog w = .ok (.bool true) w := fun w => Se.eq_c (0, 1, 0) (0, 1, 0) w
      simp only [Nat.zero_mul, Nat.one_mul, Nat.zero_add] at c0 c1 c2 d0 d1 d2
      rw [show awR.length = 2 from rfl]
      clear hr hcap
      go_wp2_with fail
      go_ret
      exact ⟨rfl, by go_grown⟩
end Go.Proofs.YtggpleppoplkcaaDoor.Fl
