/- Contracts of package flat: check, Step, Steps. -/
import Derived.Test.YtjongkbjhiblmaaDoorFlW3
import Derived.Test.YtjongkbjhiblmaaDoorTbC5
import Derived.Test.YtjongkbjhiblmaaDoorSeCk
import Derived.Test.YtjongkbjhiblmaaDoorFlSh
namespace Go.Proofs.YtjongkbjhiblmaaDoor.Fl
open Go.RowKit Go.Proofs.YtjongkbjhiblmaaDoor.Ax Go.Proofs.YtjongkbjhiblmaaDoor.Mp Go.Lib Go.Maps
open Go.Proofs.YtjongkbjhiblmaaDoor.Se (SetAt Rising ofL mem_ofL rising_ofL of_any)
open Go.Proofs.YtjongkbjhiblmaaDoor.Tb (Tab sel wrongT)

/-- A table that may be, and of what it is not nothing is born of nothing. -/
theorem bare_of {l b0 b1 s0 s1 : Nat} (h : wrongT l b0 b1 s0 s1 = false) : Bare (nxT b0 b1 s0 s1) := by
  intro x
  unfold wrongT Tb.wrongH at h
  simp only [Bool.or_eq_false_iff] at h
  obtain ⟨⟨h1, _⟩, h2, _⟩ := h
  have e : ∀ b : Nat, (b &&& 1 != 0) = false → b.testBit 0 = false := fun b hb => by
    rw [Nat.and_one_is_mod] at hb
    rw [Nat.testBit_zero]
    simp at hb ⊢
    omega
  unfold nxT sel
  simp only [Bool.false_eq_true, if_false]
  split
  · exact e _ h1
  · exact e _ h2
theorem clone_set (v : Value) (S : List C) (w : World) (h : SetAt w v S) (hL : S.length ≤ 1000000) :
    Calls Tryd.prog 20 #[v] w fun e w' => ∃ v', e = .returned v' ∧ SetAt w' v' S ∧ Below w.heap.size w w' := by
  rcases h with ⟨rfl, rfl⟩ | ⟨g, cap, rfl, hc, hr⟩
  · have hcon := AnyE.slices_Clone_nil Tryd.layCloneS 0 0 w
    change Calls Tryd.prog 20 _ _ _ at hcon
    refine hcon.mono ?_
    rintro e w' ⟨rfl, rfl⟩
    exact ⟨_, rfl, .inl ⟨rfl, rfl⟩, Below.refl _ _⟩
  · obtain ⟨i0, hi0, hz0, hz1, hz2⟩ := info_parts Se.cell_info
    have hcon := AnyE.slices_Clone Tryd.layCloneS i0 _ 3 24 hi0 hz0 hz1 hz2 rfl (by decide) Tryd.sizeOf56 g 0 S.length cap (Se.flat S) w (Se.flat_len S) (by unfold maxLen; omega) (by omega) hr.flat (Se.one_flat S)
    change Calls Tryd.prog 20 _ _ _ at hcon
    refine hcon.mono ?_
    rintro e w' ⟨v', rfl, ho, _, hb⟩
    exact ⟨v', rfl, Se.set_of_own (base := w.heap.size) ho, hb⟩
theorem fine_of {l : Int} {S : List C} (hv : ∀ c ∈ S, valid l c) (hsz : ∀ c ∈ S, (-2000000 ≤ c.1 ∧ c.1 ≤ 2000000) ∧ (-2000000 ≤ c.2.1 ∧ c.2.1 ≤ 2000000)) : ∀ c ∈ S, Se.Fine l c := fun c hc => by
  have h1 := hv c hc
  have h2 := hsz c hc
  exact ⟨by omega, by omega, h1.1, by have := h1.2; unfold Ce.halvesV; exact this⟩
/-- What is asked of a table, and of a set. -/
structure Good (l b0 b1 s0 s1 : Nat) : Prop where
  lat : l = 1 ∨ l = 2 ∨ l = 3
  h0 : b0 < 2 ^ 64
  h1 : b1 < 2 ^ 64
  h2 : s0 < 2 ^ 64
  h3 : s1 < 2 ^ 64
  ok : wrongT l b0 b1 s0 s1 = false
theorem Good.latI {l b0 b1 s0 s1 : Nat} (h : Good l b0 b1 s0 s1) : (l : Int) = 1 ∨ (l : Int) = 2 ∨ (l : Int) = 3 := by have := h.lat; omega
structure GoodS (l : Nat) (S : List C) : Prop where
  rising : Rising S
  val : ∀ c ∈ S, valid l c
  near : ∀ c ∈ S, (-2000000 ≤ c.1 ∧ c.1 ≤ 2000000) ∧ (-2000000 ≤ c.2.1 ∧ c.2.1 ≤ 2000000)
  len : S.length ≤ 71000
theorem check_good (l b0 b1 s0 s1 : Nat) (hg : Good l b0 b1 s0 s1) (v : Value) (S : List C) (w : World) (h : SetAt w v S) (hS : GoodS l S) :
    Calls Tryd.prog 19 #[Tab l b0 b1 s0 s1, v] w fun e w' => e = .returned .nilIface ∧ Below w.heap.size w w' := by
  have hk := fun W => Tb.check_nil l b0 b1 s0 s1 hg.lat hg.h0 hg.h1 hg.h2 hg.h3 hg.ok W
  have hs := fun W (hW : SetAt W v S) => Se.check_set v S l W hW hS.rising (Nat.le_trans hS.len (by decide)) hg.latI (fine_of hS.val hS.near)
  have kt := Ba.Blk.newAt w 30 (TabC l b0 b1 s0 s1) _ rfl
  have hb0 : Below w.heap.size w (w.alloc (.cells (TabC l b0 b1 s0 s1) 30)) := (Below.refl _ _).alloc (Nat.le_refl _) _
  have h0 := h.below hb0
  clear h
  go_enter Tryd.func19, Tryd.ntmps19
  go_wp2_with fail
  refine (hk _).mono ?_
  rintro e w1 ⟨rfl, hb1⟩
  have t0 := (kt.under hb1).cell 0
  simp only [List.getElem?_toArray, List.getElem?_cons_zero] at t0
  have lt0 := (kt.under hb1).lt
  have hbw := hb0.trans (hb1.mono hb0.size)
  have h1 := h0.below hb1
  clear hk kt hb0 hb1 h0
  go_wp2_with fail
  refine (hs _ h1).mono ?_
  rintro e w2 ⟨rfl, hb2⟩
  have hbw2 := hbw.trans (hb2.mono hbw.size)
  go_wp2
  go_ret
  exact ⟨rfl, hbw2⟩
theorem step_any (l b0 b1 s0 s1 : Nat) (hg : Good l b0 b1 s0 s1) (v : Value) (S : List C) (w : World) (hs : SixIs w) (h : SetAt w v S) (hS : GoodS l S) :
    Calls Tryd.prog 9 #[Tab l b0 b1 s0 s1, v] w fun e w' => ∃ v' R, e = .returned (.tuple #[v', .nilIface]) ∧ SetAt w' v' R ∧ Stp (nxT b0 b1 s0 s1) l S R ∧ R.length ≤ 13 * S.length ∧ Below w.heap.size w w' := by
  have hk := fun W hW => check_good l b0 b1 s0 s1 hg v S W hW hS
  have hn := fun W hq hW => next_set l b0 b1 s0 s1 hg.h0 hg.h1 hg.h2 hg.h3 v S W hq hg.latI hW hS.rising hS.len hS.val hS.near (bare_of hg.ok)
  have kt := Ba.Blk.newAt w 30 (TabC l b0 b1 s0 s1) _ rfl
  have hb0 : Below w.heap.size w (w.alloc (.cells (TabC l b0 b1 s0 s1) 30)) := (Below.refl _ _).alloc (Nat.le_refl _) _
  have h0 := h.below hb0
  clear h
  go_enter Tryd.func9, Tryd.ntmps9
  go_wp2_with fail
  refine (hk _ h0).mono ?_
  rintro e w1 ⟨rfl, hb1⟩
  obtain ⟨t0, t1, t2, t3, t4⟩ : w1.cell? ⟨w.heap.size, 0, none⟩ = some (.int .i64 l) ∧ w1.cell? ⟨w.heap.size, 1, none⟩ = some (.int .u64 b0) ∧ w1.cell? ⟨w.heap.size, 2, none⟩ = some (.int .u64 b1) ∧ w1.cell? ⟨w.heap.size, 3, none⟩ = some (.int .u64 s0) ∧ w1.cell? ⟨w.heap.size, 4, none⟩ = some (.int .u64 s1) := ⟨(kt.under hb1).cell 0, (kt.under hb1).cell 1, (kt.under hb1).cell 2, (kt.under hb1).cell 3, (kt.under hb1).cell 4⟩
  have lt0 := (kt.under hb1).lt
  have hbw := hb0.trans (hb1.mono hb0.size)
  have h1 := h0.below hb1
  clear hk kt hb0 hb1 h0
  go_wp2_with fail
  refine (hn _ (hs.below hbw) h1).mono ?_
  rintro e w2 ⟨v', R, rfl, hR, hst, hl, hb2⟩
  have hbw2 := hbw.trans (hb2.mono hbw.size)
  clear hn
  go_wp2
  exact bodyPost_ret (v := .tuple #[v', .nilIface]) (by simp [results, Tryd.results9, go_sem]) rfl ⟨v', R, rfl, hR, hst, hl, hbw2⟩
theorem pow13 {i : Nat} (h : i ≤ 3) : 13 ^ i ≤ 2197 := by
  have : i = 0 ∨ i = 1 ∨ i = 2 ∨ i = 3 := by omega
  rcases this with rfl | rfl | rfl | rfl <;> decide
theorem pow134 {i : Nat} (h : i ≤ 4) : 13 ^ i ≤ 28561 := by
  have : i = 0 ∨ i = 1 ∨ i = 2 ∨ i = 3 ∨ i = 4 := by omega
  rcases this with rfl | rfl | rfl | rfl | rfl <;> decide
def SpR (w : World) (l b0 b1 s0 s1 n : Nat) (S : List C) (t9 t10 : Value) (wr : World) : Prop :=
  ∃ (i : Nat) (M : List C), i ≤ n ∧ t10 = .int .i64 i ∧ SetAt wr t9 M ∧ StpN (nxT b0 b1 s0 s1) l i S M ∧ M.length ≤ 13 ^ i * S.length ∧ Ba.Blk wr w.heap.size 30 (TabC l b0 b1 s0 s1) ∧ Below w.heap.size w wr
theorem stpN_tail {nx : Int → Bool → Nat → Bool} {l : Int} (hb : Bare nx) {S : List C} : ∀ {i : Nat} (k : Nat), StpN nx l i S [] → StpN nx l (i + k) S []
  | _, 0, h => h
  | _, k + 1, h => ⟨[], stpN_tail hb k h, stp_nil hb⟩
set_option maxRecDepth 100000 in
set_option maxHeartbeats 2000000 in
theorem steps_any (l b0 b1 s0 s1 : Nat) (hg : Good l b0 b1 s0 s1) (v : Value) (S : List C) (n : Nat) (hn4 : n ≤ 4) (w : World) (hs : SixIs w) (h : SetAt w v S) (hS : GoodS l S) (hsz : ∀ c ∈ S, (-1500000 ≤ c.1 ∧ c.1 ≤ 1500000) ∧ (-1500000 ≤ c.2.1 ∧ c.2.1 ≤ 1500000)) (hl : S.length ≤ 32) :
    Calls Tryd.prog 8 #[Tab l b0 b1 s0 s1, v, .int .i64 n] w fun e w' => ∃ v' R, e = .returned (.tuple #[v', .nilIface]) ∧ SetAt w' v' R ∧ StpN (nxT b0 b1 s0 s1) l n S R ∧ R.length ≤ 28561 * S.length ∧ Below w.heap.size w w' := by
  have hk := fun W hW => check_good l b0 b1 s0 s1 hg v S W hW hS
  have hc := fun W hW => clone_set v S W hW (by omega)
  have kt := Ba.Blk.newAt w 30 (TabC l b0 b1 s0 s1) _ rfl
  have hb0 : Below w.heap.size w (w.alloc (.cells (TabC l b0 b1 s0 s1) 30)) := (Below.refl _ _).alloc (Nat.le_refl _) _
  have h0 := h.below hb0
  have hn0 : ¬ (n : Int) < 0 := by omega
  clear h
  go_enter Tryd.func8, Tryd.ntmps8
  go_wp2_with fail
  refine (hk _ h0).mono ?_
  rintro e w1 ⟨rfl, hb1⟩
  have kt1 := kt.under hb1
  have hbw := hb0.trans (hb1.mono hb0.size)
  have h1 := h0.below hb1
  clear hk kt hb0 hb1 h0
  go_wp2_with fail
  refine (hc _ h1).mono ?_
  rintro e w2 ⟨v2, rfl, h2, hb2⟩
  have kt2 := kt1.under hb2
  have hbw2 := hbw.trans (hb2.mono hbw.size)
  clear hc h1 hbw kt1 hb2
  go_wp2_with fail
  go_loopw [9, 10] (fun t9 t10 wr => SpR w l b0 b1 s0 s1 n S t9 t10 wr) (fun _ t10 _ => n - (intOf t10).toNat)
  case atStart => exact ⟨0, S, Nat.zero_le _, rfl, h2, rfl, by simp, kt2, hbw2⟩
  case round =>
    clear h2 kt2 hbw2
    obtain ⟨i, M, hi, rfl, hM, hst, hml, kt, hb⟩ := hrel
    have key : ∃ p cap, u9 = .slice p M.length cap := by
      rcases hM with ⟨rfl, rfl⟩ | ⟨g, cap, rfl, _⟩
      · exact ⟨_, _, rfl⟩
      · exact ⟨_, _, rfl⟩
    obtain ⟨p, cap, rfl⟩ := key
    have HST := Lib.hid hst
    have HM := Lib.hid hM
    clear hst hM
    by_cases hlt : i < n
    · by_cases hz : 0 < M.length
      · have hM13 : M.length ≤ 2197 * S.length := Nat.le_trans hml (Nat.mul_le_mul_right _ (pow13 (show i ≤ 3 by omega)))
        have hMg : GoodS l M := ⟨StpN.rising hS.rising HST.out, StpN.val hS.val HST.out, fun c hc => by
          have := stpN_wi hg.latI (bare_of hg.ok) (m := 1500000) hsz HST.out c hc
          omega, by omega⟩
        have hnx := fun W hq hW => next_set l b0 b1 s0 s1 hg.h0 hg.h1 hg.h2 hg.h3 (.slice p M.length cap) M W hq hg.latI hW hMg.rising hMg.len hMg.val hMg.near (bare_of hg.ok)
        obtain ⟨t0, t1, t2, t3, t4⟩ : wr.cell? ⟨w.heap.size, 0, none⟩ = some (.int .i64 l) ∧ wr.cell? ⟨w.heap.size, 1, none⟩ = some (.int .u64 b0) ∧ wr.cell? ⟨w.heap.size, 2, none⟩ = some (.int .u64 b1) ∧ wr.cell? ⟨w.heap.size, 3, none⟩ = some (.int .u64 s0) ∧ wr.cell? ⟨w.heap.size, 4, none⟩ = some (.int .u64 s1) := ⟨kt.cell 0, kt.cell 1, kt.cell 2, kt.cell 3, kt.cell 4⟩
        have lt0 := kt.lt
        have hlt2 : (i : Int) < (n : Int) := by omega
        have hz2 : (0 : Int) < (M.length : Int) := by omega
        have HML := Lib.hid hml
        clear hMg hM13 hml hlt
        go_wp2_with fail
        refine (hnx _ (hs.below hb) HM.out).mono ?_
        rintro e w3 ⟨v3, R, rfl, hR, hst3, hl3, hb3⟩
        have kt3 := kt.under hb3
        have hb4 := hb.trans (hb3.mono hb.size)
        clear hnx t0 t1 t2 t3 t4 lt0 kt hb hb3
        go_wp2_with fail
        refine ⟨⟨i + 1, R, by omega, by go_num, hR, ⟨M, HST.out, hst3⟩, ?_, kt3, hb4⟩, by simp [intOf]; omega⟩
        have h5 := HML.out
        have : 13 ^ (i + 1) * S.length = 13 * (13 ^ i * S.length) := by rw [Nat.pow_succ, Nat.mul_comm (13 ^ i) 13, Nat.mul_assoc]
        rw [this]
        exact Nat.le_trans hl3 (Nat.mul_le_mul_left 13 h5)
      · obtain rfl : M = [] := List.eq_nil_of_length_eq_zero (by omega)
        have hlt2 : (i : Int) < (n : Int) := by omega
        have htail := stpN_tail (bare_of hg.ok) (n - i) HST.out
        rw [show i + (n - i) = n by omega] at htail
        clear kt
        go_wp2_with fail
        exact bodyPost_ret (v := .tuple #[.slice p 0 cap, .nilIface]) (by simp [results, Tryd.results8, go_sem]) rfl ⟨_, [], rfl, HM.out, htail, Nat.zero_le _, hb⟩
    · obtain rfl : i = n := by omega
      have hd : decide ((i : Int) < (i : Int)) = false := by simp
      have hM13 : M.length ≤ 28561 * S.length := Nat.le_trans hml (Nat.mul_le_mul_right _ (pow134 hn4))
      clear kt hml
      go_wp2_with fail
      exact bodyPost_ret (v := .tuple #[.slice p M.length cap, .nilIface]) (by simp [results, Tryd.results8, go_sem]) rfl ⟨_, M, rfl, HM.out, HST.out, hM13, hb⟩
end Go.Proofs.YtjongkbjhiblmaaDoor.Fl
