/- The contract of a table's Check. -/
import Derived.Test.YtcmfkdhadmfgkaaDoorTbC1
namespace Go.Proofs.YtcmfkdhadmfgkaaDoor.Tb
open Go.RowKit Go.Proofs.YtcmfkdhadmfgkaaDoor.Ba

theorem good_yes (L : Int) (h1 : 1 ≤ L) (h3 : L ≤ 3) (w : World) : Calls Tryd.prog 67 #[.int .i64 L] w fun e w' => e = .returned (.bool true) ∧ w = w' := by
  go_enter Tryd.func67, Tryd.ntmps67
  go_wp2
  go_ret
  exact ⟨rfl, rfl⟩
theorem good_no (L : Int) (h : L < 1 ∨ 3 < L) (w : World) : Calls Tryd.prog 67 #[.int .i64 L] w fun e w' => e = .returned (.bool false) ∧ w = w' := by
  by_cases h1 : L < 1
  · clear h
    have g1 : decide (1 ≤ L) = false := by simp; omega
    go_enter Tryd.func67, Tryd.ntmps67
    go_wp2
    go_ret
    exact ⟨rfl, rfl⟩
  · have h2 : 1 ≤ L := by omega
    have h3 : decide (L ≤ 3) = false := by simp; omega
    clear h h1
    go_enter Tryd.func67, Tryd.ntmps67
    go_wp2
    go_ret
    exact ⟨rfl, rfl⟩
theorem check_no (L : Int) (h : L < 1 ∨ 3 < L) (b0 b1 s0 s1 : Nat) (w : World) :
    Calls Tryd.prog 49 #[Tab L b0 b1 s0 s1] w fun e w' => e = .returned (.iface 59 (.int .i64 11)) ∧ Below w.heap.size w w' := by
  have hg := good_no L h
  clear h
  go_enter Tryd.func49, Tryd.ntmps49
  go_wp2_with fail
  refine (hg _).mono ?_
  rintro e w' ⟨rfl, rfl⟩
  go_wp2
  go_ret
  exact ⟨rfl, by go_grown⟩
def CkRel (w : World) (l b0 b1 s0 s1 : Nat) (i : Value) (wr : World) : Prop :=
  ∃ k : Nat, k ≤ 2 ∧ i = .int .i64 k ∧ (1 ≤ k → wrongH (nbv l 0) b0 s0 = false) ∧ (2 ≤ k → wrongH (nbv l 1) b1 s1 = false) ∧ Below w.heap.size w wr ∧
    Blk wr w.heap.size 47 #[.int .i64 l, .int .u64 b0, .int .u64 b1, .int .u64 s0, .int .u64 s1]
def CkPost (w : World) (bad : Bool) (e : Ending) (w' : World) : Prop := e = .returned (if bad then .iface 59 (.int .i64 5) else .nilIface) ∧ Below w.heap.size w w'
theorem nbv_lt (l h : Nat) : nbv l h < 2 ^ 64 := by unfold nbv; split <;> (try split) <;> decide
set_option maxHeartbeats 4000000 in
theorem check_yes (l : Nat) (hl : l = 1 ∨ l = 2 ∨ l = 3) (b0 b1 s0 s1 : Nat) (h0 : b0 < 2 ^ 64) (h1 : b1 < 2 ^ 64) (h2 : s0 < 2 ^ 64) (h3 : s1 < 2 ^ 64) (w : World) :
    Calls Tryd.prog 49 #[Tab l b0 b1 s0 s1] w (CkPost w (wrongT l b0 b1 s0 s1)) := by
  have hg := good_yes l (by omega) (by omega)
  have n0 : ∀ W, Calls Tryd.prog 68 #[.int .i64 l, .int .i64 0] W fun e w' => e = .returned (.int .u64 (nbv l 0)) ∧ W = w' := fun W => nb_any l 0 hl (.inl rfl) W
  have n1 : ∀ W, Calls Tryd.prog 68 #[.int .i64 l, .int .i64 1] W fun e w' => e = .returned (.int .u64 (nbv l 1)) ∧ W = w' := fun W => nb_any l 1 hl (.inr rfl) W
  have m0 := nbv_lt l 0
  have m1 := nbv_lt l 1
  have HT := Lib.hid (show wrongT l b0 b1 s0 s1 = (wrongH (nbv l 0) b0 s0 || wrongH (nbv l 1) b1 s1) from rfl)
  clear hl
  go_enter Tryd.func49, Tryd.ntmps49
  go_wp2_with fail
  refine (hg _).mono ?_
  rintro e w' ⟨rfl, rfl⟩
  go_wp2_with fail
  go_loopw [11] (fun i wr => CkRel w l b0 b1 s0 s1 i wr) (fun i _ => 2 - (intOf i).toNat)
  case atStart => exact ⟨0, by omega, rfl, fun h => by omega, fun h => by omega, by go_grown, Blk.newAt _ _ _ _ rfl⟩
  case round =>
    obtain ⟨k, hk, rfl, g0, g1, hb0, kt⟩ := hrel
    have hz := hb0.size
    have hkl := kt.lt
    have c0 := kt.cell 0
    have c1 := kt.cell 1
    have c2 := kt.cell 2
    have c3 := kt.cell 3
    have c4 := kt.cell 4
    simp only [List.getElem?_toArray, List.getElem?_cons_zero, List.getElem?_cons_succ] at c0 c1 c2 c3 c4
    have hk3 : k = 0 ∨ k = 1 ∨ k = 2 := by omega
    rcases hk3 with rfl | rfl | rfl
    · have p1 : bits .and .u64 (b0 : Int) 1 = ((b0 &&& 1 : Nat) : Int) := u64_and b0 1 (by omega) (by decide)
      have p2 := u64_or b0 s0 (by omega) (by omega)
      have p3 := u64_andNot (b0 ||| s0) (nbv l 0) (Nat.or_lt_two_pow (by omega) (by omega)) m0
      have HW := Lib.hid (show wrongH (nbv l 0) b0 s0 = (b0 &&& 1 != 0 || ((b0 ||| s0) &&& (2 ^ 64 - 1 - nbv l 0)) != 0) from rfl)
      clear g0 g1
      generalize hP : b0 &&& 1 = p at *
      generalize hO : b0 ||| s0 = o at *
      generalize hQ : o &&& (2 ^ 64 - 1 - nbv l 0) = q at *
      clear hP hO hQ
      by_cases ep : p = 0
      · have e1 : ((p : Int) == 0) = true := by simp [ep]
        have e2 : ((p : Int) != 0) = false := by simp [ep]
        by_cases eq : q = 0
        · have e3 : ((q : Int) == 0) = true := by simp [eq]
          have e4 : ((q : Int) != 0) = false := by simp [eq]
          have HF := Lib.hid (show wrongH (nbv l 0) b0 s0 = false by rw [HW.out, ep, eq]; rfl)
          clear ep eq m0 m1 h0 h1 h2 h3
          go_wp2_with fail
          go_quiet (fail)
          go_wp2_with (go_at_call 68; refine (n0 _).mono ?_; rintro e w' ⟨rfl, rfl⟩)
          go_roundw
          case rel => exact ⟨1, by omega, by go_num, fun _ => HF.out, fun h => by omega, below_dr _ hb0, kt⟩
          case measure => simp [intOf]
        · have e3 : ((q : Int) == 0) = false := by simp; omega
          have e4 : ((q : Int) != 0) = true := by simp; omega
          have HF := Lib.hid (show wrongT l b0 b1 s0 s1 = true by rw [HT.out, HW.out]; simp [ep, eq])
          clear ep eq m0 m1 h0 h1 h2 h3
          go_wp2_with fail
          go_quiet (fail)
          go_wp2_with (go_at_call 68; refine (n0 _).mono ?_; rintro e w' ⟨rfl, rfl⟩)
          go_ret
          exact ⟨by rw [HF.out]; rfl, below_dr _ hb0⟩
      · have e1 : ((p : Int) == 0) = false := by simp; omega
        have e2 : ((p : Int) != 0) = true := by simp; omega
        have HF := Lib.hid (show wrongT l b0 b1 s0 s1 = true by rw [HT.out, HW.out]; simp [ep])
        clear ep m0 m1 h0 h1 h2 h3
        go_wp2_with fail
        go_quiet (fail)
        go_wp2_with fail
        go_ret
        exact ⟨by rw [HF.out]; rfl, below_dr _ hb0⟩
    · have p1 : bits .and .u64 (b1 : Int) 1 = ((b1 &&& 1 : Nat) : Int) := u64_and b1 1 (by omega) (by decide)
      have p2 := u64_or b1 s1 (by omega) (by omega)
      have p3 := u64_andNot (b1 ||| s1) (nbv l 1) (Nat.or_lt_two_pow (by omega) (by omega)) m1
      have HW := Lib.hid (show wrongH (nbv l 1) b1 s1 = (b1 &&& 1 != 0 || ((b1 ||| s1) &&& (2 ^ 64 - 1 - nbv l 1)) != 0) from rfl)
      have G0 := Lib.hid (g0 (by omega))
      clear g0 g1
      generalize hP : b1 &&& 1 = p at *
      generalize hO : b1 ||| s1 = o at *
      generalize hQ : o &&& (2 ^ 64 - 1 - nbv l 1) = q at *
      clear hP hO hQ
      by_cases ep : p = 0
      · have e1 : ((p : Int) == 0) = true := by simp [ep]
        have e2 : ((p : Int) != 0) = false := by simp [ep]
        by_cases eq : q = 0
        · have e3 : ((q : Int) == 0) = true := by simp [eq]
          have e4 : ((q : Int) != 0) = false := by simp [eq]
          have HF := Lib.hid (show wrongH (nbv l 1) b1 s1 = false by rw [HW.out, ep, eq]; rfl)
          clear ep eq m0 m1 h0 h1 h2 h3
          go_wp2_with fail
          go_quiet (fail)
          go_wp2_with (go_at_call 68; refine (n1 _).mono ?_; rintro e w' ⟨rfl, rfl⟩)
          go_roundw
          case rel => exact ⟨2, by omega, by go_num, fun _ => G0.out, fun _ => HF.out, below_dr _ hb0, kt⟩
          case measure => simp [intOf]
        · have e3 : ((q : Int) == 0) = false := by simp; omega
          have e4 : ((q : Int) != 0) = true := by simp; omega
          have HF := Lib.hid (show wrongT l b0 b1 s0 s1 = true by rw [HT.out, HW.out]; simp [ep, eq])
          clear ep eq m0 m1 h0 h1 h2 h3
          go_wp2_with fail
          go_quiet (fail)
          go_wp2_with (go_at_call 68; refine (n1 _).mono ?_; rintro e w' ⟨rfl, rfl⟩)
          go_ret
          exact ⟨by rw [HF.out]; rfl, below_dr _ hb0⟩
      · have e1 : ((p : Int) == 0) = false := by simp; omega
        have e2 : ((p : Int) != 0) = true := by simp; omega
        have HF := Lib.hid (show wrongT l b0 b1 s0 s1 = true by rw [HT.out, HW.out]; simp [ep])
        clear ep m0 m1 h0 h1 h2 h3
        go_wp2_with fail
        go_quiet (fail)
        go_wp2_with fail
        go_ret
        exact ⟨by rw [HF.out]; rfl, below_dr _ hb0⟩
    · have HF := Lib.hid (show wrongT l b0 b1 s0 s1 = false by rw [HT.out, g0 (by omega), g1 (by omega)]; rfl)
      clear g0 g1
      go_wp2
      go_ret
      exact ⟨by rw [HF.out]; rfl, hb0⟩
end Go.Proofs.YtcmfkdhadmfgkaaDoor.Tb
