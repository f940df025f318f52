/- The contract of the document's Check of a table. -/
import Derived.Test.YtcmfkdhadmfgkaaDoorTbC3
namespace Go.Proofs.YtcmfkdhadmfgkaaDoor.Tb
open Go.RowKit Go.Proofs.YtcmfkdhadmfgkaaDoor.Ba

abbrev tcells (l b0 b1 s0 s1 : Nat) : Array Value := #[.int .i64 l, .int .u64 b0, .int .u64 b1, .int .u64 s0, .int .u64 s1]
abbrev rcells (l g : Nat) : Array Value := #[.int .i64 l, .slice (some ⟨g, 1, none⟩) 2 2, .slice (some ⟨g, 3, none⟩) 2 2]
def RcPost (w : World) (bad : Bool) (e : Ending) (w' : World) : Prop := e = .returned (.int .i64 (if bad then 5 else 0)) ∧ Below w.heap.size w w'
/-- What stands in memory all the time. -/
def RcMem (w : World) (l b0 b1 s0 s1 g BX : Nat) (wr : World) : Prop :=
  Below w.heap.size w wr ∧ Blk wr g 47 (tcells l b0 b1 s0 s1) ∧ Blk wr BX 57 (rcells l g)
def RcM (w : World) (l b0 b1 s0 s1 g BX : Nat) (v : Value) (wr : World) : Prop := v = .int .i64 (mostOf l) ∧ RcMem w l b0 b1 s0 s1 g BX wr
def RcO (w : World) (l b0 b1 s0 s1 g BX : Nat) (i : Value) (wr : World) : Prop :=
  ∃ h : Nat, h ≤ 2 ∧ i = .int .i64 h ∧ (1 ≤ h → wrongH (nbv l 0) b0 s0 = false) ∧ (2 ≤ h → wrongH (nbv l 1) b1 s1 = false) ∧ RcMem w l b0 b1 s0 s1 g BX wr
def RcI (w : World) (l b0 b1 s0 s1 g BX m b s : Nat) (i : Value) (wr : World) : Prop :=
  ∃ n : Nat, n ≤ 64 ∧ i = .int .i64 n ∧ (∀ k, k < n → badAt m b s k = false) ∧ RcMem w l b0 b1 s0 s1 g BX wr
def RcT (w : World) (l b0 b1 s0 s1 g BX : Nat) (t : Bool) (v : Value) (wr : World) : Prop := v = .bool t ∧ RcMem w l b0 b1 s0 s1 g BX wr
theorem bitB_int (x n : Nat) : ((x / 2 ^ n % 2 : Nat) : Int) = if bitB x n then 1 else 0 := by
  unfold bitB
  have : x / 2 ^ n % 2 = 0 ∨ x / 2 ^ n % 2 = 1 := by omega
  rcases this with h | h <;> simp [h]
theorem bit_yes (x n : Nat) (hx : x < 2 ^ 64) (hn : n ≤ 64) (b : Bool) (h : bitB x n = b) (w : World) :
    Calls Tryd.prog 53 #[.int .u64 x, .int .i64 n] w fun e w' => e = .returned (.int .i64 (if b then 1 else 0)) ∧ w = w' := by
  have := bit_any x n hx hn w
  rw [bitB_int, h] at this
  exact this
theorem bit_1 (x n : Nat) (hx : x < 2 ^ 64) (hn : n ≤ 64) (h : bitB x n = true) (w : World) :
    Calls Tryd.prog 53 #[.int .u64 x, .int .i64 n] w fun e w' => e = .returned (.int .i64 1) ∧ w = w' := bit_yes x n hx hn true h w
theorem bit_0 (x n : Nat) (hx : x < 2 ^ 64) (hn : n ≤ 64) (h : bitB x n = false) (w : World) :
    Calls Tryd.prog 53 #[.int .u64 x, .int .i64 n] w fun e w' => e = .returned (.int .i64 0) ∧ w = w' := bit_yes x n hx hn false h w
set_option maxRecDepth 100000 in
set_option maxHeartbeats 8000000 in
theorem refcheck_yes (l : Nat) (hl : l = 1 ∨ l = 2 ∨ l = 3) (b0 b1 s0 s1 : Nat) (h0 : b0 < 2 ^ 64) (h1 : b1 < 2 ^ 64) (h2 : s0 < 2 ^ 64) (h3 : s1 < 2 ^ 64) (g : Nat) (w : World) (kg : Blk w g 47 (tcells l b0 b1 s0 s1)) :
    Calls Tryd.prog 21 #[RT l g] w (RcPost w (wrongT l b0 b1 s0 s1)) := by
  have kg0 := kg.alloc (.cells (rcells l g) 57)
  have kx0 : Blk (w.alloc (.cells (rcells l g) 57)) w.heap.size 57 (rcells l g) := Blk.newAt _ _ _ _ rfl
  have hb0 : Below w.heap.size w (w.alloc (.cells (rcells l g) 57)) := by go_grown
  have m0 := nbv_lt l 0
  have m1 := nbv_lt l 1
  have HT := Lib.hid (show wrongT l b0 b1 s0 s1 = (wrongH (nbv l 0) b0 s0 || wrongH (nbv l 1) b1 s1) from rfl)
  have l1 : 1 ≤ (l : Int) := by omega
  have l3 : (l : Int) ≤ 3 := by omega
  go_enter Tryd.func21, Tryd.ntmps21
  go_upto_region 3 with (fail)
  go_cut [3] (fun v wx => RcM w l b0 b1 s0 s1 g w.heap.size v wx)
  case first =>
    rcases hl with rfl | rfl | rfl
    all_goals
      go_wp2
      go_meet
      exact ⟨rfl, hb0.alloc (by simp) _, kg0.alloc _, kx0.alloc _⟩
  case rest =>
    obtain ⟨rfl, hmem⟩ := hcut
    clear kg0 kx0 hb0 kg
    go_wp2_with fail
    go_loopw [4] (fun i wr => RcO w l b0 b1 s0 s1 g w.heap.size i wr) (fun i _ => 2 - (intOf i).toNat)
    case atStart => exact ⟨0, by omega, rfl, fun h => by omega, fun h => by omega, hmem⟩
    case round =>
      clear hmem
      obtain ⟨h, hh, rfl, g0, g1, hmem⟩ := hrel
      have hh3 : h = 0 ∨ h = 1 ∨ h = 2 := by omega
      rcases hh3 with rfl | rfl | rfl
      · clear g0 g1
        rw [show ((0 : Nat) : Int) = 0 from rfl]
        go_wp2_with fail
        go_loopw [5] (fun i wr => RcI w l b0 b1 s0 s1 g w.heap.size (nbv l 0) b0 s0 i wr) (fun i _ => 64 - (intOf i).toNat)
        case atStart => exact ⟨0, by omega, rfl, fun k hk => by omega, hmem⟩
        case round =>
          clear hmem
          obtain ⟨n, hn, rfl, F, hmem⟩ := hrel
          have F := Lib.hid F
          by_cases hlt : n < 64
          · have HB := Lib.hid (nbv_bit l 0 n hl (.inl rfl) hlt)
            go_upto_region 10 with (fail)
            go_cut [6] (fun v wx => RcT w l b0 b1 s0 s1 g w.heap.size ((nbv l 0).testBit n) v wx)
            case first =>
              by_cases hM : n ≤ mostOf l
              · have HV := Lib.hid (show (nbv l 0).testBit n = true by rw [HB.out]; simp [hM])
                generalize mostOf l = M at *
                have e1 : decide ((n : Int) ≤ (M : Int)) = true := by simp; omega
                have e2 : decide (n ≤ M) = true := by simp; omega
                clear hM
                obtain ⟨hbm, kg, kx⟩ := hmem; have hgl := kg.lt; have hxl := kx.lt; have c0 := kg.cell 0; have c1 := kg.cell 1; have c2 := kg.cell 2; have c3 := kg.cell 3; have c4 := kg.cell 4; have x0 := kx.cell 0; have x1 := kx.cell 1; have x2 := kx.cell 2; simp only [List.getElem?_toArray, List.getElem?_cons_zero, List.getElem?_cons_succ] at c0 c1 c2 c3 c4 x0 x1 x2
                go_wp2
                go_meet
                exact ⟨by rw [HV.out], hbm, kg, kx⟩
              · have HV := Lib.hid (show (nbv l 0).testBit n = false by rw [HB.out]; simp [hM])
                generalize mostOf l = M at *
                have e1 : decide ((n : Int) ≤ (M : Int)) = false := by simp; omega
                have e2 : decide (n ≤ M) = false := by simp; omega
                clear hM
                obtain ⟨hbm, kg, kx⟩ := hmem; have hgl := kg.lt; have hxl := kx.lt; have c0 := kg.cell 0; have c1 := kg.cell 1; have c2 := kg.cell 2; have c3 := kg.cell 3; have c4 := kg.cell 4; have x0 := kx.cell 0; have x1 := kx.cell 1; have x2 := kx.cell 2; simp only [List.getElem?_toArray, List.getElem?_cons_zero, List.getElem?_cons_succ] at c0 c1 c2 c3 c4 x0 x1 x2
                go_wp2
                go_meet
                exact ⟨by rw [HV.out], hbm, kg, kx⟩
            case rest =>
              clear hmem
              obtain ⟨rfl, hmem⟩ := hcut
              have HBad := Lib.hid (show badAt (nbv l 0) b0 s0 n = ((bitB b0 n && (!(nbv l 0).testBit n || n == 0)) || (bitB s0 n && !(nbv l 0).testBit n)) from rfl)
              have HG := Lib.hid (fun hb => bad_wrong (nbv l 0) b0 s0 n m0 hlt hb)
              generalize hT : (nbv l 0).testBit n = t at *
              clear hT
              cases t
              · cases hb1 : bitB b0 n
                · cases hb2 : bitB s0 n
                  · have HH1 := Lib.hid hb1
                    have cb := bit_0 b0 n h0 (by omega) hb1
                    have HH2 := Lib.hid hb2
                    have cs := bit_0 s0 n h2 (by omega) hb2
                    clear hb2
                    clear hb1
                    have HH3 := HH1
                    (have HF := Lib.hid (show badAt (nbv l 0) b0 s0 n = false by rw [HBad.out]; simp [HH1.out, HH2.out, HH3.out])); (have hmem2 := hmem); obtain ⟨hbm, kg, kx⟩ := hmem; have hgl := kg.lt; have hxl := kx.lt; have c0 := kg.cell 0; have c1 := kg.cell 1; have c2 := kg.cell 2; have c3 := kg.cell 3; have c4 := kg.cell 4; have x0 := kx.cell 0; have x1 := kx.cell 1; have x2 := kx.cell 2; simp only [List.getElem?_toArray, List.getElem?_cons_zero, List.getElem?_cons_succ] at c0 c1 c2 c3 c4 x0 x1 x2; clear HH3; go_wp2_with (first | (go_at_call 53; (with_reducible refine (cb _).mono ?_); rintro e w' ⟨rfl, rfl⟩) | (go_at_call 53; (with_reducible refine (cs _).mono ?_); rintro e w' ⟨rfl, rfl⟩))
                    go_roundw
                    case rel => exact ⟨n + 1, by omega, by go_num, fun k hk => by rcases Nat.lt_or_ge k n with h | h; exact F.out k h; obtain rfl : k = n := (by omega); exact HF.out, hmem2⟩
                    case measure => simp [intOf]; omega
                  · have HH1 := Lib.hid hb1
                    have cb := bit_0 b0 n h0 (by omega) hb1
                    have HH2 := Lib.hid hb2
                    have cs := bit_1 s0 n h2 (by omega) hb2
                    clear hb2
                    clear hb1
                    have HH3 := HH1
                    (have HF := Lib.hid (show wrongT l b0 b1 s0 s1 = true by rw [HT.out, HG.out (by first | (rw [HBad.out]; simp [HH1.out, HH2.out]; done) | (rw [HBad.out, HH1.out]; simp [HH3.out]; done))]; simp)); clear HH3; obtain ⟨hbm, kg, kx⟩ := hmem; have hgl := kg.lt; have hxl := kx.lt; have c0 := kg.cell 0; have c1 := kg.cell 1; have c2 := kg.cell 2; have c3 := kg.cell 3; have c4 := kg.cell 4; have x0 := kx.cell 0; have x1 := kx.cell 1; have x2 := kx.cell 2; simp only [List.getElem?_toArray, List.getElem?_cons_zero, List.getElem?_cons_succ] at c0 c1 c2 c3 c4 x0 x1 x2; go_wp2_with (first | (go_at_call 53; (with_reducible refine (cb _).mono ?_); rintro e w' ⟨rfl, rfl⟩) | (go_at_call 53; (with_reducible refine (cs _).mono ?_); rintro e w' ⟨rfl, rfl⟩)); go_ret; exact ⟨by rw [HF.out]; rfl, hbm⟩
                · have HH1 := Lib.hid hb1
                  have cb := bit_1 b0 n h0 (by omega) hb1
                  have HH2 := HH1
                  have cs := cb
                  clear hb1
                  have HH3 := HH1
                  (have HF := Lib.hid (show wrongT l b0 b1 s0 s1 = true by rw [HT.out, HG.out (by first | (rw [HBad.out]; simp [HH1.out, HH2.out]; done) | (rw [HBad.out, HH1.out]; simp [HH3.out]; done))]; simp)); clear HH3; obtain ⟨hbm, kg, kx⟩ := hmem; have hgl := kg.lt; have hxl := kx.lt; have c0 := kg.cell 0; have c1 := kg.cell 1; have c2 := kg.cell 2; have c3 := kg.cell 3; have c4 := kg.cell 4; have x0 := kx.cell 0; have x1 := kx.cell 1; have x2 := kx.cell 2; simp only [List.getElem?_toArray, List.getElem?_cons_zero, List.getElem?_cons_succ] at c0 c1 c2 c3 c4 x0 x1 x2; go_wp2_with (first | (go_at_call 53; (with_reducible refine (cb _).mono ?_); rintro e w' ⟨rfl, rfl⟩) | (go_at_call 53; (with_reducible refine (cs _).mono ?_); rintro e w' ⟨rfl, rfl⟩)); go_ret; exact ⟨by rw [HF.out]; rfl, hbm⟩
              · cases hb1 : bitB b0 n
                · cases hb2 : bitB s0 n
                  · have HH1 := Lib.hid hb1
                    have cb := bit_0 b0 n h0 (by omega) hb1
                    have HH2 := Lib.hid hb2
                    have cs := bit_0 s0 n h2 (by omega) hb2
                    clear hb2
                    clear hb1
                    have HH3 := HH1
                    (have HF := Lib.hid (show badAt (nbv l 0) b0 s0 n = false by rw [HBad.out]; simp [HH1.out, HH2.out, HH3.out])); (have hmem2 := hmem); obtain ⟨hbm, kg, kx⟩ := hmem; have hgl := kg.lt; have hxl := kx.lt; have c0 := kg.cell 0; have c1 := kg.cell 1; have c2 := kg.cell 2; have c3 := kg.cell 3; have c4 := kg.cell 4; have x0 := kx.cell 0; have x1 := kx.cell 1; have x2 := kx.cell 2; simp only [List.getElem?_toArray, List.getElem?_cons_zero, List.getElem?_cons_succ] at c0 c1 c2 c3 c4 x0 x1 x2; clear HH3; go_wp2_with (first | (go_at_call 53; (with_reducible refine (cb _).mono ?_); rintro e w' ⟨rfl, rfl⟩) | (go_at_call 53; (with_reducible refine (cs _).mono ?_); rintro e w' ⟨rfl, rfl⟩))
                    go_roundw
                    case rel => exact ⟨n + 1, by omega, by go_num, fun k hk => by rcases Nat.lt_or_ge k n with h | h; exact F.out k h; obtain rfl : k = n := (by omega); exact HF.out, hmem2⟩
                    case measure => simp [intOf]; omega
                  · have HH1 := Lib.hid hb1
                    have cb := bit_0 b0 n h0 (by omega) hb1
                    have HH2 := Lib.hid hb2
                    have cs := bit_1 s0 n h2 (by omega) hb2
                    clear hb2
                    clear hb1
                    have HH3 := HH1
                    (have HF := Lib.hid (show badAt (nbv l 0) b0 s0 n = false by rw [HBad.out]; simp [HH1.out, HH2.out, HH3.out])); (have hmem2 := hmem); obtain ⟨hbm, kg, kx⟩ := hmem; have hgl := kg.lt; have hxl := kx.lt; have c0 := kg.cell 0; have c1 := kg.cell 1; have c2 := kg.cell 2; have c3 := kg.cell 3; have c4 := kg.cell 4; have x0 := kx.cell 0; have x1 := kx.cell 1; have x2 := kx.cell 2; simp only [List.getElem?_toArray, List.getElem?_cons_zero, List.getElem?_cons_succ] at c0 c1 c2 c3 c4 x0 x1 x2; clear HH3; go_wp2_with (first | (go_at_call 53; (with_reducible refine (cb _).mono ?_); rintro e w' ⟨rfl, rfl⟩) | (go_at_call 53; (with_reducible refine (cs _).mono ?_); rintro e w' ⟨rfl, rfl⟩))
                    go_roundw
                    case rel => exact ⟨n + 1, by omega, by go_num, fun k hk => by rcases Nat.lt_or_ge k n with h | h; exact F.out k h; obtain rfl : k = n := (by omega); exact HF.out, hmem2⟩
                    case measure => simp [intOf]; omega
                · by_cases hn0 : n = 0
                  · have HH1 := Lib.hid hb1
                    have cb := bit_1 b0 n h0 (by omega) hb1
                    have HH2 := HH1
                    have cs := cb
                    clear hb1
                    have HH3 := Lib.hid hn0
                    have z1 : ((n : Int) == 0) = true := by simp [hn0]
                    clear hn0
                    (have HF := Lib.hid (show wrongT l b0 b1 s0 s1 = true by rw [HT.out, HG.out (by first | (rw [HBad.out]; simp [HH1.out, HH2.out]; done) | (rw [HBad.out, HH1.out]; simp [HH3.out]; done))]; simp)); clear HH3; obtain ⟨hbm, kg, kx⟩ := hmem; have hgl := kg.lt; have hxl := kx.lt; have c0 := kg.cell 0; have c1 := kg.cell 1; have c2 := kg.cell 2; have c3 := kg.cell 3; have c4 := kg.cell 4; have x0 := kx.cell 0; have x1 := kx.cell 1; have x2 := kx.cell 2; simp only [List.getElem?_toArray, List.getElem?_cons_zero, List.getElem?_cons_succ] at c0 c1 c2 c3 c4 x0 x1 x2; go_wp2_with (first | (go_at_call 53; (with_reducible refine (cb _).mono ?_); rintro e w' ⟨rfl, rfl⟩) | (go_at_call 53; (with_reducible refine (cs _).mono ?_); rintro e w' ⟨rfl, rfl⟩)); go_ret; exact ⟨by rw [HF.out]; rfl, hbm⟩
                  · cases hb2 : bitB s0 n
                    · have HH1 := Lib.hid hb1
                      have cb := bit_1 b0 n h0 (by omega) hb1
                      have HH2 := Lib.hid hb2
                      have cs := bit_0 s0 n h2 (by omega) hb2
                      clear hb2
                      clear hb1
                      have HH3 := Lib.hid hn0
                      have z1 : ((n : Int) == 0) = false := by simp; omega
                      clear hn0
                      (have HF := Lib.hid (show badAt (nbv l 0) b0 s0 n = false by rw [HBad.out]; simp [HH1.out, HH2.out, HH3.out])); (have hmem2 := hmem); obtain ⟨hbm, kg, kx⟩ := hmem; have hgl := kg.lt; have hxl := kx.lt; have c0 := kg.cell 0; have c1 := kg.cell 1; have c2 := kg.cell 2; have c3 := kg.cell 3; have c4 := kg.cell 4; have x0 := kx.cell 0; have x1 := kx.cell 1; have x2 := kx.cell 2; simp only [List.getElem?_toArray, List.getElem?_cons_zero, List.getElem?_cons_succ] at c0 c1 c2 c3 c4 x0 x1 x2; clear HH3; go_wp2_with (first | (go_at_call 53; (with_reducible refine (cb _).mono ?_); rintro e w' ⟨rfl, rfl⟩) | (go_at_call 53; (with_reducible refine (cs _).mono ?_); rintro e w' ⟨rfl, rfl⟩))
                      go_roundw
                      case rel => exact ⟨n + 1, by omega, by go_num, fun k hk => by rcases Nat.lt_or_ge k n with h | h; exact F.out k h; obtain rfl : k = n := (by omega); exact HF.out, hmem2⟩
                      case measure => simp [intOf]; omega
                    · have HH1 := Lib.hid hb1
                      have cb := bit_1 b0 n h0 (by omega) hb1
                      have HH2 := Lib.hid hb2
                      have cs := bit_1 s0 n h2 (by omega) hb2
                      clear hb2
                      clear hb1
                      have HH3 := Lib.hid hn0
                      have z1 : ((n : Int) == 0) = false := by simp; omega
                      clear hn0
                      (have HF := Lib.hid (show badAt (nbv l 0) b0 s0 n = false by rw [HBad.out]; simp [HH1.out, HH2.out, HH3.out])); (have hmem2 := hmem); obtain ⟨hbm, kg, kx⟩ := hmem; have hgl := kg.lt; have hxl := kx.lt; have c0 := kg.cell 0; have c1 := kg.cell 1; have c2 := kg.cell 2; have c3 := kg.cell 3; have c4 := kg.cell 4; have x0 := kx.cell 0; have x1 := kx.cell 1; have x2 := kx.cell 2; simp only [List.getElem?_toArray, List.getElem?_cons_zero, List.getElem?_cons_succ] at c0 c1 c2 c3 c4 x0 x1 x2; clear HH3; go_wp2_with (first | (go_at_call 53; (with_reducible refine (cb _).mono ?_); rintro e w' ⟨rfl, rfl⟩) | (go_at_call 53; (with_reducible refine (cs _).mono ?_); rintro e w' ⟨rfl, rfl⟩))
                      go_roundw
                      case rel => exact ⟨n + 1, by omega, by go_num, fun k hk => by rcases Nat.lt_or_ge k n with h | h; exact F.out k h; obtain rfl : k = n := (by omega); exact HF.out, hmem2⟩
                      case measure => simp [intOf]; omega
          · have HF := Lib.hid (fine_wrong (nbv l 0) b0 s0 m0 h0 h2 (fun k hk => F.out k (by omega)))
            obtain rfl : n = 64 := by omega
            have hmem2 := hmem
            obtain ⟨hbm, kg, kx⟩ := hmem; have hgl := kg.lt; have hxl := kx.lt; have c0 := kg.cell 0; have c1 := kg.cell 1; have c2 := kg.cell 2; have c3 := kg.cell 3; have c4 := kg.cell 4; have x0 := kx.cell 0; have x1 := kx.cell 1; have x2 := kx.cell 2; simp only [List.getElem?_toArray, List.getElem?_cons_zero, List.getElem?_cons_succ] at c0 c1 c2 c3 c4 x0 x1 x2
            go_wp2
            go_roundw
            case rel => exact ⟨1, by omega, by go_num, fun _ => HF.out, fun h => by omega, hmem2⟩
            case measure => simp [intOf]
      · have G0 := Lib.hid (g0 (by omega))
        rw [show ((1 : Nat) : Int) = 1 from rfl]
        clear g0 g1
        go_wp2_with fail
        go_loopw [5] (fun i wr => RcI w l b0 b1 s0 s1 g w.heap.size (nbv l 1) b1 s1 i wr) (fun i _ => 64 - (intOf i).toNat)
        case atStart => exact ⟨0, by omega, rfl, fun k hk => by omega, hmem⟩
        case round =>
          clear hmem
          obtain ⟨n, hn, rfl, F, hmem⟩ := hrel
          have F := Lib.hid F
          by_cases hlt : n < 64
          · have HB := Lib.hid (nbv_bit l 1 n hl (.inr rfl) hlt)
            go_upto_region 10 with (fail)
            go_cut [6] (fun v wx => RcT w l b0 b1 s0 s1 g w.heap.size ((nbv l 1).testBit n) v wx)
            case first =>
              by_cases hM : n ≤ mostOf l
              · by_cases hL : 1 < l
                · have HV := Lib.hid (show (nbv l 1).testBit n = true by rw [HB.out]; simp [hM, hL])
                  generalize mostOf l = M at *
                  have e1 : decide ((n : Int) ≤ (M : Int)) = true := by simp; omega
                  have e2 : decide (n ≤ M) = true := by simp; omega
                  have e3 : decide ((1 : Int) < (l : Int)) = true := by simp; omega
                  clear hM hL
                  obtain ⟨hbm, kg, kx⟩ := hmem; have hgl := kg.lt; have hxl := kx.lt; have c0 := kg.cell 0; have c1 := kg.cell 1; have c2 := kg.cell 2; have c3 := kg.cell 3; have c4 := kg.cell 4; have x0 := kx.cell 0; have x1 := kx.cell 1; have x2 := kx.cell 2; simp only [List.getElem?_toArray, List.getElem?_cons_zero, List.getElem?_cons_succ] at c0 c1 c2 c3 c4 x0 x1 x2
                  go_wp2
                  go_meet
                  exact ⟨by rw [HV.out], hbm, kg, kx⟩
                · have HV := Lib.hid (show (nbv l 1).testBit n = false by rw [HB.out]; simp [hL])
                  generalize mostOf l = M at *
                  have e1 : decide ((n : Int) ≤ (M : Int)) = true := by simp; omega
                  have e2 : decide (n ≤ M) = true := by simp; omega
                  have e3 : decide ((1 : Int) < (l : Int)) = false := by simp; omega
                  clear hM hL
                  obtain ⟨hbm, kg, kx⟩ := hmem; have hgl := kg.lt; have hxl := kx.lt; have c0 := kg.cell 0; have c1 := kg.cell 1; have c2 := kg.cell 2; have c3 := kg.cell 3; have c4 := kg.cell 4; have x0 := kx.cell 0; have x1 := kx.cell 1; have x2 := kx.cell 2; simp only [List.getElem?_toArray, List.getElem?_cons_zero, List.getElem?_cons_succ] at c0 c1 c2 c3 c4 x0 x1 x2
                  go_wp2
                  go_meet
                  exact ⟨by rw [HV.out], hbm, kg, kx⟩
              · have HV := Lib.hid (show (nbv l 1).testBit n = false by rw [HB.out]; simp [hM])
                generalize mostOf l = M at *
                have e1 : decide ((n : Int) ≤ (M : Int)) = false := by simp; omega
                have e2 : decide (n ≤ M) = false := by simp; omega
                clear hM
                obtain ⟨hbm, kg, kx⟩ := hmem; have hgl := kg.lt; have hxl := kx.lt; have c0 := kg.cell 0; have c1 := kg.cell 1; have c2 := kg.cell 2; have c3 := kg.cell 3; have c4 := kg.cell 4; have x0 := kx.cell 0; have x1 := kx.cell 1; have x2 := kx.cell 2; simp only [List.getElem?_toArray, List.getElem?_cons_zero, List.getElem?_cons_succ] at c0 c1 c2 c3 c4 x0 x1 x2
                go_wp2
                go_meet
                exact ⟨by rw [HV.out], hbm, kg, kx⟩
            case rest =>
              clear hmem
              obtain ⟨rfl, hmem⟩ := hcut
              have HBad := Lib.hid (show badAt (nbv l 1) b1 s1 n = ((bitB b1 n && (!(nbv l 1).testBit n || n == 0)) || (bitB s1 n && !(nbv l 1).testBit n)) from rfl)
              have HG := Lib.hid (fun hb => bad_wrong (nbv l 1) b1 s1 n m1 hlt hb)
              generalize hT : (nbv l 1).testBit n = t at *
              clear hT
              cases t
              · cases hb1 : bitB b1 n
                · cases hb2 : bitB s1 n
                  · have HH1 := Lib.hid hb1
                    have cb := bit_0 b1 n h1 (by omega) hb1
                    have HH2 := Lib.hid hb2
                    have cs := bit_0 s1 n h3 (by omega) hb2
                    clear hb2
                    clear hb1
                    have HH3 := HH1
                    (have HF := Lib.hid (show badAt (nbv l 1) b1 s1 n = false by rw [HBad.out]; simp [HH1.out, HH2.out, HH3.out])); (have hmem2 := hmem); obtain ⟨hbm, kg, kx⟩ := hmem; have hgl := kg.lt; have hxl := kx.lt; have c0 := kg.cell 0; have c1 := kg.cell 1; have c2 := kg.cell 2; have c3 := kg.cell 3; have c4 := kg.cell 4; have x0 := kx.cell 0; have x1 := kx.cell 1; have x2 := kx.cell 2; simp only [List.getElem?_toArray, List.getElem?_cons_zero, List.getElem?_cons_succ] at c0 c1 c2 c3 c4 x0 x1 x2; clear HH3; go_wp2_with (first | (go_at_call 53; (with_reducible refine (cb _).mono ?_); rintro e w' ⟨rfl, rfl⟩) | (go_at_call 53; (with_reducible refine (cs _).mono ?_); rintro e w' ⟨rfl, rfl⟩))
                    go_roundw
                    case rel => exact ⟨n + 1, by omega, by go_num, fun k hk => by rcases Nat.lt_or_ge k n with h | h; exact F.out k h; obtain rfl : k = n := (by omega); exact HF.out, hmem2⟩
                    case measure => simp [intOf]; omega
                  · have HH1 := Lib.hid hb1
                    have cb := bit_0 b1 n h1 (by omega) hb1
                    have HH2 := Lib.hid hb2
                    have cs := bit_1 s1 n h3 (by omega) hb2
                    clear hb2
                    clear hb1
                    have HH3 := HH1
                    (have HF := Lib.hid (show wrongT l b0 b1 s0 s1 = true by rw [HT.out, HG.out (by first | (rw [HBad.out]; simp [HH1.out, HH2.out]; done) | (rw [HBad.out, HH1.out]; simp [HH3.out]; done))]; simp)); clear HH3; obtain ⟨hbm, kg, kx⟩ := hmem; have hgl := kg.lt; have hxl := kx.lt; have c0 := kg.cell 0; have c1 := kg.cell 1; have c2 := kg.cell 2; have c3 := kg.cell 3; have c4 := kg.cell 4; have x0 := kx.cell 0; have x1 := kx.cell 1; have x2 := kx.cell 2; simp only [List.getElem?_toArray, List.getElem?_cons_zero, List.getElem?_cons_succ] at c0 c1 c2 c3 c4 x0 x1 x2; go_wp2_with (first | (go_at_call 53; (with_reducible refine (cb _).mono ?_); rintro e w' ⟨rfl, rfl⟩) | (go_at_call 53; (with_reducible refine (cs _).mono ?_); rintro e w' ⟨rfl, rfl⟩)); go_ret; exact ⟨by rw [HF.out]; rfl, hbm⟩
                · have HH1 := Lib.hid hb1
                  have cb := bit_1 b1 n h1 (by omega) hb1
                  have HH2 := HH1
                  have cs := cb
                  clear hb1
                  have HH3 := HH1
                  (have HF := Lib.hid (show wrongT l b0 b1 s0 s1 = true by rw [HT.out, HG.out (by first | (rw [HBad.out]; simp [HH1.out, HH2.out]; done) | (rw [HBad.out, HH1.out]; simp [HH3.out]; done))]; simp)); clear HH3; obtain ⟨hbm, kg, kx⟩ := hmem; have hgl := kg.lt; have hxl := kx.lt; have c0 := kg.cell 0; have c1 := kg.cell 1; have c2 := kg.cell 2; have c3 := kg.cell 3; have c4 := kg.cell 4; have x0 := kx.cell 0; have x1 := kx.cell 1; have x2 := kx.cell 2; simp only [List.getElem?_toArray, List.getElem?_cons_zero, List.getElem?_cons_succ] at c0 c1 c2 c3 c4 x0 x1 x2; go_wp2_with (first | (go_at_call 53; (with_reducible refine (cb _).mono ?_); rintro e w' ⟨rfl, rfl⟩) | (go_at_call 53; (with_reducible refine (cs _).mono ?_); rintro e w' ⟨rfl, rfl⟩)); go_ret; exact ⟨by rw [HF.out]; rfl, hbm⟩
              · cases hb1 : bitB b1 n
                · cases hb2 : bitB s1 n
                  · have HH1 := Lib.hid hb1
                    have cb := bit_0 b1 n h1 (by omega) hb1
                    have HH2 := Lib.hid hb2
                    have cs := bit_0 s1 n h3 (by omega) hb2
                    clear hb2
                    clear hb1
                    have HH3 := HH1
                    (have HF := Lib.hid (show badAt (nbv l 1) b1 s1 n = false by rw [HBad.out]; simp [HH1.out, HH2.out, HH3.out])); (have hmem2 := hmem); obtain ⟨hbm, kg, kx⟩ := hmem; have hgl := kg.lt; have hxl := kx.lt; have c0 := kg.cell 0; have c1 := kg.cell 1; have c2 := kg.cell 2; have c3 := kg.cell 3; have c4 := kg.cell 4; have x0 := kx.cell 0; have x1 := kx.cell 1; have x2 := kx.cell 2; simp only [List.getElem?_toArray, List.getElem?_cons_zero, List.getElem?_cons_succ] at c0 c1 c2 c3 c4 x0 x1 x2; clear HH3; go_wp2_with (first | (go_at_call 53; (with_reducible refine (cb _).mono ?_); rintro e w' ⟨rfl, rfl⟩) | (go_at_call 53; (with_reducible refine (cs _).mono ?_); rintro e w' ⟨rfl, rfl⟩))
                    go_roundw
                    case rel => exact ⟨n + 1, by omega, by go_num, fun k hk => by rcases Nat.lt_or_ge k n with h | h; exact F.out k h; obtain rfl : k = n := (by omega); exact HF.out, hmem2⟩
                    case measure => simp [intOf]; omega
                  · have HH1 := Lib.hid hb1
                    have cb := bit_0 b1 n h1 (by omega) hb1
                    have HH2 := Lib.hid hb2
                    have cs := bit_1 s1 n h3 (by omega) hb2
                    clear hb2
                    clear hb1
                    have HH3 := HH1
                    (have HF := Lib.hid (show badAt (nbv l 1) b1 s1 n = false by rw [HBad.out]; simp [HH1.out, HH2.out, HH3.out])); (have hmem2 := hmem); obtain ⟨hbm, kg, kx⟩ := hmem; have hgl := kg.lt; have hxl := kx.lt; have c0 := kg.cell 0; have c1 := kg.cell 1; have c2 := kg.cell 2; have c3 := kg.cell 3; have c4 := kg.cell 4; have x0 := kx.cell 0; have x1 := kx.cell 1; have x2 := kx.cell 2; simp only [List.getElem?_toArray, List.getElem?_cons_zero, List.getElem?_cons_succ] at c0 c1 c2 c3 c4 x0 x1 x2; clear HH3; go_wp2_with (first | (go_at_call 53; (with_reducible refine (cb _).mono ?_); rintro e w' ⟨rfl, rfl⟩) | (go_at_call 53; (with_reducible refine (cs _).mono ?_); rintro e w' ⟨rfl, rfl⟩))
                    go_roundw
                    case rel => exact ⟨n + 1, by omega, by go_num, fun k hk => by rcases Nat.lt_or_ge k n with h | h; exact F.out k h; obtain rfl : k = n := (by omega); exact HF.out, hmem2⟩
                    case measure => simp [intOf]; omega
                · by_cases hn0 : n = 0
                  · have HH1 := Lib.hid hb1
                    have cb := bit_1 b1 n h1 (by omega) hb1
                    have HH2 := HH1
                    have cs := cb
                    clear hb1
                    have HH3 := Lib.hid hn0
                    have z1 : ((n : Int) == 0) = true := by simp [hn0]
                    clear hn0
                    (have HF := Lib.hid (show wrongT l b0 b1 s0 s1 = true by rw [HT.out, HG.out (by first | (rw [HBad.out]; simp [HH1.out, HH2.out]; done) | (rw [HBad.out, HH1.out]; simp [HH3.out]; done))]; simp)); clear HH3; obtain ⟨hbm, kg, kx⟩ := hmem; have hgl := kg.lt; have hxl := kx.lt; have c0 := kg.cell 0; have c1 := kg.cell 1; have c2 := kg.cell 2; have c3 := kg.cell 3; have c4 := kg.cell 4; have x0 := kx.cell 0; have x1 := kx.cell 1; have x2 := kx.cell 2; simp only [List.getElem?_toArray, List.getElem?_cons_zero, List.getElem?_cons_succ] at c0 c1 c2 c3 c4 x0 x1 x2; go_wp2_with (first | (go_at_call 53; (with_reducible refine (cb _).mono ?_); rintro e w' ⟨rfl, rfl⟩) | (go_at_call 53; (with_reducible refine (cs _).mono ?_); rintro e w' ⟨rfl, rfl⟩)); go_ret; exact ⟨by rw [HF.out]; rfl, hbm⟩
                  · cases hb2 : bitB s1 n
                    · have HH1 := Lib.hid hb1
                      have cb := bit_1 b1 n h1 (by omega) hb1
                      have HH2 := Lib.hid hb2
                      have cs := bit_0 s1 n h3 (by omega) hb2
                      clear hb2
                      clear hb1
                      have HH3 := Lib.hid hn0
                      have z1 : ((n : Int) == 0) = false := by simp; omega
                      clear hn0
                      (have HF := Lib.hid (show badAt (nbv l 1) b1 s1 n = false by rw [HBad.out]; simp [HH1.out, HH2.out, HH3.out])); (have hmem2 := hmem); obtain ⟨hbm, kg, kx⟩ := hmem; have hgl := kg.lt; have hxl := kx.lt; have c0 := kg.cell 0; have c1 := kg.cell 1; have c2 := kg.cell 2; have c3 := kg.cell 3; have c4 := kg.cell 4; have x0 := kx.cell 0; have x1 := kx.cell 1; have x2 := kx.cell 2; simp only [List.getElem?_toArray, List.getElem?_cons_zero, List.getElem?_cons_succ] at c0 c1 c2 c3 c4 x0 x1 x2; clear HH3; go_wp2_with (first | (go_at_call 53; (with_reducible refine (cb _).mono ?_); rintro e w' ⟨rfl, rfl⟩) | (go_at_call 53; (with_reducible refine (cs _).mono ?_); rintro e w' ⟨rfl, rfl⟩))
                      go_roundw
                      case rel => exact ⟨n + 1, by omega, by go_num, fun k hk => by rcases Nat.lt_or_ge k n with h | h; exact F.out k h; obtain rfl : k = n := (by omega); exact HF.out, hmem2⟩
                      case measure => simp [intOf]; omega
                    · have HH1 := Lib.hid hb1
                      have cb := bit_1 b1 n h1 (by omega) hb1
                      have HH2 := Lib.hid hb2
                      have cs := bit_1 s1 n h3 (by omega) hb2
                      clear hb2
                      clear hb1
                      have HH3 := Lib.hid hn0
                      have z1 : ((n : Int) == 0) = false := by simp; omega
                      clear hn0
                      (have HF := Lib.hid (show badAt (nbv l 1) b1 s1 n = false by rw [HBad.out]; simp [HH1.out, HH2.out, HH3.out])); (have hmem2 := hmem); obtain ⟨hbm, kg, kx⟩ := hmem; have hgl := kg.lt; have hxl := kx.lt; have c0 := kg.cell 0; have c1 := kg.cell 1; have c2 := kg.cell 2; have c3 := kg.cell 3; have c4 := kg.cell 4; have x0 := kx.cell 0; have x1 := kx.cell 1; have x2 := kx.cell 2; simp only [List.getElem?_toArray, List.getElem?_cons_zero, List.getElem?_cons_succ] at c0 c1 c2 c3 c4 x0 x1 x2; clear HH3; go_wp2_with (first | (go_at_call 53; (with_reducible refine (cb _).mono ?_); rintro e w' ⟨rfl, rfl⟩) | (go_at_call 53; (with_reducible refine (cs _).mono ?_); rintro e w' ⟨rfl, rfl⟩))
                      go_roundw
                      case rel => exact ⟨n + 1, by omega, by go_num, fun k hk => by rcases Nat.lt_or_ge k n with h | h; exact F.out k h; obtain rfl : k = n := (by omega); exact HF.out, hmem2⟩
                      case measure => simp [intOf]; omega
          · have HF := Lib.hid (fine_wrong (nbv l 1) b1 s1 m1 h1 h3 (fun k hk => F.out k (by omega)))
            obtain rfl : n = 64 := by omega
            have hmem2 := hmem
            obtain ⟨hbm, kg, kx⟩ := hmem; have hgl := kg.lt; have hxl := kx.lt; have c0 := kg.cell 0; have c1 := kg.cell 1; have c2 := kg.cell 2; have c3 := kg.cell 3; have c4 := kg.cell 4; have x0 := kx.cell 0; have x1 := kx.cell 1; have x2 := kx.cell 2; simp only [List.getElem?_toArray, List.getElem?_cons_zero, List.getElem?_cons_succ] at c0 c1 c2 c3 c4 x0 x1 x2
            go_wp2
            go_roundw
            case rel => exact ⟨2, by omega, by go_num, fun _ => G0.out, fun _ => HF.out, hmem2⟩
            case measure => simp [intOf]
      · have HF := Lib.hid (show wrongT l b0 b1 s0 s1 = false by rw [HT.out, g0 (by omega), g1 (by omega)]; rfl)
        clear g0 g1
        obtain ⟨hbm, kg, kx⟩ := hmem
        go_wp2
        go_ret
        exact ⟨by rw [HF.out]; rfl, hbm⟩
end Go.Proofs.YtcmfkdhadmfgkaaDoor.Tb
