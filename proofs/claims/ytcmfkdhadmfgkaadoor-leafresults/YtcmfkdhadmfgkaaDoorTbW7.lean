/- The contract of the law's Some: a table that may be. -/
import Derived.Test.YtcmfkdhadmfgkaaDoorTbW6
namespace Go.Proofs.YtcmfkdhadmfgkaaDoor.Tb
open Go.RowKit Go.Proofs.YtcmfkdhadmfgkaaDoor.Ba

def soArr (l : Int) (b0 b1 s0 s1 y0 y1 z0 z1 : Nat) : Nat → Array Value
  | 0 => #[.int .i64 l, .int .u64 b0, .int .u64 b1, .int .u64 s0, .int .u64 s1]
  | 1 => #[.int .i64 l, .int .u64 y0, .int .u64 b1, .int .u64 z0, .int .u64 s1]
  | _ => #[.int .i64 l, .int .u64 y0, .int .u64 y1, .int .u64 z0, .int .u64 z1]
def SoRel (w : World) (TB : Nat) (l : Int) (b0 b1 s0 s1 y0 y1 z0 z1 : Nat) (i : Value) (wr : World) : Prop :=
  ∃ k : Nat, k ≤ 2 ∧ i = .int .i64 k ∧ Below w.heap.size w wr ∧ Blk wr TB 47 (soArr l b0 b1 s0 s1 y0 y1 z0 z1 k) ∧ Blk wr (w.heap.size + 1) 47 #[.int .i64 0, .int .u64 0, .int .u64 0, .int .u64 0, .int .u64 0]
set_option maxRecDepth 100000 in
set_option maxHeartbeats 4000000 in
theorem some1 (L : Int) (hL : L % 256 % 3 = 0) (b0 b1 s0 s1 : Nat) (h0 : b0 < 2 ^ 64) (h1 : b1 < 2 ^ 64) (h2 : s0 < 2 ^ 64) (h3 : s1 < 2 ^ 64) (w : World) :
    Calls Tryd.prog 24 #[Tab L b0 b1 s0 s1] w fun e w' => e = .returned (Tab 1 (b0 &&& 18446744073709551614) 0 (s0 &&& 18446744073709551615) 0) ∧ Below w.heap.size w w' := by
  have e255 := i64_and255 L
  have x0 : 0 ≤ L % 256 := by omega
  have x1 : L % 256 < 256 := by omega
  generalize L % 256 = x at *
  have an : bits .andNot .u64 18446744073709551615 1 = 18446744073709551614 := by decide
  have qb0 : bits .and .u64 (b0 : Int) 18446744073709551614 = ((b0 &&& 18446744073709551614 : Nat) : Int) := u64_and b0 18446744073709551614 (by omega) (by decide)
  have qb1 : bits .and .u64 (b1 : Int) 18446744073709551614 = ((b1 &&& 18446744073709551614 : Nat) : Int) := u64_and b1 18446744073709551614 (by omega) (by decide)
  have qs0 : bits .and .u64 (s0 : Int) 18446744073709551615 = ((s0 &&& 18446744073709551615 : Nat) : Int) := u64_and s0 18446744073709551615 (by omega) (by decide)
  have qs1 : bits .and .u64 (s1 : Int) 18446744073709551615 = ((s1 &&& 18446744073709551615 : Nat) : Int) := u64_and s1 18446744073709551615 (by omega) (by decide)
  generalize hyb0 : b0 &&& 18446744073709551614 = y0 at *
  generalize hyb1 : b1 &&& 18446744073709551614 = y1 at *
  generalize hys0 : s0 &&& 18446744073709551615 = z0 at *
  generalize hys1 : s1 &&& 18446744073709551615 = z1 at *
  clear hyb0 hyb1 hys0 hys1 h0 h1 h2 h3
  go_enter Tryd.func24, Tryd.ntmps24
  go_wp2_with fail
  refine (own_any L b0 b1 s0 s1 _).mono ?_
  rintro e w1 ⟨rfl, hb⟩
  have kr : Blk w1 w.heap.size 44 #[.int .i64 L, .int .u64 b0, .int .u64 b1, .int .u64 s0, .int .u64 s1] := ((Blk.newAt w _ _ _ rfl).alloc _).under hb
  have kz : Blk w1 (w.heap.size + 1) 47 #[.int .i64 0, .int .u64 0, .int .u64 0, .int .u64 0, .int .u64 0] := (Blk.newAt _ _ _ _ (by simp)).under hb
  have hb1 := below_call (B := w.heap.size) (w := w) hb (by go_grown) (by go_size)
  clear hb
  have r0 := kr.cell 0
  simp only [List.getElem?_toArray, List.getElem?_cons_zero] at r0
  have hzl := kz.lt
  have hrl := kr.lt
  have hz1 := hb1.size
  have hw1 : w.heap.size + 1 < w1.heap.size := hzl
  go_wp2_with fail
  have kt : Blk (w1.alloc (.cells #[.int .i64 1, .int .u64 b0, .int .u64 b1, .int .u64 s0, .int .u64 s1] 47)) w1.heap.size 47 #[.int .i64 1, .int .u64 b0, .int .u64 b1, .int .u64 s0, .int .u64 s1] := Blk.newAt w1 _ _ _ rfl
  have kz2 := kz.alloc (.cells #[.int .i64 1, .int .u64 b0, .int .u64 b1, .int .u64 s0, .int .u64 s1] 47)
  have hb2 : Below w.heap.size w (w1.alloc (.cells #[.int .i64 1, .int .u64 b0, .int .u64 b1, .int .u64 s0, .int .u64 s1] 47)) := hb1.alloc hz1 _
  have kt := kt.alloc (.cells #[.int .u64 0, .int .u64 18446744073709551615, .int .u64 15, .int .u64 8191] 41)
  have kz3 := kz2.alloc (.cells #[.int .u64 0, .int .u64 18446744073709551615, .int .u64 15, .int .u64 8191] 41)
  have hb3 := hb2.alloc hb2.size (.cells #[.int .u64 0, .int .u64 18446744073709551615, .int .u64 15, .int .u64 8191] 41)
  generalize w1.heap.size = TB at *
  go_loopw [19] (fun i wr => SoRel w TB 1 b0 b1 s0 s1 y0 y1 z0 z1 i wr) (fun i _ => 2 - (intOf i).toNat)
  case atStart => exact ⟨0, by omega, rfl, hb3, kt, kz3⟩
  case round =>
    clear hb3 kt kz3 kz2 hb2 kz kr r0 hb1 hzl hrl
    obtain ⟨k, hk, rfl, hb3, kt, kz⟩ := hrel
    have htl := kt.lt
    have hzl := kz.lt
    have c0 := kt.cell 0
    have f0 := kt.frozen 0
    have d0 := kz.cell 0
    have g0 := kz.frozen 0
    have c1 := kt.cell 1
    have f1 := kt.frozen 1
    have d1 := kz.cell 1
    have g1 := kz.frozen 1
    have c2 := kt.cell 2
    have f2 := kt.frozen 2
    have d2 := kz.cell 2
    have g2 := kz.frozen 2
    have c3 := kt.cell 3
    have f3 := kt.frozen 3
    have d3 := kz.cell 3
    have g3 := kz.frozen 3
    have c4 := kt.cell 4
    have f4 := kt.frozen 4
    have d4 := kz.cell 4
    have g4 := kz.frozen 4
    have hk3 : k = 0 ∨ k = 1 ∨ k = 2 := by omega
    rcases hk3 with rfl | rfl | rfl
    all_goals simp only [soArr, List.getElem?_toArray, List.getElem?_cons_zero, List.getElem?_cons_succ] at c0 c1 c2 c3 c4 d0 d1 d2 d3 d4 kt
    · go_wp2
      go_roundw
      case rel => exact ⟨1, by omega, by go_num, (hb3.setCell hz1 _).setCell hz1 _, (kt.set_ 1 _).set_ 3 _, (kz.far (by simp; omega) _).far (by simp; omega) _⟩
      case measure => simp [intOf]
    · go_wp2
      go_roundw
      case rel => exact ⟨2, by omega, by go_num, (hb3.setCell hz1 _).setCell hz1 _, (kt.set_ 2 _).set_ 4 _, (kz.far (by simp; omega) _).far (by simp; omega) _⟩
      case measure => simp [intOf]
    · clear an qb0 qb1 qs0 qs1 e255 hL x0 x1
      go_wp2
      exact bodyPost_ret (v := Tab 1 y0 0 z0 0) (by simp [results, Tryd.results24, go_sem, *]) rfl ⟨rfl, by repeat (first | with_reducible exact hb3 | with_reducible refine Below.setCell ?_ (by first | exact hz1 | exact Nat.le_succ _) _)⟩
set_option maxRecDepth 100000 in
set_option maxHeartbeats 4000000 in
theorem some2 (L : Int) (hL : L % 256 % 3 = 1) (b0 b1 s0 s1 : Nat) (h0 : b0 < 2 ^ 64) (h1 : b1 < 2 ^ 64) (h2 : s0 < 2 ^ 64) (h3 : s1 < 2 ^ 64) (w : World) :
    Calls Tryd.prog 24 #[Tab L b0 b1 s0 s1] w fun e w' => e = .returned (Tab 2 (b0 &&& 14) (b1 &&& 14) (s0 &&& 15) (s1 &&& 15)) ∧ Below w.heap.size w w' := by
  have e255 := i64_and255 L
  have x0 : 0 ≤ L % 256 := by omega
  have x1 : L % 256 < 256 := by omega
  generalize L % 256 = x at *
  have an : bits .andNot .u64 15 1 = 14 := by decide
  have qb0 : bits .and .u64 (b0 : Int) 14 = ((b0 &&& 14 : Nat) : Int) := u64_and b0 14 (by omega) (by decide)
  have qb1 : bits .and .u64 (b1 : Int) 14 = ((b1 &&& 14 : Nat) : Int) := u64_and b1 14 (by omega) (by decide)
  have qs0 : bits .and .u64 (s0 : Int) 15 = ((s0 &&& 15 : Nat) : Int) := u64_and s0 15 (by omega) (by decide)
  have qs1 : bits .and .u64 (s1 : Int) 15 = ((s1 &&& 15 : Nat) : Int) := u64_and s1 15 (by omega) (by decide)
  generalize hyb0 : b0 &&& 14 = y0 at *
  generalize hyb1 : b1 &&& 14 = y1 at *
  generalize hys0 : s0 &&& 15 = z0 at *
  generalize hys1 : s1 &&& 15 = z1 at *
  clear hyb0 hyb1 hys0 hys1 h0 h1 h2 h3
  go_enter Tryd.func24, Tryd.ntmps24
  go_wp2_with fail
  refine (own_any L b0 b1 s0 s1 _).mono ?_
  rintro e w1 ⟨rfl, hb⟩
  have kr : Blk w1 w.heap.size 44 #[.int .i64 L, .int .u64 b0, .int .u64 b1, .int .u64 s0, .int .u64 s1] := ((Blk.newAt w _ _ _ rfl).alloc _).under hb
  have kz : Blk w1 (w.heap.size + 1) 47 #[.int .i64 0, .int .u64 0, .int .u64 0, .int .u64 0, .int .u64 0] := (Blk.newAt _ _ _ _ (by simp)).under hb
  have hb1 := below_call (B := w.heap.size) (w := w) hb (by go_grown) (by go_size)
  clear hb
  have r0 := kr.cell 0
  simp only [List.getElem?_toArray, List.getElem?_cons_zero] at r0
  have hzl := kz.lt
  have hrl := kr.lt
  have hz1 := hb1.size
  have hw1 : w.heap.size + 1 < w1.heap.size := hzl
  go_wp2_with fail
  have kt : Blk (w1.alloc (.cells #[.int .i64 2, .int .u64 b0, .int .u64 b1, .int .u64 s0, .int .u64 s1] 47)) w1.heap.size 47 #[.int .i64 2, .int .u64 b0, .int .u64 b1, .int .u64 s0, .int .u64 s1] := Blk.newAt w1 _ _ _ rfl
  have kz2 := kz.alloc (.cells #[.int .i64 2, .int .u64 b0, .int .u64 b1, .int .u64 s0, .int .u64 s1] 47)
  have hb2 : Below w.heap.size w (w1.alloc (.cells #[.int .i64 2, .int .u64 b0, .int .u64 b1, .int .u64 s0, .int .u64 s1] 47)) := hb1.alloc hz1 _
  have kt := kt.alloc (.cells #[.int .u64 0, .int .u64 18446744073709551615, .int .u64 15, .int .u64 8191] 41)
  have kz3 := kz2.alloc (.cells #[.int .u64 0, .int .u64 18446744073709551615, .int .u64 15, .int .u64 8191] 41)
  have hb3 := hb2.alloc hb2.size (.cells #[.int .u64 0, .int .u64 18446744073709551615, .int .u64 15, .int .u64 8191] 41)
  generalize w1.heap.size = TB at *
  go_loopw [19] (fun i wr => SoRel w TB 2 b0 b1 s0 s1 y0 y1 z0 z1 i wr) (fun i _ => 2 - (intOf i).toNat)
  case atStart => exact ⟨0, by omega, rfl, hb3, kt, kz3⟩
  case round =>
    clear hb3 kt kz3 kz2 hb2 kz kr r0 hb1 hzl hrl
    obtain ⟨k, hk, rfl, hb3, kt, kz⟩ := hrel
    have htl := kt.lt
    have hzl := kz.lt
    have c0 := kt.cell 0
    have f0 := kt.frozen 0
    have d0 := kz.cell 0
    have g0 := kz.frozen 0
    have c1 := kt.cell 1
    have f1 := kt.frozen 1
    have d1 := kz.cell 1
    have g1 := kz.frozen 1
    have c2 := kt.cell 2
    have f2 := kt.frozen 2
    have d2 := kz.cell 2
    have g2 := kz.frozen 2
    have c3 := kt.cell 3
    have f3 := kt.frozen 3
    have d3 := kz.cell 3
    have g3 := kz.frozen 3
    have c4 := kt.cell 4
    have f4 := kt.frozen 4
    have d4 := kz.cell 4
    have g4 := kz.frozen 4
    have hk3 : k = 0 ∨ k = 1 ∨ k = 2 := by omega
    rcases hk3 with rfl | rfl | rfl
    all_goals simp only [soArr, List.getElem?_toArray, List.getElem?_cons_zero, List.getElem?_cons_succ] at c0 c1 c2 c3 c4 d0 d1 d2 d3 d4 kt
    · go_wp2
      go_roundw
      case rel => exact ⟨1, by omega, by go_num, (hb3.setCell hz1 _).setCell hz1 _, (kt.set_ 1 _).set_ 3 _, (kz.far (by simp; omega) _).far (by simp; omega) _⟩
      case measure => simp [intOf]
    · go_wp2
      go_roundw
      case rel => exact ⟨2, by omega, by go_num, (hb3.setCell hz1 _).setCell hz1 _, (kt.set_ 2 _).set_ 4 _, (kz.far (by simp; omega) _).far (by simp; omega) _⟩
      case measure => simp [intOf]
    · clear an qb0 qb1 qs0 qs1 e255 hL x0 x1
      go_wp2
      exact bodyPost_ret (v := Tab 2 y0 y1 z0 z1) (by simp [results, Tryd.results24, go_sem, *]) rfl ⟨rfl, by repeat (first | with_reducible exact hb3 | with_reducible refine Below.setCell ?_ (by first | exact hz1 | exact Nat.le_succ _) _)⟩
set_option maxRecDepth 100000 in
set_option maxHeartbeats 4000000 in
theorem some3 (L : Int) (hL : L % 256 % 3 = 2) (b0 b1 s0 s1 : Nat) (h0 : b0 < 2 ^ 64) (h1 : b1 < 2 ^ 64) (h2 : s0 < 2 ^ 64) (h3 : s1 < 2 ^ 64) (w : World) :
    Calls Tryd.prog 24 #[Tab L b0 b1 s0 s1] w fun e w' => e = .returned (Tab 3 (b0 &&& 8190) (b1 &&& 8190) (s0 &&& 8191) (s1 &&& 8191)) ∧ Below w.heap.size w w' := by
  have e255 := i64_and255 L
  have x0 : 0 ≤ L % 256 := by omega
  have x1 : L % 256 < 256 := by omega
  generalize L % 256 = x at *
  have an : bits .andNot .u64 8191 1 = 8190 := by decide
  have qb0 : bits .and .u64 (b0 : Int) 8190 = ((b0 &&& 8190 : Nat) : Int) := u64_and b0 8190 (by omega) (by decide)
  have qb1 : bits .and .u64 (b1 : Int) 8190 = ((b1 &&& 8190 : Nat) : Int) := u64_and b1 8190 (by omega) (by decide)
  have qs0 : bits .and .u64 (s0 : Int) 8191 = ((s0 &&& 8191 : Nat) : Int) := u64_and s0 8191 (by omega) (by decide)
  have qs1 : bits .and .u64 (s1 : Int) 8191 = ((s1 &&& 8191 : Nat) : Int) := u64_and s1 8191 (by omega) (by decide)
  generalize hyb0 : b0 &&& 8190 = y0 at *
  generalize hyb1 : b1 &&& 8190 = y1 at *
  generalize hys0 : s0 &&& 8191 = z0 at *
  generalize hys1 : s1 &&& 8191 = z1 at *
  clear hyb0 hyb1 hys0 hys1 h0 h1 h2 h3
  go_enter Tryd.func24, Tryd.ntmps24
  go_wp2_with fail
  refine (own_any L b0 b1 s0 s1 _).mono ?_
  rintro e w1 ⟨rfl, hb⟩
  have kr : Blk w1 w.heap.size 44 #[.int .i64 L, .int .u64 b0, .int .u64 b1, .int .u64 s0, .int .u64 s1] := ((Blk.newAt w _ _ _ rfl).alloc _).under hb
  have kz : Blk w1 (w.heap.size + 1) 47 #[.int .i64 0, .int .u64 0, .int .u64 0, .int .u64 0, .int .u64 0] := (Blk.newAt _ _ _ _ (by simp)).under hb
  have hb1 := below_call (B := w.heap.size) (w := w) hb (by go_grown) (by go_size)
  clear hb
  have r0 := kr.cell 0
  simp only [List.getElem?_toArray, List.getElem?_cons_zero] at r0
  have hzl := kz.lt
  have hrl := kr.lt
  have hz1 := hb1.size
  have hw1 : w.heap.size + 1 < w1.heap.size := hzl
  go_wp2_with fail
  have kt : Blk (w1.alloc (.cells #[.int .i64 3, .int .u64 b0, .int .u64 b1, .int .u64 s0, .int .u64 s1] 47)) w1.heap.size 47 #[.int .i64 3, .int .u64 b0, .int .u64 b1, .int .u64 s0, .int .u64 s1] := Blk.newAt w1 _ _ _ rfl
  have kz2 := kz.alloc (.cells #[.int .i64 3, .int .u64 b0, .int .u64 b1, .int .u64 s0, .int .u64 s1] 47)
  have hb2 : Below w.heap.size w (w1.alloc (.cells #[.int .i64 3, .int .u64 b0, .int .u64 b1, .int .u64 s0, .int .u64 s1] 47)) := hb1.alloc hz1 _
  have kt := kt.alloc (.cells #[.int .u64 0, .int .u64 18446744073709551615, .int .u64 15, .int .u64 8191] 41)
  have kz3 := kz2.alloc (.cells #[.int .u64 0, .int .u64 18446744073709551615, .int .u64 15, .int .u64 8191] 41)
  have hb3 := hb2.alloc hb2.size (.cells #[.int .u64 0, .int .u64 18446744073709551615, .int .u64 15, .int .u64 8191] 41)
  generalize w1.heap.size = TB at *
  go_loopw [19] (fun i wr => SoRel w TB 3 b0 b1 s0 s1 y0 y1 z0 z1 i wr) (fun i _ => 2 - (intOf i).toNat)
  case atStart => exact ⟨0, by omega, rfl, hb3, kt, kz3⟩
  case round =>
    clear hb3 kt kz3 kz2 hb2 kz kr r0 hb1 hzl hrl
    obtain ⟨k, hk, rfl, hb3, kt, kz⟩ := hrel
    have htl := kt.lt
    have hzl := kz.lt
    have c0 := kt.cell 0
    have f0 := kt.frozen 0
    have d0 := kz.cell 0
    have g0 := kz.frozen 0
    have c1 := kt.cell 1
    have f1 := kt.frozen 1
    have d1 := kz.cell 1
    have g1 := kz.frozen 1
    have c2 := kt.cell 2
    have f2 := kt.frozen 2
    have d2 := kz.cell 2
    have g2 := kz.frozen 2
    have c3 := kt.cell 3
    have f3 := kt.frozen 3
    have d3 := kz.cell 3
    have g3 := kz.frozen 3
    have c4 := kt.cell 4
    have f4 := kt.frozen 4
    have d4 := kz.cell 4
    have g4 := kz.frozen 4
    have hk3 : k = 0 ∨ k = 1 ∨ k = 2 := by omega
    rcases hk3 with rfl | rfl | rfl
    all_goals simp only [soArr, List.getElem?_toArray, List.getElem?_cons_zero, List.getElem?_cons_succ] at c0 c1 c2 c3 c4 d0 d1 d2 d3 d4 kt
    · go_wp2
      go_roundw
      case rel => exact ⟨1, by omega, by go_num, (hb3.setCell hz1 _).setCell hz1 _, (kt.set_ 1 _).set_ 3 _, (kz.far (by simp; omega) _).far (by simp; omega) _⟩
      case measure => simp [intOf]
    · go_wp2
      go_roundw
      case rel => exact ⟨2, by omega, by go_num, (hb3.setCell hz1 _).setCell hz1 _, (kt.set_ 2 _).set_ 4 _, (kz.far (by simp; omega) _).far (by simp; omega) _⟩
      case measure => simp [intOf]
    · clear an qb0 qb1 qs0 qs1 e255 hL x0 x1
      go_wp2
      exact bodyPost_ret (v := Tab 3 y0 y1 z0 z1) (by simp [results, Tryd.results24, go_sem, *]) rfl ⟨rfl, by repeat (first | with_reducible exact hb3 | with_reducible refine Below.setCell ?_ (by first | exact hz1 | exact Nat.le_succ _) _)⟩
end Go.Proofs.YtcmfkdhadmfgkaaDoor.Tb
