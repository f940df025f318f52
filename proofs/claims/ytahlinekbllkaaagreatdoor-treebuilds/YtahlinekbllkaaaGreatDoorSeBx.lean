/- set's Box. -/
import Derived.Test.YtahlinekbllkaaaGreatDoorSeL
import Derived.Deep.RegionHeld3
import Derived.Deep.DeepCutAuto
import Derived.BigRegion
namespace Go.Proofs.YtahlinekbllkaaaGreatDoor.Se
open Go.RowKit Go.Proofs.YtahlinekbllkaaaGreatDoor.Ax Go.Proofs.YtahlinekbllkaaaGreatDoor.Ba Go.Lib

abbrev Q := Int × Int × Int × Int
def bstep (a : Q) (c : C) : Q := (min a.1 c.1, min a.2.1 c.2.1, max a.2.2.1 c.1, max a.2.2.2 c.2.1)
def boxN (L : List C) (x : C) (k : Nat) : Q := (L.take k).foldl bstep (x.1, x.2.1, x.1, x.2.1)
def boxL : List C → Q
  | [] => (0, 0, 0, 0)
  | x :: L => boxN (x :: L) x (x :: L).length
theorem boxN_succ {L : List C} {x y : C} {k : Nat} (h : L[k]? = some y) : boxN L x (k + 1) = bstep (boxN L x k) y := by
  unfold boxN
  rw [List.take_add_one, h]
  simp
abbrev Bx (q : Q) : Array Value := #[.int .i64 q.1, .int .i64 q.2.1, .int .i64 q.2.2.1, .int .i64 q.2.2.2]
def BoR (w : World) (B : Nat) (L : List C) (x : C) (i : Value) (wr : World) : Prop :=
  ∃ k : Nat, k ≤ L.length ∧ i = .int .i64 k ∧ Blk wr B 40 (Bx (boxN L x k)) ∧ Blk wr w.heap.size 40 #[.int .i64 0, .int .i64 0, .int .i64 0, .int .i64 0] ∧ Below w.heap.size w wr ∧ w.heap.size < B
def Bo3 (w1 : World) (q : Q) (v : Value) (wx : World) : Prop := ∃ B, v = .pointer (some ⟨B, 0, none⟩) ∧ Blk wx B 40 (Bx q) ∧ w1.heap.size ≤ B ∧ Below w1.heap.size w1 wx
set_option maxRecDepth 100000 in
set_option maxHeartbeats 4000000 in
theorem box_row (g cap : Nat) (L : List C) (x : C) (w : World) (hr : Row w g L) (hx : L[0]? = some x) (hL : L.length ≤ 1000000) :
    Calls Tryz.prog 55 #[.slice (some ⟨g, 0, none⟩) L.length cap] w fun e w' => e = .returned (.tuple #[.agg (Bx (boxN L x L.length)), .bool true]) ∧ Below w.heap.size w w' := by
  have hl : 0 < L.length := (List.getElem?_eq_some_iff.1 hx).1
  have hl' : ((L.length : Int) == 0) = false := beq_eq_false_iff_ne.2 (by omega)
  go_enter Tryz.func55, Tryz.ntmps55
  go_upto_region 3 with fail
  have k0 := Blk.newAt w 40 #[.int .i64 0, .int .i64 0, .int .i64 0, .int .i64 0] _ rfl
  have hb0 : Below w.heap.size w (w.alloc (.cells #[.int .i64 0, .int .i64 0, .int .i64 0, .int .i64 0] 40)) := (Below.refl _ _).alloc (Nat.le_refl _) _
  have hr0 := hr.below hb0
  have hk0 := k0.lt
  generalize w.alloc (.cells #[.int .i64 0, .int .i64 0, .int .i64 0, .int .i64 0] 40) = w1 at *
  obtain ⟨c0, c1, c2⟩ := hr0.1 0 x hx
  simp only [Nat.zero_mul, Nat.zero_add] at c0 c1 c2
  have hgl := hr0.2
  have hi0 : (0 : Int) < (L.length : Int) := by omega
  go_cut [4] (fun v wx => Bo3 w1 (x.1, x.2.1, x.1, x.2.1) v wx)
  case first =>
    go_region
    all_goals go_wp2_with fail
    all_goals go_meet
    all_goals exact ⟨w1.heap.size, rfl, by first | exact Blk.newAt w1 _ _ _ rfl | simp [Blk, go_sem], Nat.le_refl _, by go_grown⟩
  case rest =>
    obtain ⟨B, rfl, kB, hB, hbB⟩ := hcut
    have hr1 := hr0.below hbB
    have k1 := k0.under hbB
    have hb1 := hb0.trans (hbB.mono hb0.size)
    have hwB : w.heap.size < B := by omega
    have HRW := Lib.hid hr
    clear c0 c1 c2 hgl hr0 k0 hb0 hk0 hB hbB hr hr1
    go_wp2_with fail
    go_loopw [22] (fun i wr => BoR w B L x i wr) (fun i _ => L.length - (intOf i).toNat)
    case atStart => exact ⟨0, Nat.zero_le _, rfl, kB, k1, hb1, hwB⟩
    case round =>
      clear k1 hb1 kB
      obtain ⟨k, hk, rfl, kB, k1, hb, _⟩ := hrel
      have hr := HRW.out.below hb
      have hz := hb.size
      by_cases hlt : k < L.length
      · obtain ⟨y, hy⟩ : ∃ y, L[k]? = some y := ⟨_, List.getElem?_eq_getElem hlt⟩
        obtain ⟨c0, c1, c2⟩ := hr.1 k y hy
        have HS := Lib.hid (boxN_succ (x := x) hy)
        clear hy
        obtain ⟨⟨la, lb, ha, hbb⟩, hq⟩ : ∃ q, boxN L x k = q := ⟨_, rfl⟩
        rw [hq] at kB HS
        clear hq
        have b0 := kB.cell 0
        have b1 := kB.cell 1
        have b2 := kB.cell 2
        have b3 := kB.cell 3
        have f0 := kB.frozen 0
        have f1 := kB.frozen 1
        have f2 := kB.frozen 2
        have f3 := kB.frozen 3
        simp only [List.getElem?_toArray, List.getElem?_cons_zero, List.getElem?_cons_succ] at b0 b1 b2 b3
        have hgl := hr.2
        have hBl := kB.lt
        obtain ⟨ya, yb, yh⟩ := y
        dsimp only at c0 c1 c2
        have hBn : B ≠ wr.heap.size := by omega
        go_wp2_with fail
        go_roundw
        case rel =>
          refine ⟨k + 1, by omega, by go_num, ?_, ?_, ?_, hwB⟩
          · rw [HS.out]
            have e1 : (if ya < la then ya else la) = min la ya := by split <;> omega
            have e2 : (if yb < lb then yb else lb) = min lb yb := by split <;> omega
            have e3 : (if ha < ya then ya else ha) = max ha ya := by split <;> omega
            have e4 : (if hbb < yb then yb else hbb) = max hbb yb := by split <;> omega
            (try rw [e1, e2, e3, e4])
            exact ((((kB.set_ 0 _).set_ 1 _).set_ 2 _).set_ 3 _).alloc _
          · exact ((((k1.far (by simp; omega) _).far (by simp; omega) _).far (by simp; omega) _).far (by simp; omega) _).alloc _
          · go_grown
        case measure => simp [intOf]; omega
      · obtain rfl : k = L.length := by omega
        have q0 := k1.frozen 0
        have q1 := k1.frozen 1
        have q2 := k1.frozen 2
        have q3 := k1.frozen 3
        have r0 := k1.cell 0
        have r1 := k1.cell 1
        have r2 := k1.cell 2
        have r3 := k1.cell 3
        have b0 := kB.cell 0
        have b1 := kB.cell 1
        have b2 := kB.cell 2
        have b3 := kB.cell 3
        simp only [List.getElem?_toArray, List.getElem?_cons_zero, List.getElem?_cons_succ] at r0 r1 r2 r3 b0 b1 b2 b3
        have hBl := kB.lt
        have hRl := k1.lt
        obtain ⟨⟨la, lb, ha, hbb⟩, hq⟩ : ∃ q, boxN L x L.length = q := ⟨_, rfl⟩
        have HQ := Lib.hid hq
        rw [hq] at b0 b1 b2 b3
        dsimp only at b0 b1 b2 b3
        clear hq kB
        go_wp2_with fail
        exact bodyPost_ret (v := .tuple #[.agg (Bx (la, lb, ha, hbb)), .bool true]) (by simp [results, Tryz.results55, go_sem, *]) rfl ⟨by rw [HQ.out], by go_grown⟩
theorem box_nil (w : World) (p : Option Addr) (cap : Nat) :
    Calls Tryz.prog 55 #[.slice p 0 cap] w fun e w' => e = .returned (.tuple #[.agg (Bx (0, 0, 0, 0)), .bool false]) ∧ Below w.heap.size w w' := by
  go_enter Tryz.func55, Tryz.ntmps55
  go_wp2
  exact bodyPost_ret (v := .tuple #[.agg (Bx (0, 0, 0, 0)), .bool false]) (by simp [results, Tryz.results55, go_sem, *]) rfl ⟨rfl, by go_grown⟩
theorem box_any (v : Value) (L : List C) (w : World) (h : SetAt w v L) (hL : L.length ≤ 1000000) :
    Calls Tryz.prog 55 #[v] w fun e w' => e = .returned (.tuple #[.agg (Bx (boxL L)), .bool (decide (L ≠ []))]) ∧ Below w.heap.size w w' := by
  rcases h with ⟨rfl, rfl⟩ | ⟨g, cap, rfl, _, hr⟩
  · exact box_nil w none 0
  · cases L with
    | nil => exact box_nil w _ cap
    | cons x M => exact box_row g cap (x :: M) x w hr rfl hL
end Go.Proofs.YtahlinekbllkaaaGreatDoor.Se
