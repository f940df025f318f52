/- set's Box; the laws' awake. -/
import Derived.Test.YtplldlfbcblncaaGreatDoorSeW5
import Derived.Test.YtplldlfbcblncaaGreatDoorSeO
namespace Go.Proofs.YtplldlfbcblncaaGreatDoor.Se
open Go.RowKit Go.Proofs.YtplldlfbcblncaaGreatDoor.Ax Go.Proofs.YtplldlfbcblncaaGreatDoor.Ba Go.Shelf Go.Lib Go.Sort

abbrev Q := Int × Int × Int × Int
def bstep (a : Q) (c : C) : Q := (min a.1 c.1, min a.2.1 c.2.1, max a.2.2.1 c.1, max a.2.2.2 c.2.1)
def boxN (L : List C) (x : C) (k : Nat) : Q := (L.take k).foldl bstep (x.1, x.2.1, x.1, x.2.1)
def boxL : List C → Q
  | [] => (0, 0, 0, 0)
  | x :: L => boxN (x :: L) x (x :: L).length
theorem boxN_succ {L : List C} {x y : C} {k : Nat} (h : L[k]? = some y) : boxN L x (k + 1) = bstep (boxN L x k) y := by
  unfold boxN
  rw [List.take_add_one, h]
  simp
abbrev Bx (q : Q) : Array Value := #[.int .i64 q.1, .int .i64 q.2.1, .int .i64 q.2.2.1, .int .i64 q.2.2.2]
def BoR (w : World) (B : Nat) (L : List C) (x : C) (i : Value) (wr : World) : Prop :=
  ∃ k : Nat, k ≤ L.length ∧ i = .int .i64 k ∧ Blk wr B 50 (Bx (boxN L x k)) ∧ Blk wr w.heap.size 50 #[.int .i64 0, .int .i64 0, .int .i64 0, .int .i64 0] ∧ Below w.heap.size w wr ∧ w.heap.size < B
def Bo3 (w1 : World) (q : Q) (v : Value) (wx : World) : Prop := ∃ B, v = .pointer (some ⟨B, 0, none⟩) ∧ Blk wx B 50 (Bx q) ∧ w1.heap.size ≤ B ∧ Below w1.heap.size w1 wx
set_option maxRecDepth 100000 in
set_option maxHeartbeats 4000000 in
theorem box_row (g cap : Nat) (L : List C) (x : C) (w : World) (hr : Row w g L) (hx : L[0]? = some x) (hL : L.length ≤ 1000000) :
    Calls Tryz.prog 15 #[.slice (some ⟨g, 0, none⟩) L.length cap] w fun e w' => e = .returned (.tuple #[.agg (Bx (boxN L x L.length)), .bool true]) ∧ Below w.heap.size w w' := by
  have hl : 0 < L.length := (List.getElem?_eq_some_iff.1 hx).1
  have hl' : ((L.length : Int) == 0) = false := beq_eq_false_iff_ne.2 (by omega)
  go_enter Tryz.func15, Tryz.ntmps15
  go_upto_region 3 with fail
  have k0 := Blk.newAt w 50 #[.int .i64 0, .int .i64 0, .int .i64 0, .int .i64 0] _ rfl
  have hb0 : Below w.heap.size w (w.alloc (.cells #[.int .i64 0, .int .i64 0, .int .i64 0, .int .i64 0] 50)) := (Below.refl _ _).alloc (Nat.le_refl _) _
  have hr0 := hr.below hb0
  have hk0 := k0.lt
  generalize w.alloc (.cells #[.int .i64 0, .int .i64 0, .int .i64 0, .int .i64 0] 50) = w1 at *
  obtain ⟨c0, c1, c2⟩ := hr0.1 0 x hx
  simp only [Nat.zero_mul, Nat.zero_add] at c0 c1 c2
  have hgl := hr0.2
  have hi0 : (0 : Int) < (L.length : Int) := by omega
  go_cut [4] (fun v wx => Bo3 w1 (x.1, x.2.1, x.1, x.2.1) v wx)
  case first =>
    go_region
    all_goals go_wp2_with fail
    all_goals go_meet
    all_goals exact ⟨w1.heap.size, rfl, by first | exact Blk.newAt w1 _ _ _ rfl | simp [Blk, go_sem], Nat.le_refl _, by go_grown⟩
  case rest =>
    obtain ⟨B, rfl, kB, hB, hbB⟩ := hcut
    have hr1 := hr0.below hbB
    have k1 := k0.under hbB
    have hb1 := hb0.trans (hbB.mono hb0.size)
    have hwB : w.heap.size < B := by omega
    have HRW := Lib.hid hr
    clear c0 c1 c2 hgl hr0 k0 hb0 hk0 hB hbB hr hr1
    go_wp2_with fail
    go_loopw [22] (fun i wr => BoR w B L x i wr) (fun i _ => L.length - (intOf i).toNat)
    case atStart => exact ⟨0, Nat.zero_le _, rfl, kB, k1, hb1, hwB⟩
    case round =>
      clear k1 hb1 kB
      obtain ⟨k, hk, rfl, kB, k1, hb, _⟩ := hrel
      have hr := HRW.out.below hb
      have hz := hb.size
      by_cases hlt : k < L.length
      · obtain ⟨y, hy⟩ : ∃ y, L[k]? = some y := ⟨_, List.getElem?_eq_getElem hlt⟩
        obtain ⟨c0, c1, c2⟩ := hr.1 k y hy
        have HS := Lib.hid (boxN_succ (x := x) hy)
        clear hy
        obtain ⟨⟨la, lb, ha, hbb⟩, hq⟩ : ∃ q, boxN L x k = q := ⟨_, rfl⟩
        rw [hq] at kB HS
        clear hq
        have b0 := kB.cell 0
        have b1 := kB.cell 1
        have b2 := kB.cell 2
        have b3 := kB.cell 3
        have f0 := kB.frozen 0
        have f1 := kB.frozen 1
        have f2 := kB.frozen 2
        have f3 := kB.frozen 3
        simp only [List.getElem?_toArray, List.getElem?_cons_zero, List.getElem?_cons_succ] at b0 b1 b2 b3
        have hgl := hr.2
        have hBl := kB.lt
        obtain ⟨ya, yb, yh⟩ := y
        dsimp only at c0 c1 c2
        have hBn : B ≠ wr.heap.size := by omega
        go_wp2_with fail
        go_roundw
        case rel =>
          refine ⟨k + 1, by omega, by go_num, ?_, ?_, ?_, hwB⟩
          · rw [HS.out]
            exact ((((kB.set_ 0 _).set_ 1 _).set_ 2 _).set_ 3 _).alloc _
          · exact ((((k1.far (by simp; omega) _).far (by simp; omega) _).far (by simp; omega) _).far (by simp; omega) _).alloc _
          · go_grown
        case measure => simp [intOf]; omega
      · obtain rfl : k = L.length := by omega
        have q0 := k1.frozen 0
        have q1 := k1.frozen 1
        have q2 := k1.frozen 2
        have q3 := k1.frozen 3
        have r0 := k1.cell 0
        have r1 := k1.cell 1
        have r2 := k1.cell 2
        have r3 := k1.cell 3
        have b0 := kB.cell 0
        have b1 := kB.cell 1
        have b2 := kB.cell 2
        have b3 := kB.cell 3
        simp only [List.getElem?_toArray, List.getElem?_cons_zero, List.getElem?_cons_succ] at r0 r1 r2 r3 b0 b1 b2 b3
        have hBl := kB.lt
        have hRl := k1.lt
        obtain ⟨⟨la, lb, ha, hbb⟩, hq⟩ : ∃ q, boxN L x L.length = q := ⟨_, rfl⟩
        have HQ := Lib.hid hq
        rw [hq] at b0 b1 b2 b3
        dsimp only at b0 b1 b2 b3
        clear hq kB
        go_wp2_with fail
        exact bodyPost_ret (v := .tuple #[.agg (Bx (la, lb, ha, hbb)), .bool true]) (by simp [results, Tryz.results15, go_sem, *]) rfl ⟨by rw [HQ.out], by go_grown⟩
theorem box_nil (w : World) (p : Option Addr) (cap : Nat) :
    Calls Tryz.prog 15 #[.slice p 0 cap] w fun e w' => e = .returned (.tuple #[.agg (Bx (0, 0, 0, 0)), .bool false]) ∧ Below w.heap.size w w' := by
  go_enter Tryz.func15, Tryz.ntmps15
  go_wp2
  exact bodyPost_ret (v := .tuple #[.agg (Bx (0, 0, 0, 0)), .bool false]) (by simp [results, Tryz.results15, go_sem, *]) rfl ⟨rfl, by go_grown⟩
theorem box_any (v : Value) (L : List C) (w : World) (h : SetAt w v L) (hL : L.length ≤ 1000000) :
    Calls Tryz.prog 15 #[v] w fun e w' => e = .returned (.tuple #[.agg (Bx (boxL L)), .bool (decide (L ≠ []))]) ∧ Below w.heap.size w w' := by
  rcases h with ⟨rfl, rfl⟩ | ⟨g, cap, rfl, _, hr⟩
  · exact box_nil w none 0
  · cases L with
    | nil => exact box_nil w _ cap
    | cons x M => exact box_row g cap (x :: M) x w hr rfl hL
theorem lit3 : ofL [(1, 0, 0), (0, 0, 0), (1, 0, 0)] = [(0, 0, 0), (1, 0, 0)] := by decide
theorem lit3r : Rising [(0, 0, 0), (1, 0, 0)] := by rw [← lit3]; exact rising_ofL _
set_option maxRecDepth 100000 in
set_option maxHeartbeats 4000000 in
theorem awake4_any (w : World) :
    Calls Tryz.prog 4 #[] w fun e w' => e = .returned (.bool true) ∧ Below w.heap.size w w' := by
  have o1 := own3_any (1, 0, 0)
  have o0 := own3_any (0, 0, 0)
  dsimp only [Ce] at o0 o1
  go_enter Tryz.func4, Tryz.ntmps4
  go_wp2_with fail
  refine (o1 _).mono ?_
  rintro e w1 ⟨rfl, hb1⟩
  go_wp2_with fail
  refine (o0 _).mono ?_
  rintro e w2 ⟨rfl, hb2⟩
  go_wp2_with fail
  refine (o1 _).mono ?_
  rintro e w3 ⟨rfl, hb3⟩
  have hb : Below w.heap.size w w3 := hb1.trans ((hb2.mono hb1.size).trans (hb3.mono (Nat.le_trans hb1.size hb2.size)))
  clear hb1 hb2 hb3
  go_wp2_with fail
  have k4 := Blk.newAt w3 45 #[.int .i64 1, .int .i64 0, .int .i64 0, .int .i64 0, .int .i64 0, .int .i64 0, .int .i64 1, .int .i64 0, .int .i64 0] _ rfl
  have hb4 := hb.alloc hb.size (.cells #[.int .i64 1, .int .i64 0, .int .i64 0, .int .i64 0, .int .i64 0, .int .i64 0, .int .i64 1, .int .i64 0, .int .i64 0] 45)
  have hof := of_any (.slice (some ⟨w3.heap.size, 0, none⟩) 3 3) [(1, 0, 0), (0, 0, 0), (1, 0, 0)] (w3.alloc (.cells #[.int .i64 1, .int .i64 0, .int .i64 0, .int .i64 0, .int .i64 0, .int .i64 0, .int .i64 1, .int .i64 0, .int .i64 0] 45))
    (.inr ⟨_, 3, rfl, by decide, ⟨fun i d hd => by
      have hi : i < 3 := (List.getElem?_eq_some_iff.1 hd).1
      have h3 : i = 0 ∨ i = 1 ∨ i = 2 := by omega
      rcases h3 with rfl | rfl | rfl <;> simp at hd <;> subst hd <;> exact ⟨k4.cell _, k4.cell _, k4.cell _⟩, k4.lt⟩⟩) (by decide)
  rw [lit3] at hof
  refine hof.mono ?_
  rintro e w5 ⟨v5, rfl, hset, hb5⟩
  have hb6 := hb4.trans (hb5.mono hb4.size)
  clear hof k4 hb4 hb5 hb
  have hbx := box_any v5 _ w5 hset (by decide)
  go_wp2_with fail
  refine hbx.mono ?_
  rintro e w6 ⟨rfl, hb7⟩
  have hset6 := hset.below hb7
  have hb8 := hb6.trans (hb7.mono hb6.size)
  clear hb6 hb7 hset hbx
  rw [show decide (([(0, 0, 0), (1, 0, 0)] : List C) ≠ []) = true from rfl]
  generalize boxL [(0, 0, 0), (1, 0, 0)] = q
  rcases id hset6 with ⟨_, h⟩ | ⟨g, cap, rfl, hcap, hr⟩
  · cases h
  · obtain ⟨c0, c1, c2⟩ := hr.1 0 (0, 0, 0) rfl
    simp only [Nat.zero_mul, Nat.zero_add] at c0 c1 c2
    have hgl := hr.2
    have ez : ∀ w, (binOp .eql 45 (.agg #[.int .i64 0, .int .i64 0, .int .i64 0]) (.agg #[.int .i64 0, .int .i64 0, .int .i64 0])).run Tryz.prog w = .ok (.bool true) w := fun w => eq_c (0, 0, 0) (0, 0, 0) w
    have hz8 := hb8.size
    rw [show ([(0, 0, 0), (1, 0, 0)] : List C).length = 2 from rfl]
    go_wp2_with fail
    refine (o1 _).mono ?_
    rintro e w9 ⟨rfl, hb9⟩
    have hbq : Below w6.heap.size w6 w9 := ((Below.refl w6.heap.size w6).alloc (Nat.le_refl _) _).trans (hb9.mono (by simp))
    have hset9 := hset6.below hbq
    have hb10 := hb8.trans (hbq.mono hz8)
    clear hb9 hbq hb8 hset6 c0 c1 c2 hgl hr ez
    have hha := has_any _ _ (1, 0, 0) w9 hset9 lit3r (by decide)
    rw [show decide (((1, 0, 0) : C) ∈ [((0, 0, 0) : C), (1, 0, 0)]) = true by decide, show ([(0, 0, 0), (1, 0, 0)] : List C).length = 2 from rfl] at hha
    dsimp only [Ce] at hha
    go_wp2_with fail
    refine hha.mono ?_
    rintro e w11 ⟨rfl, hb11⟩
    have hb12 := hb10.trans (hb11.mono hb10.size)
    go_wp2_with fail
    go_ret
    exact ⟨rfl, hb12⟩
end Go.Proofs.YtplldlfbcblncaaGreatDoor.Se
