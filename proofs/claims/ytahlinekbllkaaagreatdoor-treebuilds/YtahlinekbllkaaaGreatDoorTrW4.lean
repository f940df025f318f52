/- Contracts of package tree: parted. -/
import Derived.Test.YtahlinekbllkaaaGreatDoorTrW3
import Derived.Deep.RegionHeld3
import Derived.Deep.DeepCutAuto
import Derived.StillTailTactics
namespace Go.Proofs.YtahlinekbllkaaaGreatDoor.Tr
open Go.RowKit Go.Proofs.YtahlinekbllkaaaGreatDoor.Ba Go.Lib

/-- What is left of them from a kid on. -/
def rst (d : Nat) (x y : Int) (q : Nat) (L : List Plot) : List Plot := L.filter fun p => decide (q ≤ twd d x y p.1)
theorem rst_zero (d : Nat) (x y : Int) (L : List Plot) : rst d x y 0 L = L := List.filter_eq_self.2 fun p _ => by simp
theorem rst_four (d : Nat) (x y : Int) (L : List Plot) : rst d x y 4 L = [] := List.filter_eq_nil_iff.2 fun p _ => by have := twd_lt d x y p.1; simp; omega
theorem rst_next {d : Nat} {x y : Int} (q : Nat) : ∀ {L : List Plot}, SortedP d x y L → rst d x y q L = prt d x y q L ++ rst d x y (q + 1) L
  | [], _ => rfl
  | p :: L, h => by
    obtain ⟨h1, h2⟩ := List.pairwise_cons.1 h
    have ih := rst_next q h2
    unfold rst prt at ih ⊢
    by_cases a : twd d x y p.1 = q
    · rw [List.filter_cons_of_pos (by simp; omega), List.filter_cons_of_pos (by simp; omega), List.filter_cons_of_neg (by simp; omega), List.cons_append, ih]
    · by_cases b : q + 1 ≤ twd d x y p.1
      · have e : L.filter (fun p => decide (twd d x y p.1 = q)) = [] := List.filter_eq_nil_iff.2 fun r hr => by have := h1 r hr; simp; omega
        rw [e] at ih
        rw [List.filter_cons_of_pos (by simp; omega), List.filter_cons_of_neg (by simp; omega), List.filter_cons_of_pos (by simp; omega), e, ih]
        rfl
      · rw [List.filter_cons_of_neg (by simp; omega), List.filter_cons_of_neg (by simp; omega), List.filter_cons_of_neg (by simp; omega), ih]
theorem prt_at {d q n : Nat} {x y : Int} {L : List Plot} (h : SortedP d x y L) (hn : n < (prt d x y q L).length) : ∃ p, (rst d x y q L)[n]? = some p ∧ twd d x y p.1 = q := by
  rw [rst_next q h, List.getElem?_append_left hn]
  refine ⟨_, List.getElem?_eq_getElem hn, ?_⟩
  have := List.getElem_mem hn
  have := (List.mem_filter.1 this).2
  simpa using this
theorem prt_end {d q : Nat} {x y : Int} {L : List Plot} (h : SortedP d x y L) {p : Plot} (hp : (rst d x y q L)[(prt d x y q L).length]? = some p) : twd d x y p.1 ≠ q := by
  rw [rst_next q h, List.getElem?_append_right (Nat.le_refl _), Nat.sub_self] at hp
  have := List.mem_of_getElem? hp
  have := (List.mem_filter.1 this).2
  simp at this
  omega
theorem prt_rst_len {d : Nat} {x y : Int} (q : Nat) {L : List Plot} (h : SortedP d x y L) : (rst d x y q L).length = (prt d x y q L).length + (rst d x y (q + 1) L).length := by rw [rst_next q h, List.length_append]
/-- How many stand ahead of a kid's. -/
def ahd (d : Nat) (x y : Int) (q : Nat) (L : List Plot) : Nat := L.length - (rst d x y q L).length
theorem rst_le (d : Nat) (x y : Int) (q : Nat) (L : List Plot) : (rst d x y q L).length ≤ L.length := List.length_filter_le _ _
theorem ahd_next {d : Nat} {x y : Int} (q : Nat) {L : List Plot} (h : SortedP d x y L) : ahd d x y (q + 1) L = ahd d x y q L + (prt d x y q L).length := by
  have := prt_rst_len q h
  have := rst_le d x y q L
  unfold ahd
  omega
theorem rst_drop {d : Nat} {x y : Int} {L : List Plot} (h : SortedP d x y L) : ∀ q, rst d x y q L = L.drop (ahd d x y q L)
  | 0 => by unfold ahd; rw [rst_zero, Nat.sub_self, List.drop_zero]
  | q + 1 => by
    have ih := rst_drop h q
    have h1 := rst_next q h
    rw [ahd_next q h, ← List.drop_drop, ← ih, h1, List.drop_left]
theorem rst_get {d : Nat} {x y : Int} {L : List Plot} (h : SortedP d x y L) (q n : Nat) : (rst d x y q L)[n]? = L[ahd d x y q L + n]? := by rw [rst_drop h q, List.getElem?_drop]
/-- A part of a block's plots, as a slice. -/
def PartV (v : Value) (G o n : Nat) : Prop := ∃ a cap, v = .slice a n cap ∧ n ≤ cap ∧ (0 < n → a = some ⟨G, o * 3, none⟩)
theorem plot_info : (Tryz.prog.info? 139).map (fun i => (i.zero, i.size, i.bytes)) = some (some (.agg #[.int .i64 0, .int .i64 0, .int .u32 0]), 3, 24) := by kernel_rfl
/-- The kids' parts, so far. -/
def PaR (w0 : World) (d : Nat) (x y : Int) (G : Nat) (A L : List Plot) (t1 t11 : Value) (wr : World) : Prop :=
  ∃ (q : Nat) (v0 v1 v2 v3 : Value), q ≤ 4 ∧ t11 = .int .i64 q ∧ Blk wr (w0.heap.size) 140 #[v0, v1, v2, v3] ∧ PartV t1 G (A.length + ahd d x y q L) (rst d x y q L).length ∧
    (0 < q → PartV v0 G (A.length + ahd d x y 0 L) (prt d x y 0 L).length) ∧ (1 < q → PartV v1 G (A.length + ahd d x y 1 L) (prt d x y 1 L).length) ∧ (2 < q → PartV v2 G (A.length + ahd d x y 2 L) (prt d x y 2 L).length) ∧ (3 < q → PartV v3 G (A.length + ahd d x y 3 L) (prt d x y 3 L).length) ∧
    Below w0.heap.size w0 wr
theorem keepQ {W w' : World} {P G i : Nat} {x y l a b : Int} (kS : Blk W P 81 #[.int .i64 x, .int .i64 y, .int .i64 l]) (hG : G < W.heap.size) (c0 : W.cell? ⟨G, i, none⟩ = some (.int .i64 a)) (c1 : W.cell? ⟨G, i + 1, none⟩ = some (.int .i64 b)) (hb : Below W.heap.size W w') :
    (w'.cell? ⟨P, 0, none⟩ = some (.int .i64 x) ∧ w'.cell? ⟨P, 1, none⟩ = some (.int .i64 y) ∧ w'.cell? ⟨P, 2, none⟩ = some (.int .i64 l)) ∧ w'.cell? ⟨G, i, none⟩ = some (.int .i64 a) ∧ w'.cell? ⟨G, i + 1, none⟩ = some (.int .i64 b) :=
  ⟨⟨(kS.under hb).cell 0, (kS.under hb).cell 1, (kS.under hb).cell 2⟩, (hb.cell (p := ⟨G, i, none⟩) hG).trans c0, (hb.cell (p := ⟨G, i + 1, none⟩) hG).trans c1⟩
/-- How many are a kid's, so far. -/
def PiR (w : World) (m : Nat) (t7 : Value) (wr : World) : Prop := ∃ n : Nat, n ≤ m ∧ t7 = .int .i64 n ∧ Below w.heap.size w wr
theorem pa_next {w1 W' : World} {d q : Nat} {x y : Int} {G : Nat} {A L : List Plot} {v0 v1 v2 v3 va vb : Value} (hq : q < 4) (kZ' : Blk W' w1.heap.size 140 (#[v0, v1, v2, v3].setIfInBounds q va))
    (q0 : 0 < q → PartV v0 G (A.length + ahd d x y 0 L) (prt d x y 0 L).length) (q1 : 1 < q → PartV v1 G (A.length + ahd d x y 1 L) (prt d x y 1 L).length) (q2 : 2 < q → PartV v2 G (A.length + ahd d x y 2 L) (prt d x y 2 L).length)
    (hva : PartV va G (A.length + ahd d x y q L) (prt d x y q L).length) (hvb : PartV vb G (A.length + ahd d x y (q + 1) L) (rst d x y (q + 1) L).length) (hb : Below w1.heap.size w1 W') :
    PaR w1 d x y G A L vb (.int .i64 ((q : Int) + 1)) W' := by
  rcases four hq with rfl | rfl | rfl | rfl
  · exact ⟨1, va, v1, v2, v3, by omega, rfl, kZ', hvb, fun _ => hva, fun h => by omega, fun h => by omega, fun h => by omega, hb⟩
  · exact ⟨2, v0, va, v2, v3, by omega, rfl, kZ', hvb, fun _ => q0 (by omega), fun _ => hva, fun h => by omega, fun h => by omega, hb⟩
  · exact ⟨3, v0, v1, va, v3, by omega, rfl, kZ', hvb, fun _ => q0 (by omega), fun _ => q1 (by omega), fun _ => hva, fun h => by omega, hb⟩
  · exact ⟨4, v0, v1, v2, va, by omega, rfl, kZ', hvb, fun _ => q0 (by omega), fun _ => q1 (by omega), fun _ => q2 (by omega), fun _ => hva, hb⟩
theorem gr_far {B G : Nat} {w a b c : World} (h1 : Below B w a) (h2 : a.grownBy b (some G)) (hB : w.heap.size ≤ a.heap.size) (h3 : Below w.heap.size b c) (hw : w.heap.size ≤ B := by exact Nat.le_refl _) : w.grownBy c (some G) :=
  ⟨(h3.os.trans h2.os).trans h1.os, (h3.tape.trans h2.tape).trans h1.tape, (h3.output.trans h2.output).trans h1.output, Nat.le_trans hB (Nat.le_trans h2.size h3.size), fun k hk hn => ((h3.block k hk).trans (h2.block k (by omega) hn)).trans (h1.block k (by omega))⟩
set_option maxRecDepth 100000 in
set_option maxHeartbeats 4000000 in
theorem parted_any (d : Nat) (x y : Int) (G cap : Nat) (A L B : List Plot) (w : World) (h : SqOk (d + 1) x y) (hr : PlRow w G (A ++ L ++ B)) (hc : L.length ≤ cap) (hL : L.length ≤ 100000) :
    Calls Tryz.prog 77 #[Sq x y ((d : Int) + 3), .slice (some ⟨G, A.length * 3, none⟩) L.length cap] w fun e w' =>
      ∃ (L' : List Plot) (v0 v1 v2 v3 : Value), L'.Perm L ∧ SortedP d x y L' ∧ e = .returned (.agg #[v0, v1, v2, v3]) ∧ PlRow w' G (A ++ L' ++ B) ∧ w.grownBy w' (some G) ∧
        PartV v0 G (A.length + ahd d x y 0 L') (prt d x y 0 L').length ∧ PartV v1 G (A.length + ahd d x y 1 L') (prt d x y 1 L').length ∧ PartV v2 G (A.length + ahd d x y 2 L') (prt d x y 2 L').length ∧ PartV v3 G (A.length + ahd d x y 3 L') (prt d x y 3 L').length := by
  have hG := hr.lt
  have kq := (Blk.newAt w 81 #[.int .i64 x, .int .i64 y, .int .i64 ((d : Int) + 3)] _ rfl).alloc (.cells #[.slice none 0 0, .slice none 0 0, .slice none 0 0, .slice none 0 0] 140)
  have kz := Blk.newAt (w.alloc (.cells #[.int .i64 x, .int .i64 y, .int .i64 ((d : Int) + 3)] 81)) 140 #[.slice none 0 0, .slice none 0 0, .slice none 0 0, .slice none 0 0] (w.heap.size + 1) (by simp)
  have hb0 : Below w.heap.size w ((w.alloc (.cells #[.int .i64 x, .int .i64 y, .int .i64 ((d : Int) + 3)] 81)).alloc (.cells #[.slice none 0 0, .slice none 0 0, .slice none 0 0, .slice none 0 0] 140)) := by go_grown
  have hso := sortP_any d x y G cap w.heap.size A L B _ h (hr.under hb0) kq (by omega) (by omega)
  have HB0 := Lib.hid hb0
  clear hr hb0
  go_enter Tryz.func77, Tryz.ntmps77
  go_wp2_with fail
  refine hso.mono ?_
  rintro e w1 ⟨rfl, L', hp, hs, hr1, hg1⟩
  have kq1 := kq.grown hg1 (by simp; omega)
  have kz1 := kz.grown hg1 (by simp; omega)
  clear hso kq kz
  have hLl := hp.length_eq
  have hL' : L'.length ≤ 100000 := by omega
  have hz1 := hg1.size
  simp at hz1
  have HR := Lib.hid hr1
  have HKZ := Lib.hid kz1
  have HKQ := Lib.hid kq1
  have HP := Lib.hid hp
  have HS := Lib.hid hs
  have HG := Lib.hid hg1
  have ht := fun a b W => toward_any d x y a b W h
  have HLl := Lib.hid hLl
  clear hr1 hp hs hg1 h kz1 kq1 hLl
  go_wp2_with fail
  go_loopw [1, 6, 7, 11] (fun t1 _ _ t11 wr => PaR w1 d x y G A L' t1 t11 wr) (fun _ _ _ t11 _ => 4 - (intOf t11).toNat)
  case atStart =>
    refine ⟨0, _, _, _, _, by omega, rfl, Blk.newAt _ _ _ _ rfl, ⟨_, cap, by rw [rst_zero, HLl.out], by rw [rst_zero, HLl.out]; exact hc, fun _ => by unfold ahd; rw [rst_zero, Nat.sub_self]; rfl⟩, fun h => by omega, fun h => by omega, fun h => by omega, fun h => by omega, by go_grown⟩
  case round =>
    obtain ⟨q, v0, v1, v2, v3, hq, rfl, kZ, ⟨a, cp, rfl, hcp, ha⟩, q0, q1, q2, q3, hb⟩ := hrel
    by_cases hlt : q < 4
    · have hrl := rst_le d x y q L'
      have hpr := Lib.hid (prt_rst_len q HS.out)
      have hah := Lib.hid (ahd_next q HS.out)
      have hple : (prt d x y q L').length ≤ (rst d x y q L').length := by have := hpr.out; omega
      have HA := Lib.hid ha
      have Q0 := Lib.hid q0
      have Q1 := Lib.hid q1
      have Q2 := Lib.hid q2
      clear q0 q1 q2 q3
      have hd4 : decide ((q : Int) < 4) = true := by simp; omega
      clear ha
      go_wp2_with fail
      clear hd4
      go_loopw [7] (fun t7 wr2 => PiR wr (prt d x y q L').length t7 wr2) (fun t7 _ => (prt d x y q L').length - (intOf t7).toNat)
      case atStart => exact ⟨0, Nat.zero_le _, rfl, Below.refl _ _⟩
      case round =>
        rename_i wrO _ _ _ _ _
        obtain ⟨n, hn, rfl, hb2⟩ := hrel
        have hb3 := hb.trans (hb2.mono hb.size)
        have hz3 := hb3.size
        have kq3 := HKQ.out.under hb3
        obtain ⟨s0, s1, s2⟩ : wr.cell? ⟨w.heap.size, 0, none⟩ = some (.int .i64 x) ∧ wr.cell? ⟨w.heap.size, 1, none⟩ = some (.int .i64 y) ∧ wr.cell? ⟨w.heap.size, 2, none⟩ = some (.int .i64 ((d : Int) + 3)) := ⟨kq3.cell 0, kq3.cell 1, kq3.cell 2⟩
        have hql := kq3.lt
        by_cases hnr : n < (rst d x y q L').length
        · obtain ⟨⟨⟨pa, pb⟩, pf⟩, hp⟩ : ∃ p, (rst d x y q L')[n]? = some p := ⟨_, List.getElem?_eq_getElem hnr⟩
          have hp2 := hp
          rw [rst_get HS.out] at hp2
          have hp3 : (A ++ L' ++ B)[A.length + ahd d x y q L' + n]? = some ((pa, pb), pf) := by
            have hi := (List.getElem?_eq_some_iff.1 hp2).1
            rw [List.append_assoc, Nat.add_assoc, List.getElem?_append_right (by omega), List.getElem?_append_left (by omega), Nat.add_sub_cancel_left]
            exact hp2
          obtain ⟨c0, c1, c2⟩ := (HR.out.under hb3).cell _ _ hp3
          obtain rfl := HA.out (by omega)
          rw [show (A.length + ahd d x y q L' + n) * 3 = (A.length + ahd d x y q L') * 3 + n * 3 by omega] at c0 c1
          have hgl := (HR.out.under hb3).lt
          have htw : twd d x y (pa, pb) = q ↔ n < (prt d x y q L').length := by
            constructor
            · intro e
              rcases Nat.lt_or_ge n (prt d x y q L').length with h' | h'
              · exact h'
              · have : n = (prt d x y q L').length := by omega
                subst this
                exact absurd e (prt_end HS.out hp)
            · intro h'
              obtain ⟨p', h1, h2⟩ := prt_at HS.out h'
              rw [hp] at h1
              cases h1
              exact h2
          have HT := Lib.hid htw
          have hd1 : decide (n < (rst d x y q L').length) = true := by simpa using hnr
          have hd2 : decide ((n : Int) < ((rst d x y q L').length : Int)) = true := by simp; omega
          dsimp only at c0 c1
          have hkb : Below wr.heap.size wr wr := Below.refl _ _
          clear hp hp2 hp3 c2 htw
          by_cases hnp : n < (prt d x y q L').length
          · have et : ((twd d x y (pa, pb) : Nat) : Int) = (q : Int) := by have := HT.out.2 hnp; omega
            have HE := Lib.hid et
            have et2 : (((twd d x y (pa, pb) : Nat) : Int) == (q : Int)) = true := by rw [et]; simp
            clear et
            go_upto_region 7 with fail
            go_region_held3 (fun w' => (w'.cell? ⟨w.heap.size, 0, none⟩ = some (.int .i64 x) ∧ w'.cell? ⟨w.heap.size, 1, none⟩ = some (.int .i64 y) ∧ w'.cell? ⟨w.heap.size, 2, none⟩ = some (.int .i64 ((d : Int) + 3))) ∧ w'.cell? ⟨G, (A.length + ahd d x y q L') * 3 + n * 3, none⟩ = some (.int .i64 pa) ∧ w'.cell? ⟨G, (A.length + ahd d x y q L') * 3 + n * 3 + 1, none⟩ = some (.int .i64 pb)) (first | (refine keepQ kq3 hgl c0 c1 ?_; (have := hkb); go_grown; done))
              (first | (go_at_call 47; refine (ht _ _ _).mono ?_; rintro e w5 ⟨rfl, hg5⟩; have hkb : Below wr.heap.size wr w5 := Ba.below_call hg5.below (by have := hkb; go_grown) (by have := hkb.size; first | exact this | go_size); clear hg5))
            all_goals go_wp2_with fail
            all_goals go_roundw
            case rel => exact ⟨n + 1, by omega, by go_num, hb2.trans (hkb.mono hb2.size)⟩
            case measure => simp [intOf]; omega
          · have et : ((twd d x y (pa, pb) : Nat) : Int) ≠ (q : Int) := fun e => hnp (HT.out.1 (by omega))
            have et2 : (((twd d x y (pa, pb) : Nat) : Int) == (q : Int)) = false := by simpa using et
            clear et
            go_upto_region 7 with fail
            go_region_held3 (fun w' => (w'.cell? ⟨w.heap.size, 0, none⟩ = some (.int .i64 x) ∧ w'.cell? ⟨w.heap.size, 1, none⟩ = some (.int .i64 y) ∧ w'.cell? ⟨w.heap.size, 2, none⟩ = some (.int .i64 ((d : Int) + 3))) ∧ w'.cell? ⟨G, (A.length + ahd d x y q L') * 3 + n * 3, none⟩ = some (.int .i64 pa) ∧ w'.cell? ⟨G, (A.length + ahd d x y q L') * 3 + n * 3 + 1, none⟩ = some (.int .i64 pb)) (first | (refine keepQ kq3 hgl c0 c1 ?_; (have := hkb); go_grown; done))
              (first | (go_at_call 47; refine (ht _ _ _).mono ?_; rintro e w5 ⟨rfl, hg5⟩; have hkb : Below wr.heap.size wr w5 := Ba.below_call hg5.below (by have := hkb; go_grown) (by have := hkb.size; first | exact this | go_size); clear hg5))
            all_goals go_wp2_with fail
            obtain rfl : n = (prt d x y q L').length := by omega
            have hbw := hb2.trans (hkb.mono hb2.size)
            have kZ5 := kZ.under hbw
            obtain ⟨vq, hvq⟩ : ∃ vq, w5.cell? ⟨w1.heap.size, q, none⟩ = some vq := by
              rw [kZ5.cell]
              rcases four hlt with rfl | rfl | rfl | rfl <;> exact ⟨_, rfl⟩
            have fz := kZ5.frozen q
            have hzl := kZ5.lt
            have hq0 : (0 : Int) ≤ (q : Int) := by omega
            have hq4 : (q : Int) < 4 := by omega
            have hs0 : (0 : Int) ≤ ((prt d x y q L').length : Int) := by omega
            have hs1 : ((prt d x y q L').length : Int) ≤ ((rst d x y q L').length : Int) := by omega
            have hs2 : ((rst d x y q L').length : Int) ≤ (cp : Int) := by omega
            have hs3 : ((prt d x y q L').length : Int) ≤ (cp : Int) := by omega
            obtain ⟨p2, hif⟩ : ∃ p2 : Option Addr, (if cp = (prt d x y q L').length then some (⟨G, (A.length + ahd d x y q L') * 3, none⟩ : Addr) else some ⟨G, (A.length + ahd d x y q L') * 3 + (prt d x y q L').length * 3, none⟩) = p2 := ⟨_, rfl⟩
            go_region_held3 (fun _ => True) (trivial) (fail)
            all_goals go_wp2_with fail
            all_goals go_roundw
            case rel => exact pa_next hlt (kZ5.set_ q _) Q0.out Q1.out Q2.out ⟨_, cp, rfl, by omega, fun _ => rfl⟩ ⟨_, _, by rw [show (rst d x y q L').length - (prt d x y q L').length = (rst d x y (q + 1) L').length by have := hpr.out; omega], by have := hpr.out; omega, fun h0 => by rw [← hif, if_neg (by have := hpr.out; omega), hah.out]; congr 2; omega⟩ (by have := hb.trans (hbw.mono hb.size); go_grown)
            case measure => simp [intOf]; omega
        · have en : n = (rst d x y q L').length := by omega
          have em : (prt d x y q L').length = (rst d x y q L').length := by omega
          have hr1 : (rst d x y (q + 1) L').length = 0 := by have := hpr.out; omega
          have HM := Lib.hid em
          have HR1 := Lib.hid hr1
          subst en
          clear em hr1 hn
          have hd1 : decide ((rst d x y q L').length < (rst d x y q L').length) = false := by simp
          have hd2 : decide (((rst d x y q L').length : Int) < ((rst d x y q L').length : Int)) = false := by simp
          have hd3 : ¬ ((rst d x y q L').length : Int) < ((rst d x y q L').length : Int) := by omega
          go_upto_region 7 with fail
          go_quiet (fail)
          go_wp2_with fail
          have kZ5 := kZ.under hb2
          obtain ⟨vq, hvq⟩ : ∃ vq, wr.cell? ⟨w1.heap.size, q, none⟩ = some vq := by
            rw [kZ5.cell]
            rcases four hlt with rfl | rfl | rfl | rfl <;> exact ⟨_, rfl⟩
          have fz := kZ5.frozen q
          have hzl := kZ5.lt
          have hq0 : (0 : Int) ≤ (q : Int) := by omega
          have hq4 : (q : Int) < 4 := by omega
          have hbz := hb.trans (hb2.mono hb.size)
          rcases a with _ | ⟨ab, ao, asp⟩
          · go_region_held3 (fun _ => True) (trivial) (fail)
            all_goals go_wp2_with fail
            all_goals go_roundw
            case rel => exact pa_next hlt ((kZ5.drewN _).set_ q _) Q0.out Q1.out Q2.out ⟨_, cp, by rw [HM.out], by rw [HM.out]; exact hcp, fun h0 => HA.out (by rw [← HM.out]; exact h0)⟩ ⟨_, _, by rw [HR1.out], by have := HR1.out; omega, fun h0 => by have := HR1.out; omega⟩ (Below.setCell (Ba.below_dr _ hbz) (by simp) _)
            case measure => simp [intOf]; omega
          · go_region_held3 (fun _ => True) (trivial) (fail)
            all_goals go_wp2_with fail
            all_goals go_roundw
            case rel => exact pa_next hlt ((kZ5.drewN _).set_ q _) Q0.out Q1.out Q2.out ⟨_, cp, by rw [HM.out], by rw [HM.out]; exact hcp, fun h0 => HA.out (by rw [← HM.out]; exact h0)⟩ ⟨_, _, by rw [HR1.out], by have := HR1.out; omega, fun h0 => by have := HR1.out; omega⟩ (Below.setCell (Ba.below_dr _ hbz) (by simp) _)
            case measure => simp [intOf]; omega
    · obtain rfl : q = 4 := by omega
      obtain ⟨a0, c0, rfl, hc0, ha0⟩ := q0 (by omega)
      obtain ⟨a1, c1, rfl, hc1, ha1⟩ := q1 (by omega)
      obtain ⟨a2, c2, rfl, hc2, ha2⟩ := q2 (by omega)
      obtain ⟨a3, c3, rfl, hc3, ha3⟩ := q3 (by omega)
      have kz4 := HKZ.out.under hb
      have e0 := kZ.cell 0
      have e1 := kZ.cell 1
      have e2 := kZ.cell 2
      have e3 := kZ.cell 3
      have z0 := kz4.cell 0
      have z1 := kz4.cell 1
      have z2 := kz4.cell 2
      have z3 := kz4.cell 3
      have f0 := kz4.frozen 0
      have f1 := kz4.frozen 1
      have f2 := kz4.frozen 2
      have f3 := kz4.frozen 3
      simp only [List.getElem?_toArray, List.getElem?_cons_zero, List.getElem?_cons_succ] at e0 e1 e2 e3 z0 z1 z2 z3
      have zl := kz4.lt
      have Zl := kZ.lt
      have HA0 := Lib.hid ha0
      have HA1 := Lib.hid ha1
      have HA2 := Lib.hid ha2
      have HA3 := Lib.hid ha3
      have HB := Lib.hid hb
      clear q0 q1 q2 q3 ha ha0 ha1 ha2 ha3 hb kz4
      go_wp2_with fail
      have hbf : Below w.heap.size w1 _ := (((((HB.out.mono (by omega)).setCell (p := ⟨w.heap.size + 1, 0, none⟩) (by simp) (.slice a0 (prt d x y 0 L').length c0)).setCell (p := ⟨w.heap.size + 1, 1, none⟩) (by simp) (.slice a1 (prt d x y 1 L').length c1)).setCell (p := ⟨w.heap.size + 1, 2, none⟩) (by simp) (.slice a2 (prt d x y 2 L').length c2)).setCell (p := ⟨w.heap.size + 1, 3, none⟩) (by simp) (.slice a3 (prt d x y 3 L').length c3))
      exact bodyPost_ret (v := .agg #[.slice a0 _ c0, .slice a1 _ c1, .slice a2 _ c2, .slice a3 _ c3]) (by simp [results, Tryz.results77, go_sem, *]) rfl ⟨L', _, _, _, _, HP.out, HS.out, rfl, HR.out.same (hbf.block G hG), gr_far HB0.out HG.out (by simp; omega) hbf, ⟨a0, c0, rfl, hc0, HA0.out⟩, ⟨a1, c1, rfl, hc1, HA1.out⟩, ⟨a2, c2, rfl, hc2, HA2.out⟩, ⟨a3, c3, rfl, hc3, HA3.out⟩⟩
end Go.Proofs.YtahlinekbllkaaaGreatDoor.Tr
