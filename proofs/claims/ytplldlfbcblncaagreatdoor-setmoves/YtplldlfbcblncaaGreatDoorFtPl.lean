/- What fault.Place answers: of no error and of a code nothing; of a fault its own place. -/
import Derived.Test.YtplldlfbcblncaaGreatDoorFtIn
import Derived.RangeFuncNested
import Derived.RangeFuncBound
import Derived.RangeFuncCalls
import Derived.RangeFuncLeaves
import Derived.RangeFuncFrom
import Derived.Shelf.Abstract
import Derived.Shelf.RegionOpen
import Derived.OwnWalkIn
import Derived.TacticsInMore
import Derived.LoopNIn
import Derived.LoopIn
namespace Go.Proofs.YtplldlfbcblncaaGreatDoor.Ba
open Go.RowKit Go.Shelf Go.Extern.Stop Go.Stop Go.Extern

theorem asCF (v : Value) (xT : TypeId) (w : World) : (Instr.typeAssert (.iface 70 v) xT 95 true).run Tryz.prog w = .ok (.tuple #[.pointer none, .bool false]) w := by kernel_rfl
theorem asFF (v : Value) (xT : TypeId) (w : World) : (Instr.typeAssert (.iface 95 v) xT 95 true).run Tryz.prog w = .ok (.tuple #[v, .bool true]) w := by kernel_rfl
theorem asFault_code (n : Int) (w : World) : Calls Tryz.prog 84 #[Er n] w fun e w' => e = .returned (.pointer none) ∧ w = w' := by
  have f1 := asCF
  have f2 := asCA
  go_enter Tryz.func84, Tryz.ntmps84
  go_wp2
  go_ret
  exact ⟨rfl, rfl⟩
theorem asFault_fault (F : Nat) (w : World) : Calls Tryz.prog 84 #[.iface 95 (.pointer (some ⟨F, 0, none⟩))] w fun e w' => e = .returned (.pointer (some ⟨F, 0, none⟩)) ∧ w = w' := by
  have f1 := asFF
  go_enter Tryz.func84, Tryz.ntmps84
  go_wp2
  go_ret
  exact ⟨rfl, rfl⟩
/-- visit, of no error and of a code: nothing is yielded. -/
theorem visit_nil (y : Value) (w : World) : Calls Tryz.prog 69 #[.nilIface, y] w fun e w' => e = .returned (.bool true) ∧ w = w' := by
  go_enter Tryz.func69, Tryz.ntmps69
  go_wp2
  refine wp_loop_rounds 1 ?_
  rw [rounds_succ]
  go_wp2
  go_ret
  exact ⟨rfl, rfl⟩
theorem visit_code (n : Int) (y : Value) (w : World) : Calls Tryz.prog 69 #[Er n, y] w fun e w' => e = .returned (.bool true) ∧ w = w' := by
  have f2 := asCU
  have f3 := asCUs
  go_enter Tryz.func69, Tryz.ntmps69
  go_wp2
  refine wp_loop_rounds 1 ?_
  rw [rounds_succ]
  go_wp2_with (go_at_call 84; refine (asFault_code n _).mono ?_; rintro e w' ⟨rfl, rfl⟩)
  go_ret
  exact ⟨rfl, rfl⟩
/-! In a range over the faults. -/
theorem room_of_none {F : Fence} (hd : F.depth = none) (k : Nat) : F.room k := fun d h => by rw [hd] at h; cases h
theorem round_any {F : Fence} (hd : F.depth = none) {m m' : Nat} {P : Program} {l : Nat} {f : FuncId} {tmps : Array Value} {assign body : Code} {w : World} {R : Ending → World → Prop}
    (h : RoundIn F m P l f tmps assign body w R) : RoundIn F m' P l f tmps assign body w R := ⟨h.1, fun c cs _ => h.2 c cs (room_of_none hd _)⟩
theorem yield_any {F : Fence} (hd : F.depth = none) {m : Nat} (m' : Nat) {P : Program} {l : Nat} {args : Array Value} {W : World} {R : Ending → World → Prop} (h : YieldAt F m P l args W R) : YieldAt F m' P l args W R := by
  obtain ⟨fn, tmps, assign, body, hy, hR⟩ := h
  exact ⟨fn, tmps, assign, body, hy, round_any hd hR⟩
abbrev encE : Empty → Array Value := fun x => nomatch x
abbrev encF (F : Nat) : Unit → Array Value := fun _ => #[.pointer (some ⟨F, 0, none⟩)]
theorem faults_none (err : Value) (hv : ∀ y W, Calls Tryz.prog 69 #[err, y] W fun e w' => e = .returned (.bool true) ∧ W = w') (n b n₀ : Nat) (w : World) (hb : w.cell? ⟨b, 0, none⟩ = some err) (hbl : b < w.heap.size) :
    SeqStopsK Fence.wide n Tryz.prog 68 #[.pointer (some ⟨b, 0, none⟩)] encE (Below n₀) (fun xs => xs = []) (fun _ => False) 1 w := fun l J Jx W hW _ _ _ h0 => by
  have hc : W.cell? ⟨b, 0, none⟩ = some err := (hW.cell (p := ⟨b, 0, none⟩) hbl).trans hb
  refine callsIn_wide.2 ?_
  go_enter Tryz.func68, Tryz.ntmps68
  go_wp2_with fail
  refine (hv _ _).mono ?_
  rintro e w' ⟨rfl, rfl⟩
  go_wp2
  go_end0
  exact ⟨⟨_, rfl⟩, .inl ⟨[], rfl, h0⟩⟩
set_option maxHeartbeats 1000000 in
theorem visit_in (m l F n₀ : Nat) (n : Int) (J Jx : List Unit → World → Prop) (W : World) (hF : W.cell? ⟨F, 2, none⟩ = some (Er n)) (hFl : F < n₀)
    (hY : ∀ k, YieldAt Fence.wide k Tryz.prog l (encF F ()) W fun e W' => (e = .returned (.bool true) ∧ J [()] W' ∧ Below n₀ W W') ∨ (e = .returned (.bool false) ∧ Jx [()] W')) :
    CallsIn Fence.wide m Tryz.prog 69 #[.iface 95 (.pointer (some ⟨F, 0, none⟩)), .func (.yield l) #[] #[]] W fun e W' => (e = .returned (.bool true) ∧ J [()] W') ∨ (e = .returned (.bool false) ∧ Jx [()] W') := by
  obtain ⟨f1, t1, a1, b1, hy1, hR1⟩ := hY (m - 1)
  dsimp only [encF] at hy1
  have g2 := asCU
  have g3 := asCUs
  refine callsIn_of_wp Tryz.func69 rfl trivial ?_ rfl
  simp only [Tryz.ntmps69, List.size_toArray, List.length_cons, List.length_nil, Nat.reduceAdd, Nat.reduceSub, Array.replicate_succ, Array.replicate_zero, List.push_toArray, List.append_toArray, List.nil_append, List.cons_append]
  gi_wp2_with fail
  refine wpIn_loop_rounds 2 ?_
  rw [roundsIn_succ]
  gi_wp2_with fail
  refine ⟨trivial, fun h => (by cases h), ?_⟩
  refine (callsIn_wide.2 (asFault_fault F _)).mono ?_
  rintro e w' ⟨rfl, rfl⟩
  gi_wp2_with fail
  refine ⟨fun h => (by cases h), ?_⟩
  refine hR1.mono ?_
  rintro e W1 (⟨rfl, hJ1, hk1⟩ | ⟨rfl, hx1⟩)
  · have hF1 : W1.cell? ⟨F, 2, none⟩ = some (Er n) := (hk1.cell (p := ⟨F, 2, none⟩) hFl).trans hF
    gi_wp2_with fail
    rw [roundsIn_succ]
    gi_wp2_with fail
    refine ⟨trivial, fun h => (by cases h), ?_⟩
    refine (callsIn_wide.2 (asFault_code n _)).mono ?_
    rintro e w' ⟨rfl, rfl⟩
    gi_wp2_with fail
    go_ret
    exact .inl ⟨rfl, hJ1⟩
  · gi_wp2_with fail
    go_ret
    exact .inr ⟨rfl, hx1⟩
theorem faults_one (n : Int) (N b F n₀ : Nat) (w : World) (hb : w.cell? ⟨b, 0, none⟩ = some (.iface 95 (.pointer (some ⟨F, 0, none⟩)))) (hbl : b < w.heap.size) (hF : w.cell? ⟨F, 2, none⟩ = some (Er n)) (hFl : F < n₀) (hn₀ : n₀ ≤ w.heap.size) :
    SeqStopsK Fence.wide N Tryz.prog 68 #[.pointer (some ⟨b, 0, none⟩)] (encF F) (Below n₀) (fun xs => xs = [()]) (fun pre => pre = [()]) 1 w := fun l J Jx W hW _ _ hY h0 => by
  have hc : W.cell? ⟨b, 0, none⟩ = some (.iface 95 (.pointer (some ⟨F, 0, none⟩))) := (hW.cell (p := ⟨b, 0, none⟩) hbl).trans hb
  have hF' : W.cell? ⟨F, 2, none⟩ = some (Er n) := (hW.cell (p := ⟨F, 2, none⟩) (show F < w.heap.size by omega)).trans hF
  have hv := visit_in (N - 1) l F n₀ n J Jx W hF' hFl (fun k => yield_any rfl k (hY [] () W h0 (by simp)))
  refine callsIn_of_wp Tryz.func68 rfl trivial ?_ rfl
  simp only [Tryz.ntmps68, List.size_toArray, List.length_cons, List.length_nil, Nat.reduceAdd, Nat.reduceSub, Array.replicate_succ, Array.replicate_zero, List.push_toArray, List.append_toArray, List.nil_append, List.cons_append]
  gi_wp2_with fail
  refine ⟨trivial, fun h => (by cases h), ?_⟩
  refine hv.mono ?_
  rintro e W1 (⟨rfl, hJ1⟩ | ⟨rfl, hx1⟩)
  · gi_wp2_with fail
    go_end0
    exact ⟨⟨_, rfl⟩, .inl ⟨[()], rfl, hJ1⟩⟩
  · gi_wp2_with fail
    go_end0
    exact ⟨⟨_, rfl⟩, .inr ⟨[()], rfl, hx1⟩⟩
theorem cell_of_blk {W : World} {b : Nat} {v : Value} {t : TypeId} (h : Blk W b t #[v]) : W.cell? ⟨b, 0, none⟩ = some v ∧ W.frozen? ⟨b, 0, none⟩ = false := ⟨h.cell 0, h.frozen 0⟩
theorem cell_far {W : World} {b b' : Nat} (u : Value) (h : b ≠ b') : (W.setCell ⟨b, 0, none⟩ u).cell? ⟨b', 0, none⟩ = W.cell? ⟨b', 0, none⟩ := by
  refine World.cell?_setCell_other _ _ _ _ ?_
  intro e
  injection e with e
  exact h e
theorem faults_nil (w : World) : Calls Tryz.prog 48 #[.nilIface] w fun e w' => e = .returned (.func (.func 68) #[] #[.pointer (some ⟨w.heap.size, 0, none⟩)]) ∧ w' = w.alloc (.cells #[.nilIface] 30) := by
  go_enter Tryz.func48, Tryz.ntmps48
  go_wp2
  go_ret
  exact ⟨rfl, rfl⟩
theorem faults_if (t : TypeId) (v : Value) (w : World) : Calls Tryz.prog 48 #[.iface t v] w fun e w' => e = .returned (.func (.func 68) #[] #[.pointer (some ⟨w.heap.size, 0, none⟩)]) ∧ w' = w.alloc (.cells #[.iface t v] 30) := by
  go_enter Tryz.func48, Tryz.ntmps48
  go_wp2
  go_ret
  exact ⟨rfl, rfl⟩
set_option maxRecDepth 100000 in
set_option maxHeartbeats 2000000 in
theorem place_code (n : Int) (s : ByteArray) (w : World) :
    Calls Tryz.prog 31 #[Er n, .string s] w fun e w' => e = .returned (.tuple #[.int .i64 0, .bool false]) ∧ Below w.heap.size w w' := by
  refine (callsIn_wide (n := 5)).1 ?_
  refine callsIn_of_wp_marks Tryz.func31 rfl trivial ?_ rfl
  simp only [Tryz.ntmps31, List.size_toArray, List.length_cons, List.length_nil, Nat.reduceAdd, Nat.reduceSub, Array.replicate_succ, Array.replicate_zero, List.push_toArray, List.append_toArray, List.nil_append, List.cons_append]
  gi_wp2_with fail
  refine ⟨trivial, ?_⟩
  refine (callsIn_wide.2 (faults_if _ _ _)).mono ?_
  rintro e w' ⟨rfl, rfl⟩
  gi_wp2_with fail
  obtain ⟨W0, hW0⟩ : ∃ W0, (((w.alloc (.cells #[.string s] 9)).alloc (.cells #[.int .i64 0] 3)).alloc (.cells #[.bool false] 4)).alloc (.cells #[.iface 70 (.int .i64 n)] 30) = W0 := ⟨_, rfl⟩
  have k1 : Blk W0 (w.heap.size + 1) 3 #[.int .i64 0] := by rw [← hW0]; exact ((Blk.newAt _ _ _ _ (by simp)).alloc _).alloc _
  have k2 : Blk W0 (w.heap.size + 1 + 1) 4 #[.bool false] := by rw [← hW0]; exact (Blk.newAt _ _ _ _ (by simp)).alloc _
  have k3 : Blk W0 (w.heap.size + 1 + 1 + 1) 30 #[Er n] := by rw [← hW0]; exact Blk.newAt _ _ _ _ (by simp)
  have hB0 : Below w.heap.size w W0 := by rw [← hW0]; go_grown
  have hz0 : W0.heap.size = w.heap.size + 1 + 1 + 1 + 1 := by rw [← hW0]; simp
  rw [hW0]
  refine wpIn_rangeFunc_ownF rfl (by omega) (gf := 68) (lb := #[.pointer (some ⟨w.heap.size + 1 + 1 + 1, 0, none⟩)]) rfl trivial (enters_of Tryz.func68 (by kernel_rfl) rfl)
    (faults_none (Er n) (fun y W => visit_code n y W) _ (w.heap.size + 1 + 1 + 1) w.heap.size W0 (k3.cell 0) k3.lt) belowK_t (belowK_b (by omega)) (Below.refl _ _) (fun x => nomatch x)
    (fun _ W => ((W.cell? ⟨w.heap.size + 1, 0, none⟩ = some (.int .i64 0) ∧ W.frozen? ⟨w.heap.size + 1, 0, none⟩ = false) ∧ W.cell? ⟨w.heap.size + 1 + 1, 0, none⟩ = some (.bool false) ∧ W.frozen? ⟨w.heap.size + 1 + 1, 0, none⟩ = false) ∧ Below w.heap.size w W)
    (fun _ _ _ => False)
    (OwnFrom.and (Own.from (fun s A B row hs hg hr => ⟨⟨cell_kept hs.1.1 hg hr, (frozen_kept hs.1.1 hg hr).trans hs.1.2⟩, cell_kept hs.2.1 hg hr, (frozen_kept hs.2.1 hg hr).trans hs.2.2⟩) _) (ownFrom_below (Nat.le_refl _) (by omega)))
    (fun _ _ _ _ _ hs _ _ => hs)
    ⟨⟨⟨k1.cell 0, k1.frozen 0⟩, k2.cell 0, k2.frozen 0⟩, hB0⟩
    (fun x => nomatch x) ?assign ?body ?done ?stop
  case assign => intro l x; exact nomatch x
  case body => intro l pre x; exact nomatch x
  case done =>
    rintro D xs W hD rfl ⟨⟨⟨c1, f1⟩, c2, f2⟩, hB⟩ hK
    gi_wp2_with fail
    have hK' := ((KeepsOthers.setCell W ⟨w.heap.size + 1, 0, none⟩ (.int .i64 0)).trans (KeepsOthers.setCell (W.setCell ⟨w.heap.size + 1, 0, none⟩ (.int .i64 0)) ⟨w.heap.size + 1 + 1, 0, none⟩ (.bool false))).same D _ hK rfl
    have hB' := (hB.setCell (p := ⟨w.heap.size + 1, 0, none⟩) (show w.heap.size ≤ w.heap.size + 1 by omega) (.int .i64 0)).setCell (p := ⟨w.heap.size + 1 + 1, 0, none⟩) (show w.heap.size ≤ w.heap.size + 1 + 1 by omega) (.bool false)
    have d1 : ((W.setCell ⟨w.heap.size + 1, 0, none⟩ (.int .i64 0)).setCell ⟨w.heap.size + 1 + 1, 0, none⟩ (.bool false)).cell? ⟨w.heap.size + 1, 0, none⟩ = some (.int .i64 0) := by
      rw [cell_far _ (by omega)]
      exact World.cell?_setCell_same' _ _ _ (by rw [c1]; rfl)
    have d2 : ((W.setCell ⟨w.heap.size + 1, 0, none⟩ (.int .i64 0)).setCell ⟨w.heap.size + 1 + 1, 0, none⟩ (.bool false)).cell? ⟨w.heap.size + 1 + 1, 0, none⟩ = some (.bool false) :=
      World.cell?_setCell_same' _ _ _ (by rw [cell_far _ (by omega), c2]; rfl)
    refine ⟨by simp, .inl ⟨_, _, rfl, run_takeDeferred hK', ?_⟩⟩
    have e1 := cell_kept d1 (grownBy_putObj' _ D (.deferred none)) (fun r e => by cases e; exact ⟨_, hK', rfl⟩)
    have e2 := cell_kept d2 (grownBy_putObj' _ D (.deferred none)) (fun r e => by cases e; exact ⟨_, hK', rfl⟩)
    refine ⟨.tuple #[.int .i64 0, .bool false], ?_, rfl, hB'.trans (belowK_b (w := w) (Nat.le_refl _) _ D _ _ (by omega) hK' rfl rfl)⟩
    simp [results, Tryz.results31, go_sem, e1, e2]
  case stop =>
    rintro D c pre W _ _ h _
    exact h.elim
set_option maxRecDepth 100000 in
set_option maxHeartbeats 2000000 in
theorem place_nil (s : ByteArray) (w : World) :
    Calls Tryz.prog 31 #[.nilIface, .string s] w fun e w' => e = .returned (.tuple #[.int .i64 0, .bool false]) ∧ Below w.heap.size w w' := by
  refine (callsIn_wide (n := 5)).1 ?_
  refine callsIn_of_wp_marks Tryz.func31 rfl trivial ?_ rfl
  simp only [Tryz.ntmps31, List.size_toArray, List.length_cons, List.length_nil, Nat.reduceAdd, Nat.reduceSub, Array.replicate_succ, Array.replicate_zero, List.push_toArray, List.append_toArray, List.nil_append, List.cons_append]
  gi_wp2_with fail
  refine ⟨trivial, ?_⟩
  refine (callsIn_wide.2 (faults_nil _)).mono ?_
  rintro e w' ⟨rfl, rfl⟩
  gi_wp2_with fail
  obtain ⟨W0, hW0⟩ : ∃ W0, (((w.alloc (.cells #[.string s] 9)).alloc (.cells #[.int .i64 0] 3)).alloc (.cells #[.bool false] 4)).alloc (.cells #[.nilIface] 30) = W0 := ⟨_, rfl⟩
  have k1 : Blk W0 (w.heap.size + 1) 3 #[.int .i64 0] := by rw [← hW0]; exact ((Blk.newAt _ _ _ _ (by simp)).alloc _).alloc _
  have k2 : Blk W0 (w.heap.size + 1 + 1) 4 #[.bool false] := by rw [← hW0]; exact (Blk.newAt _ _ _ _ (by simp)).alloc _
  have k3 : Blk W0 (w.heap.size + 1 + 1 + 1) 30 #[.nilIface] := by rw [← hW0]; exact Blk.newAt _ _ _ _ (by simp)
  have hB0 : Below w.heap.size w W0 := by rw [← hW0]; go_grown
  have hz0 : W0.heap.size = w.heap.size + 1 + 1 + 1 + 1 := by rw [← hW0]; simp
  rw [hW0]
  refine wpIn_rangeFunc_ownF rfl (by omega) (gf := 68) (lb := #[.pointer (some ⟨w.heap.size + 1 + 1 + 1, 0, none⟩)]) rfl trivial (enters_of Tryz.func68 (by kernel_rfl) rfl)
    (faults_none .nilIface (fun y W => visit_nil y W) _ (w.heap.size + 1 + 1 + 1) w.heap.size W0 (k3.cell 0) k3.lt) belowK_t (belowK_b (by omega)) (Below.refl _ _) (fun x => nomatch x)
    (fun _ W => ((W.cell? ⟨w.heap.size + 1, 0, none⟩ = some (.int .i64 0) ∧ W.frozen? ⟨w.heap.size + 1, 0, none⟩ = false) ∧ W.cell? ⟨w.heap.size + 1 + 1, 0, none⟩ = some (.bool false) ∧ W.frozen? ⟨w.heap.size + 1 + 1, 0, none⟩ = false) ∧ Below w.heap.size w W)
    (fun _ _ _ => False)
    (OwnFrom.and (Own.from (fun s A B row hs hg hr => ⟨⟨cell_kept hs.1.1 hg hr, (frozen_kept hs.1.1 hg hr).trans hs.1.2⟩, cell_kept hs.2.1 hg hr, (frozen_kept hs.2.1 hg hr).trans hs.2.2⟩) _) (ownFrom_below (Nat.le_refl _) (by omega)))
    (fun _ _ _ _ _ hs _ _ => hs)
    ⟨⟨⟨k1.cell 0, k1.frozen 0⟩, k2.cell 0, k2.frozen 0⟩, hB0⟩
    (fun x => nomatch x) ?assign ?body ?done ?stop
  case assign => intro l x; exact nomatch x
  case body => intro l pre x; exact nomatch x
  case done =>
    rintro D xs W hD rfl ⟨⟨⟨c1, f1⟩, c2, f2⟩, hB⟩ hK
    gi_wp2_with fail
    have hK' := ((KeepsOthers.setCell W ⟨w.heap.size + 1, 0, none⟩ (.int .i64 0)).trans (KeepsOthers.setCell (W.setCell ⟨w.heap.size + 1, 0, none⟩ (.int .i64 0)) ⟨w.heap.size + 1 + 1, 0, none⟩ (.bool false))).same D _ hK rfl
    have hB' := (hB.setCell (p := ⟨w.heap.size + 1, 0, none⟩) (show w.heap.size ≤ w.heap.size + 1 by omega) (.int .i64 0)).setCell (p := ⟨w.heap.size + 1 + 1, 0, none⟩) (show w.heap.size ≤ w.heap.size + 1 + 1 by omega) (.bool false)
    have d1 : ((W.setCell ⟨w.heap.size + 1, 0, none⟩ (.int .i64 0)).setCell ⟨w.heap.size + 1 + 1, 0, none⟩ (.bool false)).cell? ⟨w.heap.size + 1, 0, none⟩ = some (.int .i64 0) := by
      rw [cell_far _ (by omega)]
      exact World.cell?_setCell_same' _ _ _ (by rw [c1]; rfl)
    have d2 : ((W.setCell ⟨w.heap.size + 1, 0, none⟩ (.int .i64 0)).setCell ⟨w.heap.size + 1 + 1, 0, none⟩ (.bool false)).cell? ⟨w.heap.size + 1 + 1, 0, none⟩ = some (.bool false) :=
      World.cell?_setCell_same' _ _ _ (by rw [cell_far _ (by omega), c2]; rfl)
    refine ⟨by simp, .inl ⟨_, _, rfl, run_takeDeferred hK', ?_⟩⟩
    have e1 := cell_kept d1 (grownBy_putObj' _ D (.deferred none)) (fun r e => by cases e; exact ⟨_, hK', rfl⟩)
    have e2 := cell_kept d2 (grownBy_putObj' _ D (.deferred none)) (fun r e => by cases e; exact ⟨_, hK', rfl⟩)
    refine ⟨.tuple #[.int .i64 0, .bool false], ?_, rfl, hB'.trans (belowK_b (w := w) (Nat.le_refl _) _ D _ _ (by omega) hK' rfl rfl)⟩
    simp [results, Tryz.results31, go_sem, e1, e2]
  case stop =>
    rintro D c pre W _ _ h _
    exact h.elim
set_option maxRecDepth 100000 in
set_option maxHeartbeats 2000000 in
theorem place_fault (n at_ : Int) (F : Nat) (s : ByteArray) (w : World) (h0 : w.cell? ⟨F, 0, none⟩ = some (.string s)) (h1 : w.cell? ⟨F, 1, none⟩ = some (.int .i64 at_)) (h2 : w.cell? ⟨F, 2, none⟩ = some (Er n)) (hFl : F < w.heap.size) :
    Calls Tryz.prog 31 #[.iface 95 (.pointer (some ⟨F, 0, none⟩)), .string s] w fun e w' => e = .returned (.tuple #[.int .i64 at_, .bool true]) ∧ Below w.heap.size w w' := by
  refine (callsIn_wide (n := 5)).1 ?_
  refine callsIn_of_wp_marks Tryz.func31 rfl trivial ?_ rfl
  simp only [Tryz.ntmps31, List.size_toArray, List.length_cons, List.length_nil, Nat.reduceAdd, Nat.reduceSub, Array.replicate_succ, Array.replicate_zero, List.push_toArray, List.append_toArray, List.nil_append, List.cons_append]
  gi_wp2_with fail
  refine ⟨trivial, ?_⟩
  refine (callsIn_wide.2 (faults_if _ _ _)).mono ?_
  rintro e w' ⟨rfl, rfl⟩
  gi_wp2_with fail
  obtain ⟨W0, hW0⟩ : ∃ W0, (((w.alloc (.cells #[.string s] 9)).alloc (.cells #[.int .i64 0] 3)).alloc (.cells #[.bool false] 4)).alloc (.cells #[.iface 95 (.pointer (some ⟨F, 0, none⟩))] 30) = W0 := ⟨_, rfl⟩
  have k0 : Blk W0 w.heap.size 9 #[.string s] := by rw [← hW0]; exact (((Blk.newAt _ _ _ _ rfl).alloc _).alloc _).alloc _
  have k1 : Blk W0 (w.heap.size + 1) 3 #[.int .i64 0] := by rw [← hW0]; exact ((Blk.newAt _ _ _ _ (by simp)).alloc _).alloc _
  have k2 : Blk W0 (w.heap.size + 1 + 1) 4 #[.bool false] := by rw [← hW0]; exact (Blk.newAt _ _ _ _ (by simp)).alloc _
  have k3 : Blk W0 (w.heap.size + 1 + 1 + 1) 30 #[.iface 95 (.pointer (some ⟨F, 0, none⟩))] := by rw [← hW0]; exact Blk.newAt _ _ _ _ (by simp)
  have hB0 : Below w.heap.size w W0 := by rw [← hW0]; go_grown
  have hz0 : W0.heap.size = w.heap.size + 1 + 1 + 1 + 1 := by rw [← hW0]; simp
  rw [hW0]
  have g0 : W0.cell? ⟨F, 0, none⟩ = some (.string s) := (hB0.cell (p := ⟨F, 0, none⟩) hFl).trans h0
  have g1 : W0.cell? ⟨F, 1, none⟩ = some (.int .i64 at_) := (hB0.cell (p := ⟨F, 1, none⟩) hFl).trans h1
  have g2 : W0.cell? ⟨F, 2, none⟩ = some (Er n) := (hB0.cell (p := ⟨F, 2, none⟩) hFl).trans h2
  refine wpIn_rangeFunc_ownF rfl (by omega) (gf := 68) (lb := #[.pointer (some ⟨w.heap.size + 1 + 1 + 1, 0, none⟩)]) rfl trivial (enters_of Tryz.func68 (by kernel_rfl) rfl)
    (faults_one n _ (w.heap.size + 1 + 1 + 1) F w.heap.size W0 (k3.cell 0) k3.lt g2 hFl (by omega)) belowK_t (belowK_b (by omega)) (Below.refl _ _) (fun _ => rfl)
    (fun pre W => ((pre = [] ∧ W.cell? ⟨w.heap.size, 0, none⟩ = some (.string s) ∧ W.cell? ⟨F, 0, none⟩ = some (.string s) ∧ W.cell? ⟨F, 1, none⟩ = some (.int .i64 at_)) ∧ (W.cell? ⟨w.heap.size + 1, 0, none⟩ = some (.int .i64 0) ∧ W.frozen? ⟨w.heap.size + 1, 0, none⟩ = false) ∧ W.cell? ⟨w.heap.size + 1 + 1, 0, none⟩ = some (.bool false) ∧ W.frozen? ⟨w.heap.size + 1 + 1, 0, none⟩ = false) ∧ Below w.heap.size w W)
    (fun c _ W => (c = .ret ∧ W.cell? ⟨w.heap.size + 1, 0, none⟩ = some (.int .i64 at_) ∧ W.cell? ⟨w.heap.size + 1 + 1, 0, none⟩ = some (.bool true)) ∧ Below w.heap.size w W)
    (OwnFrom.and (Own.from (fun s A B row hs hg hr => ⟨⟨hs.1.1, cell_kept hs.1.2.1 hg hr, cell_kept hs.1.2.2.1 hg hr, cell_kept hs.1.2.2.2 hg hr⟩, ⟨cell_kept hs.2.1.1 hg hr, (frozen_kept hs.2.1.1 hg hr).trans hs.2.1.2⟩, cell_kept hs.2.2.1 hg hr, (frozen_kept hs.2.2.1 hg hr).trans hs.2.2.2⟩) _) (ownFrom_below (Nat.le_refl _) (by omega)))
    (fun c => OwnFrom.and (Own.from (fun s A B row hs hg hr => ⟨hs.1, cell_kept hs.2.1 hg hr, cell_kept hs.2.2 hg hr⟩) _) (ownFrom_below (Nat.le_refl _) (by omega)))
    ⟨⟨⟨rfl, k0.cell 0, g0, g1⟩, ⟨k1.cell 0, k1.frozen 0⟩, k2.cell 0, k2.frozen 0⟩, hB0⟩
    (fun _ => { tmps := #[.iface 95 (.pointer (some ⟨F, 0, none⟩)), .string s, undef, .pointer (some ⟨w.heap.size, 0, none⟩), .pointer (some ⟨w.heap.size + 1, 0, none⟩), .pointer (some ⟨w.heap.size + 1 + 1, 0, none⟩), .pointer (some ⟨F, 0, none⟩), .iface 95 (.pointer (some ⟨F, 0, none⟩)), .func (.func 68) #[] #[.pointer (some ⟨w.heap.size + 1 + 1 + 1, 0, none⟩)], .pointer (some ⟨F, 0, none⟩), undef, undef, undef, undef, undef, undef, undef, undef, undef, undef], defers := [] }) ?assign ?body ?done ?stop
  case assign =>
    intro l x W K hK
    have hsem := @Oper.semAt_some
    gi_wp2_with fail
    exact hK
  case body =>
    rintro l pre x W ⟨⟨⟨rfl, c0, d0, d1⟩, ⟨c1, f1⟩, c2, f2⟩, hB⟩ _
    have hsem := @Oper.semAt_some
    gi_wp2_with fail
    gi_region
    all_goals gi_wp2_with fail
    all_goals
      have hBd := ((hB.setCell (p := ⟨w.heap.size + 1, 0, none⟩) (show w.heap.size ≤ w.heap.size + 1 by omega) (.int .i64 at_)).setCell (p := ⟨w.heap.size + 1 + 1, 0, none⟩) (show w.heap.size ≤ w.heap.size + 1 + 1 by omega) (.bool true))
      refine ⟨((KeepsOthers.setCell W _ _).trans (KeepsOthers.setCell _ _ _)).trans (KeepsOthers.drew _), ⟨rfl, ?_, ?_⟩, hBd.trans ⟨rfl, rfl, rfl, Nat.le_refl _, fun _ _ => rfl⟩⟩
      · show ((W.setCell ⟨w.heap.size + 1, 0, none⟩ (.int .i64 at_)).setCell ⟨w.heap.size + 1 + 1, 0, none⟩ (.bool true)).cell? ⟨w.heap.size + 1, 0, none⟩ = _
        rw [cell_far _ (by omega)]
        exact World.cell?_setCell_same' _ _ _ (by rw [c1]; rfl)
      · show ((W.setCell ⟨w.heap.size + 1, 0, none⟩ (.int .i64 at_)).setCell ⟨w.heap.size + 1 + 1, 0, none⟩ (.bool true)).cell? ⟨w.heap.size + 1 + 1, 0, none⟩ = _
        exact World.cell?_setCell_same' _ _ _ (by rw [cell_far _ (by omega), c2]; rfl)
  case done =>
    rintro D xs W hD rfl ⟨⟨⟨h, _⟩, _⟩, _⟩ hK
    cases h
  case stop =>
    rintro D c pre W hD _ ⟨⟨rfl, c1, c2⟩, hB⟩ hK
    gi_wp2_with fail
    refine ⟨by simp, .inl ⟨_, _, rfl, run_takeDeferred hK, ?_⟩⟩
    have e1 := cell_kept c1 (grownBy_putObj' _ D (.deferred none)) (fun r e => by cases e; exact ⟨_, hK, rfl⟩)
    have e2 := cell_kept c2 (grownBy_putObj' _ D (.deferred none)) (fun r e => by cases e; exact ⟨_, hK, rfl⟩)
    refine ⟨.tuple #[.int .i64 at_, .bool true], ?_, rfl, hB.trans (belowK_b (w := w) (Nat.le_refl _) _ D _ _ (by omega) hK rfl rfl)⟩
    simp [results, Tryz.results31, go_sem, e1, e2]
end Go.Proofs.YtplldlfbcblncaaGreatDoor.Ba
