/- Contracts of package tree: build. -/
import Derived.Test.YtahlinekbllkaaaGreatDoorTrW5
import Derived.Test.YtahlinekbllkaaaGreatDoorArW3
namespace Go.Proofs.YtahlinekbllkaaaGreatDoor.Tr
open Go.RowKit Go.Proofs.YtahlinekbllkaaaGreatDoor.Ba Go.Proofs.YtahlinekbllkaaaGreatDoor.Ar Go.Lib

theorem keepL {W w' : World} {b G o : Nat} {u v : Value} (h1 : W.cell? ⟨b, 0, none⟩ = some u) (h2 : W.cell? ⟨G, o, none⟩ = some v) (e1 : w'.heap[b]? = W.heap[b]?) (e2 : w'.heap[G]? = W.heap[G]?) : w'.cell? ⟨b, 0, none⟩ = some u ∧ w'.cell? ⟨G, o, none⟩ = some v :=
  ⟨(World.cell?_of_block (a := ⟨b, 0, none⟩) e1).trans h1, (World.cell?_of_block (a := ⟨G, o, none⟩) e2).trans h2⟩
set_option maxRecDepth 100000 in
set_option maxHeartbeats 1000000 in
theorem build_nil (d : Nat) (x y : Int) (a : Option Addr) (cap g b : Nat) (S : Sta) (E : Nat → Nat) (P : Nat → Prop) (w : World) (hd : d ≤ 42) (h : ArAt w g S P) (hP : ∀ k, w.heap.size ≤ k → P k) (hb : Blk w b 110 (bc g E)) (hPb : ¬ P b) (T : Tw S) (hE : EOk S E) (hN : S.N.length ≤ 900000) :
    Calls Tryz.prog 57 #[Pt b, Sq x y ((d : Int) + 2), .slice a 0 cap] w fun e w' => ∃ (i : Nat) (er : Option Nat) (S' : Sta), e = .returned (.tuple #[.int .u32 i, errV er]) ∧ Bd S d x y [] i er S' ∧ Kp w P g b S' w' ∧ Off (fun k => P k ∨ k = b) w w' := by
  have hno := fun W h hP hb => none_any d x y g b S E P W hd h hP hb hPb T hE hN
  have hbl := hb.lt
  clear hE T
  go_enter Tryz.func57, Tryz.ntmps57
  go_wp2_with fail
  have hbw : Below w.heap.size w (w.alloc (.cells #[.int .i64 x, .int .i64 y, .int .i64 ((d : Int) + 2)] 81)) := by go_grown
  refine (hno _ (h.under hbw) (fun k hk => hP k (by simp at hk; omega)) (hb.under hbw)).mono ?_
  rintro e w1 ⟨i, er, S', rfl, hB, ⟨hA, hE'⟩, hO⟩
  have HB := Lib.hid hB
  have HE := Lib.hid hE'
  have hO2 := (Off.of_below (P := fun k => P k ∨ k = b) hbw).trans hO
  have HO := Lib.hid hO2
  have HA := Lib.hid hA
  clear hB hE' hO hO2 hno h hb hbw hA
  rcases er with _ | c
  · unfold errV
    go_wp2_with fail
    exact bodyPost_ret (v := .tuple #[.int .u32 i, errV none]) (by simp [results, Tryz.results57, go_sem, errV]) rfl ⟨i, none, S', rfl, HB.out, ⟨HA.out, HE.out⟩, HO.out⟩
  · unfold errV
    go_wp2_with fail
    exact bodyPost_ret (v := .tuple #[.int .u32 i, errV (some c)]) (by simp [results, Tryz.results57, go_sem, errV]) rfl ⟨i, some c, S', rfl, HB.out, ⟨HA.out, HE.out⟩, HO.out⟩
set_option maxRecDepth 100000 in
set_option maxHeartbeats 1000000 in
theorem build_leaf (x y : Int) (p : Plot) (A B : List Plot) (cap g b G : Nat) (S : Sta) (E : Nat → Nat) (P : Nat → Prop) (w : World) (hp : p.1 = (x, y)) (hl : p.2 < 4294967296) (hr : PlRow w G (A ++ [p] ++ B)) (hc : 1 ≤ cap) (h : ArAt w g S P) (hP : ∀ k, w.heap.size ≤ k → P k) (hb : Blk w b 110 (bc g E)) (hPb : ¬ P b) (hPG : ¬ P G) (T : Tw S) (hE : EOk S E) (hN : S.N.length ≤ 900000) :
    Calls Tryz.prog 57 #[Pt b, Sq x y 2, .slice (some ⟨G, A.length * 3, none⟩) 1 cap] w fun e w' => ∃ (i : Nat) (er : Option Nat) (S' : Sta), e = .returned (.tuple #[.int .u32 i, errV er]) ∧ Bd S 0 x y [p] i er S' ∧ Kp w P g b S' w' ∧ PlRow w' G (A ++ [p] ++ B) ∧ Off (fun k => P k ∨ k = b) w w' := by
  have hlf := fun W h hP => leaf_any g p.2 S P W h hP hl (by omega)
  have HB := Lib.hid (bd_leaf (x := x) (y := y) T hp hl)
  have HE := Lib.hid hE
  have HT := Lib.hid T
  have c0 := hb.cell 0
  rw [bc_zero] at c0
  have hbl := hb.lt
  have hGl := hr.lt
  obtain ⟨-, -, cp⟩ := hr.cell A.length p (by rw [List.append_assoc, List.getElem?_append_right (Nat.le_refl _), Nat.sub_self]; rfl)
  have kS := Blk.newAt w 81 #[.int .i64 x, .int .i64 y, .int .i64 2] _ rfl
  have hbw : Below w.heap.size w (w.alloc (.cells #[.int .i64 x, .int .i64 y, .int .i64 2] 81)) := by go_grown
  have hb2 := Lib.hid (hb.under hbw)
  have hr2 := Lib.hid (hr.under hbw)
  have hA2 := Lib.hid (h.under hbw)
  have HP := Lib.hid hP
  have HPL := Lib.hid hp
  have hsz : w.heap.size < (w.alloc (.cells #[.int .i64 x, .int .i64 y, .int .i64 2] 81)).heap.size := by simp
  have c0' := (hb.under hbw).cell 0
  rw [bc_zero] at c0'
  have cp' := (hbw.cell (p := ⟨G, A.length * 3 + 1 + 1, none⟩) hGl).trans cp
  have HW := Lib.hid hbw
  clear hE T hr hb h hbw hP hp c0 cp
  rcases hR : leafR S p.2 with ⟨i, er, S'⟩
  rw [hR] at hlf HB
  dsimp only at hlf
  go_enter Tryz.func57, Tryz.ntmps57
  go_upto_region 1 with fail
  generalize w.alloc (.cells #[.int .i64 x, .int .i64 y, .int .i64 2] 81) = W at *
  have s0 := kS.cell 0
  have s1 := kS.cell 1
  have s2 := kS.cell 2
  simp only [List.getElem?_toArray, List.getElem?_cons_zero, List.getElem?_cons_succ] at s0 s1 s2
  have hbl2 := hb2.out.lt
  have hGl2 := hr2.out.lt
  have hc1 : (1 : Int) ≤ (cap : Int) := by omega
  go_upto_region 4 with fail
  rcases er with _ | c
  · simp only [errV] at hlf
    go_region_held3 (fun w' => w'.cell? ⟨b, 0, none⟩ = some (.pointer (some ⟨g, 0, none⟩)) ∧ w'.cell? ⟨G, A.length * 3 + 2, none⟩ = some (.int .u32 p.2)) (first | (exact keepL c0' cp' rfl rfl) | (exact keepL c0' cp' (hO6.block b hbl2 hPb) (hO6.block G hGl2 hPG))) (first | (go_at_call 60; refine (hlf _ (hA2.out.under (by go_grown)) (fun k hk => HP.out k (by simp at hk; omega))).mono ?_; rintro e w5 ⟨rfl, hA5, hO5⟩; have hO6 : Off P W w5 := ⟨hO5.os, hO5.tape, hO5.output, hO5.size, hO5.block⟩; clear hO5))
    all_goals go_wp2_with fail
    all_goals exact bodyPost_ret (v := .tuple #[.int .u32 i, errV none]) (by simp [results, Tryz.results57, go_sem, errV]) rfl ⟨i, none, S', rfl, HB.out, ⟨hA5, E, HE.out.ext HT.out HB.out.ext, hO6.blk hb2.out hPb⟩, hr2.out.same (hO6.block G hGl2 hPG), ((Off.of_below HW.out).trans hO6).weak fun k _ hk => .inl hk⟩
  · simp only [errV] at hlf
    go_region_held3 (fun w' => w'.cell? ⟨b, 0, none⟩ = some (.pointer (some ⟨g, 0, none⟩)) ∧ w'.cell? ⟨G, A.length * 3 + 2, none⟩ = some (.int .u32 p.2)) (first | (exact keepL c0' cp' rfl rfl) | (exact keepL c0' cp' (hO6.block b hbl2 hPb) (hO6.block G hGl2 hPG))) (first | (go_at_call 60; refine (hlf _ (hA2.out.under (by go_grown)) (fun k hk => HP.out k (by simp at hk; omega))).mono ?_; rintro e w5 ⟨rfl, hA5, hO5⟩; have hO6 : Off P W w5 := ⟨hO5.os, hO5.tape, hO5.output, hO5.size, hO5.block⟩; clear hO5))
    all_goals go_wp2_with fail
    all_goals exact bodyPost_ret (v := .tuple #[.int .u32 i, errV (some c)]) (by simp [results, Tryz.results57, go_sem, errV]) rfl ⟨i, some c, S', rfl, HB.out, ⟨hA5, E, HE.out.ext HT.out HB.out.ext, hO6.blk hb2.out hPb⟩, hr2.out.same (hO6.block G hGl2 hPG), ((Off.of_below HW.out).trans hO6).weak fun k _ hk => .inl hk⟩
end Go.Proofs.YtahlinekbllkaaaGreatDoor.Tr
