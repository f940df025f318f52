/- Contracts of package tree: which kid has a point; how plots are held against each other. -/
import Derived.Test.YtahlinekbllkaaaGreatDoorTrW1
import Derived.Test.YtahlinekbllkaaaGreatDoorCmI
namespace Go.Proofs.YtahlinekbllkaaaGreatDoor.Tr
open Go.RowKit Go.Proofs.YtahlinekbllkaaaGreatDoor.Ba Go.Lib

theorem low_field (x y l : Int) (w : World) : (Instr.field 81 (Sq x y l) 0).run Tryz.prog w = .ok (.agg #[.int .i64 x, .int .i64 y]) w := by kernel_rfl
set_option maxRecDepth 100000 in
theorem toward_any (d : Nat) (x y a b : Int) (w : World) (h : SqOk (d + 1) x y) :
    Calls Tryz.prog 47 #[Sq x y ((d : Int) + 3), .agg #[.int .i64 a, .int .i64 b]] w fun e w' => e = .returned (.int .i64 (twd d x y (a, b) : Nat)) ∧ Gw w w' := by
  have hk := fun W => kid_any d 3 x y W h (by decide)
  have e1 : px d x 3 = x + sd d := by simp [px]
  have e2 : py d y 3 = y + sd d := by simp [py]
  rw [e1, e2] at hk
  have ht : twd d x y (a, b) = (if x + sd d ≤ a then 1 else 0) + if y + sd d ≤ b then 2 else 0 := rfl
  rw [ht]
  generalize x + sd d = mx at *
  generalize y + sd d = my at *
  have kp := (Blk.newAt (w.alloc (.cells #[.int .i64 x, .int .i64 y, .int .i64 ((d : Int) + 3)] 81)) 38 #[.int .i64 a, .int .i64 b] (w.heap.size + 1) (by simp))
  have hg0 : Gw w ((w.alloc (.cells #[.int .i64 x, .int .i64 y, .int .i64 ((d : Int) + 3)] 81)).alloc (.cells #[.int .i64 a, .int .i64 b] 38)) := ⟨by go_grown, by simp⟩
  clear e1 e2 ht
  have hlf := fun W => low_field mx my ((d : Int) + 2) W
  by_cases h1 : mx ≤ a
  all_goals
    by_cases h2 : my ≤ b
    all_goals
      go_enter Tryz.func47, Tryz.ntmps47
      go_wp2_with fail
      refine (hk _).mono ?_
      rintro e w1 ⟨rfl, hg1⟩
      have hg2 := hg0.trans hg1
      have kp1 := kp.under hg1.below
      have p0 := kp1.cell 0
      have p1 := kp1.cell 1
      simp only [List.getElem?_toArray, List.getElem?_cons_zero, List.getElem?_cons_succ] at p0 p1
      have hpl := kp1.lt
      have hz := hg2.below.size
      clear hk hg1 kp
      go_wp2_with fail
      go_ret
      exact ⟨rfl, ⟨by have := hg2.below; go_grown, by have := hg2.drawn; simp; omega⟩⟩
/-! Plots, held against each other. -/
theorem keepPr {W w' : World} {A P R : Nat} {x y l a b c e : Int} {f g : Value} (kS : Blk W A 81 #[.int .i64 x, .int .i64 y, .int .i64 l]) (kP : Blk W P 139 #[.int .i64 a, .int .i64 b, f]) (kR : Blk W R 139 #[.int .i64 c, .int .i64 e, g]) (hb : Below W.heap.size W w') :
    (w'.cell? ⟨A, 0, none⟩ = some (.int .i64 x) ∧ w'.cell? ⟨A, 1, none⟩ = some (.int .i64 y) ∧ w'.cell? ⟨A, 2, none⟩ = some (.int .i64 l)) ∧ (w'.cell? ⟨P, 0, none⟩ = some (.int .i64 a) ∧ w'.cell? ⟨P, 1, none⟩ = some (.int .i64 b)) ∧ w'.cell? ⟨R, 0, none⟩ = some (.int .i64 c) ∧ w'.cell? ⟨R, 1, none⟩ = some (.int .i64 e) :=
  ⟨⟨(kS.under hb).cell 0, (kS.under hb).cell 1, (kS.under hb).cell 2⟩, ⟨(kP.under hb).cell 0, (kP.under hb).cell 1⟩, (kR.under hb).cell 0, (kR.under hb).cell 1⟩
abbrev PlV (p : Plot) : Value := .agg #[.int .i64 p.1.1, .int .i64 p.1.2, .int .u32 p.2]
def cfP (d : Nat) (x y : Int) (p r : Plot) : Int := cmpV (twd d x y p.1 : Nat) (twd d x y r.1 : Nat)
set_option maxRecDepth 100000 in
theorem parted1_any (d : Nat) (x y : Int) (p r : Plot) (P : Nat) (w : World) (h : SqOk (d + 1) x y) (kq : Blk w P 81 #[.int .i64 x, .int .i64 y, .int .i64 ((d : Int) + 3)]) :
    Calls Tryz.prog 90 #[PlV p, PlV r, .pointer (some ⟨P, 0, none⟩)] w fun e w' => e = .returned (.int .i64 (cfP d x y p r)) ∧ Gw w w' := by
  obtain ⟨⟨pa, pb⟩, pf⟩ := p
  obtain ⟨⟨ra, rb⟩, rf⟩ := r
  have ht := fun a b W => toward_any d x y a b W h
  have hc := fun (a b : Nat) W => cmpcmp_any (a : Int) (b : Int) W
  unfold cfP
  dsimp only [PlV]
  go_enter Tryz.func90, Tryz.ntmps90
  go_wp2_with fail
  have kp := (Blk.newAt w 139 #[.int .i64 pa, .int .i64 pb, .int .u32 pf] _ rfl).alloc (.cells #[.int .i64 ra, .int .i64 rb, .int .u32 rf] 139)
  have kr := Blk.newAt (w.alloc (.cells #[.int .i64 pa, .int .i64 pb, .int .u32 pf] 139)) 139 #[.int .i64 ra, .int .i64 rb, .int .u32 rf] (w.heap.size + 1) (by simp)
  have kS := (kq.alloc (.cells #[.int .i64 pa, .int .i64 pb, .int .u32 pf] 139)).alloc (.cells #[.int .i64 ra, .int .i64 rb, .int .u32 rf] 139)
  have hg0 : Gw w ((w.alloc (.cells #[.int .i64 pa, .int .i64 pb, .int .u32 pf] 139)).alloc (.cells #[.int .i64 ra, .int .i64 rb, .int .u32 rf] 139)) := ⟨by go_grown, by simp⟩
  generalize (w.alloc (.cells #[.int .i64 pa, .int .i64 pb, .int .u32 pf] 139)).alloc (.cells #[.int .i64 ra, .int .i64 rb, .int .u32 rf] 139) = w3 at *
  obtain ⟨⟨s0, s1, s2⟩, ⟨p0, p1⟩, r0, r1⟩ := keepPr kS kp kr (Below.refl _ _)
  have l0 := kS.lt
  have l1 := kp.lt
  have l2 := kr.lt
  have hkb : Gw w3 w3 := Gw.refl _
  go_region_held3 (fun w' => (w'.cell? ⟨P, 0, none⟩ = some (.int .i64 x) ∧ w'.cell? ⟨P, 1, none⟩ = some (.int .i64 y) ∧ w'.cell? ⟨P, 2, none⟩ = some (.int .i64 ((d : Int) + 3))) ∧ (w'.cell? ⟨w.heap.size, 0, none⟩ = some (.int .i64 pa) ∧ w'.cell? ⟨w.heap.size, 1, none⟩ = some (.int .i64 pb)) ∧ w'.cell? ⟨w.heap.size + 1, 0, none⟩ = some (.int .i64 ra) ∧ w'.cell? ⟨w.heap.size + 1, 1, none⟩ = some (.int .i64 rb)) (first | (refine keepPr kS kp kr ?_; (have := hkb.below); go_grown; done))
    (first
      | (go_at_call 85; refine (hc _ _ _).mono ?_; rintro e w' ⟨rfl, rfl⟩)
      | (go_at_call 47; refine (ht _ _ _).mono ?_; rintro e w5 ⟨rfl, hg5⟩; have hkb : Gw w3 w5 := ⟨Ba.below_call hg5.below (by have := hkb.below; go_grown) (by have := hkb.below.size; first | exact this | go_size), by have := hg5.drawn; have := hkb.drawn; simp at *; omega⟩; clear hg5))
  all_goals go_wp2_with fail
  all_goals go_ret
  all_goals exact ⟨rfl, hg0.trans ⟨by have := hkb.below; go_grown, by have := hkb.drawn; simp; omega⟩⟩
end Go.Proofs.YtahlinekbllkaaaGreatDoor.Tr
