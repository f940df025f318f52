/- Contracts of package tree: put. -/
import Derived.Test.YtahlinekbllkaaaGreatDoorTrW11
import Derived.Test.YtahlinekbllkaaaGreatDoorArW6
import Derived.Test.YtahlinekbllkaaaGreatDoorTrW7
import Derived.Deep.RegionHeld3
import Derived.Deep.DeepCutAuto
namespace Go.Proofs.YtahlinekbllkaaaGreatDoor.Tr
open Go.RowKit Go.Proofs.YtahlinekbllkaaaGreatDoor.Ba Go.Proofs.YtahlinekbllkaaaGreatDoor.Ar Go.Lib
open Go.Proofs.YtahlinekbllkaaaGreatDoor.Si (bitAt with_any)

def PutC (d : Nat) : Prop := ∀ (x y : Int) (i g : Nat) (c : C) (live : Bool) (S : Sta) (P : Nat → Prop) (w : World), SqOk d x y → lvOk S.N d i → inSq d x y c → x % 4 = 0 ∧ y % 4 = 0 → ArAt w g S P → (∀ k, w.heap.size ≤ k → P k) → Tw S → ne S.N + (d + 1) ≤ 800000 →
  Calls Tryz.prog 52 #[Pt g, .int .u32 i, Sq x y ((d : Int) + 2), CeV c, .bool live] w fun e w' => ∃ (j : Nat) (er : Option Nat) (S' : Sta), e = .returned (.tuple #[.int .u32 j, errV er]) ∧ Pd S d x y i c live j er S' ∧ ArAt w' g S' P ∧ Off P w w'
set_option maxRecDepth 100000 in
set_option maxHeartbeats 1000000 in
theorem put_leaf : PutC 0 := by
  intro x y i g c live S P w hsq hv hs hm h hP T hN
  have hN1 : S.N.length ≤ 1000000 := by have := em_le T; omega
  have hi : okU i := by have := lv_le hv; show _ < _; omega
  have hff := leaf_bits T hv
  rw [p32] at hff
  have hsx := hsq.x0
  have hsx1 := hsq.x1
  have hsy := hsq.y0
  have hsy1 := hsq.y1
  have hcx := hs.1
  have hcy := hs.2.1
  have e4 : sd 0 = 4 := by decide
  rw [e4] at hsx1 hsy1 hcx hcy
  have hbt := fun W hW => Ar.bits_any g i S (fun k => P k ∧ k ≠ w.heap.size ∧ k ≠ w.heap.size + 1) W hW hi hN1
  have hwi : ∀ W, Calls Tryz.prog 51 #[.int .u32 (ndAt S.N i).1.bits, CeV c, .bool live] W fun e w' => e = .returned (.int .u32 (withC (ndAt S.N i).1.bits c live)) ∧ Below W.heap.size W w' := fun W => with_any (ndAt S.N i).1.bits c live hff (by omega) (by omega) hs.2.2 W
  have hlf := fun W hW hQ => leaf_any g (withC (ndAt S.N i).1.bits c live) S (fun k => P k ∧ k ≠ w.heap.size ∧ k ≠ w.heap.size + 1) W hW hQ (with_lt hff hs.2.2 live) hN1
  have HD := Lib.hid (pd_leaf T hv hm.1 hm.2 hs live)
  generalize withC (ndAt S.N i).1.bits c live = f at *
  generalize (ndAt S.N i).1.bits = f0 at *
  rcases hR : leafR S f with ⟨j, er, S'⟩
  rw [hR] at hlf HD
  dsimp only at hlf
  have kS := (Blk.newAt w 81 #[.int .i64 x, .int .i64 y, .int .i64 2] _ rfl).alloc (.cells #[.int .i64 c.1, .int .i64 c.2.1, .int .i64 c.2.2] 53)
  have kC := Blk.newAt (w.alloc (.cells #[.int .i64 x, .int .i64 y, .int .i64 2] 81)) 53 #[.int .i64 c.1, .int .i64 c.2.1, .int .i64 c.2.2] (w.heap.size + 1) (by simp)
  have hbw : Below w.heap.size w ((w.alloc (.cells #[.int .i64 x, .int .i64 y, .int .i64 2] 81)).alloc (.cells #[.int .i64 c.1, .int .i64 c.2.1, .int .i64 c.2.2] 53)) := by go_grown
  have hA := (h.weak (P' := fun k => P k ∧ k ≠ w.heap.size ∧ k ≠ w.heap.size + 1) fun k hk hlt => ⟨hk, by omega, by omega⟩).under hbw
  have hsz : w.heap.size + 2 ≤ ((w.alloc (.cells #[.int .i64 x, .int .i64 y, .int .i64 2] 81)).alloc (.cells #[.int .i64 c.1, .int .i64 c.2.1, .int .i64 c.2.2] 53)).heap.size := by simp
  have HB := Lib.hid hbw
  have HP := Lib.hid hP
  have HSZ := Lib.hid hsz
  clear h hR hP hsq hs hm hv hsx hsx1 hsy hsy1 hcx hcy e4 hff hbw hsz T
  rw [show ((0 : Nat) : Int) + 2 = 2 by omega]
  dsimp only [CeV]
  have s2 := kS.cell 2
  have hsl := kS.lt
  simp only [List.getElem?_toArray, List.getElem?_cons_zero, List.getElem?_cons_succ] at s2
  go_enter Tryz.func52, Tryz.ntmps52
  go_upto_region 2 with fail
  generalize (w.alloc (.cells #[.int .i64 x, .int .i64 y, .int .i64 2] 81)).alloc (.cells #[.int .i64 c.1, .int .i64 c.2.1, .int .i64 c.2.2] 53) = W at *
  have hws := HSZ.out
  obtain ⟨c0, c1, c2⟩ := Go.Proofs.YtahlinekbllkaaaGreatDoor.Se.keepB kC (Below.refl _ _)
  have hcl := kC.lt
  have hkb : Below W.heap.size W W := Below.refl _ _
  go_region_held3 (fun w' => w'.cell? ⟨w.heap.size + 1, 0, none⟩ = some (.int .i64 c.1) ∧ w'.cell? ⟨w.heap.size + 1, 1, none⟩ = some (.int .i64 c.2.1) ∧ w'.cell? ⟨w.heap.size + 1, 2, none⟩ = some (.int .i64 c.2.2)) (first | (refine Go.Proofs.YtahlinekbllkaaaGreatDoor.Se.keepB kC ?_; go_grown; done) | exact ⟨d0, d1, d2⟩)
    (first
      | (go_at_call 50; refine (hbt _ (hA.under (by go_grown))).mono ?_; rintro e w5 ⟨rfl, hb5⟩; have hkb : Below W.heap.size W w5 := Ba.below_call hb5 (by go_grown) (by first | exact hkb.size | go_size); clear hb5)
      | (go_at_call 51; refine (hwi _).mono ?_; rintro e w5 ⟨rfl, hb5⟩; have hkb : Below W.heap.size W w5 := Ba.below_call hb5 (by go_grown) (by first | exact hkb.size | go_size); clear hb5)
      | (go_at_call 60; have hz5 := hkb.size; refine (hlf _ (hA.under (by go_grown)) (fun k hk => ⟨HP.out k (by omega), by omega, by omega⟩)).mono ?_; rintro e w6 ⟨rfl, hA6, hO6⟩; have kC6 := hO6.blk (kC.under (by go_grown)) (by simp); obtain ⟨d0, d1, d2⟩ := Go.Proofs.YtahlinekbllkaaaGreatDoor.Se.keepB kC6 (Below.refl _ _)))
  all_goals go_wp2_with fail
  all_goals exact bodyPost_ret (v := .tuple #[.int .u32 j, errV er]) (by simp [results, Tryz.results52, go_sem]) rfl ⟨j, er, S', rfl, HD.out, hA6.weak fun k hk _ => hk.1, ((Off.of_below (P := fun k => P k ∧ k ≠ w.heap.size ∧ k ≠ w.heap.size + 1) (HB.out.trans (hkb.mono HB.out.size))).trans hO6).weak fun k _ hk => hk.1⟩
theorem al4 {B : Nat} {w0 W : World} {o : Obj} (h : Below B w0 W) (hB : B ≤ W.heap.size) (a b c e : Value) : Below B w0 (((((W.alloc o).setCell ⟨W.heap.size, 0, none⟩ a).setCell ⟨W.heap.size, 1, none⟩ b).setCell ⟨W.heap.size, 2, none⟩ c).setCell ⟨W.heap.size, 3, none⟩ e) := by
  have := h.size
  exact ((((h.alloc hB o).setCell hB _).setCell hB _).setCell hB _).setCell hB _
theorem st4 {B K : Nat} {w0 W : World} (h : Below B w0 W) (hB : B ≤ K) (a b c e : Value) : Below B w0 ((((W.setCell ⟨K, 0, none⟩ a).setCell ⟨K, 1, none⟩ b).setCell ⟨K, 2, none⟩ c).setCell ⟨K, 3, none⟩ e) :=
  (((h.setCell hB _).setCell hB _).setCell hB _).setCell hB _
theorem ks4 {w : World} {K : Nat} {T : TypeId} {v0 v1 v2 v3 : Value} (k : Blk w K T #[v0, v1, v2, v3]) (a b c e : Value) : Blk ((((w.setCell ⟨K, 0, none⟩ a).setCell ⟨K, 1, none⟩ b).setCell ⟨K, 2, none⟩ c).setCell ⟨K, 3, none⟩ e) K T #[a, b, c, e] :=
  (((k.set_ 0 a).set_ 1 b).set_ 2 c).set_ 3 e
theorem keepSC {W w' : World} {A P : Nat} {T : TypeId} {x y l a b k : Int} (kS : Blk W A 81 #[.int .i64 x, .int .i64 y, .int .i64 l]) (kP : Blk W P T #[.int .i64 a, .int .i64 b, .int .i64 k]) (hb : Below W.heap.size W w') :
    (w'.cell? ⟨A, 0, none⟩ = some (.int .i64 x) ∧ w'.cell? ⟨A, 1, none⟩ = some (.int .i64 y) ∧ w'.cell? ⟨A, 2, none⟩ = some (.int .i64 l)) ∧ w'.cell? ⟨P, 0, none⟩ = some (.int .i64 a) ∧ w'.cell? ⟨P, 1, none⟩ = some (.int .i64 b) ∧ w'.cell? ⟨P, 2, none⟩ = some (.int .i64 k) :=
  ⟨⟨(kS.under hb).cell 0, (kS.under hb).cell 1, (kS.under hb).cell 2⟩, (kP.under hb).cell 0, (kP.under hb).cell 1, (kP.under hb).cell 2⟩
theorem ok4_of {S : Sta} {d i : Nat} {k4 : K4} (h : lvOk S.N (d + 1) i) (T : Tw S) (e : (ndAt S.N i).1.k = k4) (hN : S.N.length ≤ 1000000) : ok4 k4 := by
  have key : ∀ q, q < 4 → okU (kd k4 q) := fun q hq => by
    have := kid_ok T h hq
    rw [e] at this
    exact lv_okU this hN
  exact ⟨key 0 (by decide), key 1 (by decide), key 2 (by decide), key 3 (by decide)⟩
theorem keepPK {W w' : World} {A P K q : Nat} {T U : TypeId} {x y l a b k : Int} {cs : Array Value} {v : Value} (kS : Blk W A 81 #[.int .i64 x, .int .i64 y, .int .i64 l]) (kP : Blk W P T #[.int .i64 a, .int .i64 b, .int .i64 k]) (kK : Blk W K U cs) (hv : cs[q]? = some v) (hb : Below W.heap.size W w') :
    ((w'.cell? ⟨A, 0, none⟩ = some (.int .i64 x) ∧ w'.cell? ⟨A, 1, none⟩ = some (.int .i64 y) ∧ w'.cell? ⟨A, 2, none⟩ = some (.int .i64 l)) ∧ w'.cell? ⟨P, 0, none⟩ = some (.int .i64 a) ∧ w'.cell? ⟨P, 1, none⟩ = some (.int .i64 b) ∧ w'.cell? ⟨P, 2, none⟩ = some (.int .i64 k)) ∧ w'.cell? ⟨K, q, none⟩ = some v :=
  ⟨keepSC kS kP hb, ((kK.under hb).cell q).trans hv⟩
set_option maxRecDepth 100000 in
set_option maxHeartbeats 1000000 in
theorem put_step (d : Nat) (ih : PutC d) : PutC (d + 1) := by
  intro x y i g c live S P w hsq hv hs hm h hP T hN
  have hN1 : S.N.length ≤ 1000000 := by have := em_le T; omega
  have hi : okU i := by have := lv_le hv; show _ < _; omega
  have hq := twd_lt d x y (c.1, c.2.1)
  have hin := tw_sq hs
  have htw := fun W => toward_any d x y c.1 c.2.1 W hsq
  generalize twd d x y (c.1, c.2.1) = q at *
  have hkv := kid_ok T hv hq
  have hkd := fun W hW => Ar.kids_any g i S (fun k => P k ∧ k ≠ w.heap.size ∧ k ≠ w.heap.size + 1) W hW hi hN1
  have hkq := fun W => kid_any d q x y W hsq hq
  have HD := fun j S' (hp : Pd S d (px d x q) (py d y q) (kd (ndAt S.N i).1.k q) c live j none S') => pd_done T hv (by have := hsq.lv; omega) hq hin hp
  have HE := fun e j S' (hp : Pd S d (px d x q) (py d y q) (kd (ndAt S.N i).1.k q) c live j (some e) S') => pd_stop0 (q := q) hp
  have kS := (Blk.newAt w 81 #[.int .i64 x, .int .i64 y, .int .i64 ((d : Int) + 3)] _ rfl).alloc (.cells #[.int .i64 c.1, .int .i64 c.2.1, .int .i64 c.2.2] 53)
  have kC := Blk.newAt (w.alloc (.cells #[.int .i64 x, .int .i64 y, .int .i64 ((d : Int) + 3)] 81)) 53 #[.int .i64 c.1, .int .i64 c.2.1, .int .i64 c.2.2] (w.heap.size + 1) (by simp)
  have hbw : Below w.heap.size w ((w.alloc (.cells #[.int .i64 x, .int .i64 y, .int .i64 ((d : Int) + 3)] 81)).alloc (.cells #[.int .i64 c.1, .int .i64 c.2.1, .int .i64 c.2.2] 53)) := by go_grown
  have hA := (h.weak (P' := fun k => P k ∧ k ≠ w.heap.size ∧ k ≠ w.heap.size + 1) fun k hk hlt => ⟨hk, by omega, by omega⟩).under hbw
  have hsz : w.heap.size + 2 ≤ ((w.alloc (.cells #[.int .i64 x, .int .i64 y, .int .i64 ((d : Int) + 3)] 81)).alloc (.cells #[.int .i64 c.1, .int .i64 c.2.1, .int .i64 c.2.2] 53)).heap.size := by simp
  have HB := Lib.hid hbw
  have HP := Lib.hid hP
  have HSZ := Lib.hid hsz
  have HT := Lib.hid T
  have HIn := Lib.hid hin
  have HKv := Lib.hid hkv
  have HSq := Lib.hid hsq
  have HV := Lib.hid hv
  have HM := Lib.hid (kid_mod (q := q) (d := d) hm.1 hm.2 hq)
  clear h hP hsq hs hm hv hbw hsz T hin hkv
  rw [show ((d + 1 : Nat) : Int) + 2 = (d : Int) + 3 by omega]
  dsimp only [CeV]
  have hne : ((d : Int) + 3 == 2) = false := by simp; omega
  have s2 := kS.cell 2
  have hsl := kS.lt
  simp only [List.getElem?_toArray, List.getElem?_cons_zero, List.getElem?_cons_succ] at s2
  go_enter Tryz.func52, Tryz.ntmps52
  go_upto_region 3 with fail
  generalize (w.alloc (.cells #[.int .i64 x, .int .i64 y, .int .i64 ((d : Int) + 3)] 81)).alloc (.cells #[.int .i64 c.1, .int .i64 c.2.1, .int .i64 c.2.2] 53) = W at *
  have hws := HSZ.out
  obtain ⟨⟨s0, s1, s2⟩, c0, c1, c2⟩ := keepSC kS kC (Below.refl _ _)
  have hcl := kC.lt
  generalize hk4 : (ndAt S.N i).1.k = k4 at *
  go_cut [12, 13] (fun t12 t13 wx => ∃ K, t12 = .pointer (some ⟨K, 0, none⟩) ∧ t13 = .int .i64 q ∧ W.heap.size ≤ K ∧ Blk wx K 93 #[.int .u32 k4.1, .int .u32 k4.2.1, .int .u32 k4.2.2.1, .int .u32 k4.2.2.2] ∧ Below W.heap.size W wx)
  case first =>
    have hkb : Below W.heap.size W W := Below.refl _ _
    go_region_held3 (fun w' => (w'.cell? ⟨w.heap.size, 0, none⟩ = some (.int .i64 x) ∧ w'.cell? ⟨w.heap.size, 1, none⟩ = some (.int .i64 y) ∧ w'.cell? ⟨w.heap.size, 2, none⟩ = some (.int .i64 ((d : Int) + 3))) ∧ w'.cell? ⟨w.heap.size + 1, 0, none⟩ = some (.int .i64 c.1) ∧ w'.cell? ⟨w.heap.size + 1, 1, none⟩ = some (.int .i64 c.2.1) ∧ w'.cell? ⟨w.heap.size + 1, 2, none⟩ = some (.int .i64 c.2.2)) (first | (refine keepSC kS kC ?_; go_grown; done) | exact keepSC kS kC (hkb.alloc hkb.size _) | exact keepSC kS kC (al4 hkb hkb.size _ _ _ _) | exact keepSC kS kC (st4 hkb (by omega) _ _ _ _))
      (first
        | (go_at_call 48; refine (hkd _ (hA.under (by first | (go_grown; done) | exact hkb | exact hkb.alloc hkb.size _))).mono ?_; rintro e w5 ⟨rfl, hb5⟩; have hkb : Below W.heap.size W w5 := Ba.below_call hb5 (by first | (go_grown; done) | exact hkb | exact hkb.alloc hkb.size _) (by first | exact hkb.size | (have hq9 := hkb.size; simp; done) | (have hq9 := hkb.size; simp; omega)); have hzk := hkb.size; (first | (revert kN; intro kN; have kN := Blk.under kN hb5; have fr0 := kN.frozen 0; have fr1 := kN.frozen 1; have fr2 := kN.frozen 2; have fr3 := kN.frozen 3; have kNl := kN.lt; have kn0 := kN.cell 0; have kn1 := kN.cell 1; have kn2 := kN.cell 2; have kn3 := kN.cell 3; simp only [List.getElem?_toArray, List.getElem?_cons_zero, List.getElem?_cons_succ] at kn0 kn1 kn2 kn3) | (change Below (World.drewN (World.alloc W _) _).heap.size (World.drewN (World.alloc W _) _) w5 at hb5; have kN := Blk.under (Blk.drewN (Blk.newAt W 93 #[.int .u32 0, .int .u32 0, .int .u32 0, .int .u32 0] W.heap.size rfl) _) hb5; have fr0 := kN.frozen 0; have fr1 := kN.frozen 1; have fr2 := kN.frozen 2; have fr3 := kN.frozen 3; have kNl := kN.lt; have kn0 := kN.cell 0; have kn1 := kN.cell 1; have kn2 := kN.cell 2; have kn3 := kN.cell 3; simp only [List.getElem?_toArray, List.getElem?_cons_zero, List.getElem?_cons_succ] at kn0 kn1 kn2 kn3) | (change Below (World.alloc W _).heap.size (World.alloc W _) w5 at hb5; have kN := Blk.under (Blk.newAt W 93 #[.int .u32 0, .int .u32 0, .int .u32 0, .int .u32 0] W.heap.size rfl) hb5; have fr0 := kN.frozen 0; have fr1 := kN.frozen 1; have fr2 := kN.frozen 2; have fr3 := kN.frozen 3; have kNl := kN.lt; have kn0 := kN.cell 0; have kn1 := kN.cell 1; have kn2 := kN.cell 2; have kn3 := kN.cell 3; simp only [List.getElem?_toArray, List.getElem?_cons_zero, List.getElem?_cons_succ] at kn0 kn1 kn2 kn3) | (change Below (World.alloc (World.drewN W _) _).heap.size (World.alloc (World.drewN W _) _) w5 at hb5; have kN := Blk.under (Blk.newAt _ 93 #[.int .u32 0, .int .u32 0, .int .u32 0, .int .u32 0] W.heap.size rfl) hb5; have fr0 := kN.frozen 0; have fr1 := kN.frozen 1; have fr2 := kN.frozen 2; have fr3 := kN.frozen 3; have kNl := kN.lt; have kn0 := kN.cell 0; have kn1 := kN.cell 1; have kn2 := kN.cell 2; have kn3 := kN.cell 3; simp only [List.getElem?_toArray, List.getElem?_cons_zero, List.getElem?_cons_succ] at kn0 kn1 kn2 kn3) | (change Below (World.alloc _ _).heap.size (World.alloc _ _) w5 at hb5; have kN := Blk.under (Blk.newAt _ 93 #[.int .u32 0, .int .u32 0, .int .u32 0, .int .u32 0] _ rfl) hb5; have fr0 := kN.frozen 0; have fr1 := kN.frozen 1; have fr2 := kN.frozen 2; have fr3 := kN.frozen 3; have kNl := kN.lt; have kn0 := kN.cell 0; have kn1 := kN.cell 1; have kn2 := kN.cell 2; have kn3 := kN.cell 3; simp only [List.getElem?_toArray, List.getElem?_cons_zero, List.getElem?_cons_succ] at kn0 kn1 kn2 kn3) | skip))
        | (go_at_call 47; refine (htw _).mono ?_; rintro e w5 ⟨rfl, hg5⟩; have hb5 := hg5.below; clear hg5; have hkb : Below W.heap.size W w5 := Ba.below_call hb5 (by first | (go_grown; done) | exact hkb | exact hkb.alloc hkb.size _) (by first | exact hkb.size | (have hq9 := hkb.size; simp; done) | (have hq9 := hkb.size; simp; omega)); have hzk := hkb.size; (first | (revert kN; intro kN; have kN := Blk.under kN hb5; have fr0 := kN.frozen 0; have fr1 := kN.frozen 1; have fr2 := kN.frozen 2; have fr3 := kN.frozen 3; have kNl := kN.lt; have kn0 := kN.cell 0; have kn1 := kN.cell 1; have kn2 := kN.cell 2; have kn3 := kN.cell 3; simp only [List.getElem?_toArray, List.getElem?_cons_zero, List.getElem?_cons_succ] at kn0 kn1 kn2 kn3) | (change Below (World.drewN (World.alloc W _) _).heap.size (World.drewN (World.alloc W _) _) w5 at hb5; have kN := Blk.under (Blk.drewN (Blk.newAt W 93 #[.int .u32 0, .int .u32 0, .int .u32 0, .int .u32 0] W.heap.size rfl) _) hb5; have fr0 := kN.frozen 0; have fr1 := kN.frozen 1; have fr2 := kN.frozen 2; have fr3 := kN.frozen 3; have kNl := kN.lt; have kn0 := kN.cell 0; have kn1 := kN.cell 1; have kn2 := kN.cell 2; have kn3 := kN.cell 3; simp only [List.getElem?_toArray, List.getElem?_cons_zero, List.getElem?_cons_succ] at kn0 kn1 kn2 kn3) | (change Below (World.alloc W _).heap.size (World.alloc W _) w5 at hb5; have kN := Blk.under (Blk.newAt W 93 #[.int .u32 0, .int .u32 0, .int .u32 0, .int .u32 0] W.heap.size rfl) hb5; have fr0 := kN.frozen 0; have fr1 := kN.frozen 1; have fr2 := kN.frozen 2; have fr3 := kN.frozen 3; have kNl := kN.lt; have kn0 := kN.cell 0; have kn1 := kN.cell 1; have kn2 := kN.cell 2; have kn3 := kN.cell 3; simp only [List.getElem?_toArray, List.getElem?_cons_zero, List.getElem?_cons_succ] at kn0 kn1 kn2 kn3) | (change Below (World.alloc (World.drewN W _) _).heap.size (World.alloc (World.drewN W _) _) w5 at hb5; have kN := Blk.under (Blk.newAt _ 93 #[.int .u32 0, .int .u32 0, .int .u32 0, .int .u32 0] W.heap.size rfl) hb5; have fr0 := kN.frozen 0; have fr1 := kN.frozen 1; have fr2 := kN.frozen 2; have fr3 := kN.frozen 3; have kNl := kN.lt; have kn0 := kN.cell 0; have kn1 := kN.cell 1; have kn2 := kN.cell 2; have kn3 := kN.cell 3; simp only [List.getElem?_toArray, List.getElem?_cons_zero, List.getElem?_cons_succ] at kn0 kn1 kn2 kn3) | (change Below (World.alloc _ _).heap.size (World.alloc _ _) w5 at hb5; have kN := Blk.under (Blk.newAt _ 93 #[.int .u32 0, .int .u32 0, .int .u32 0, .int .u32 0] _ rfl) hb5; have fr0 := kN.frozen 0; have fr1 := kN.frozen 1; have fr2 := kN.frozen 2; have fr3 := kN.frozen 3; have kNl := kN.lt; have kn0 := kN.cell 0; have kn1 := kN.cell 1; have kn2 := kN.cell 2; have kn3 := kN.cell 3; simp only [List.getElem?_toArray, List.getElem?_cons_zero, List.getElem?_cons_succ] at kn0 kn1 kn2 kn3) | skip)))
    all_goals go_wp2_with fail
    all_goals go_meet
    all_goals first
      | exact ⟨_, rfl, rfl, hkb.size, Blk.newAt _ _ _ _ rfl, hkb.alloc hkb.size _⟩
      | exact ⟨_, rfl, rfl, by omega, ks4 kN _ _ _ _, st4 hkb (by omega) _ _ _ _⟩
  case rest =>
    obtain ⟨K, rfl, rfl, hK, kK, hbc⟩ := hcut
    generalize wc = w2 at *
    have HB1 := Lib.hid (HB.out.trans (hbc.mono HB.out.size))
    have kS1 := kS.under hbc
    have kC1 := kC.under hbc
    have hzc := hbc.size
    have hKl := kK.lt
    have hA2 := (hA.weak (P' := fun k => (P k ∧ k ≠ w.heap.size ∧ k ≠ w.heap.size + 1) ∧ (k < W.heap.size ∨ w2.heap.size ≤ k)) fun k hk hlt => ⟨hk, .inl hlt⟩).under hbc
    obtain ⟨Q, hQ⟩ : ∃ Q : Nat → Prop, Q = fun k => (P k ∧ k ≠ w.heap.size ∧ k ≠ w.heap.size + 1) ∧ (k < W.heap.size ∨ w2.heap.size ≤ k) := ⟨_, rfl⟩
    rw [← hQ] at hA2
    have hQS : ¬ Q w.heap.size := by rw [hQ]; exact fun h => h.1.2.1 rfl
    have hQC : ¬ Q (w.heap.size + 1) := by rw [hQ]; exact fun h => h.1.2.2 rfl
    have hQK : ¬ Q K := by rw [hQ]; exact fun h => by rcases h.2 with h | h <;> omega
    have hQn : ∀ k, w2.heap.size ≤ k → Q k := fun k hk => by rw [hQ]; exact ⟨⟨HP.out k (by omega), by omega, by omega⟩, .inr hk⟩
    have hQP : ∀ k, Q k → P k := fun k hk => by rw [hQ] at hk; exact hk.1.1
    clear hQ
    have HQS := Lib.hid hQS
    have HQC := Lib.hid hQC
    have HQK := Lib.hid hQK
    have HQn := Lib.hid hQn
    have HQP := Lib.hid hQP
    have HK := Lib.hid hK
    have hkc : (#[Value.int .u32 k4.1, .int .u32 k4.2.1, .int .u32 k4.2.2.1, .int .u32 k4.2.2.2] : Array Value)[q]? = some (.int .u32 (kd k4 q)) := by rcases four hq with rfl | rfl | rfl | rfl <;> rfl
    have Hkc := Lib.hid hkc
    clear hbc kS kC hA s0 s1 s2 c0 c1 c2 hsl hcl hkd htw hQS hQC hQK hQn hQP hkc
    obtain ⟨⟨⟨s0, s1, s2⟩, c0, c1, c2⟩, q0⟩ := keepPK kS1 kC1 kK Hkc.out (Below.refl _ _)
    have hsl := kS1.lt
    have hcl := kC1.lt
    have hq0 : (0 : Int) ≤ (q : Int) := by omega
    have hq4 : (q : Int) < 4 := by omega
    have hkb : Below w2.heap.size w2 w2 := Below.refl _ _
    go_upto_region 4 with fail
    go_cut [14, 15] (fun t14 t15 wx => ∃ (j : Nat) (er : Option Nat) (S' : Sta), t14 = .int .u32 j ∧ t15 = errV er ∧ Pd S d (px d x q) (py d y q) (kd k4 q) c live j er S' ∧ ArAt wx g S' Q ∧ Off Q w2 wx)
    case first =>
      go_region_held3 (fun w' => ((w'.cell? ⟨w.heap.size, 0, none⟩ = some (.int .i64 x) ∧ w'.cell? ⟨w.heap.size, 1, none⟩ = some (.int .i64 y) ∧ w'.cell? ⟨w.heap.size, 2, none⟩ = some (.int .i64 ((d : Int) + 3))) ∧ w'.cell? ⟨w.heap.size + 1, 0, none⟩ = some (.int .i64 c.1) ∧ w'.cell? ⟨w.heap.size + 1, 1, none⟩ = some (.int .i64 c.2.1) ∧ w'.cell? ⟨w.heap.size + 1, 2, none⟩ = some (.int .i64 c.2.2)) ∧ w'.cell? ⟨K, q, none⟩ = some (.int .u32 (kd k4 q))) (first | (refine keepPK kS1 kC1 kK Hkc.out ?_; go_grown; done) | exact hS6)
        (first
          | (go_at_call 49; refine (hkq _).mono ?_; rintro e w5 ⟨rfl, hg5⟩; have hkb : Below w2.heap.size w2 w5 := Ba.below_call hg5.below (by go_grown) (by first | exact hkb.size | go_size); clear hg5)
          | (go_at_call 52; have hz5 := hkb.size; refine (ih (px d x q) (py d y q) (kd k4 q) g c live S Q _ (HSq.out.kid hq) HKv.out HIn.out HM.out (hA2.under (by go_grown)) (fun k hk => HQn.out k (by omega)) HT.out (by omega)).mono ?_; rintro e w6 ⟨j, er, S', rfl, hPd, hA6, hO6⟩; have hO2 : Off Q w2 w6 := (Off.of_below (by go_grown)).trans hO6; have hS6 := keepPK (hO2.blk kS1 HQS.out) (hO2.blk kC1 HQC.out) (hO2.blk kK HQK.out) Hkc.out (Below.refl _ _)))
      all_goals go_wp2_with fail
      all_goals go_meet
      all_goals exact ⟨j, er, S', rfl, rfl, hPd, hA6, hO2⟩
    case rest =>
      obtain ⟨j, er, S', rfl, rfl, hPd, hA6, hO6⟩ := hcut
      generalize wc = w3 at *
      have kK6 := hO6.blk kK HQK.out
      have hz6 := hO6.size
      have HO6 := Lib.hid (((Off.of_below (P := fun k => Q k ∨ k = K) HB1.out)).trans (hO6.weak fun k _ hk => .inl hk))
      have HPd := Lib.hid hPd
      have HA6 := Lib.hid hA6
      have hln := hPd.len
      have hem := em_le hPd.ext.tw
      have hKl6 := kK6.lt
      clear s0 s1 s2 c0 c1 c2 q0 hsl hcl hkb hkq kS1 kC1 kK hA2 hA6 hO6 hPd
      rcases er with _ | c0
      · unfold errV
        have hj : okU j := by
          rcases HPd.out.ok with ⟨_, h2, _⟩ | ⟨h1, _⟩
          · exact lv_okU h2 (by omega)
          · cases h1
        have fq := kK6.frozen q
        have cq : w3.cell? ⟨K, q, none⟩ = some (.int .u32 (kd k4 q)) := (kK6.cell q).trans Hkc.out
        have HDj := HD j S' HPd.out
        have hk4o : ok4 (kset k4 q j) := kset_ok (ok4_of HV.out HT.out hk4 hN1) hq hj
        have hjn := fun W hW hQ => join_any g (kset k4 q j) S' Q W hW hk4o hQ (by omega)
        rcases hR : joinR S' (kset k4 q j) with ⟨r, er, S5⟩
        rw [hR] at HDj hjn
        dsimp only at HDj hjn
        have HDD := Lib.hid HDj
        have kKs := kK6.set_ q (.int .u32 j)
        rw [kset_cells k4 j hq] at kKs
        have hAs := HA6.out.same (w' := w3.setCell ⟨K, q, none⟩ (.int .u32 j)) fun b hb _ => Below.heap_setCell _ _ _ _ (fun e => HQK.out (by have e2 : b = K := e; rw [← e2]; exact hb))
        have HOs := Lib.hid (HO6.out.setCell (p := ⟨K, q, none⟩) (fun h => .inr rfl) (.int .u32 j))
        have hzs : w2.heap.size ≤ (w3.setCell ⟨K, q, none⟩ (.int .u32 j)).heap.size := by simpa using hz6
        clear hR HDj hk4o HA6 HO6 kK6
        go_upto_region 8 with fail
        clear cq fq
        generalize w3.setCell ⟨K, q, none⟩ (.int .u32 j) = w4 at *
        have k0 := kKs.cell 0
        have k1 := kKs.cell 1
        have k2 := kKs.cell 2
        have k3 := kKs.cell 3
        simp only [List.getElem?_toArray, List.getElem?_cons_zero, List.getElem?_cons_succ] at k0 k1 k2 k3
        have hkl := kKs.lt
        go_wp2_with fail
        refine (hjn _ hAs (fun k hk => HQn.out k (by omega))).mono ?_
        rintro e w5 ⟨rfl, hA5, hO5⟩
        have HO5 := Lib.hid (HOs.out.trans (hO5.weak (P' := fun k => Q k ∨ k = K) fun k _ hk => .inl hk))
        clear k0 k1 k2 k3 hjn hAs
        go_wp2_with fail
        exact bodyPost_ret (v := .tuple #[.int .u32 r, errV er]) (by simp [results, Tryz.results52, go_sem]) rfl ⟨r, er, S5, rfl, HDD.out, hA5.weak fun k hk _ => HQP.out k hk, HO5.out.weak fun k hk h => by rcases h with h | h; exact HQP.out k h; omega⟩
      · unfold errV
        have HEj := Lib.hid (HE c0 j S' HPd.out)
        go_wp2_with fail
        exact bodyPost_ret (v := .tuple #[.int .u32 0, errV (some c0)]) (by simp [results, Tryz.results52, go_sem, errV]) rfl ⟨0, some c0, S', rfl, HEj.out, HA6.out.weak fun k hk _ => HQP.out k hk, HO6.out.weak fun k hk h => by rcases h with h | h; exact HQP.out k h; omega⟩
theorem put_any : ∀ d, PutC d
  | 0 => put_leaf
  | d + 1 => put_step d (put_any d)
end Go.Proofs.YtahlinekbllkaaaGreatDoor.Tr
