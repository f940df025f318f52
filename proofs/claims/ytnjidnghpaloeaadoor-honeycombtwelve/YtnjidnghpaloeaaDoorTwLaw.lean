/- HoneycombTwelve: what brings the origin to itself, (1, 0) and (0, 1) to two of the six, and sums to sums, brings the six to the six just if it is one of the twelve operators, and just one. No conditions. -/
import Derived.Test.YtnjidnghpaloeaaDoorTwM
import Derived.Test.YtnjidnghpaloeaaDoorAxBits
import Derived.Test.YtnjidnghpaloeaaDoorAxEq
namespace Go.Proofs.YtnjidnghpaloeaaDoor.Tw
open Go.RowKit Go.Proofs.YtnjidnghpaloeaaDoor.Ax Go.Maps
open Go.Proofs.YtnjidnghpaloeaaDoor.Ba (Blk)

theorem own_under {w w' : World} {B n : Nat} {D : DataW Unit} (h : Own w B n D) (hb : Below w.heap.size w w') : Own w' B n D := by
  have hlt := World.ownsMap.lt h
  obtain ⟨es, clock, h1, r⟩ := h
  exact ⟨es, clock, (hb.block B hlt).trans h1, r⟩
theorem six_cell : ∀ I : Fin 6, sixCells[I.val * 2]? = some (.int .i64 (sA I.val)) ∧ sixCells[I.val * 2 + 1]? = some (.int .i64 (sB I.val)) := by
  intro I
  obtain ⟨k, hk⟩ := I
  have h : k = 0 ∨ k = 1 ∨ k = 2 ∨ k = 3 ∨ k = 4 ∨ k = 5 := by omega
  rcases h with rfl | rfl | rfl | rfl | rfl | rfl <;> exact ⟨rfl, rfl⟩
theorem six_lit (w : World) (h : SixIs w) : Calls Tryd.prog 4 #[] w fun e w' => e = .returned (.agg #[.int .i64 1, .int .i64 0, .int .i64 0, .int .i64 1, .int .i64 (-1), .int .i64 1, .int .i64 (-1), .int .i64 0, .int .i64 0, .int .i64 (-1), .int .i64 1, .int .i64 (-1)]) ∧ Below w.heap.size w w' := six_any w h
theorem idx_lit (k : Nat) (hk : k < 6) (w : World) : (Instr.index 24 (.agg #[.int .i64 1, .int .i64 0, .int .i64 0, .int .i64 1, .int .i64 (-1), .int .i64 1, .int .i64 (-1), .int .i64 0, .int .i64 0, .int .i64 (-1), .int .i64 1, .int .i64 (-1)]) (.int .i64 k)).run Tryd.prog w = .ok (Pt (sA k) (sB k)) w := idx_at k hk w
theorem six_cellL (I : Nat) (h : I < 6) : (#[.int .i64 1, .int .i64 0, .int .i64 0, .int .i64 1, .int .i64 (-1), .int .i64 1, .int .i64 (-1), .int .i64 0, .int .i64 0, .int .i64 (-1), .int .i64 1, .int .i64 (-1)] : Array Value)[I * 2]? = some (.int .i64 (sA I)) ∧ (#[.int .i64 1, .int .i64 0, .int .i64 0, .int .i64 1, .int .i64 (-1), .int .i64 1, .int .i64 (-1), .int .i64 0, .int .i64 0, .int .i64 (-1), .int .i64 1, .int .i64 (-1)] : Array Value)[I * 2 + 1]? = some (.int .i64 (sB I)) := six_cell ⟨I, h⟩
theorem keep222 {W w' : World} {G E F : Nat} {t u v : TypeId} {a b c d e f : Value} (kg : Blk W G t #[a, b]) (ke : Blk W E u #[c, d]) (kf : Blk W F v #[e, f]) (hb : Below W.heap.size W w') :
    w'.cell? ⟨G, 0, none⟩ = some a ∧ w'.cell? ⟨G, 1, none⟩ = some b ∧ w'.cell? ⟨E, 0, none⟩ = some c ∧ w'.cell? ⟨E, 1, none⟩ = some d ∧ w'.cell? ⟨F, 0, none⟩ = some e ∧ w'.cell? ⟨F, 1, none⟩ = some f :=
  ⟨(kg.under hb).cell 0, (kg.under hb).cell 1, (ke.under hb).cell 0, (ke.under hb).cell 1, (kf.under hb).cell 0, (kf.under hb).cell 1⟩
theorem keepG {W w' : World} {G E F B : Nat} {t u v : TypeId} {a b c d e f : Value} (kg : Blk W G t #[a, b]) (ke : Blk W E u #[c, d]) (kf : Blk W F v #[e, f]) (hg : W.grownBy w' (some B)) (h1 : G ≠ B) (h2 : E ≠ B) (h3 : F ≠ B) :
    w'.cell? ⟨G, 0, none⟩ = some a ∧ w'.cell? ⟨G, 1, none⟩ = some b ∧ w'.cell? ⟨E, 0, none⟩ = some c ∧ w'.cell? ⟨E, 1, none⟩ = some d ∧ w'.cell? ⟨F, 0, none⟩ = some e ∧ w'.cell? ⟨F, 1, none⟩ = some f := by
  have e1 : some G ≠ some B := fun h => h1 (by injection h)
  have e2 : some E ≠ some B := fun h => h2 (by injection h)
  have e3 : some F ≠ some B := fun h => h3 (by injection h)
  exact ⟨(kg.grown hg e1).cell 0, (kg.grown hg e1).cell 1, (ke.grown hg e2).cell 0, (ke.grown hg e2).cell 1, (kf.grown hg e3).cell 0, (kf.grown hg e3).cell 1⟩
/-- The two points are chosen. -/
def TwX (w : World) (SB I J : Nat) (v6 v7 : Value) (wx : World) : Prop :=
  ∃ X Y : Nat, v6 = .pointer (some ⟨X, 0, none⟩) ∧ v7 = .pointer (some ⟨Y, 0, none⟩) ∧ Blk wx X 23 #[.int .i64 (sA I), .int .i64 (sB I)] ∧ Blk wx Y 23 #[.int .i64 (sA J), .int .i64 (sB J)] ∧
    Blk wx SB 24 #[.int .i64 1, .int .i64 0, .int .i64 0, .int .i64 1, .int .i64 (-1), .int .i64 1, .int .i64 (-1), .int .i64 0, .int .i64 0, .int .i64 (-1), .int .i64 1, .int .i64 (-1)] ∧ Below w.heap.size w wx
def TwMem (w : World) (SB X Y I J : Nat) (wx : World) : Prop :=
  Blk wx X 23 #[.int .i64 (sA I), .int .i64 (sB I)] ∧ Blk wx Y 23 #[.int .i64 (sA J), .int .i64 (sB J)] ∧ Blk wx SB 24 #[.int .i64 1, .int .i64 0, .int .i64 0, .int .i64 1, .int .i64 (-1), .int .i64 1, .int .i64 (-1), .int .i64 0, .int .i64 0, .int .i64 (-1), .int .i64 1, .int .i64 (-1)] ∧ Below w.heap.size w wx
def Tw1 (w : World) (SB X Y B I J : Nat) (i : Value) (wr : World) : Prop := ∃ k : Nat, k ≤ 6 ∧ i = .int .i64 k ∧ Own wr B k (mp I J k) ∧ TwMem w SB X Y I J wr
def Tw2 (w : World) (SB X Y B I J : Nat) (v i : Value) (wr : World) : Prop := ∃ k : Nat, k ≤ 6 ∧ i = .int .i64 k ∧ v = .bool (keepsTo I J k) ∧ Own wr B 6 (mp I J 6) ∧ TwMem w SB X Y I J wr
def Tw3 (w : World) (SB X Y I J : Nat) (v i : Value) (wr : World) : Prop := ∃ o : Nat, o ≤ 12 ∧ i = .int .i64 o ∧ v = .int .i64 (foundTo I J o) ∧ TwMem w SB X Y I J wr
theorem meas12 (o : Nat) (h : o < 12) : 12 - (intOf (.int .i64 ((o : Int) + 1))).toNat < 12 - (intOf (.int .i64 (o : Int))).toNat := by simp only [intOf]; omega
set_option maxRecDepth 100000 in
set_option maxHeartbeats 8000000 in
theorem honeycombTwelve_walk (i : Int) (_wi : (Lit.int .i64 i).wf = true) (j : Int) (_wj : (Lit.int .i64 j).wf = true) (w : World) (hs : SixIs w) :
    Calls Tryd.prog 3 #[.int .i64 i, .int .i64 j] w fun e w' => e = .returned (.bool true) ∧ Below w.heap.size w w' := by
  have hi := i64_and255 i
  have hj := i64_and255 j
  obtain ⟨m, hm⟩ : ∃ m : Nat, i % 256 = (m : Int) := ⟨(i % 256).toNat, by omega⟩
  obtain ⟨n, hn⟩ : ∃ n : Nat, j % 256 = (n : Int) := ⟨(j % 256).toNat, by omega⟩
  rw [hm] at hi
  rw [hn] at hj
  clear hm hn
  obtain ⟨I, hI⟩ : ∃ I : Nat, I = m % 6 := ⟨_, rfl⟩
  obtain ⟨J, hJ⟩ : ∃ J : Nat, J = n % 6 := ⟨_, rfl⟩
  have hI6 : I < 6 := by omega
  have hJ6 : J < 6 := by omega
  have tI : ((m : Int)).tmod 6 = (I : Int) := by rw [Int.tmod_eq_emod_of_nonneg (by omega)]; omega
  have tJ : ((n : Int)).tmod 6 = (J : Int) := by rw [Int.tmod_eq_emod_of_nonneg (by omega)]; omega
  have uI : (m : Int) % 6 = (I : Int) := by omega
  have uJ : (n : Int) % 6 = (J : Int) := by omega
  clear hI hJ
  have hmm := @run_makeMap Tryd.prog
  go_enter Tryd.func3, Tryd.ntmps3
  go_wp2_with fail
  refine (six_lit _ hs).mono ?_
  rintro e w1 ⟨rfl, hb⟩
  have hb1 := hb
  have hz1 := hb1.size
  clear hb
  go_upto_region 2 with (fail)
  have kS : Blk (w1.alloc (.cells #[.int .i64 1, .int .i64 0, .int .i64 0, .int .i64 1, .int .i64 (-1), .int .i64 1, .int .i64 (-1), .int .i64 0, .int .i64 0, .int .i64 (-1), .int .i64 1, .int .i64 (-1)] 24)) w1.heap.size 24 #[.int .i64 1, .int .i64 0, .int .i64 0, .int .i64 1, .int .i64 (-1), .int .i64 1, .int .i64 (-1), .int .i64 0, .int .i64 0, .int .i64 (-1), .int .i64 1, .int .i64 (-1)] := Blk.newAt _ _ _ _ rfl
  have hbS : Below w.heap.size w (w1.alloc (.cells #[.int .i64 1, .int .i64 0, .int .i64 0, .int .i64 1, .int .i64 (-1), .int .i64 1, .int .i64 (-1), .int .i64 0, .int .i64 0, .int .i64 (-1), .int .i64 1, .int .i64 (-1)] 24)) := hb1.alloc hz1 _
  generalize w1.alloc (.cells #[.int .i64 1, .int .i64 0, .int .i64 0, .int .i64 1, .int .i64 (-1), .int .i64 1, .int .i64 (-1), .int .i64 0, .int .i64 0, .int .i64 (-1), .int .i64 1, .int .i64 (-1)] 24) = w2 at *
  have hSl := kS.lt
  clear hb1 hz1
  generalize w1.heap.size = SB at *
  go_cut [6, 7] (fun v6 v7 wx => TwX w SB I J v6 v7 wx)
  case first =>
    obtain ⟨a1, a2⟩ := six_cellL I hI6
    obtain ⟨a3, a4⟩ := six_cellL J hJ6
    have c1 := (kS.cell (I * 2)).trans a1
    have c2 := (kS.cell (I * 2 + 1)).trans a2
    have c3 := (kS.cell (J * 2)).trans a3
    have c4 := (kS.cell (J * 2 + 1)).trans a4
    clear a1 a2 a3 a4
    have iI : (0 : Int) ≤ (I : Int) := by omega
    have iI6 : (I : Int) < 6 := by omega
    have iJ : (0 : Int) ≤ (J : Int) := by omega
    have iJ6 : (J : Int) < 6 := by omega
    go_region
    all_goals
      go_wp2_with fail
      go_meet
      first
        | exact ⟨_, _, rfl, rfl, (Blk.newAt _ _ _ _ rfl).alloc _, Blk.newAt _ _ _ _ (by simp), (kS.alloc _).alloc _, Ba.below_dr 1 ((hbS.alloc hbS.size _).alloc (by simp; have := hbS.size; omega) _)⟩
        | exact ⟨_, _, rfl, rfl, Blk.newAt _ _ _ _ (by simp), (Blk.newAt _ _ _ _ rfl).alloc _, (kS.alloc _).alloc _, Ba.below_dr 1 ((hbS.alloc hbS.size _).alloc (by simp; have := hbS.size; omega) _)⟩
  case rest =>
    clear hbS hSl kS hi hj tI tJ uI uJ
    obtain ⟨X, Y, rfl, rfl, kX, kY, kS, hbx⟩ := hcut
    have hXl := kX.lt
    have hYl := kY.lt
    have hSl := kS.lt
    have hBz := hbx.size
    have c0 := kS.cell 0; have c1 := kS.cell 1; have c2 := kS.cell 2; have c3 := kS.cell 3; have c4 := kS.cell 4; have c5 := kS.cell 5; have c6 := kS.cell 6; have c7 := kS.cell 7; have c8 := kS.cell 8; have c9 := kS.cell 9; have c10 := kS.cell 10; have c11 := kS.cell 11; simp only [List.getElem?_toArray, List.getElem?_cons_zero, List.getElem?_cons_succ] at c0 c1 c2 c3 c4 c5 c6 c7 c8 c9 c10 c11
    go_wp2_with fail
    have hown : Own (wc.alloc (.map #[] 0)) wc.heap.size 0 (mp I J 0) := World.ownsMap_made _ _ _ _
    have kX1 := kX.alloc (.map #[] 0)
    have kY1 := kY.alloc (.map #[] 0)
    have kS1 := kS.alloc (.map #[] 0)
    have hb1 := hbx.alloc hBz (.map #[] 0)
    clear kX kY kS hbx c0 c1 c2 c3 c4 c5 c6 c7 c8 c9 c10 c11
    generalize wc.alloc (.map #[] 0) = wm at *
    generalize wc.heap.size = B at *
    go_loopw [33] (fun i wr => Tw1 w SB X Y B I J i wr) (fun i _ => 6 - (intOf i).toNat)
    case atStart => exact ⟨0, by omega, rfl, hown, kX1, kY1, kS1, hb1⟩
    case round =>
      clear hown kX1 kY1 kS1 hb1
      obtain ⟨k, hk, rfl, hown, kX, kY, kS, hbr⟩ := hrel
      by_cases hlt : k < 6
      · obtain ⟨p0, p1, p2, p3⟩ := s_fin ⟨k, hlt⟩
        obtain ⟨i0, i1, i2, i3⟩ := s_fin ⟨I, hI6⟩
        obtain ⟨j0, j1, j2, j3⟩ := s_fin ⟨J, hJ6⟩
        obtain ⟨l0, l1, l2, l3⟩ := l_fin ⟨I, hI6⟩ ⟨J, hJ6⟩ ⟨k, hlt⟩
        dsimp only at p0 p1 p2 p3 i0 i1 i2 i3 j0 j1 j2 j3 l0 l1 l2 l3
        have hlin : ∀ W, Calls Tryd.prog 5 #[Pt (sA k) (sB k), Pt (sA I) (sB I), Pt (sA J) (sB J)] W fun e w' => e = .returned (Pt (lA I J k) (lB I J k)) ∧ Below W.heap.size W w' := fun W => linear_any (sA k) (sB k) (sA I) (sB I) (sA J) (sB J) W p0 p1 p2 p3 i0 i1 i2 i3 j0 j1 j2 j3
        have hkey := key_at (lA I J k) (lB I J k) l0 l1 l2 l3
        have HS := Lib.hid (show mp I J (k + 1) = (mp I J k).put (kl (lA I J k) (lB I J k)) (.lit (.int .i64 (IntKind.i64.wrap (cnt (mp I J k) (kl (lA I J k) (lB I J k)) + 1)))) from rfl)
        generalize lA I J k = la at *
        generalize lB I J k = lb at *
        generalize mp I J k = Dk at *
        have Hkey := Lib.hid hkey
        have Hlin := Lib.hid hlin
        clear p0 p1 p2 p3 i0 i1 i2 i3 j0 j1 j2 j3 l0 l1 l2 l3 hkey hlin
        have hix := idx_lit k hlt
        have hXl' := kX.lt
        go_wp2_with fail
        have kp : Blk (wr.alloc (.cells #[.int .i64 (sA k), .int .i64 (sB k)] 23)) wr.heap.size 23 #[.int .i64 (sA k), .int .i64 (sB k)] := Blk.newAt _ _ _ _ rfl
        have kX1 := kX.alloc (.cells #[.int .i64 (sA k), .int .i64 (sB k)] 23)
        have kY1 := kY.alloc (.cells #[.int .i64 (sA k), .int .i64 (sB k)] 23)
        have kS1 := kS.alloc (.cells #[.int .i64 (sA k), .int .i64 (sB k)] 23)
        have hown1 := World.ownsMap.alloc hown (.cells #[.int .i64 (sA k), .int .i64 (sB k)] 23)
        have hb1 := hbr.alloc hbr.size (.cells #[.int .i64 (sA k), .int .i64 (sB k)] 23)
        have hBl := World.ownsMap.lt hown
        have hpB : wr.heap.size ≠ B := by omega
        clear kX kY kS hbr hix hXl' hown hBl
        generalize wr.alloc (.cells #[.int .i64 (sA k), .int .i64 (sB k)] 23) = wp at *
        generalize wr.heap.size = PB at *
        refine wp_region_held_drew (S := fun w' => w'.cell? ⟨PB, 0, none⟩ = some (.int .i64 (sA k)) ∧ w'.cell? ⟨PB, 1, none⟩ = some (.int .i64 (sB k)) ∧ w'.cell? ⟨X, 0, none⟩ = some (.int .i64 (sA I)) ∧ w'.cell? ⟨X, 1, none⟩ = some (.int .i64 (sB I)) ∧ w'.cell? ⟨Y, 0, none⟩ = some (.int .i64 (sA J)) ∧ w'.cell? ⟨Y, 1, none⟩ = some (.int .i64 (sB J))) (by kernel_rfl) (keep222 kp kX1 kY1 (by go_grown)) (fun hHeld => ?_)
        (refine wpAnyH_take (i := 0) (v := ?_) rfl (by kernel_rfl) (by kernel_rfl) (by kernel_rfl) (fun _ _ _ h => h) (Or.inl ⟨by kernel_rfl, ?_⟩) (by assumption) ?_; rotate_left; (focus (intro wq hSw; (try dsimp only at hSw); go_simp; (try with_reducible rfl))); (try simp only [Act.put]))
        (refine wpAnyH_take (i := 1) (v := ?_) rfl (by kernel_rfl) (by kernel_rfl) (by kernel_rfl) (fun _ _ _ h => h) (Or.inl ⟨by kernel_rfl, ?_⟩) (by assumption) ?_; rotate_left; (focus (intro wq hSw; (try dsimp only at hSw); go_simp; (try with_reducible rfl))); (try simp only [Act.put]))
        (refine wpAnyH_take (i := 2) (v := ?_) rfl (by kernel_rfl) (by kernel_rfl) (by kernel_rfl) (fun _ _ _ h => h) (Or.inl ⟨by kernel_rfl, ?_⟩) (by assumption) ?_; rotate_left; (focus (intro wq hSw; (try dsimp only at hSw); go_simp; (try with_reducible rfl))); (try simp only [Act.put]))
        (refine wpAnyH_take (i := 3) (v := ?_) rfl (by kernel_rfl) (by kernel_rfl) (by kernel_rfl) (fun _ _ _ h => h) (Or.inl ⟨by kernel_rfl, ?_⟩) (by assumption) ?_; rotate_left; (focus (intro wq hSw; (try dsimp only at hSw); go_simp; (try with_reducible rfl))); (try simp only [Act.put]))
        (refine wpAnyH_ready (rs := [4]) (by kernel_rfl) (by simp) ?_; refine AllReadyH.cons rfl (fun K hK => ?_) AllReadyH.nil; go_simp)
        (with_reducible refine (Hlin.out _).mono ?_)
        rintro e w7 ⟨rfl, hb⟩
        dsimp only
        have hb7 : Below wp.heap.size wp w7 := Ba.below_call hb (by go_grown) (Nat.le_refl _)
        clear hb
        refine hK.out _ _ (keep222 kp kX1 kY1 hb7) (fun hHeld7 => ?_)
        clear hK K
        (try simp only [Act.put, List.setIfInBounds_toArray, List.set_cons_zero, List.set_cons_succ])
        have hown7 := own_under hown1 hb7
        obtain ⟨hlk, hwc⟩ := own_look hown7 Hkey.out
        obtain ⟨v0, st, o1, o2, hme, hes, hown8, hg1, hg2, hlk1⟩ := own_store hown7 (by unfold maxLen; omega) Hkey.out (IntKind.i64.wrap (cnt Dk (kl la lb) + 1)) (wf_wrap _ _)
        rw [← HS.out] at hown8
        generalize cnt Dk (kl la lb) = c at *
        have hXB : X ≠ B := by omega
        have hYB : Y ≠ B := by omega
        have hSBn : SB ≠ B := by omega
        have hs1 := keepG (kp.under hb7) (kX1.under hb7) (kY1.under hb7) hg1 hpB hXB hYB
        have hs2 := keepG (kp.under hb7) (kX1.under hb7) (kY1.under hb7) hg2 hpB hXB hYB
        have kX8 := (kX1.under hb7).grown hg2 (fun h => hXB (by injection h))
        have kY8 := (kY1.under hb7).grown hg2 (fun h => hYB (by injection h))
        have kS8 := (kS1.under hb7).grown hg2 (fun h => hSBn (by injection h))
        have hbz := hb1.size
        have hb8 : Below w.heap.size w (ChangeMaps.setBlock w7 B o2) := (hb1.trans (hb7.mono hbz)).grown hg2 (hb1.trans (hb7.mono hbz)).size (fun q hq => by injection hq with hq; omega)
        have Hes := Lib.hid hes
        have Hme := Lib.hid hme
        have Hlk := Lib.hid hlk
        have Hlk1 := Lib.hid hlk1
        clear hes hme hlk hlk1 hg1 hg2 hwc hown7 hown1 kp kX1 kY1 kS1 hb1 hHeld Hlin Hkey hbz
        refine wpAnyH_ready (rs := [5, 7]) (by kernel_rfl) (by simp) ?_
        refine AllReadyH.cons rfl (fun K hK => ?_) (AllReadyH.cons rfl (fun K hK => ?_) AllReadyH.nil)
        · have hlk := Hlk.out
          go_simp
          refine hK.out _ _ hHeld7 (fun hHeld5 => ?_)
          clear hK K hlk
          (try simp only [Act.put, List.setIfInBounds_toArray, List.set_cons_zero, List.set_cons_succ])
          (refine wpAnyH_take (i := 6) (v := ?_) rfl (by kernel_rfl) (by kernel_rfl) (by kernel_rfl) (fun _ _ _ h => h) (Or.inl ⟨by kernel_rfl, ?_⟩) (by assumption) ?_; rotate_left; (focus (intro wq hSw; (try dsimp only at hSw); go_simp; (try with_reducible rfl))); (try simp only [Act.put]))
          have hme := Hme.out
          (refine wpAnyH_ready (rs := [7]) (by kernel_rfl) (by simp) ?_; refine AllReadyH.cons rfl (fun K hK => ?_) AllReadyH.nil; go_simp)
          refine hK.out _ _ hs1 (fun hHeld6 => ?_)
          clear hK K hme
          (try simp only [Act.put, List.setIfInBounds_toArray, List.set_cons_zero, List.set_cons_succ])
          (refine wpAnyH_take (i := 8) (v := ?_) rfl (by kernel_rfl) (by kernel_rfl) (by kernel_rfl) (fun _ _ _ h => h) (Or.inl ⟨by kernel_rfl, ?_⟩) (by assumption) ?_; rotate_left; (focus (intro wq hSw; (try dsimp only at hSw); go_simp; (try with_reducible rfl))); (try simp only [Act.put]))
          have hes : (Instr.entryStore 26 (.map (some B)) (.int .i64 (st : Int)) (.int .i64 (IntKind.i64.wrap (c + 1)))).run Tryd.prog (ChangeMaps.setBlock w7 B o1) = .ok () (ChangeMaps.setBlock w7 B o2) := Hes.out
          (refine wpAnyH_ready (rs := [9]) (by kernel_rfl) (by simp) ?_; refine AllReadyH.cons rfl (fun K hK => ?_) AllReadyH.nil; go_simp)
          refine hK.out _ _ hs2 (fun hHeld9 => ?_)
          clear hK K hes
          refine wpAnyH_done (by kernel_rfl) ?_ _
          go_wp2_with fail
          go_roundw
          case rel => exact ⟨k + 1, by omega, by go_num, hown8, kX8, kY8, kS8, hb8⟩
          case measure => simp [intOf]; omega
        · have hme := Hme.out
          go_simp
          refine hK.out _ _ hs1 (fun hHeld5 => ?_)
          clear hK K hme
          (try simp only [Act.put, List.setIfInBounds_toArray, List.set_cons_zero, List.set_cons_succ])
          (refine wpAnyH_take (i := 8) (v := ?_) rfl (by kernel_rfl) (by kernel_rfl) (by kernel_rfl) (fun _ _ _ h => h) (Or.inl ⟨by kernel_rfl, ?_⟩) (by assumption) ?_; rotate_left; (focus (intro wq hSw; (try dsimp only at hSw); go_simp; (try with_reducible rfl))); (try simp only [Act.put]))
          have hlk1 := Hlk1.out
          (refine wpAnyH_ready (rs := [5]) (by kernel_rfl) (by simp) ?_; refine AllReadyH.cons rfl (fun K hK => ?_) AllReadyH.nil; go_simp)
          refine hK.out _ _ hs1 (fun hHeld6 => ?_)
          clear hK K hlk1
          (try simp only [Act.put, List.setIfInBounds_toArray, List.set_cons_zero, List.set_cons_succ])
          (refine wpAnyH_take (i := 6) (v := ?_) rfl (by kernel_rfl) (by kernel_rfl) (by kernel_rfl) (fun _ _ _ h => h) (Or.inl ⟨by kernel_rfl, ?_⟩) (by assumption) ?_; rotate_left; (focus (intro wq hSw; (try dsimp only at hSw); go_simp; (try with_reducible rfl))); (try simp only [Act.put]))
          have hes : (Instr.entryStore 26 (.map (some B)) (.int .i64 (st : Int)) (.int .i64 (IntKind.i64.wrap (c + 1)))).run Tryd.prog (ChangeMaps.setBlock w7 B o1) = .ok () (ChangeMaps.setBlock w7 B o2) := Hes.out
          (refine wpAnyH_ready (rs := [9]) (by kernel_rfl) (by simp) ?_; refine AllReadyH.cons rfl (fun K hK => ?_) AllReadyH.nil; go_simp)
          refine hK.out _ _ hs2 (fun hHeld9 => ?_)
          clear hK K hes
          refine wpAnyH_done (by kernel_rfl) ?_ _
          go_wp2_with fail
          go_roundw
          case rel => exact ⟨k + 1, by omega, by go_num, hown8, kX8, kY8, kS8, hb8⟩
          case measure => simp [intOf]; omega
      · obtain rfl : k = 6 := by omega
        have hSl' := kS.lt
        have H0 := Lib.hid (show keepsTo I J 0 = (((Maps.size (mp I J 6) : Nat) : Int) == 6) from rfl)
        obtain ⟨F1, F0⟩ := fin_all ⟨I, hI6⟩ ⟨J, hJ6⟩
        dsimp only at F1 F0
        have F1 := Lib.hid F1
        have F0 := Lib.hid F0
        obtain ⟨D6, HD0⟩ : ∃ D6, mp I J 6 = D6 := ⟨_, rfl⟩
        rw [HD0] at hown H0
        have HK := Lib.hid (fun k => (show keepsTo I J (k + 1) = (keepsTo I J k && (cnt D6 (kl (sA k) (sB k)) == 1)) by rw [← HD0]; rfl))
        have HD := Lib.hid HD0
        clear HD0
        have c0 := kS.cell 0; have c1 := kS.cell 1; have c2 := kS.cell 2; have c3 := kS.cell 3; have c4 := kS.cell 4; have c5 := kS.cell 5; have c6 := kS.cell 6; have c7 := kS.cell 7; have c8 := kS.cell 8; have c9 := kS.cell 9; have c10 := kS.cell 10; have c11 := kS.cell 11; simp only [List.getElem?_toArray, List.getElem?_cons_zero, List.getElem?_cons_succ] at c0 c1 c2 c3 c4 c5 c6 c7 c8 c9 c10 c11
        go_wp2_with (at_len; refine wpList_len_own _ rfl _ 26 rfl 23 3 Tryd.underlying26 _ B 6 _ rfl hown ?_)
        have hm2 : TwMem w SB X Y I J wr := ⟨kX, kY, kS, hbr⟩
        clear kX kY kS hbr c0 c1 c2 c3 c4 c5 c6 c7 c8 c9 c10 c11
        go_loopw [11, 50] (fun v i wr => Tw2 w SB X Y B I J v i wr) (fun _ i _ => 6 - (intOf i).toNat)
        case atStart => exact ⟨0, by omega, rfl, by rw [H0.out], HD.out ▸ hown, hm2⟩
        case round =>
          clear hown hm2
          obtain ⟨k, hk, rfl, rfl, hown, kX, kY, kS, hbr⟩ := hrel
          rw [HD.out] at hown
          by_cases hlt : k < 6
          · obtain ⟨p0, p1, p2, p3⟩ := s_fin ⟨k, hlt⟩
            dsimp only at p0 p1 p2 p3
            have hkey := key_at (sA k) (sB k) (by omega) (by omega) (by omega) (by omega)
            have hix := idx_lit k hlt
            have kX1 := kX.alloc (.cells #[.int .i64 (sA k), .int .i64 (sB k)] 23)
            have kY1 := kY.alloc (.cells #[.int .i64 (sA k), .int .i64 (sB k)] 23)
            have kS1 := kS.alloc (.cells #[.int .i64 (sA k), .int .i64 (sB k)] 23)
            have hown1 := World.ownsMap.alloc hown (.cells #[.int .i64 (sA k), .int .i64 (sB k)] 23)
            have hb1 := hbr.alloc hbr.size (.cells #[.int .i64 (sA k), .int .i64 (sB k)] 23)
            obtain ⟨hlk, _⟩ := own_look hown1 hkey
            have HK1 := Lib.hid (HK.out k)
            generalize cnt D6 (kl (sA k) (sB k)) = c at *
            clear p0 p1 p2 p3 hkey kX kY kS hown hbr
            cases hkk : keepsTo I J k
            · have HR := Lib.hid (show keepsTo I J (k + 1) = false by rw [HK1.out, hkk]; rfl)
              clear hkk
              go_wp2
              go_roundw
              case rel => exact ⟨k + 1, by omega, by go_num, by rw [HR.out], HD.out ▸ hown1, kX1, kY1, kS1, hb1⟩
              case measure => simp [intOf]; omega
            · have HR := Lib.hid (show keepsTo I J (k + 1) = (c == 1) by rw [HK1.out, hkk]; rfl)
              clear hkk
              go_wp2
              go_roundw
              case rel => exact ⟨k + 1, by omega, by go_num, by rw [HR.out], HD.out ▸ hown1, kX1, kY1, kS1, hb1⟩
              case measure => simp [intOf]; omega
          · obtain rfl : k = 6 := by omega
            rw [show ((6 : Nat) : Int) = 6 from rfl]
            have hm3 : TwMem w SB X Y I J wr := ⟨kX, kY, kS, hbr⟩
            clear kX kY kS hbr hown
            generalize keepsTo I J 6 = KB at *
            go_wp2_with fail
            go_loopw [14, 61] (fun v i wr => Tw3 w SB X Y I J v i wr) (fun _ i _ => 12 - (intOf i).toNat)
            case atStart => exact ⟨0, by omega, rfl, rfl, hm3⟩
            case round =>
              clear hm3
              obtain ⟨o, ho, rfl, rfl, kX, kY, kS, hbr⟩ := hrel
              by_cases hlt : o < 12
              · obtain ⟨q1, q2⟩ := op_fin ⟨o, hlt⟩
                dsimp only at q1 q2
                have h1 := fun W => on_yes (o : Int) 1 0 W (by omega) (by omega) (by decide) q1
                have h2 := fun W => on_yes (o : Int) 0 1 W (by omega) (by omega) (by decide) q2
                have hfl := found_le I J o
                have HF := Lib.hid (show foundTo I J (o + 1) = if hit I J o = true then foundTo I J o + 1 else foundTo I J o from rfl)
                have Hh := Lib.hid (show hit I J o = ((opA o 1 0 == sA I && opB o 1 0 == sB I) && (opA o 0 1 == sA J && opB o 0 1 == sB J)) from rfl)
                generalize opA (o : Int) 1 0 = a1 at *
                generalize opB (o : Int) 1 0 = b1 at *
                generalize opA (o : Int) 0 1 = a2 at *
                generalize opB (o : Int) 0 1 = b2 at *
                generalize foundTo I J o = f at *
                have H1 := Lib.hid h1
                have H2 := Lib.hid h2
                have HLT := Lib.hid hlt
                have hltI : (o : Int) < 12 := by omega
                have HFB := Lib.hid (show (f : Int) ≤ 12 by omega)
                clear q1 q2 h1 h2 hfl hlt ho
                have ep1 := eql_pt a1 b1 (sA I) (sB I)
                have ep2 := eql_pt a2 b2 (sA J) (sB J)
                cases g1 : (a1 == sA I && b1 == sB I)
                · cases g2 : (a2 == sA J && b2 == sB J)
                  · have HN := Lib.hid (show foundTo I J (o + 1) = f by rw [HF.out, Hh.out, g1, g2]; rfl)
                    rw [g1] at ep1
                    rw [g2] at ep2
                    clear g1 g2
                    go_wp2_with fail
                    (with_reducible refine (H1.out _).mono ?_)
                    rintro e w3 ⟨rfl, hb⟩
                    have kX1 := kX.under hb
                    have kY1 := kY.under hb
                    have kS1 := kS.under hb
                    have hb1 := Ba.below_call hb hbr hbr.size
                    clear hb
                    go_wp2_with fail
                    (with_reducible refine (H2.out _).mono ?_)
                    rintro e w4 ⟨rfl, hb⟩
                    have ka : Blk w4 w3.heap.size 23 #[.int .i64 a1, .int .i64 b1] := (Blk.newAt w3 _ _ _ rfl).under hb
                    have kX2 := (kX1.alloc (.cells #[.int .i64 a1, .int .i64 b1] 23)).under hb
                    have kY2 := (kY1.alloc (.cells #[.int .i64 a1, .int .i64 b1] 23)).under hb
                    have kS2 := (kS1.alloc (.cells #[.int .i64 a1, .int .i64 b1] 23)).under hb
                    have hb2 := Ba.below_call hb (hb1.alloc hb1.size (.cells #[.int .i64 a1, .int .i64 b1] 23)) (by simp; have := hb1.size; omega)
                    clear hb kX1 kY1 kS1
                    have d0 := ka.cell 0
                    have d1 := ka.cell 1
                    have x0 := kX2.cell 0
                    have x1 := kX2.cell 1
                    have y0 := kY2.cell 0
                    have y1 := kY2.cell 1
                    simp only [List.getElem?_toArray, List.getElem?_cons_zero, List.getElem?_cons_succ] at d0 d1 x0 x1 y0 y1
                    have la := ka.lt
                    have lx := kX2.lt
                    have ly := kY2.lt
                    clear hltI
                    go_upto_if 89 with (fail)
                    clear d0 d1 x0 x1 y0 y1 la lx ly H1 H2 ep1 ep2 ka
                    have hlt := HLT.out
                    have ew : wrap64 ((f : Int) + 1) = (f : Int) + 1 := by have := HFB.out; unfold wrap64; omega
                    have eo : wrap64 ((o : Int) + 1) = (o : Int) + 1 := by unfold wrap64; omega
                    clear hlt
                    go_wp2
                    have hlt := HLT.out
                    go_roundw
                    case rel =>
                      refine ⟨o + 1, hlt, ?_, ?_, kX2.alloc _, kY2.alloc _, kS2.alloc _, hb2.alloc hb2.size _⟩
                      · rw [eo]; rfl
                      · first | (rw [HN.out]; done) | (rw [HN.out, ew]; rfl)
                    case measure =>
                      rw [eo]
                      exact meas12 o HLT.out
                  · have HN := Lib.hid (show foundTo I J (o + 1) = f by rw [HF.out, Hh.out, g1, g2]; rfl)
                    rw [g1] at ep1
                    rw [g2] at ep2
                    clear g1 g2
                    go_wp2_with fail
                    (with_reducible refine (H1.out _).mono ?_)
                    rintro e w3 ⟨rfl, hb⟩
                    have kX1 := kX.under hb
                    have kY1 := kY.under hb
                    have kS1 := kS.under hb
                    have hb1 := Ba.below_call hb hbr hbr.size
                    clear hb
                    go_wp2_with fail
                    (with_reducible refine (H2.out _).mono ?_)
                    rintro e w4 ⟨rfl, hb⟩
                    have ka : Blk w4 w3.heap.size 23 #[.int .i64 a1, .int .i64 b1] := (Blk.newAt w3 _ _ _ rfl).under hb
                    have kX2 := (kX1.alloc (.cells #[.int .i64 a1, .int .i64 b1] 23)).under hb
                    have kY2 := (kY1.alloc (.cells #[.int .i64 a1, .int .i64 b1] 23)).under hb
                    have kS2 := (kS1.alloc (.cells #[.int .i64 a1, .int .i64 b1] 23)).under hb
                    have hb2 := Ba.below_call hb (hb1.alloc hb1.size (.cells #[.int .i64 a1, .int .i64 b1] 23)) (by simp; have := hb1.size; omega)
                    clear hb kX1 kY1 kS1
                    have d0 := ka.cell 0
                    have d1 := ka.cell 1
                    have x0 := kX2.cell 0
                    have x1 := kX2.cell 1
                    have y0 := kY2.cell 0
                    have y1 := kY2.cell 1
                    simp only [List.getElem?_toArray, List.getElem?_cons_zero, List.getElem?_cons_succ] at d0 d1 x0 x1 y0 y1
                    have la := ka.lt
                    have lx := kX2.lt
                    have ly := kY2.lt
                    clear hltI
                    go_upto_if 89 with (fail)
                    clear d0 d1 x0 x1 y0 y1 la lx ly H1 H2 ep1 ep2 ka
                    have hlt := HLT.out
                    have ew : wrap64 ((f : Int) + 1) = (f : Int) + 1 := by have := HFB.out; unfold wrap64; omega
                    have eo : wrap64 ((o : Int) + 1) = (o : Int) + 1 := by unfold wrap64; omega
                    clear hlt
                    go_wp2
                    have hlt := HLT.out
                    go_roundw
                    case rel =>
                      refine ⟨o + 1, hlt, ?_, ?_, kX2.alloc _, kY2.alloc _, kS2.alloc _, hb2.alloc hb2.size _⟩
                      · rw [eo]; rfl
                      · first | (rw [HN.out]; done) | (rw [HN.out, ew]; rfl)
                    case measure =>
                      rw [eo]
                      exact meas12 o HLT.out
                · cases g2 : (a2 == sA J && b2 == sB J)
                  · have HN := Lib.hid (show foundTo I J (o + 1) = f by rw [HF.out, Hh.out, g1, g2]; rfl)
                    rw [g1] at ep1
                    rw [g2] at ep2
                    clear g1 g2
                    go_wp2_with fail
                    (with_reducible refine (H1.out _).mono ?_)
                    rintro e w3 ⟨rfl, hb⟩
                    have kX1 := kX.under hb
                    have kY1 := kY.under hb
                    have kS1 := kS.under hb
                    have hb1 := Ba.below_call hb hbr hbr.size
                    clear hb
                    go_wp2_with fail
                    (with_reducible refine (H2.out _).mono ?_)
                    rintro e w4 ⟨rfl, hb⟩
                    have ka : Blk w4 w3.heap.size 23 #[.int .i64 a1, .int .i64 b1] := (Blk.newAt w3 _ _ _ rfl).under hb
                    have kX2 := (kX1.alloc (.cells #[.int .i64 a1, .int .i64 b1] 23)).under hb
                    have kY2 := (kY1.alloc (.cells #[.int .i64 a1, .int .i64 b1] 23)).under hb
                    have kS2 := (kS1.alloc (.cells #[.int .i64 a1, .int .i64 b1] 23)).under hb
                    have hb2 := Ba.below_call hb (hb1.alloc hb1.size (.cells #[.int .i64 a1, .int .i64 b1] 23)) (by simp; have := hb1.size; omega)
                    clear hb kX1 kY1 kS1
                    have d0 := ka.cell 0
                    have d1 := ka.cell 1
                    have x0 := kX2.cell 0
                    have x1 := kX2.cell 1
                    have y0 := kY2.cell 0
                    have y1 := kY2.cell 1
                    simp only [List.getElem?_toArray, List.getElem?_cons_zero, List.getElem?_cons_succ] at d0 d1 x0 x1 y0 y1
                    have la := ka.lt
                    have lx := kX2.lt
                    have ly := kY2.lt
                    clear hltI
                    go_upto_if 89 with (fail)
                    clear d0 d1 x0 x1 y0 y1 la lx ly H1 H2 ep1 ep2 ka
                    have hlt := HLT.out
                    have ew : wrap64 ((f : Int) + 1) = (f : Int) + 1 := by have := HFB.out; unfold wrap64; omega
                    have eo : wrap64 ((o : Int) + 1) = (o : Int) + 1 := by unfold wrap64; omega
                    clear hlt
                    go_wp2
                    have hlt := HLT.out
                    go_roundw
                    case rel =>
                      refine ⟨o + 1, hlt, ?_, ?_, kX2.alloc _, kY2.alloc _, kS2.alloc _, hb2.alloc hb2.size _⟩
                      · rw [eo]; rfl
                      · first | (rw [HN.out]; done) | (rw [HN.out, ew]; rfl)
                    case measure =>
                      rw [eo]
                      exact meas12 o HLT.out
                  · have HN := Lib.hid (show foundTo I J (o + 1) = f + 1 by rw [HF.out, Hh.out, g1, g2]; rfl)
                    rw [g1] at ep1
                    rw [g2] at ep2
                    clear g1 g2
                    go_wp2_with fail
                    (with_reducible refine (H1.out _).mono ?_)
                    rintro e w3 ⟨rfl, hb⟩
                    have kX1 := kX.under hb
                    have kY1 := kY.under hb
                    have kS1 := kS.under hb
                    have hb1 := Ba.below_call hb hbr hbr.size
                    clear hb
                    go_wp2_with fail
                    (with_reducible refine (H2.out _).mono ?_)
                    rintro e w4 ⟨rfl, hb⟩
                    have ka : Blk w4 w3.heap.size 23 #[.int .i64 a1, .int .i64 b1] := (Blk.newAt w3 _ _ _ rfl).under hb
                    have kX2 := (kX1.alloc (.cells #[.int .i64 a1, .int .i64 b1] 23)).under hb
                    have kY2 := (kY1.alloc (.cells #[.int .i64 a1, .int .i64 b1] 23)).under hb
                    have kS2 := (kS1.alloc (.cells #[.int .i64 a1, .int .i64 b1] 23)).under hb
                    have hb2 := Ba.below_call hb (hb1.alloc hb1.size (.cells #[.int .i64 a1, .int .i64 b1] 23)) (by simp; have := hb1.size; omega)
                    clear hb kX1 kY1 kS1
                    have d0 := ka.cell 0
                    have d1 := ka.cell 1
                    have x0 := kX2.cell 0
                    have x1 := kX2.cell 1
                    have y0 := kY2.cell 0
                    have y1 := kY2.cell 1
                    simp only [List.getElem?_toArray, List.getElem?_cons_zero, List.getElem?_cons_succ] at d0 d1 x0 x1 y0 y1
                    have la := ka.lt
                    have lx := kX2.lt
                    have ly := kY2.lt
                    clear hltI
                    go_upto_if 89 with (fail)
                    clear d0 d1 x0 x1 y0 y1 la lx ly H1 H2 ep1 ep2 ka
                    have hlt := HLT.out
                    have ew : wrap64 ((f : Int) + 1) = (f : Int) + 1 := by have := HFB.out; unfold wrap64; omega
                    have eo : wrap64 ((o : Int) + 1) = (o : Int) + 1 := by unfold wrap64; omega
                    clear hlt
                    go_wp2
                    have hlt := HLT.out
                    go_roundw
                    case rel =>
                      refine ⟨o + 1, hlt, ?_, ?_, kX2.alloc _, kY2.alloc _, kS2.alloc _, hb2.alloc hb2.size _⟩
                      · rw [eo]; rfl
                      · first | (rw [HN.out]; done) | (rw [HN.out, ew]; rfl)
                    case measure =>
                      rw [eo]
                      exact meas12 o HLT.out
              · obtain rfl : o = 12 := by omega
                have G1 := F1.out
                have G0 := F0.out
                generalize foundTo I J 12 = f at *
                cases KB
                all_goals
                  simp only [Bool.not_true, Bool.not_false] at G0
                  go_wp2_with fail
                  (with_reducible refine (awake02_any _ (hs.below hbr)).mono ?_)
                  rintro e w3 ⟨rfl, hb⟩
                  have hb1 := Ba.below_call hb hbr hbr.size
                  clear hb
                  go_wp2
                  go_ret
                  exact ⟨rfl, hb1⟩
section honeycombTwelveFrame
open Go.ChangeShapes Go.WideShapes Go.ChangeAt Go.RowKit Go.Joins
set_option maxRecDepth 100000 in
theorem honeycombTwelve_contract (H : Type) (enc : TypeId × Value → H) (W : World) (base : Nat) (args : Array Value) (ds gs : List (DataW H)) (before : List MemPlace)
    (hval : ∀ (j : Nat) t v, Tryd.f3.params[j]? = some t → args[j]? = some v → Value.okWide Tryd.prog W .any base t v)
    (hW : DataW.Whole enc Tryd.prog Tryd.f3.params.toList Rows.honeycombTwelveSpec.vars false W args.toList ds gs before) (hL : laidMetH Tryd.prog Rows.honeycombTwelveRow.laid W) :
    Calls Tryd.prog 3 args W fun e W' => ∃ v, e = .returned v ∧ Rows.honeycombTwelveSpec.post enc Tryd.prog Tryd.f3 false true false false W args v W' := by
  have hW' := hW
  obtain ⟨p, q, hA0, hV, rfl, hfz, hnd⟩ := hW
  have hA : DataW.TrodAll enc Tryd.prog W 0 (fun _ => true) true Tryd.f3.params.toList args.toList ds p := hA0
  rw [Tryd.params3] at hA hval
  obtain ⟨v0, vs0, d0, ds0, p0, q0, hargs, rfl, rfl, h0, r0⟩ := trodAll_cons hA
  obtain ⟨v1, vs1, d1, ds1, p1, q1, rfl, rfl, rfl, h1, r1⟩ := trodAll_cons r0
  obtain ⟨rfl, rfl, rfl⟩ := trodAll_nil r1
  obtain rfl : args = #[v0, v1] := by cases args; simp_all
  obtain ⟨rfl, rfl⟩ := trodVars_none hV
  obtain ⟨i, rfl, rfl, rfl, w_i⟩ := open_int Tryd.underlying3 (hval 0 3 v0 rfl rfl) h0
  obtain ⟨j, rfl, rfl, rfl, w_j⟩ := open_int Tryd.underlying3 (hval 1 3 v1 rfl rfl) h1
  refine (honeycombTwelve_walk i w_i j w_j W (six_of_laid hL)).mono fun e W' ⟨he, hb⟩ => ?_
  exact ⟨_, he, law_post laidOut rfl rfl Tryd.underlying4 (by kernel_rfl) hW' hb ⟨rfl, rfl, rfl⟩⟩
theorem honeycombTwelve_met (os : Os) : laidMet Tryd.prog Rows.honeycombTwelveRow.laid ((laidWorld os).forCall (fun _ _ => 0) ⟨#[], #[.int .i64 0, .int .i64 0], []⟩).memory :=
  laidMet_of_run' 8 (by kernel_rfl) (by kernel_rfl)
theorem honeycombTwelve_reads (os : Os) {H : Type} (enc : TypeId × Value → H) : ∃ places, DataW.whole enc Tryd.prog ((laidWorld os).forCall (fun _ _ => 0) ⟨#[], #[.int .i64 0, .int .i64 0], []⟩).memory Tryd.f3.params.toList Rows.honeycombTwelveSpec.vars false #[(.int .i64 0 : Value), (.int .i64 0 : Value)].toList 8 = some ([.lit (.int .i64 0), .lit (.int .i64 0)], [], places) :=
  ⟨[], by kernel_rfl⟩
set_option maxRecDepth 100000 in
theorem honeycombTwelve_lifted (os : Os) (started : os.Started) (H : Type) (enc : TypeId × Value → H) (F : Stop.Interp) :
    ReturnsInHanded {} Tryd.checked os 3 .any ((OpenSpec.ofChange Rows.honeycombTwelveSpec).preRow enc Tryd.prog Tryd.f3 Rows.honeycombTwelveRow.domain false Rows.honeycombTwelveRow.laid) (((OpenSpec.ofChange Rows.honeycombTwelveSpec).at F).post enc Tryd.prog Tryd.f3 false true false false) := by
  obtain ⟨places, hx⟩ := honeycombTwelve_reads os enc
  refine returnsInHanded_of_row (C := Tryd.checked) (s := OpenSpec.ofChange Rows.honeycombTwelveSpec) own started (by kernel_rfl) Tryd.func3
    (witness_row_at (enc := enc) (C := Tryd.checked) false (laidWorld os) #[.int .i64 0, .int .i64 0] rfl (by kernel_rfl) (by kernel_rfl) (by kernel_rfl)
      (OpenSpec.preRow_of_cond 8 hx (by kernel_rfl) (fun k hk => by cases hk) (by kernel_rfl) (honeycombTwelve_met os))) ?_
  intro W base args ds gs before hval hW _ _ _ hL _ _
  exact honeycombTwelve_contract H enc W base args ds gs before hval hW hL
theorem honeycombTwelve_said : Rows.HoneycombTwelveSaid :=
  OpenClaim.holds_of_cond 3 Tryd.f3 rfl rfl rfl rfl rfl rfl rfl ⟨rfl, rfl, rfl, rfl, rfl⟩ rfl rfl rfl rfl rfl (by kernel_rfl) Tryd.func3 (by kernel_rfl)
    (of_decide_eq_true (by kernel_rfl)) (by unfold Func.isWrapper; first | (rw [if_pos (by decide +kernel)]; kernel_rfl) | (rw [if_neg (by decide +kernel)]; exact ⟨rfl, rfl⟩))
    (fun os started H enc _ F => by rw [OpenClaim.pre_eq_preRow]; exact honeycombTwelve_lifted os started H enc F)
theorem honeycombTwelve_plain (f : FuncId) (fn : Func) (hf : Tryd.pinned.checked.prog.funcNamed "honeycomb/honeycombtop.HoneycombTwelve" = some f) (hfn : Tryd.pinned.checked.prog.funcs[f]? = some fn) :
    false = Tryd.pinned.checked.prog.looks [] ∧ ∀ (j : Nat) t, fn.params[j]? = some t → Tryd.pinned.checked.prog.wantsStandIn t = false := by
  obtain rfl : f = 3 := Option.some.inj ((show Tryd.prog.funcNamed "honeycomb/honeycombtop.HoneycombTwelve" = some 3 by kernel_rfl).symm.trans hf) |>.symm
  obtain rfl : fn = Tryd.f3 := (Option.some.inj (Tryd.func3.symm.trans hfn)).symm
  refine ⟨by kernel_rfl, fun j t ht => ?_⟩
  have hall : (Tryd.f3.params.toList.all fun t => !Tryd.prog.wantsStandIn t) = true := by kernel_rfl
  have hm : t ∈ Tryd.f3.params.toList := by simpa using Array.mem_of_getElem? ht
  have := List.all_eq_true.1 hall t hm
  exact (show Tryd.prog.wantsStandIn t = false by simpa using this)
end honeycombTwelveFrame
/-- HoneycombTwelve: the card: for every input the law answers true. -/
theorem honeycombTwelve_card : Rows.HoneycombTwelveCardSaid :=
  Claim7.holds_tied_plain_at .later [] _ _ _ _ honeycombTwelve_said (fun _ h => by cases h) (by kernel_rfl) (fun _ h => by cases h) honeycombTwelve_row_tie rfl ⟨rfl, rfl⟩ (by kernel_rfl) rfl honeycombTwelve_plain (by kernel_rfl)
end Go.Proofs.YtnjidnghpaloeaaDoor.Tw
namespace Go.Proofs.YtnjidnghpaloeaaDoor
theorem honeycombTwelve_proved : Rows.HoneycombTwelveCardSaid := Tw.honeycombTwelve_card
#print axioms honeycombTwelve_proved
end Go.Proofs.YtnjidnghpaloeaaDoor
