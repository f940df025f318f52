/- CellSymmetry: any two operators, any cell of small coordinates: those beside it are brought to those beside where it is brought, each to another one; two operators as one, and back. No conditions. -/
import Derived.Test.YtoimaiaccmmakaaDoorCeS1
import Derived.Deep.RegionHeld3
import Derived.Deep.DeepCutAuto
namespace Go.Proofs.YtoimaiaccmmakaaDoor.Ce
open Go.RowKit Go.Proofs.YtoimaiaccmmakaaDoor.Ax Go.Maps

def Rel8 (W : World) (x y z : Int) (v n : Value) (wx : World) : Prop := ∃ f, v = .pointer (some ⟨f, 0, none⟩) ∧ n = .nilIface ∧ Box3 f wx x y z ∧ Below W.heap.size W wx
theorem keep3 {W w' : World} {A : Nat} {a b h : Int} (k : Blk W A 31 #[.int .i64 a, .int .i64 b, .int .i64 h]) (hb : Below W.heap.size W w') :
    w'.cell? ⟨A, 0, none⟩ = some (.int .i64 a) ∧ w'.cell? ⟨A, 1, none⟩ = some (.int .i64 b) ∧ w'.cell? ⟨A, 2, none⟩ = some (.int .i64 h) :=
  ⟨(k.below hb k.lt).cell 0, (k.below hb k.lt).cell 1, (k.below hb k.lt).cell 2⟩
theorem boxd3 {W w5 : World} {t : TypeId} (hb : Below (W.alloc (.cells #[.int .i64 0, .int .i64 0, .int .i64 0] t)).drew.heap.size (W.alloc (.cells #[.int .i64 0, .int .i64 0, .int .i64 0] t)).drew w5) : Box3 W.heap.size w5 0 0 0 :=
  box3_below (by simp [Box3, go_sem]) hb
theorem box3_set {B : Nat} {w : World} {x y z : Int} (h : Box3 B w x y z) (x' y' z' : Int) : Box3 B (((w.setCell ⟨B, 0, none⟩ (.int .i64 x')).setCell ⟨B, 1, none⟩ (.int .i64 y')).setCell ⟨B, 2, none⟩ (.int .i64 z')) x' y' z' := by
  obtain ⟨⟨h0, h1, h2⟩, ⟨f0, f1, f2⟩, hl⟩ := h
  simp [Box3, go_sem, *]
def SyR (w : World) (g D B : Nat) (L : List C) (l o da db dc : Int) (i : Value) (wr : World) : Prop :=
  ∃ (k : Nat) (Dm : DataW Unit), k ≤ L.length ∧ i = .int .i64 k ∧ OwnC wr B k Dm ∧ Holds Dm ((L.map (onC l o)).take k) ∧ Row wr g L ∧ Blk wr D 31 #[.int .i64 da, .int .i64 db, .int .i64 dc] ∧ Below w.heap.size w wr
theorem nodup_take {α : Type} {M : List α} (h : M.Nodup) {k : Nat} {c : α} (hc : M[k]? = some c) : c ∉ M.take k := by
  intro hm
  obtain ⟨i, hi, he⟩ := List.mem_iff_getElem.1 hm
  obtain ⟨hk, rfl⟩ := List.getElem?_eq_some_iff.1 hc
  rw [List.getElem_take] at he
  rw [List.length_take] at hi
  exact List.pairwise_iff_getElem.1 h i k (by omega) hk (by omega) he
theorem grown_cell {w w' : World} {B g i : Nat} (hg : w.grownBy w' (some B)) (hl : g < w.heap.size) (hne : g ≠ B) : w'.cell? ⟨g, i, none⟩ = w.cell? ⟨g, i, none⟩ := by
  have h := hg.block g hl (fun e => hne (by injection e))
  simp only [World.cell?, h]
theorem keep33 {W w' : World} {A B : Nat} {t u : TypeId} {a b h c d e : Value} (k : Blk W A t #[a, b, h]) (k' : Blk W B u #[c, d, e]) (hb : Below W.heap.size W w') :
    w'.cell? ⟨A, 0, none⟩ = some a ∧ w'.cell? ⟨A, 1, none⟩ = some b ∧ w'.cell? ⟨A, 2, none⟩ = some h ∧ w'.cell? ⟨B, 0, none⟩ = some c ∧ w'.cell? ⟨B, 1, none⟩ = some d ∧ w'.cell? ⟨B, 2, none⟩ = some e :=
  ⟨(k.below hb k.lt).cell 0, (k.below hb k.lt).cell 1, (k.below hb k.lt).cell 2, (k'.below hb k'.lt).cell 0, (k'.below hb k'.lt).cell 1, (k'.below hb k'.lt).cell 2⟩
set_option maxRecDepth 100000 in
set_option maxHeartbeats 8000000 in
theorem cellSymmetry_walk (n : Int) (_wn : (Lit.int .i64 n).wf = true) (u : Int) (_wu : (Lit.int .i64 u).wf = true) (v : Int) (_wv : (Lit.int .i64 v).wf = true) (rA : Int) (_wrA : (Lit.int .i64 rA).wf = true) (rB : Int) (_wrB : (Lit.int .i64 rB).wf = true) (rH : Int) (_wrH : (Lit.int .i64 rH).wf = true) (w : World) (hs : SixIs w) :
    Calls Tryd.prog 3 #[.int .i64 n, .int .i64 u, .int .i64 v, Ce rA rB rH] w fun e w' => e = .returned (.bool true) ∧ Below w.heap.size w w' := by
  have hu := i64_and255 u
  have hv := i64_and255 v
  have u0 : 0 ≤ u % 256 := by omega
  have v0 : 0 ≤ v % 256 := by omega
  have u1 : u % 256 ≤ 255 := by omega
  have v1 : v % 256 ≤ 255 := by omega
  go_enter Tryd.func3, Tryd.ntmps3
  go_wp2_with fail
  refine (awake_any _ (hs.below (by go_grown))).mono ?_
  rintro e w1 ⟨rfl, hb⟩
  have k1 := (Blk.newAt w 23 #[.int .i64 rA, .int .i64 rB, .int .i64 rH] _ rfl).below hb (by simp)
  have hb1 := below_call (B := w.heap.size) (w := w) hb (by go_grown) (by go_size)
  clear hb
  obtain ⟨c0, c1, c2, hl1⟩ := k1.ce
  go_wp2_with (go_at_call 5; refine (lattice_any _ _).mono ?_; rintro e w' ⟨rfl, rfl⟩)
  refine (some_any _ _ _ _ _).mono ?_
  rintro e w2 ⟨rfl, hb⟩
  have hb2 := below_call (B := w.heap.size) (w := w) hb hb1 hb1.size
  have hz2 := hb2.size
  clear hb c0 c1 c2 k1 hl1
  have hl := latV_cases n
  generalize latV n = l at *
  obtain ⟨h0, h1⟩ := someH_bd l rH
  generalize someH l rH = h at *
  have ha := tmod_bd rA 100 (by decide)
  have hbb := tmod_bd rB 100 (by decide)
  generalize rA.tmod 100 = a at *
  generalize rB.tmod 100 = b at *
  have o0 : 0 ≤ u % 256 % 12 := by omega
  have o1 : u % 256 % 12 < 12 := by omega
  have p0 : 0 ≤ v % 256 % 12 := by omega
  have p1 : v % 256 % 12 < 12 := by omega
  clear hu hv u0 v0 u1 v1
  generalize u % 256 % 12 = o at *
  generalize v % 256 % 12 = p at *
  have hh : h = 0 ∨ h = 1 := by unfold halvesV at h1; split at h1 <;> omega
  obtain ⟨d0, d1, d2, d3⟩ := onC_sm l o o0 o1 a b h hh 100 (by omega) (by omega)
  have dh : onH l o h = 0 ∨ onH l o h = 1 := by unfold halvesV at d3; split at d3 <;> omega
  have hT := on_then l o p a b h hl h0 h1 o0 o1 p0 p1
  have hB := on_back l o a b h hl h0 h1 o0 o1
  obtain ⟨⟨q0, q1⟩, _⟩ := bop_of o o0 o1
  obtain ⟨t0, t1⟩ := then_bd o p o0 o1 p0 p1
  have HN := Lib.hid (fun (d : C) (hd : d ∈ besAll l a b h) => sym_near l o a b h hl h0 h1 o0 o1 hd)
  have con1 := Lib.hid (fun W => con_yes l o a b h W hl o0 o1 h0 h1 (by omega) (by omega))
  have con2 := Lib.hid (fun W => con_yes l p (onA l o a b h) (onB l o a b h) (onH l o h) W hl p0 p1 d2 d3 (by omega) (by omega))
  have con3 := Lib.hid (fun W => con_yes l (thenV o p) a b h W hl t0 t1 h0 h1 (by omega) (by omega))
  have con4 := Lib.hid (fun W => con_yes l (backV o) (onA l o a b h) (onB l o a b h) (onH l o h) W hl q0 q1 d2 d3 (by omega) (by omega))
  have T1 : onA l p (onA l o a b h) (onB l o a b h) (onH l o h) = onA l (thenV o p) a b h := congrArg (fun c : C => c.1) hT
  have T2 : onB l p (onA l o a b h) (onB l o a b h) (onH l o h) = onB l (thenV o p) a b h := congrArg (fun c : C => c.2.1) hT
  have T3 : onH l p (onH l o h) = onH l (thenV o p) h := congrArg (fun c : C => c.2.2) hT
  have B1 : onA l (backV o) (onA l o a b h) (onB l o a b h) (onH l o h) = a := congrArg (fun c : C => c.1) hB
  have B2 : onB l (backV o) (onA l o a b h) (onB l o a b h) (onH l o h) = b := congrArg (fun c : C => c.2.1) hB
  have B3 : onH l (backV o) (onH l o h) = h := congrArg (fun c : C => c.2.2) hB
  rw [T1, T2, T3] at con2
  rw [B1, B2, B3] at con4
  clear T1 T2 T3 B1 B2 B3 hT hB
  have DA := Lib.hid (rfl : onA l o a b h = onA l o a b h)
  generalize onA l (thenV o p) a b h = xa at *
  generalize onB l (thenV o p) a b h = xb at *
  generalize onH l (thenV o p) h = xh at *
  obtain ⟨da, hda⟩ : ∃ x, onA l o a b h = x := ⟨_, rfl⟩
  obtain ⟨db, hdb⟩ : ∃ x, onB l o a b h = x := ⟨_, rfl⟩
  obtain ⟨dc, hdc⟩ : ∃ x, onH l o h = x := ⟨_, rfl⟩
  rw [hda, hdb, hdc] at con1 con2 con4 HN
  rw [hda] at d0
  rw [hdb] at d1
  rw [hdc] at d2 d3 dh
  clear hda hdb hdc DA
  go_wp2_with fail
  (with_reducible refine (con1.out _).mono ?_)
  rintro e w3 ⟨rfl, hb⟩
  have kc := (Blk.newAt w2 31 #[.int .i64 a, .int .i64 b, .int .i64 h] _ rfl).below hb (by simp)
  have hb3 := below_call (B := w.heap.size) (w := w) hb (by go_grown) (by go_size)
  have hz3 := hb3.size
  clear hb con1
  generalize w2.heap.size = A at *
  go_wp2_with fail
  (with_reducible refine (con2.out _).mono ?_)
  rintro e w4 ⟨rfl, hb⟩
  have kd := (Blk.newAt w3 31 #[.int .i64 da, .int .i64 db, .int .i64 dc] _ rfl).below hb (by simp)
  have kc4 := (kc.alloc (.cells #[.int .i64 da, .int .i64 db, .int .i64 dc] 31)).below hb (by have := kc.lt; simp; omega)
  have hb4 := below_call (B := w.heap.size) (w := w) hb (by go_grown) (by go_size)
  have hz4 := hb4.size
  clear hb con2 kc hb3 hz3
  generalize w3.heap.size = D at *
  go_upto_region 8 with fail
  have kx := Blk.newAt w4 31 #[.int .i64 xa, .int .i64 xb, .int .i64 xh] _ rfl
  have kc5 := kc4.alloc (.cells #[.int .i64 xa, .int .i64 xb, .int .i64 xh] 31)
  have kd5 := kd.alloc (.cells #[.int .i64 xa, .int .i64 xb, .int .i64 xh] 31)
  have hb5 := hb4.alloc hz4 (.cells #[.int .i64 xa, .int .i64 xb, .int .i64 xh] 31)
  clear kc4 kd hb4 hz4
  generalize w4.alloc (.cells #[.int .i64 xa, .int .i64 xb, .int .i64 xh] 31) = w5 at *
  generalize w4.heap.size = X at *
  obtain ⟨a0, a1, a2, hal⟩ := kc5.ce
  have hth := Lib.hid (fun W => then_any o p W o0 o1 p0 p1)
  have hbk := Lib.hid (fun W => back_any o W o0 o1)
  go_cut [17, 18] (fun v n wx => Rel8 w5 xa xb xh v n wx)
  case first =>
    have hkb : Below w5.heap.size w5 w5 := Below.refl _ _
    have con3 := con3.out
    have hth := hth.out
    go_region_held3 (fun w' => w'.cell? ⟨A, 0, none⟩ = some (.int .i64 a) ∧ w'.cell? ⟨A, 1, none⟩ = some (.int .i64 b) ∧ w'.cell? ⟨A, 2, none⟩ = some (.int .i64 h)) (first | (refine keep3 kc5 ?_; go_grown; done))
      (first
        | (go_at_call 8; refine (hth _).mono ?_; rintro e w' ⟨rfl, rfl⟩)
        | (go_at_call 7; refine (con3 _).mono ?_; rintro e w6 ⟨rfl, hb⟩; (try (have bz := boxd3 hb; obtain ⟨⟨r0, r1, r2⟩, ⟨s0, s1, s2⟩, r3⟩ := id bz)); have hkb : Below w5.heap.size w5 w6 := below_call hb (by go_grown) (by simp); have hkz := hkb.size; clear hb))
    all_goals go_wp2_with fail
    all_goals go_meet
    all_goals first
      | exact ⟨w6.heap.size, rfl, rfl, by simp [Box3, go_sem], by go_grown⟩
      | exact ⟨_, rfl, rfl, box3_set bz _ _ _, by go_grown⟩
  case rest =>
    clear con3 hth a0 a1 a2 hal
    obtain ⟨Y, rfl, rfl, ky, hb6⟩ := hcut
    have kx := kx.below hb6 kx.lt
    have kc6 := kc5.below hb6 kc5.lt
    have kd6 := kd5.below hb6 kd5.lt
    have hb7 := hb5.trans (hb6.mono hb5.size)
    clear hb6 hb5 kc5 kd5
    generalize wc = w6 at *
    obtain ⟨a0, a1, a2, hal⟩ := kd6.ce
    go_upto_region 9 with fail
    go_cut [19, 20] (fun v n wx => Rel8 w6 a b h v n wx)
    case first =>
      have hkb : Below w6.heap.size w6 w6 := Below.refl _ _
      have con4 := con4.out
      have hbk := hbk.out
      go_region_held3 (fun w' => w'.cell? ⟨D, 0, none⟩ = some (.int .i64 da) ∧ w'.cell? ⟨D, 1, none⟩ = some (.int .i64 db) ∧ w'.cell? ⟨D, 2, none⟩ = some (.int .i64 dc)) (first | (refine keep3 kd6 ?_; go_grown; done))
        (first
          | (go_at_call 9; refine (hbk _).mono ?_; rintro e w' ⟨rfl, rfl⟩)
          | (go_at_call 7; refine (con4 _).mono ?_; rintro e w8 ⟨rfl, hb⟩; (try (have bz := boxd3 hb; obtain ⟨⟨r0, r1, r2⟩, ⟨s0, s1, s2⟩, r3⟩ := id bz)); have hkb : Below w6.heap.size w6 w8 := below_call hb (by go_grown) (by simp); have hkz := hkb.size; clear hb))
      all_goals go_wp2_with fail
      all_goals go_meet
      all_goals first
        | exact ⟨w8.heap.size, rfl, rfl, by simp [Box3, go_sem], by go_grown⟩
        | exact ⟨_, rfl, rfl, box3_set bz _ _ _, by go_grown⟩
    case rest =>
      clear con4 hbk a0 a1 a2 hal
      obtain ⟨Z, rfl, rfl, kz, hb8⟩ := hcut
      have kx := kx.below hb8 kx.lt
      have ky := box3_below ky hb8
      have kc8 := kc6.below hb8 kc6.lt
      have kd8 := kd6.below hb8 kd6.lt
      have hb9 := hb7.trans (hb8.mono hb7.size)
      clear hb8 hb7 kc6 kd6
      generalize wc = w8 at *
      obtain ⟨a0, a1, a2, hal⟩ := kc8.ce
      go_wp2_with fail
      refine (beside_yes l a b h _ hl h0 h1 (by omega) (by omega) (hs.below hb9)).mono ?_
      rintro e w9 ⟨g, cap, rfl, hcap, hg, hrow, hb⟩
      have kx := kx.below hb kx.lt
      have ky := box3_below ky hb
      have kz := box3_below kz hb
      have kc9 := kc8.below hb kc8.lt
      have kd9 := kd8.below hb kd8.lt
      have hb10 := hb9.trans (hb.mono hb9.size)
      clear hb hg hb9 kc8 kd8 a0 a1 a2 hal
      have hlen := (bes_some' (a := a) (b := b) hl h0 h1).2
      have HM := Lib.hid (fun (d : C) (hd : d ∈ besAll l a b h) => near_of hl h0 h1 hd)
      have HD := Lib.hid (sym_nodup l o a b h hl h0 h1 o0 o1)
      generalize besAll l a b h = L at *
      obtain ⟨a0, a1, a2, hal⟩ := kc9.ce
      obtain ⟨x0, x1, x2, hxl⟩ := kx.ce
      obtain ⟨⟨y0, y1, y2⟩, _, hyl⟩ := ky
      obtain ⟨⟨z0, z1, z2⟩, _, hzl⟩ := kz
      have nn := fun w => neq_ce a b h a b h w
      have nx := fun w => neq_ce xa xb xh xa xb xh w
      simp only [beq_self_eq_true, Bool.and_self, Bool.not_true] at nn nx
      have hmm := @run_makeMap Tryd.prog
      go_wp2_with fail
      clear nn nx a0 a1 a2 hal x0 x1 x2 hxl y0 y1 y2 hyl z0 z1 z2 hzl kc9 kx
      have hown : OwnC (w9.alloc (.map #[] 0)) w9.heap.size 0 (.map []) := World.ownsMap_made _ _ _ _
      have hrow1 := hrow.below ((Below.refl _ _).alloc (Nat.le_refl _) (.map #[] 0))
      have kd10 := kd9.alloc (.map #[] 0)
      have hBz := hb10.size
      have hb11 := hb10.alloc hBz (.map #[] 0)
      have hDB : some D ≠ some w9.heap.size := fun e => by have := kd9.lt; injection e; omega
      have hgB : g ≠ w9.heap.size := by have := hrow.2; omega
      clear hrow kd9 hb10 hmm
      generalize w9.alloc (.map #[] 0) = wm at *
      generalize w9.heap.size = B at *
      go_loopw [109] (fun i wr => SyR w g D B L l o da db dc i wr) (fun i _ => L.length - (intOf i).toNat)
      case atStart => exact ⟨0, _, by omega, rfl, hown, by simpa using holds_nil, hrow1, kd10, hb11⟩
      case round =>
        clear hown hrow1 kd10 hb11
        obtain ⟨k, Dm, hk, rfl, hown, hH, hrow, kd, hbr⟩ := hrel
        by_cases hlt : k < L.length
        · obtain ⟨d, hd⟩ : ∃ d, L[k]? = some d := ⟨_, List.getElem?_eq_getElem hlt⟩
          obtain ⟨x, y, z⟩ := d
          have hmem := List.mem_of_getElem? hd
          have HM := HM.out (x, y, z) hmem
          have HN := HN.out (x, y, z) hmem
          obtain ⟨p0, p1, p2⟩ := hrow.1 k _ hd
          dsimp only at p0 p1 p2 HM HN
          obtain ⟨hx, hy, hz0, hz1⟩ := HM
          have hzz : z = 0 ∨ z = 1 := by unfold halvesV at hz1; split at hz1 <;> omega
          obtain ⟨t0, t1, t2, t3⟩ := onC_sm l o o0 o1 x y z hzz 101 (by omega) (by omega)
          have tt : onH l o z ≤ 1 := by unfold halvesV at t3; split at t3 <;> omega
          have hM : (L.map (onC l o))[k]? = some (onC l o (x, y, z)) := by rw [List.getElem?_map, hd]; rfl
          have hnin := nodup_take HD.out hM
          have hsm : Sm (onC l o (x, y, z)) := ⟨by dsimp only [onC]; omega, by dsimp only [onC]; omega, t2, tt⟩
          have hc0 := Lib.hid (holds_cnt hH hsm hnin)
          have hput := Lib.hid (holds_put hown hH hsm hnin)
          have HTk := Lib.hid (show (L.map (onC l o)).take (k + 1) = (L.map (onC l o)).take k ++ [onC l o (x, y, z)] by rw [List.take_add_one, hM]; rfl)
          have hkey := Lib.hid (key_ce (onA l o x y z) (onB l o x y z) (onH l o z) hsm.wf.1 hsm.wf.2.1 hsm.wf.2.2)
          have con5 := Lib.hid (fun W => con_yes l o x y z W hl o0 o1 hz0 hz1 (by omega) (by omega))
          have hnear := Lib.hid (fun W => near_any l da db dc (onA l o x y z) (onB l o x y z) (onH l o z) W hl (by omega) (by omega) (by omega) (by omega) true HN)
          clear hM hnin hsm hH HN hx hy hzz t0 t1 t2 t3 tt hmem hz0 hz1 hd
          simp only [onC] at hc0 hput HTk
          generalize onA l o x y z = ta at *
          generalize onB l o x y z = tb at *
          generalize onH l o z = tc at *
          have hgl := hrow.2
          go_wp2_with fail
          (with_reducible refine (con5.out _).mono ?_)
          rintro e w10 ⟨rfl, hb⟩
          have hbs : Below wr.heap.size wr (wr.alloc (.cells #[.int .i64 x, .int .i64 y, .int .i64 z] 31)) := (Below.refl _ _).alloc (Nat.le_refl _) _
          have hb11 : Below wr.heap.size wr w10 := hbs.trans (hb.mono (by simp))
          clear hb hbs con5 p0 p1 p2 hgl
          have hrow1 := hrow.below hb11
          have kd1 := kd.below hb11 kd.lt
          have hown1 := ownC_under hown hb11
          have hb12 := hbr.trans (hb11.mono hbr.size)
          clear hrow kd hown hbr hb11
          go_upto_region 18 with fail
          have kt := Blk.newAt w10 31 #[.int .i64 ta, .int .i64 tb, .int .i64 tc] _ rfl
          have hbA : Below w10.heap.size w10 (w10.alloc (.cells #[.int .i64 ta, .int .i64 tb, .int .i64 tc] 31)) := (Below.refl _ _).alloc (Nat.le_refl _) _
          have hrow2 := hrow1.below hbA
          have kd2 := kd1.below hbA kd1.lt
          have hown2 := ownC_under hown1 hbA
          have hb13 := hb12.trans (hbA.mono hb12.size)
          have hTB : some w10.heap.size ≠ some B := fun e => by have := World.ownsMap.lt hown1; injection e; omega
          clear hrow1 kd1 hown1 hb12 hbA
          generalize w10.alloc (.cells #[.int .i64 ta, .int .i64 tb, .int .i64 tc] 31) = wt at *
          generalize w10.heap.size = T at *
          refine wp_region_held_drew (S := fun w' => w'.cell? ⟨T, 0, none⟩ = some (.int .i64 ta) ∧ w'.cell? ⟨T, 1, none⟩ = some (.int .i64 tb) ∧ w'.cell? ⟨T, 2, none⟩ = some (.int .i64 tc)) (by kernel_rfl) (keep3 kt (by go_grown)) (fun hHeld => ?_)
          (refine wpAnyH_take (i := 0) (v := ?_) rfl (by kernel_rfl) (by kernel_rfl) (by kernel_rfl) (fun _ _ _ h => h) (Or.inl ⟨by kernel_rfl, ?_⟩) (by assumption) ?_; rotate_left; (focus (intro wq hSw; (try dsimp only at hSw); go_simp; (try with_reducible rfl))); (try simp only [Act.put]))
          (refine wpAnyH_take (i := 1) (v := ?_) rfl (by kernel_rfl) (by kernel_rfl) (by kernel_rfl) (fun _ _ _ h => h) (Or.inl ⟨by kernel_rfl, ?_⟩) (by assumption) ?_; rotate_left; (focus (intro wq hSw; (try dsimp only at hSw); go_simp; (try with_reducible rfl))); (try simp only [Act.put]))
          have hdr : Below wt.heap.size wt wt.drew := by go_grown
          have kt7 := kt.below hdr kt.lt
          have hrow7 := hrow2.below hdr
          have kd7 := kd2.below hdr kd2.lt
          have hown7 := ownC_under hown2 hdr
          have hb7 := hb13.trans (hdr.mono hb13.size)
          have hS7 := keep3 kt hdr
          clear hdr kt hrow2 kd2 hown2 hb13
          generalize wt.drew = w7 at *
          obtain ⟨hlk, hwc⟩ := own_look hown7 hkey.out
          obtain ⟨v0, st, b1, b2, hme, hes, hown8, hg1, hg2, hlk1⟩ := own_store hown7 (by unfold maxLen; omega) hkey.out (IntKind.i64.wrap (cnt Dm (kc ta tb tc) + 1)) (wf_wrap _ _)
          have hc1 := Lib.hid (cnt_put hown7 hkey.out (IntKind.i64.wrap (cnt Dm (kc ta tb tc) + 1)))
          have hH8 := Lib.hid (hput.out (.lit (.int .i64 (IntKind.i64.wrap (cnt Dm (kc ta tb tc) + 1)))))
          generalize cnt Dm (kc ta tb tc) = c at *
          have kt8 := kt7.grown hg2 hTB
          have kt81 := kt7.grown hg1 hTB
          have kd8 := kd7.grown hg2 hDB
          have hs1 := keep3 kt81 (Below.refl _ _)
          have hs2 := keep3 kt8 (Below.refl _ _)
          have hrow8 : Row (ChangeMaps.setBlock w7 B b2) g L := ⟨fun i d hd => by
            obtain ⟨q0, q1, q2⟩ := hrow7.1 i d hd
            exact ⟨(grown_cell hg2 hrow7.2 hgB).trans q0, (grown_cell hg2 hrow7.2 hgB).trans q1, (grown_cell hg2 hrow7.2 hgB).trans q2⟩, Nat.lt_of_lt_of_le hrow7.2 hg2.size⟩
          have hb8 : Below w.heap.size w (ChangeMaps.setBlock w7 B b2) := hb7.grown hg2 hb7.size (fun q hq => by injection hq with hq; omega)
          have Hes := Lib.hid hes
          have Hme := Lib.hid hme
          have Hlk := Lib.hid hlk
          have Hlk1 := Lib.hid hlk1
          clear hes hme hlk hlk1 hg1 hg2 hwc hown7 kt7 kt81 kd7 hrow7 hb7 hHeld hput
          refine wpAnyH_ready (rs := [2, 4]) (by kernel_rfl) (by simp) ?_
          refine AllReadyH.cons rfl (fun K hK => ?_) (AllReadyH.cons rfl (fun K hK => ?_) AllReadyH.nil)
          · have hlk := Hlk.out
            go_simp
            refine hK.out _ _ hS7 (fun hHeld5 => ?_)
            clear hK K hlk
            (try simp only [Act.put, List.setIfInBounds_toArray, List.set_cons_zero, List.set_cons_succ])
            (refine wpAnyH_take (i := 3) (v := ?_) rfl (by kernel_rfl) (by kernel_rfl) (by kernel_rfl) (fun _ _ _ h => h) (Or.inl ⟨by kernel_rfl, ?_⟩) (by assumption) ?_; rotate_left; (focus (intro wq hSw; (try dsimp only at hSw); go_simp; (try with_reducible rfl))); (try simp only [Act.put]))
            have hme := Hme.out
            (refine wpAnyH_ready (rs := [4]) (by kernel_rfl) (by simp) ?_; refine AllReadyH.cons rfl (fun K hK => ?_) AllReadyH.nil; go_simp)
            refine hK.out _ _ hs1 (fun hHeld6 => ?_)
            clear hK K hme
            (try simp only [Act.put, List.setIfInBounds_toArray, List.set_cons_zero, List.set_cons_succ])
            (refine wpAnyH_take (i := 5) (v := ?_) rfl (by kernel_rfl) (by kernel_rfl) (by kernel_rfl) (fun _ _ _ h => h) (Or.inl ⟨by kernel_rfl, ?_⟩) (by assumption) ?_; rotate_left; (focus (intro wq hSw; (try dsimp only at hSw); go_simp; (try with_reducible rfl))); (try simp only [Act.put]))
            have hes : (Instr.entryStore 42 (.map (some B)) (.int .i64 (st : Int)) (.int .i64 (IntKind.i64.wrap (c + 1)))).run Tryd.prog (ChangeMaps.setBlock w7 B b1) = .ok () (ChangeMaps.setBlock w7 B b2) := Hes.out
            (refine wpAnyH_ready (rs := [6]) (by kernel_rfl) (by simp) ?_; refine AllReadyH.cons rfl (fun K hK => ?_) AllReadyH.nil; go_simp)
            refine hK.out _ _ hs2 (fun hHeld9 => ?_)
            clear hK K hes
            refine wpAnyH_done (by kernel_rfl) ?_ _
            clear hs1 hs2 hS7 Hes Hme Hlk Hlk1 hHeld5 hHeld6 hHeld9
            generalize ChangeMaps.setBlock w7 B b2 = w8 at *
            have hdr : Below w8.heap.size w8 w8.drew := by go_grown
            obtain ⟨hlk9, _⟩ := own_look (ownC_under hown8 hdr) hkey.out
            rw [hc1.out, show IntKind.i64.wrap (c + 1) = 1 by rw [hc0.out]; rfl] at hlk9
            have hkb : Below w8.heap.size w8 w8 := Below.refl _ _
            have hnr := hnear.out
            clear hdr hnear hkey
            go_upto_region 19 with fail
            go_cut [142] (fun v wx => v = .bool false ∧ Below w8.heap.size w8 wx)
            case first =>
              go_region_held3 (fun w' => w'.cell? ⟨D, 0, none⟩ = some (.int .i64 da) ∧ w'.cell? ⟨D, 1, none⟩ = some (.int .i64 db) ∧ w'.cell? ⟨D, 2, none⟩ = some (.int .i64 dc) ∧ w'.cell? ⟨T, 0, none⟩ = some (.int .i64 ta) ∧ w'.cell? ⟨T, 1, none⟩ = some (.int .i64 tb) ∧ w'.cell? ⟨T, 2, none⟩ = some (.int .i64 tc)) (first | (refine keep33 kd8 kt8 ?_; go_grown; done))
                (first
                  | (go_at_call 12; refine (told_any _ _ _ _).mono ?_; rintro e w6 ⟨rfl, hb⟩; have hkb : Below w8.heap.size w8 w6 := below_call hb (by go_grown) (by have := hkb.size; first | omega | (simp; done) | (simp; omega)); clear hb)
                  | (go_at_call 11; refine (hnr _).mono ?_; rintro e w6 ⟨rfl, hb⟩; have hkb : Below w8.heap.size w8 w6 := below_call hb (by go_grown) (by have := hkb.size; first | omega | (simp; done) | (simp; omega)); clear hb))
              all_goals go_wp2_with fail
              all_goals go_meet
              all_goals exact ⟨rfl, by go_grown⟩
            case rest =>
              obtain ⟨rfl, hbc⟩ := hcut
              clear hlk9 hnr hkb
              go_wp2_with fail
              go_roundw
              case rel => exact ⟨k + 1, _, by omega, by go_num, ownC_under hown8 hbc, by rw [HTk.out]; exact hH8.out, hrow8.below hbc, kd8.below hbc kd8.lt, hb8.trans (hbc.mono hb8.size)⟩
              case measure => simp [intOf]; omega
          · have hme := Hme.out
            go_simp
            refine hK.out _ _ hs1 (fun hHeld5 => ?_)
            clear hK K hme
            (try simp only [Act.put, List.setIfInBounds_toArray, List.set_cons_zero, List.set_cons_succ])
            (refine wpAnyH_take (i := 5) (v := ?_) rfl (by kernel_rfl) (by kernel_rfl) (by kernel_rfl) (fun _ _ _ h => h) (Or.inl ⟨by kernel_rfl, ?_⟩) (by assumption) ?_; rotate_left; (focus (intro wq hSw; (try dsimp only at hSw); go_simp; (try with_reducible rfl))); (try simp only [Act.put]))
            have hlk1 := Hlk1.out
            (refine wpAnyH_ready (rs := [2]) (by kernel_rfl) (by simp) ?_; refine AllReadyH.cons rfl (fun K hK => ?_) AllReadyH.nil; go_simp)
            refine hK.out _ _ hs1 (fun hHeld6 => ?_)
            clear hK K hlk1
            (try simp only [Act.put, List.setIfInBounds_toArray, List.set_cons_zero, List.set_cons_succ])
            (refine wpAnyH_take (i := 3) (v := ?_) rfl (by kernel_rfl) (by kernel_rfl) (by kernel_rfl) (fun _ _ _ h => h) (Or.inl ⟨by kernel_rfl, ?_⟩) (by assumption) ?_; rotate_left; (focus (intro wq hSw; (try dsimp only at hSw); go_simp; (try with_reducible rfl))); (try simp only [Act.put]))
            have hes : (Instr.entryStore 42 (.map (some B)) (.int .i64 (st : Int)) (.int .i64 (IntKind.i64.wrap (c + 1)))).run Tryd.prog (ChangeMaps.setBlock w7 B b1) = .ok () (ChangeMaps.setBlock w7 B b2) := Hes.out
            (refine wpAnyH_ready (rs := [6]) (by kernel_rfl) (by simp) ?_; refine AllReadyH.cons rfl (fun K hK => ?_) AllReadyH.nil; go_simp)
            refine hK.out _ _ hs2 (fun hHeld9 => ?_)
            clear hK K hes
            refine wpAnyH_done (by kernel_rfl) ?_ _
            clear hs1 hs2 hS7 Hes Hme Hlk Hlk1 hHeld5 hHeld6 hHeld9
            generalize ChangeMaps.setBlock w7 B b2 = w8 at *
            have hdr : Below w8.heap.size w8 w8.drew := by go_grown
            obtain ⟨hlk9, _⟩ := own_look (ownC_under hown8 hdr) hkey.out
            rw [hc1.out, show IntKind.i64.wrap (c + 1) = 1 by rw [hc0.out]; rfl] at hlk9
            have hkb : Below w8.heap.size w8 w8 := Below.refl _ _
            have hnr := hnear.out
            clear hdr hnear hkey
            go_upto_region 19 with fail
            go_cut [142] (fun v wx => v = .bool false ∧ Below w8.heap.size w8 wx)
            case first =>
              go_region_held3 (fun w' => w'.cell? ⟨D, 0, none⟩ = some (.int .i64 da) ∧ w'.cell? ⟨D, 1, none⟩ = some (.int .i64 db) ∧ w'.cell? ⟨D, 2, none⟩ = some (.int .i64 dc) ∧ w'.cell? ⟨T, 0, none⟩ = some (.int .i64 ta) ∧ w'.cell? ⟨T, 1, none⟩ = some (.int .i64 tb) ∧ w'.cell? ⟨T, 2, none⟩ = some (.int .i64 tc)) (first | (refine keep33 kd8 kt8 ?_; go_grown; done))
                (first
                  | (go_at_call 12; refine (told_any _ _ _ _).mono ?_; rintro e w6 ⟨rfl, hb⟩; have hkb : Below w8.heap.size w8 w6 := below_call hb (by go_grown) (by have := hkb.size; first | omega | (simp; done) | (simp; omega)); clear hb)
                  | (go_at_call 11; refine (hnr _).mono ?_; rintro e w6 ⟨rfl, hb⟩; have hkb : Below w8.heap.size w8 w6 := below_call hb (by go_grown) (by have := hkb.size; first | omega | (simp; done) | (simp; omega)); clear hb))
              all_goals go_wp2_with fail
              all_goals go_meet
              all_goals exact ⟨rfl, by go_grown⟩
            case rest =>
              obtain ⟨rfl, hbc⟩ := hcut
              clear hlk9 hnr hkb
              go_wp2_with fail
              go_roundw
              case rel => exact ⟨k + 1, _, by omega, by go_num, ownC_under hown8 hbc, by rw [HTk.out]; exact hH8.out, hrow8.below hbc, kd8.below hbc kd8.lt, hb8.trans (hbc.mono hb8.size)⟩
              case measure => simp [intOf]; omega
        · obtain rfl : k = L.length := by omega
          have hsz := Lib.hid (show Maps.size Dm = L.length by rw [hH.1]; simp)
          clear hH
          go_wp2_with (at_len; refine wpList_len_own _ rfl _ 42 rfl 31 3 Tryd.underlying42 _ B L.length _ rfl hown ?_)
          go_ret
          exact ⟨by rw [hsz.out]; simp, hbr⟩
section cellSymmetryFrame
open Go.ChangeShapes Go.WideShapes Go.ChangeAt Go.RowKit Go.Joins
set_option maxRecDepth 100000 in
theorem cellSymmetry_contract (H : Type) (enc : TypeId × Value → H) (W : World) (base : Nat) (args : Array Value) (ds gs : List (DataW H)) (before : List MemPlace)
    (hval : ∀ (j : Nat) t v, Tryd.f3.params[j]? = some t → args[j]? = some v → Value.okWide Tryd.prog W .any base t v)
    (hW : DataW.Whole enc Tryd.prog Tryd.f3.params.toList Rows.cellSymmetrySpec.vars false W args.toList ds gs before) (hL : laidMetH Tryd.prog Rows.cellSymmetryRow.laid W) :
    Calls Tryd.prog 3 args W fun e W' => ∃ v, e = .returned v ∧ Rows.cellSymmetrySpec.post enc Tryd.prog Tryd.f3 false true false false W args v W' := by
  have hW' := hW
  obtain ⟨p, q, hA0, hV, rfl, hfz, hnd⟩ := hW
  have hA : DataW.TrodAll enc Tryd.prog W 0 (fun _ => true) true Tryd.f3.params.toList args.toList ds p := hA0
  rw [Tryd.params3] at hA hval
  obtain ⟨v0, vs0, d0, ds0, p0, q0, hargs, rfl, rfl, h0, r0⟩ := trodAll_cons hA
  obtain ⟨v1, vs1, d1, ds1, p1, q1, rfl, rfl, rfl, h1, r1⟩ := trodAll_cons r0
  obtain ⟨v2, vs2, d2, ds2, p2, q2, rfl, rfl, rfl, h2, r2⟩ := trodAll_cons r1
  obtain ⟨v3, vs3, d3, ds3, p3, q3, rfl, rfl, rfl, h3, r3⟩ := trodAll_cons r2
  obtain ⟨rfl, rfl, rfl⟩ := trodAll_nil r3
  obtain rfl : args = #[v0, v1, v2, v3] := by cases args; simp_all
  obtain ⟨rfl, rfl⟩ := trodVars_none hV
  obtain ⟨n, rfl, rfl, rfl, w_n⟩ := open_int Tryd.underlying3 (hval 0 3 v0 rfl rfl) h0
  obtain ⟨a, rfl, rfl, rfl, w_a⟩ := open_int Tryd.underlying3 (hval 1 3 v1 rfl rfl) h1
  obtain ⟨b, rfl, rfl, rfl, w_b⟩ := open_int Tryd.underlying3 (hval 2 3 v2 rfl rfl) h2
  obtain ⟨c30, c31, c32, y30, y31, y32, m3, rfl, rfl, rfl, hy30, hy31, hy32⟩ := open_agg3 Tryd.underlying23 (by kernel_rfl) (by kernel_rfl) (hval 3 23 v3 rfl rfl) h3
  obtain ⟨rawA, e30, rfl, w_rawA⟩ := DataW.trod_int Tryd.underlying2 hy30
  simp at e30; subst e30
  obtain ⟨rawB, e31, rfl, w_rawB⟩ := DataW.trod_int Tryd.underlying2 hy31
  simp at e31; subst e31
  obtain ⟨rawH, e32, rfl, w_rawH⟩ := DataW.trod_int Tryd.underlying3 hy32
  simp at e32; subst e32
  refine (cellSymmetry_walk n w_n a w_a b w_b rawA w_rawA rawB w_rawB rawH w_rawH W (six_of_laid hL)).mono fun e W' ⟨he, hb⟩ => ?_
  exact ⟨_, he, law_post laidOut rfl rfl Tryd.underlying4 (by kernel_rfl) hW' hb ⟨rfl, rfl, rfl⟩⟩
theorem cellSymmetry_met (os : Os) : laidMet Tryd.prog Rows.cellSymmetryRow.laid ((laidWorld os).forCall (fun _ _ => 0) ⟨#[], #[.int .i64 0, .int .i64 0, .int .i64 0, .agg #[.int .i64 0, .int .i64 0, .int .i64 0]], []⟩).memory :=
  laidMet_of_run' 8 (by kernel_rfl) (by kernel_rfl)
theorem cellSymmetry_reads (os : Os) {H : Type} (enc : TypeId × Value → H) : ∃ places, DataW.whole enc Tryd.prog ((laidWorld os).forCall (fun _ _ => 0) ⟨#[], #[.int .i64 0, .int .i64 0, .int .i64 0, .agg #[.int .i64 0, .int .i64 0, .int .i64 0]], []⟩).memory Tryd.f3.params.toList Rows.cellSymmetrySpec.vars false #[(.int .i64 0 : Value), (.int .i64 0 : Value), (.int .i64 0 : Value), (.agg #[.int .i64 0, .int .i64 0, .int .i64 0] : Value)].toList 8 = some ([.lit (.int .i64 0), .lit (.int .i64 0), .lit (.int .i64 0), .agg [.lit (.int .i64 0), .lit (.int .i64 0), .lit (.int .i64 0)]], [], places) :=
  ⟨[], by kernel_rfl⟩
set_option maxRecDepth 100000 in
theorem cellSymmetry_lifted (os : Os) (started : os.Started) (H : Type) (enc : TypeId × Value → H) (F : Stop.Interp) :
    ReturnsInHanded {} Tryd.checked os 3 .any ((OpenSpec.ofChange Rows.cellSymmetrySpec).preRow enc Tryd.prog Tryd.f3 Rows.cellSymmetryRow.domain false Rows.cellSymmetryRow.laid) (((OpenSpec.ofChange Rows.cellSymmetrySpec).at F).post enc Tryd.prog Tryd.f3 false true false false) := by
  obtain ⟨places, hx⟩ := cellSymmetry_reads os enc
  refine returnsInHanded_of_row (C := Tryd.checked) (s := OpenSpec.ofChange Rows.cellSymmetrySpec) own started (by kernel_rfl) Tryd.func3
    (witness_row_at (enc := enc) (C := Tryd.checked) false (laidWorld os) #[.int .i64 0, .int .i64 0, .int .i64 0, .agg #[.int .i64 0, .int .i64 0, .int .i64 0]] rfl (by kernel_rfl) (by kernel_rfl) (by kernel_rfl)
      (OpenSpec.preRow_of_cond 8 hx (by kernel_rfl) (fun k hk => by cases hk) (by kernel_rfl) (cellSymmetry_met os))) ?_
  intro W base args ds gs before hval hW _ _ _ hL _ _
  exact cellSymmetry_contract H enc W base args ds gs before hval hW hL
theorem cellSymmetry_said : Rows.CellSymmetrySaid :=
  OpenClaim.holds_of_cond 3 Tryd.f3 rfl rfl rfl rfl rfl rfl rfl ⟨rfl, rfl, rfl, rfl, rfl⟩ rfl rfl rfl rfl rfl (by kernel_rfl) Tryd.func3 (by kernel_rfl)
    (of_decide_eq_true (by kernel_rfl)) (by unfold Func.isWrapper; first | (rw [if_pos (by decide +kernel)]; kernel_rfl) | (rw [if_neg (by decide +kernel)]; exact ⟨rfl, rfl⟩))
    (fun os started H enc _ F => by rw [OpenClaim.pre_eq_preRow]; exact cellSymmetry_lifted os started H enc F)
theorem cellSymmetry_plain (f : FuncId) (fn : Func) (hf : Tryd.pinned.checked.prog.funcNamed "honeycomb/honeycomblaw03.CellSymmetry" = some f) (hfn : Tryd.pinned.checked.prog.funcs[f]? = some fn) :
    false = Tryd.pinned.checked.prog.looks [] ∧ ∀ (j : Nat) t, fn.params[j]? = some t → Tryd.pinned.checked.prog.wantsStandIn t = false := by
  obtain rfl : f = 3 := Option.some.inj ((show Tryd.prog.funcNamed "honeycomb/honeycomblaw03.CellSymmetry" = some 3 by kernel_rfl).symm.trans hf) |>.symm
  obtain rfl : fn = Tryd.f3 := (Option.some.inj (Tryd.func3.symm.trans hfn)).symm
  refine ⟨by kernel_rfl, fun j t ht => ?_⟩
  have hall : (Tryd.f3.params.toList.all fun t => !Tryd.prog.wantsStandIn t) = true := by kernel_rfl
  have hm : t ∈ Tryd.f3.params.toList := by simpa using Array.mem_of_getElem? ht
  have := List.all_eq_true.1 hall t hm
  exact (show Tryd.prog.wantsStandIn t = false by simpa using this)
end cellSymmetryFrame
/-- CellSymmetry: the card: for every input the law answers true. -/
theorem cellSymmetry_card : Rows.CellSymmetryCardSaid :=
  Claim7.holds_tied_plain_at .later [] _ _ _ _ cellSymmetry_said (fun _ h => by cases h) (by kernel_rfl) (fun _ h => by cases h) cellSymmetry_row_tie rfl ⟨rfl, rfl⟩ (by kernel_rfl) rfl cellSymmetry_plain (by kernel_rfl)
end Go.Proofs.YtoimaiaccmmakaaDoor.Ce
namespace Go.Proofs.YtoimaiaccmmakaaDoor
theorem cellSymmetry_proved : Rows.CellSymmetryCardSaid := Ce.cellSymmetry_card
#print axioms cellSymmetry_proved
end Go.Proofs.YtoimaiaccmmakaaDoor
