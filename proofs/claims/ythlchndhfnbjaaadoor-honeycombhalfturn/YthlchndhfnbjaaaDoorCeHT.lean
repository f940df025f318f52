/- HoneycombHalfTurn: the half turn brings each triangle that points up to one that points down, and those beside it to those beside where it is brought, in the other order. No conditions. -/
import Derived.Test.YthlchndhfnbjaaaDoorCeW8
import Derived.Test.YthlchndhfnbjaaaDoorAxR
import Derived.BigQuiet
import Derived.Deep.QuietTactic
namespace Go.Proofs.YthlchndhfnbjaaaDoor.Ce
open Go.RowKit Go.Proofs.YthlchndhfnbjaaaDoor.Ax

theorem t_bd : ∀ o : Fin 12, ∀ h ∈ [(0 : Int), 1], ((-2 ≤ tA o.val h ∧ tA o.val h ≤ 2) ∧ (-2 ≤ tB o.val h ∧ tB o.val h ≤ 2)) ∧ (tH o.val h = 0 ∨ tH o.val h = 1) := by decide +kernel
theorem t_bd' (o h : Int) (h0 : 0 ≤ o) (h1 : o < 12) (hh : h = 0 ∨ h = 1) : ((-2 ≤ tA o h ∧ tA o h ≤ 2) ∧ (-2 ≤ tB o h ∧ tB o h ≤ 2)) ∧ (tH o h = 0 ∨ tH o h = 1) := by
  have := t_bd ⟨o.toNat, by omega⟩ h (by rcases hh with rfl | rfl <;> simp)
  simp only [Int.toNat_of_nonneg h0] at this
  exact this
/-- On a cell of small coordinates. -/
theorem con_yes (l o a b h : Int) (w : World) (hl : l = 1 ∨ l = 2 ∨ l = 3) (h0 : 0 ≤ o) (h1 : o < 12) (hh0 : 0 ≤ h) (hh1 : h < halvesV l) (ha : -274877906944 ≤ a ∧ a ≤ 274877906944) (hb : -274877906944 ≤ b ∧ b ≤ 274877906944) :
    Calls Tryd.prog 28 #[.int .i64 l, .int .i64 o, Ce a b h] w fun e w' => e = .returned (.tuple #[Ce (onA l o a b h) (onB l o a b h) (onH l o h), .nilIface]) ∧ Below w.heap.size w w' := by
  have hg : goodB a b = true := goodB_iff.2 (by omega)
  have hz := op_size o a b 274877906944 (by omega) (by omega) (by omega) (by omega)
  have hh : h = 0 ∨ h = 1 := by unfold halvesV at hh1; split at hh1 <;> omega
  have ht := t_bd' o h h0 h1 hh
  have hG : goodB (onA l o a b h) (onB l o a b h) = true := by
    rw [goodB_iff]; unfold onA onB; split <;> omega
  have key : Calls Tryd.prog 28 #[.int .i64 l, .int .i64 o, Ce a b h] w (OnPost w l o a b h) := by
    rcases hl with rfl | hl
    · obtain rfl : h = 0 := by simp [halvesV] at hh1; omega
      exact con_hex o a b w h0 h1 hg
    · exact con_tri l o a b h w hl h0 h1 hg hh
  refine key.mono ?_
  rintro e w' ⟨⟨_, he⟩ | ⟨hn, _⟩, hb⟩
  · exact ⟨he, hb⟩
  · rw [hG] at hn; cases hn
/-- The half turn. -/
def ht (d : C) : C := (-d.1 - 1, -d.2.1 - 1, 1 - d.2.2)
theorem on3 (l a b h : Int) (hl : l = 2 ∨ l = 3) (hh : h = 0 ∨ h = 1) : onA l 3 a b h = -a - 1 ∧ onB l 3 a b h = -b - 1 ∧ onH l 3 h = 1 - h := by
  have hl1 : ¬ l = 1 := by omega
  have e1 : opA 3 a b = -a := by simp [opA, tn]; omega
  have e2 : opB 3 a b = -b := by simp [opB, tn]; omega
  unfold onA onB onH
  rw [if_neg hl1, if_neg hl1, if_neg hl1, e1, e2]
  have h1 : ∀ h ∈ [(0 : Int), 1], tA 3 h = -1 ∧ tB 3 h = -1 ∧ tH 3 h = 1 - h := by decide +kernel
  obtain ⟨x, y, z⟩ := h1 h (by rcases hh with rfl | rfl <;> simp)
  rw [x, y, z]
  omega
theorem rev_fin : ∀ l ∈ [(2 : Int), 3], ∀ h ∈ [(0 : Int), 1], besAll l 0 0 (1 - h) = ((besAll l 0 0 h).map fun c => (-c.1, -c.2.1, 1 - c.2.2)).reverse := by decide +kernel
theorem rev_of (l a b h : Int) (hl : l = 2 ∨ l = 3) (hh : h = 0 ∨ h = 1) : besAll l (-a - 1) (-b - 1) (1 - h) = ((besAll l a b h).map ht).reverse := by
  rw [besAll_shift, besAll_shift l a b, rev_fin l (by rcases hl with rfl | rfl <;> simp) h (by rcases hh with rfl | rfl <;> simp), List.map_reverse, List.map_map, List.map_map]
  congr 1
  apply List.map_congr_left
  intro c _
  simp only [Function.comp, sh, ht, Prod.mk.injEq, and_true]
  omega
theorem idx0 (w : World) : (Instr.index 69 (.agg sixCells) (.int .i64 0)).run Tryd.prog w = .ok (Pt 1 0) w := by kernel_rfl
theorem awake02_any (w : World) (hs : SixIs w) :
    Calls Tryd.prog 37 #[] w fun e w' => e = .returned (.bool true) ∧ Below w.heap.size w w' := by
  have ep := eql_pt
  have hi := idx0
  go_enter Tryd.func37, Tryd.ntmps37
  go_wp2_with fail
  have h := fun w => on_yes 1 1 0 w (by decide) (by decide) (by decide) (by decide)
  rw [show opA 1 1 0 = 0 by decide, show opB 1 1 0 = 1 by decide] at h
  refine (h _).mono ?_
  rintro e w1 ⟨rfl, hb⟩
  clear h
  have hb1 := below_call (B := w.heap.size) (w := w) hb (by go_grown) (by go_size)
  have hz1 := hb1.size
  clear hb
  go_wp2_with fail
  refine (six_any _ (hs.below (by go_grown))).mono ?_
  rintro e w2 ⟨rfl, hb⟩
  have hb2 := below_call (B := w.heap.size) (w := w) hb (by go_grown) (by go_size)
  clear hb
  go_wp2_with fail
  go_ret
  exact ⟨rfl, hb2⟩
def HtRel (w : World) (g g2 : Nat) (L : List C) (i : Value) (wr : World) : Prop :=
  ∃ k : Nat, k ≤ L.length ∧ i = .int .i64 k ∧ Below w.heap.size w wr ∧ Row wr g L ∧ Row wr g2 (L.map ht).reverse
set_option maxRecDepth 100000 in
set_option maxHeartbeats 16000000 in
theorem honeycombHalfTurn_walk (rA : Int) (_wrA : (Lit.int .i64 rA).wf = true) (rB : Int) (_wrB : (Lit.int .i64 rB).wf = true) (rH : Int) (_wrH : (Lit.int .i64 rH).wf = true) (vertex : Bool) (w : World) (hs : SixIs w) :
    Calls Tryd.prog 11 #[Ce rA rB rH, .bool vertex] w fun e w' => e = .returned (.bool true) ∧ Below w.heap.size w w' := by
  have hh := i64_and1 rH
  have h0 : 0 ≤ rH % 2 := by omega
  have h1 : rH % 2 ≤ 1 := by omega
  have ha := tmod_bd rA 1000000 (by decide)
  have hbb := tmod_bd rB 1000000 (by decide)
  cases vertex
  · go_enter Tryd.func11, Tryd.ntmps11
    go_wp2_with fail
    generalize rA.tmod 1000000 = a at *
    generalize rB.tmod 1000000 = b at *
    generalize rH % 2 = h at *
    refine (con_yes 2 3 a b h _ (by decide) (by decide) (by decide) (by omega) (by simp [halvesV]; omega) (by omega) (by omega)).mono ?_
    rintro e w1 ⟨rfl, hb⟩
    obtain ⟨e1, e2, e3⟩ := on3 2 a b h (by decide) (by omega)
    rw [e1, e2, e3]
    clear e1 e2 e3
    have kc : Box3 w.heap.size w1 a b h := box3_below (by simp [Box3, go_sem]) hb
    have hb1 := below_call (B := w.heap.size) (w := w) hb (by go_grown) (by go_size)
    have hz1 := hb1.size
    clear hb
    have hcl := kc.2.2
    go_wp2_with fail
    refine (con_yes 2 3 (-a - 1) (-b - 1) (1 - h) _ (by decide) (by decide) (by decide) (by omega) (by simp [halvesV]; omega) (by omega) (by omega)).mono ?_
    rintro e w2 ⟨rfl, hb⟩
    obtain ⟨e1, e2, e3⟩ := on3 2 (-a - 1) (-b - 1) (1 - h) (by decide) (by omega)
    rw [show -(-a - 1) - 1 = a by omega] at e1
    rw [show -(-b - 1) - 1 = b by omega] at e2
    rw [show 1 - (1 - h) = h by omega] at e3
    rw [e1, e2, e3]
    clear e1 e2 e3
    have hd : Below w1.heap.size w1 (w1.alloc (.cells #[.int .i64 (-a - 1), .int .i64 (-b - 1), .int .i64 (1 - h)] 36)) := by go_grown
    have kc2 := box3_below (box3_below kc hd) hb
    have kd2 : Box3 w1.heap.size w2 (-a - 1) (-b - 1) (1 - h) := box3_below (by simp [Box3, go_sem]) hb
    have hb2 := below_call (B := w.heap.size) (w := w) hb (hb1.trans (hd.mono hz1)) (by simp; omega)
    have hz2 := hb2.size
    clear hb hd kc hcl hb1 hz1
    generalize w1.heap.size = D at *
    obtain ⟨⟨c0, c1, c2⟩, _, cl⟩ := id kc2
    go_wp2_with fail
    refine (beside_yes 2 a b h _ (by decide) (by omega) (by simp [halvesV]; omega) (by omega) (by omega) (hs.below (by go_grown))).mono ?_
    rintro e w3 ⟨g, cap, rfl, hcap, hg, hrow, hb⟩
    have hd : Below w2.heap.size w2 (w2.alloc (.cells #[.int .i64 a, .int .i64 b, .int .i64 h] 36)) := by go_grown
    have kc3 := box3_below (box3_below kc2 hd) hb
    have kd3 := box3_below (box3_below kd2 hd) hb
    have ke3 : Box3 w2.heap.size w3 a b h := box3_below (by simp [Box3, go_sem]) hb
    have hb3 := below_call (B := w.heap.size) (w := w) hb (hb2.trans (hd.mono hz2)) (by simp; omega)
    have hz3 := hb3.size
    clear hb hd kc2 kd2 hb2 hz2 c0 c1 c2 cl hg
    generalize w2.heap.size = E at *
    obtain ⟨⟨c0, c1, c2⟩, _, cl⟩ := id kd3
    go_wp2_with fail
    refine (beside_yes 2 (-a - 1) (-b - 1) (1 - h) _ (by decide) (by omega) (by simp [halvesV]; omega) (by omega) (by omega) (hs.below hb3)).mono ?_
    rintro e w4 ⟨g2, cap2, rfl, hcap2, hg2, hrow2, hb⟩
    have kc4 := box3_below kc3 hb
    have kd4 := box3_below kd3 hb
    have ke4 := box3_below ke3 hb
    have hrow4 := hrow.below hb
    have hb4 := below_call (B := w.heap.size) (w := w) hb hb3 hb3.size
    have hz4 := hb4.size
    clear hb kc3 kd3 ke3 hb3 hz3 c0 c1 c2 cl hg2 hrow
    rw [rev_of 2 a b h (by decide) (by omega)] at hrow2 hcap2
    have e12 : (besAll 2 (-a - 1) (-b - 1) (1 - h)).length = (besAll 2 a b h).length := by rw [rev_of 2 a b h (by decide) (by omega)]; simp
    rw [e12]
    clear e12
    have hlen := (bes_some' (l := 2) (a := a) (b := b) (h := h) (by decide) (by omega) (by simp [halvesV]; omega)).2
    have HN := Lib.hid (show ∀ d ∈ besAll 2 a b h, (a - 1 ≤ d.1 ∧ d.1 ≤ a + 1) ∧ (b - 1 ≤ d.2.1 ∧ d.2.1 ≤ b + 1) ∧ 0 ≤ d.2.2 ∧ d.2.2 < 2 from fun d hd => near_of (l := 2) (by decide) (by omega) (by simp [halvesV]; omega) hd)
    simp only [List.length_reverse, List.length_map] at hcap2
    generalize besAll 2 a b h = L at *
    go_wp2_with fail
    refine (awake02_any _ (hs.below hb4)).mono ?_
    rintro e w5 ⟨rfl, hb⟩
    have kc5 := box3_below kc4 hb
    have kd5 := box3_below kd4 hb
    have ke5 := box3_below ke4 hb
    have r5 := hrow4.below hb
    have r6 := hrow2.below hb
    have hb5 := below_call (B := w.heap.size) (w := w) hb hb4 hb4.size
    clear hb kc4 kd4 ke4 hrow4 hrow2 hb4 hz4
    obtain ⟨⟨c0, c1, c2⟩, _, cl⟩ := id kc5
    obtain ⟨⟨d0, d1, d2⟩, _, dl⟩ := id kd5
    obtain ⟨⟨s0, s1, s2⟩, _, sl⟩ := id ke5
    have g1 : (1 - h == h) = false := by simp; omega
    have nn := fun w => neq_ce a b h a b h w
    simp only [beq_self_eq_true, Bool.and_self, Bool.not_true] at nn
    go_wp2_with fail
    clear c0 c1 c2 cl d0 d1 d2 dl s0 s1 s2 sl nn g1 kc5 kd5 ke5
    go_loopw [98] (fun i wr => HtRel w g g2 L i wr) (fun i _ => L.length - (intOf i).toNat)
    case atStart => exact ⟨0, by omega, rfl, hb5, r5, r6⟩
    case round =>
      clear hb5 r5 r6
      obtain ⟨k, hk, rfl, hb5, r5, r6⟩ := hrel
      have hz5 := hb5.size
      by_cases hlt : k < L.length
      · obtain ⟨d, hd⟩ : ∃ d, L[k]? = some d := ⟨_, List.getElem?_eq_getElem hlt⟩
        obtain ⟨x, y, z⟩ := d
        obtain ⟨p0, p1, p2⟩ := r5.1 k _ hd
        have hrev : ((L.map ht).reverse)[L.length - 1 - k]? = some (-x - 1, -y - 1, 1 - z) := by
          rw [List.getElem?_reverse (by simp; omega), List.getElem?_map]
          simp only [List.length_map]
          rw [show L.length - 1 - (L.length - 1 - k) = k by omega, hd]
          rfl
        obtain ⟨q0, q1, q2⟩ := r6.1 (L.length - 1 - k) _ hrev
        have HM := HN.out (x, y, z) (List.mem_of_getElem? hd)
        dsimp only at p0 p1 p2 q0 q1 q2 HM
        clear hd hrev
        obtain ⟨o1, o2, o3⟩ := on3 2 x y z (by decide) (by omega)
        have hgl := r5.2
        have hgl2 := r6.2
        have ct := fun w => con_yes 2 3 x y z w (by decide) (by decide) (by decide) (by omega) (by simp [halvesV]; omega) (by omega) (by omega)
        rw [o1, o2, o3] at ct
        clear o1 o2 o3
        go_wp2_with fail
        refine (ct _).mono ?_
        rintro e w7 ⟨rfl, hb⟩
        have hd : Below wr.heap.size wr (wr.alloc (.cells #[.int .i64 x, .int .i64 y, .int .i64 z] 36)) := by go_grown
        have hb7 : Below wr.heap.size wr w7 := hd.trans (hb.mono (by simp))
        have hb8 := hb5.trans (hb7.mono hz5)
        have r7 := r5.below hb7
        have r8 := r6.below hb7
        have q0 := (hb7.cell (p := ⟨g2, (L.length - 1 - k) * 3, none⟩) hgl2).trans q0
        have q1 := (hb7.cell (p := ⟨g2, (L.length - 1 - k) * 3 + 1, none⟩) hgl2).trans q1
        have q2 := (hb7.cell (p := ⟨g2, (L.length - 1 - k) * 3 + 1 + 1, none⟩) hgl2).trans q2
        have hz7 := hb7.size
        have hgl7 := r8.2
        clear hb hd ct p0 p1 p2
        have nn := fun w => neq_ce (-x - 1) (-y - 1) (1 - z) (-x - 1) (-y - 1) (1 - z) w
        simp only [beq_self_eq_true, Bool.and_self, Bool.not_true] at nn
        have x3 : 0 ≤ (L.length : Int) - 1 - (k : Int) := by omega
        have x4 : (L.length : Int) - 1 - (k : Int) < (L.length : Int) := by omega
        have x1 : IntKind.i64.wrap ((L.length : Int) - 1) = (L.length : Int) - 1 := IntWalk.i64_in _ (by omega)
        have x2 : IntKind.i64.wrap ((L.length : Int) - 1 - (k : Int)) = (L.length : Int) - 1 - (k : Int) := IntWalk.i64_in _ (by omega)
        have x5 : ((L.length : Int) - 1 - (k : Int)).toNat = L.length - 1 - k := by omega
        go_wp2_with fail
        go_quiet (fail)
        clear x1 x2 x5
        go_wp2
        go_roundw
        case rel => exact ⟨k + 1, by omega, by go_num, below_dr _ (by go_grown), r7.below (below_dr _ (by go_grown)), r8.below (below_dr _ (by go_grown))⟩
        case measure => simp [intOf]; omega
      · go_wp2
        go_ret
        exact ⟨rfl, hb5⟩
  · go_enter Tryd.func11, Tryd.ntmps11
    go_wp2_with fail
    generalize rA.tmod 1000000 = a at *
    generalize rB.tmod 1000000 = b at *
    generalize rH % 2 = h at *
    refine (con_yes 3 3 a b h _ (by decide) (by decide) (by decide) (by omega) (by simp [halvesV]; omega) (by omega) (by omega)).mono ?_
    rintro e w1 ⟨rfl, hb⟩
    obtain ⟨e1, e2, e3⟩ := on3 3 a b h (by decide) (by omega)
    rw [e1, e2, e3]
    clear e1 e2 e3
    have kc : Box3 w.heap.size w1 a b h := box3_below (by simp [Box3, go_sem]) hb
    have hb1 := below_call (B := w.heap.size) (w := w) hb (by go_grown) (by go_size)
    have hz1 := hb1.size
    clear hb
    have hcl := kc.2.2
    go_wp2_with fail
    refine (con_yes 3 3 (-a - 1) (-b - 1) (1 - h) _ (by decide) (by decide) (by decide) (by omega) (by simp [halvesV]; omega) (by omega) (by omega)).mono ?_
    rintro e w2 ⟨rfl, hb⟩
    obtain ⟨e1, e2, e3⟩ := on3 3 (-a - 1) (-b - 1) (1 - h) (by decide) (by omega)
    rw [show -(-a - 1) - 1 = a by omega] at e1
    rw [show -(-b - 1) - 1 = b by omega] at e2
    rw [show 1 - (1 - h) = h by omega] at e3
    rw [e1, e2, e3]
    clear e1 e2 e3
    have hd : Below w1.heap.size w1 (w1.alloc (.cells #[.int .i64 (-a - 1), .int .i64 (-b - 1), .int .i64 (1 - h)] 36)) := by go_grown
    have kc2 := box3_below (box3_below kc hd) hb
    have kd2 : Box3 w1.heap.size w2 (-a - 1) (-b - 1) (1 - h) := box3_below (by simp [Box3, go_sem]) hb
    have hb2 := below_call (B := w.heap.size) (w := w) hb (hb1.trans (hd.mono hz1)) (by simp; omega)
    have hz2 := hb2.size
    clear hb hd kc hcl hb1 hz1
    generalize w1.heap.size = D at *
    obtain ⟨⟨c0, c1, c2⟩, _, cl⟩ := id kc2
    go_wp2_with fail
    refine (beside_yes 3 a b h _ (by decide) (by omega) (by simp [halvesV]; omega) (by omega) (by omega) (hs.below (by go_grown))).mono ?_
    rintro e w3 ⟨g, cap, rfl, hcap, hg, hrow, hb⟩
    have hd : Below w2.heap.size w2 (w2.alloc (.cells #[.int .i64 a, .int .i64 b, .int .i64 h] 36)) := by go_grown
    have kc3 := box3_below (box3_below kc2 hd) hb
    have kd3 := box3_below (box3_below kd2 hd) hb
    have ke3 : Box3 w2.heap.size w3 a b h := box3_below (by simp [Box3, go_sem]) hb
    have hb3 := below_call (B := w.heap.size) (w := w) hb (hb2.trans (hd.mono hz2)) (by simp; omega)
    have hz3 := hb3.size
    clear hb hd kc2 kd2 hb2 hz2 c0 c1 c2 cl hg
    generalize w2.heap.size = E at *
    obtain ⟨⟨c0, c1, c2⟩, _, cl⟩ := id kd3
    go_wp2_with fail
    refine (beside_yes 3 (-a - 1) (-b - 1) (1 - h) _ (by decide) (by omega) (by simp [halvesV]; omega) (by omega) (by omega) (hs.below hb3)).mono ?_
    rintro e w4 ⟨g2, cap2, rfl, hcap2, hg2, hrow2, hb⟩
    have kc4 := box3_below kc3 hb
    have kd4 := box3_below kd3 hb
    have ke4 := box3_below ke3 hb
    have hrow4 := hrow.below hb
    have hb4 := below_call (B := w.heap.size) (w := w) hb hb3 hb3.size
    have hz4 := hb4.size
    clear hb kc3 kd3 ke3 hb3 hz3 c0 c1 c2 cl hg2 hrow
    rw [rev_of 3 a b h (by decide) (by omega)] at hrow2 hcap2
    have e12 : (besAll 3 (-a - 1) (-b - 1) (1 - h)).length = (besAll 3 a b h).length := by rw [rev_of 3 a b h (by decide) (by omega)]; simp
    rw [e12]
    clear e12
    have hlen := (bes_some' (l := 3) (a := a) (b := b) (h := h) (by decide) (by omega) (by simp [halvesV]; omega)).2
    have HN := Lib.hid (show ∀ d ∈ besAll 3 a b h, (a - 1 ≤ d.1 ∧ d.1 ≤ a + 1) ∧ (b - 1 ≤ d.2.1 ∧ d.2.1 ≤ b + 1) ∧ 0 ≤ d.2.2 ∧ d.2.2 < 2 from fun d hd => near_of (l := 3) (by decide) (by omega) (by simp [halvesV]; omega) hd)
    simp only [List.length_reverse, List.length_map] at hcap2
    generalize besAll 3 a b h = L at *
    go_wp2_with fail
    refine (awake02_any _ (hs.below hb4)).mono ?_
    rintro e w5 ⟨rfl, hb⟩
    have kc5 := box3_below kc4 hb
    have kd5 := box3_below kd4 hb
    have ke5 := box3_below ke4 hb
    have r5 := hrow4.below hb
    have r6 := hrow2.below hb
    have hb5 := below_call (B := w.heap.size) (w := w) hb hb4 hb4.size
    clear hb kc4 kd4 ke4 hrow4 hrow2 hb4 hz4
    obtain ⟨⟨c0, c1, c2⟩, _, cl⟩ := id kc5
    obtain ⟨⟨d0, d1, d2⟩, _, dl⟩ := id kd5
    obtain ⟨⟨s0, s1, s2⟩, _, sl⟩ := id ke5
    have g1 : (1 - h == h) = false := by simp; omega
    have nn := fun w => neq_ce a b h a b h w
    simp only [beq_self_eq_true, Bool.and_self, Bool.not_true] at nn
    go_wp2_with fail
    clear c0 c1 c2 cl d0 d1 d2 dl s0 s1 s2 sl nn g1 kc5 kd5 ke5
    go_loopw [98] (fun i wr => HtRel w g g2 L i wr) (fun i _ => L.length - (intOf i).toNat)
    case atStart => exact ⟨0, by omega, rfl, hb5, r5, r6⟩
    case round =>
      clear hb5 r5 r6
      obtain ⟨k, hk, rfl, hb5, r5, r6⟩ := hrel
      have hz5 := hb5.size
      by_cases hlt : k < L.length
      · obtain ⟨d, hd⟩ : ∃ d, L[k]? = some d := ⟨_, List.getElem?_eq_getElem hlt⟩
        obtain ⟨x, y, z⟩ := d
        obtain ⟨p0, p1, p2⟩ := r5.1 k _ hd
        have hrev : ((L.map ht).reverse)[L.length - 1 - k]? = some (-x - 1, -y - 1, 1 - z) := by
          rw [List.getElem?_reverse (by simp; omega), List.getElem?_map]
          simp only [List.length_map]
          rw [show L.length - 1 - (L.length - 1 - k) = k by omega, hd]
          rfl
        obtain ⟨q0, q1, q2⟩ := r6.1 (L.length - 1 - k) _ hrev
        have HM := HN.out (x, y, z) (List.mem_of_getElem? hd)
        dsimp only at p0 p1 p2 q0 q1 q2 HM
        clear hd hrev
        obtain ⟨o1, o2, o3⟩ := on3 3 x y z (by decide) (by omega)
        have hgl := r5.2
        have hgl2 := r6.2
        have ct := fun w => con_yes 3 3 x y z w (by decide) (by decide) (by decide) (by omega) (by simp [halvesV]; omega) (by omega) (by omega)
        rw [o1, o2, o3] at ct
        clear o1 o2 o3
        go_wp2_with fail
        refine (ct _).mono ?_
        rintro e w7 ⟨rfl, hb⟩
        have hd : Below wr.heap.size wr (wr.alloc (.cells #[.int .i64 x, .int .i64 y, .int .i64 z] 36)) := by go_grown
        have hb7 : Below wr.heap.size wr w7 := hd.trans (hb.mono (by simp))
        have hb8 := hb5.trans (hb7.mono hz5)
        have r7 := r5.below hb7
        have r8 := r6.below hb7
        have q0 := (hb7.cell (p := ⟨g2, (L.length - 1 - k) * 3, none⟩) hgl2).trans q0
        have q1 := (hb7.cell (p := ⟨g2, (L.length - 1 - k) * 3 + 1, none⟩) hgl2).trans q1
        have q2 := (hb7.cell (p := ⟨g2, (L.length - 1 - k) * 3 + 1 + 1, none⟩) hgl2).trans q2
        have hz7 := hb7.size
        have hgl7 := r8.2
        clear hb hd ct p0 p1 p2
        have nn := fun w => neq_ce (-x - 1) (-y - 1) (1 - z) (-x - 1) (-y - 1) (1 - z) w
        simp only [beq_self_eq_true, Bool.and_self, Bool.not_true] at nn
        have x3 : 0 ≤ (L.length : Int) - 1 - (k : Int) := by omega
        have x4 : (L.length : Int) - 1 - (k : Int) < (L.length : Int) := by omega
        have x1 : IntKind.i64.wrap ((L.length : Int) - 1) = (L.length : Int) - 1 := IntWalk.i64_in _ (by omega)
        have x2 : IntKind.i64.wrap ((L.length : Int) - 1 - (k : Int)) = (L.length : Int) - 1 - (k : Int) := IntWalk.i64_in _ (by omega)
        have x5 : ((L.length : Int) - 1 - (k : Int)).toNat = L.length - 1 - k := by omega
        go_wp2_with fail
        go_quiet (fail)
        clear x1 x2 x5
        go_wp2
        go_roundw
        case rel => exact ⟨k + 1, by omega, by go_num, below_dr _ (by go_grown), r7.below (below_dr _ (by go_grown)), r8.below (below_dr _ (by go_grown))⟩
        case measure => simp [intOf]; omega
      · go_wp2
        go_ret
        exact ⟨rfl, hb5⟩
section
open Go.ChangeShapes Go.WideShapes Go.ChangeAt Go.RowKit Go.Joins
theorem cellsCe : Tryd.prog.cellsOf 36 = 3 := by kernel_rfl
theorem cellsInt : Tryd.prog.cellsOf 3 = 1 := by kernel_rfl
set_option maxRecDepth 100000 in
theorem open_cell {H : Type} {enc : TypeId × Value → H} {w : World} {base : Nat} {spare : Nat → Bool} {held : Bool} {r : Reach} {b0 : Nat} {v : Value} {d : DataW H} {p : List MemPlace}
    (hv : Value.okWide Tryd.prog w r b0 36 v) (h : DataW.Trod enc Tryd.prog w base spare held 36 v d p) :
    ∃ a b c : Int, v = Ce a b c ∧ d = .agg [.agg [.lit (.int .i64 a), .lit (.int .i64 b)], .lit (.int .i64 c)] ∧ p = [] ∧ (Lit.int .i64 a).wf = true ∧ (Lit.int .i64 b).wf = true ∧ (Lit.int .i64 c).wf = true := by
  obtain ⟨cs, rfl, hsz⟩ := okWide_struct Tryd.underlying36 hv
  obtain ⟨l⟩ := cs
  rw [cellsCe] at hsz
  match l, hsz with
  | [c0, c1, c2], _ =>
    obtain ⟨fuel, hf⟩ := h
    obtain ⟨y0, y1, n, hx, _, g0, g1⟩ := trod_struct2 Tryd.underlying36 hf
    simp only [cellsPt, cellsInt] at g0 g1
    obtain ⟨z0, z1, m, hz, _, k0, k1⟩ := trod_struct2 Tryd.underlying34 g0
    simp only [cellsI] at k0 k1
    obtain ⟨a, e0, rfl, w0⟩ := DataW.trod_int Tryd.underlying2 k0
    obtain ⟨b, e1, rfl, w1⟩ := DataW.trod_int Tryd.underlying2 k1
    obtain ⟨c, e2, rfl, w2⟩ := DataW.trod_int Tryd.underlying3 g1
    simp [Value.cells] at e0 e1 e2
    subst e0 e1 e2 hz
    simp only [Prod.mk.injEq] at hx
    obtain ⟨rfl, rfl⟩ := hx
    exact ⟨a, b, c, rfl, rfl, rfl, w0, w1, w2⟩
end
section honeycombHalfTurnFrame
open Go.ChangeShapes Go.WideShapes Go.ChangeAt Go.RowKit Go.Joins
set_option maxRecDepth 100000 in
theorem honeycombHalfTurn_contract (H : Type) (enc : TypeId × Value → H) (W : World) (base : Nat) (args : Array Value) (ds gs : List (DataW H)) (before : List MemPlace)
    (hval : ∀ (j : Nat) t v, Tryd.f11.params[j]? = some t → args[j]? = some v → Value.okWide Tryd.prog W .any base t v)
    (hW : DataW.Whole enc Tryd.prog Tryd.f11.params.toList Rows.honeycombHalfTurnSpec.vars false W args.toList ds gs before) (hL : laidMetH Tryd.prog Rows.honeycombHalfTurnRow.laid W) :
    Calls Tryd.prog 11 args W fun e W' => ∃ v, e = .returned v ∧ Rows.honeycombHalfTurnSpec.post enc Tryd.prog Tryd.f11 false true false false W args v W' := by
  have hW' := hW
  obtain ⟨p, q, hA0, hV, rfl, hfz, hnd⟩ := hW
  have hA : DataW.TrodAll enc Tryd.prog W 0 (fun _ => true) true Tryd.f11.params.toList args.toList ds p := hA0
  rw [Tryd.params11] at hA hval
  obtain ⟨v0, vs0, d0, ds0, p0, q0, hargs, rfl, rfl, h0, r0⟩ := trodAll_cons hA
  obtain ⟨v1, vs1, d1, ds1, p1, q1, rfl, rfl, rfl, h1, r1⟩ := trodAll_cons r0
  obtain ⟨rfl, rfl, rfl⟩ := trodAll_nil r1
  obtain rfl : args = #[v0, v1] := by cases args; simp_all
  obtain ⟨rfl, rfl⟩ := trodVars_none hV
  obtain ⟨cA, cB, cH, rfl, rfl, rfl, w_cA, w_cB, w_cH⟩ := open_cell (hval 0 36 v0 rfl rfl) h0
  obtain ⟨vertex, rfl, rfl, rfl⟩ := open_bool Tryd.underlying4 (hval 1 4 v1 rfl rfl) h1
  refine (honeycombHalfTurn_walk cA w_cA cB w_cB cH w_cH vertex W (six_of_laid hL)).mono fun e W' ⟨he, hb⟩ => ?_
  exact ⟨_, he, law_post laidOut rfl rfl Tryd.underlying4 (by kernel_rfl) hW' hb ⟨rfl, rfl, rfl⟩⟩
theorem honeycombHalfTurn_met (os : Os) : laidMet Tryd.prog Rows.honeycombHalfTurnRow.laid ((laidWorld os).forCall (fun _ _ => 0) ⟨#[], #[.agg #[.int .i64 0, .int .i64 0, .int .i64 0], .bool false], []⟩).memory :=
  laidMet_of_run' 8 (by kernel_rfl) (by kernel_rfl)
theorem honeycombHalfTurn_reads (os : Os) {H : Type} (enc : TypeId × Value → H) : ∃ places, DataW.whole enc Tryd.prog ((laidWorld os).forCall (fun _ _ => 0) ⟨#[], #[.agg #[.int .i64 0, .int .i64 0, .int .i64 0], .bool false], []⟩).memory Tryd.f11.params.toList Rows.honeycombHalfTurnSpec.vars false #[(.agg #[.int .i64 0, .int .i64 0, .int .i64 0] : Value), (.bool false : Value)].toList 8 = some ([.agg [.agg [.lit (.int .i64 0), .lit (.int .i64 0)], .lit (.int .i64 0)], .lit (.bool false)], [], places) :=
  ⟨[], by kernel_rfl⟩
set_option maxRecDepth 100000 in
theorem honeycombHalfTurn_lifted (os : Os) (started : os.Started) (H : Type) (enc : TypeId × Value → H) (F : Stop.Interp) :
    ReturnsInHanded {} Tryd.checked os 11 .any ((OpenSpec.ofChange Rows.honeycombHalfTurnSpec).preRow enc Tryd.prog Tryd.f11 Rows.honeycombHalfTurnRow.domain false Rows.honeycombHalfTurnRow.laid) (((OpenSpec.ofChange Rows.honeycombHalfTurnSpec).at F).post enc Tryd.prog Tryd.f11 false true false false) := by
  obtain ⟨places, hx⟩ := honeycombHalfTurn_reads os enc
  refine returnsInHanded_of_row (C := Tryd.checked) (s := OpenSpec.ofChange Rows.honeycombHalfTurnSpec) own started (by kernel_rfl) Tryd.func11
    (witness_row_at (enc := enc) (C := Tryd.checked) false (laidWorld os) #[.agg #[.int .i64 0, .int .i64 0, .int .i64 0], .bool false] rfl (by kernel_rfl) (by kernel_rfl) (by kernel_rfl)
      (OpenSpec.preRow_of_cond 8 hx (by kernel_rfl) (fun k hk => by cases hk) (by kernel_rfl) (honeycombHalfTurn_met os))) ?_
  intro W base args ds gs before hval hW _ _ _ hL _ _
  exact honeycombHalfTurn_contract H enc W base args ds gs before hval hW hL
theorem honeycombHalfTurn_said : Rows.HoneycombHalfTurnSaid :=
  OpenClaim.holds_of_cond 11 Tryd.f11 rfl rfl rfl rfl rfl rfl rfl ⟨rfl, rfl, rfl, rfl, rfl⟩ rfl rfl rfl rfl rfl (by kernel_rfl) Tryd.func11 (by kernel_rfl)
    (of_decide_eq_true (by kernel_rfl)) (by unfold Func.isWrapper; first | (rw [if_pos (by decide +kernel)]; kernel_rfl) | (rw [if_neg (by decide +kernel)]; exact ⟨rfl, rfl⟩))
    (fun os started H enc _ F => by rw [OpenClaim.pre_eq_preRow]; exact honeycombHalfTurn_lifted os started H enc F)
theorem honeycombHalfTurn_plain (f : FuncId) (fn : Func) (hf : Tryd.pinned.checked.prog.funcNamed "honeycomb/honeycombtop.HoneycombHalfTurn" = some f) (hfn : Tryd.pinned.checked.prog.funcs[f]? = some fn) :
    true = Tryd.pinned.checked.prog.looks [] ∧ ∀ (j : Nat) t, fn.params[j]? = some t → Tryd.pinned.checked.prog.wantsStandIn t = false := by
  obtain rfl : f = 11 := Option.some.inj ((show Tryd.prog.funcNamed "honeycomb/honeycombtop.HoneycombHalfTurn" = some 11 by kernel_rfl).symm.trans hf) |>.symm
  obtain rfl : fn = Tryd.f11 := (Option.some.inj (Tryd.func11.symm.trans hfn)).symm
  refine ⟨by kernel_rfl, fun j t ht => ?_⟩
  have hall : (Tryd.f11.params.toList.all fun t => !Tryd.prog.wantsStandIn t) = true := by kernel_rfl
  have hm : t ∈ Tryd.f11.params.toList := by simpa using Array.mem_of_getElem? ht
  have := List.all_eq_true.1 hall t hm
  exact (show Tryd.prog.wantsStandIn t = false by simpa using this)
end honeycombHalfTurnFrame
/-- HoneycombHalfTurn: the card: for every input the law answers true. -/
theorem honeycombHalfTurn_card : Rows.HoneycombHalfTurnCardSaid :=
  Claim7.holds_tied_plain_at .later [] _ _ _ _ honeycombHalfTurn_said (fun _ h => by cases h) (by kernel_rfl) (fun _ h => by cases h) honeycombHalfTurn_row_tie rfl ⟨rfl, rfl⟩ (by kernel_rfl) rfl honeycombHalfTurn_plain (by kernel_rfl)
end Go.Proofs.YthlchndhfnbjaaaDoor.Ce
namespace Go.Proofs.YthlchndhfnbjaaaDoor
theorem honeycombHalfTurn_proved : Rows.HoneycombHalfTurnCardSaid := Ce.honeycombHalfTurn_card
#print axioms honeycombHalfTurn_proved
end Go.Proofs.YthlchndhfnbjaaaDoor
