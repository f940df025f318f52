/- CellTurns: any operator on any cell of any lattice, or what is none: where it is brought, or the error, as the document says. No conditions. -/
import Derived.Test.YthlchndhfnbjaaaDoorCeW10
import Derived.Test.YthlchndhfnbjaaaDoorAxR3
import Derived.Deep.RegionHeld3
namespace Go.Proofs.YthlchndhfnbjaaaDoor.Ce
open Go.RowKit Go.Proofs.YthlchndhfnbjaaaDoor.Ax

theorem chk_zero {l a b h : Int} (hc : chkV l a b h = 0) : (l = 1 ∨ l = 2 ∨ l = 3) ∧ latB l = true ∧ 0 ≤ h ∧ h < halvesV l ∧ goodB a b = true := by
  unfold chkV at hc
  cases hl : latB l
  · rw [if_pos hl] at hc; cases hc
  · rw [if_neg (by simp [hl])] at hc
    by_cases hh : h < 0 ∨ halvesV l ≤ h
    · rw [if_pos hh] at hc; cases hc
    · rw [if_neg hh] at hc
      cases hg : goodB a b
      · rw [if_pos hg] at hc; cases hc
      · simp only [latB, decide_eq_true_eq] at hl
        exact ⟨by omega, rfl, by omega, by omega, rfl⟩
theorem chk_on {l o h : Int} (hl : l = 1 ∨ l = 2 ∨ l = 3) (h0 : 0 ≤ o) (h1 : o < 12) (hh0 : 0 ≤ h) (hh1 : h < halvesV l) (x y : Int) : chkV l x y (onH l o h) = if goodB x y = false then 6 else 0 := by
  have hlat : latB l = true := by rcases hl with rfl | rfl | rfl <;> decide
  have hz : 0 ≤ onH l o h ∧ onH l o h < halvesV l := by
    unfold onH
    by_cases e : l = 1
    · rw [if_pos e]; subst e; decide
    · rw [if_neg e]
      have hv : halvesV l = 2 := if_neg e
      have := (tt_bd' o h h0 h1 (by omega)).2
      omega
  unfold chkV
  rw [if_neg (by simp [hlat]), if_neg (by omega)]
theorem eql_err6 (w : World) : (binOp .eql 31 (Er 6) (Er 6)).run Tryd.prog w = .ok (.bool true) w := by kernel_rfl
theorem keep33 {W w' : World} {G E : Nat} {x y z p q r : Int} (kg : Box3 G W x y z) (kx : Box3 E W p q r) (hb : Below W.heap.size W w') :
    w'.cell? ⟨G, 0, none⟩ = some (.int .i64 x) ∧ w'.cell? ⟨G, 1, none⟩ = some (.int .i64 y) ∧ w'.cell? ⟨G, 2, none⟩ = some (.int .i64 z) ∧ w'.cell? ⟨E, 0, none⟩ = some (.int .i64 p) ∧ w'.cell? ⟨E, 1, none⟩ = some (.int .i64 q) ∧ w'.cell? ⟨E, 2, none⟩ = some (.int .i64 r) :=
  ⟨(box3_below kg hb).1.1, (box3_below kg hb).1.2.1, (box3_below kg hb).1.2.2, (box3_below kx hb).1.1, (box3_below kx hb).1.2.1, (box3_below kx hb).1.2.2⟩
set_option maxRecDepth 100000 in
set_option maxHeartbeats 8000000 in
theorem cellTurns_walk (l : Int) (_wl : (Lit.int .i64 l).wf = true) (o : Int) (_wo : (Lit.int .i64 o).wf = true) (a : Int) (_wa : (Lit.int .i64 a).wf = true) (b : Int) (_wb : (Lit.int .i64 b).wf = true) (h : Int) (_wh : (Lit.int .i64 h).wf = true) (w : World) (hs : SixIs w) (hE : ErrIs w) :
    Calls Tryd.prog 6 #[.int .i64 l, .int .i64 o, Ce a b h] w fun e w' => e = .returned (.bool true) ∧ Below w.heap.size w w' := by
  have ec := fun w => eql_ce 0 0 0 0 0 0 w
  simp only [beq_self_eq_true, Bool.and_self] at ec
  by_cases hc : chkV l a b h = 0
  · obtain ⟨hl, hlat, hh0, hh1, hg⟩ := chk_zero hc
    by_cases ho : 0 ≤ o ∧ o < 12
    · obtain ⟨h0, h1⟩ := ho
      have key : ∀ w, Calls Tryd.prog 28 #[.int .i64 l, .int .i64 o, Ce a b h] w (OnPost w l o a b h) := by
        intro w
        rcases hl with rfl | hl
        · obtain rfl : h = 0 := by simp [halvesV] at hh1; omega
          exact con_hex o a b w h0 h1 hg
        · exact con_tri l o a b h w hl h0 h1 hg (by unfold halvesV at hh1; split at hh1 <;> omega)
      have hre := refcheck_any l a b h
      rw [hc] at hre
      have hro := fun w => refOn_any l o a b h w hl h0 h1 hg hh0 hh1
      have hrx := refcheck_any l (onA l o a b h) (onB l o a b h) (onH l o h)
      rw [chk_on hl h0 h1 hh0 hh1] at hrx
      have hd1 : decide (o < 0) = false := by simp; omega
      have hd2 : decide (11 < o) = false := by simp; omega
      unfold OnPost at key
      generalize onA l o a b h = X at *
      generalize onB l o a b h = Y at *
      generalize onH l o h = Z at *
      clear hc hl hlat hh0 hh1 hg
      have e6 := eql_err6
      (go_enter Tryd.func6, Tryd.ntmps6; go_wp2_with fail; refine (awake_any _ (hs.below (by go_grown))).mono ?_; rintro e w1 ⟨rfl, hb⟩; have k1 : Box3 w.heap.size w1 a b h := box3_below (by simp [Box3, go_sem]) hb; have hb1 := below_call (B := w.heap.size) (w := w) hb (by go_grown) (by go_size); clear hb; obtain ⟨⟨c0, c1, c2⟩, _, cl⟩ := id k1; go_wp2_with fail; refine (own_any _ _ _ _).mono ?_; rintro e w2 ⟨rfl, hb⟩; have k2 := box3_below k1 hb; have hb2 := below_call (B := w.heap.size) (w := w) hb hb1 hb1.size; clear hb c0 c1 c2 cl k1 hb1; go_wp2_with fail)
      refine (key _).mono ?_
      rintro e w3 ⟨hcase, hb⟩
      have k3 := box3_below k2 hb
      have hb3 := below_call (B := w.heap.size) (w := w) hb hb2 hb2.size
      have hz3 := hb3.size
      clear hb k2 hb2 key
      obtain ⟨⟨c0, c1, c2⟩, _, cl⟩ := id k3
      rcases hcase with ⟨hgd, rfl⟩ | ⟨hgd, rfl⟩
      · rw [if_neg (by simp [hgd])] at hrx
        clear hgd
        go_wp2_with fail
        refine (hre _).mono ?_
        rintro e w4 ⟨rfl, hb⟩
        have kg : Box3 w3.heap.size w4 X Y Z := box3_below (by simp [Box3, go_sem]) hb
        have k4 := box3_below (box3_below k3 (by go_grown)) hb
        have hb4 := below_call (B := w.heap.size) (w := w) hb (by go_grown) (by go_size)
        clear hb c0 c1 c2 cl k3 hb3 hre
        generalize w3.heap.size = G at *
        obtain ⟨⟨c0, c1, c2⟩, _, cl⟩ := id k4
        have hz4 := hb4.size
        go_wp2_with fail
        refine (hro _).mono ?_
        rintro e w5 ⟨rfl, hb⟩
        have kg5 := box3_below kg hb
        have hb5 := below_call (B := w.heap.size) (w := w) hb hb4 hb4.size
        have hz5 := hb5.size
        clear hb c0 c1 c2 cl k4 kg hb4 hro
        go_wp2_with fail
        refine (hrx _).mono ?_
        rintro e w6 ⟨rfl, hb⟩
        have kg6 := box3_below (box3_below kg5 (by go_grown)) hb
        have kx : Box3 w5.heap.size w6 X Y Z := box3_below (by simp [Box3, go_sem]) hb
        have hb6 := below_call (B := w.heap.size) (w := w) hb (by go_grown) (by go_size)
        clear hb kg5 hb5 hrx
        generalize w5.heap.size = E at *
        have er := fun w => eql_rc X Y Z X Y Z w
        simp only [beq_self_eq_true, Bool.and_self] at er
        go_wp2_with fail
        have hkb : Below w6.heap.size w6 w6 := Below.refl _ _
        go_region_held3 (fun w' => w'.cell? ⟨G, 0, none⟩ = some (.int .i64 X) ∧ w'.cell? ⟨G, 1, none⟩ = some (.int .i64 Y) ∧ w'.cell? ⟨G, 2, none⟩ = some (.int .i64 Z) ∧ w'.cell? ⟨E, 0, none⟩ = some (.int .i64 X) ∧ w'.cell? ⟨E, 1, none⟩ = some (.int .i64 Y) ∧ w'.cell? ⟨E, 2, none⟩ = some (.int .i64 Z)) (first | (refine keep33 kg6 kx ?_; go_grown; done))
          (first | (go_at_call 25; refine (told_any _ _ _ _).mono ?_; rintro e w7 ⟨rfl, hb⟩; have hkb : Below w6.heap.size w6 w7 := below_call hb (by go_grown) (by simp); clear hb))
        all_goals
          go_wp2_with fail
          go_ret
          exact ⟨rfl, hb6.trans (hkb.mono hb6.size)⟩
      · rw [if_pos hgd] at hrx
        clear hgd
        go_wp2_with fail
        refine (hre _).mono ?_
        rintro e w4 ⟨rfl, hb⟩
        have kg : Box3 w3.heap.size w4 0 0 0 := box3_below (by simp [Box3, go_sem]) hb
        have k4 := box3_below (box3_below k3 (by go_grown)) hb
        have hb4 := below_call (B := w.heap.size) (w := w) hb (by go_grown) (by go_size)
        clear hb c0 c1 c2 cl k3 hb3 hre
        generalize w3.heap.size = G at *
        obtain ⟨⟨c0, c1, c2⟩, _, cl⟩ := id k4
        have hz4 := hb4.size
        go_wp2_with fail
        refine (hro _).mono ?_
        rintro e w5 ⟨rfl, hb⟩
        have kg5 := box3_below kg hb
        have hb5 := below_call (B := w.heap.size) (w := w) hb hb4 hb4.size
        have hz5 := hb5.size
        clear hb c0 c1 c2 cl k4 kg hb4 hro
        go_wp2_with fail
        refine (hrx _).mono ?_
        rintro e w6 ⟨rfl, hb⟩
        have kg6 := box3_below (box3_below kg5 (by go_grown)) hb
        have hb6 := below_call (B := w.heap.size) (w := w) hb (by go_grown) (by go_size)
        clear hb kg5 hb5 hrx
        obtain ⟨⟨c0, c1, c2⟩, _, cl⟩ := id kg6
        go_wp2_with fail
        go_ret
        exact ⟨rfl, hb6⟩
    · have hre := refcheck_any l a b h
      rw [hc] at hre
      have hck := fun w => check_v l a b h w
      unfold errOf at hck
      rw [if_pos hc] at hck
      have hon := fun w => con_arg l o a b h w (by omega) hck
      have hcode := codeOf_er 4
      clear hck hc hl hlat hh0 hh1 hg
      have hd : (decide (o < 0) = true) ∨ (decide (o < 0) = false ∧ decide (11 < o) = true) := by simp; omega
      rcases hd with hd1 | ⟨hd1, hd2⟩
      all_goals
        clear ho
        (go_enter Tryd.func6, Tryd.ntmps6; go_wp2_with fail; refine (awake_any _ (hs.below (by go_grown))).mono ?_; rintro e w1 ⟨rfl, hb⟩; have k1 : Box3 w.heap.size w1 a b h := box3_below (by simp [Box3, go_sem]) hb; have hb1 := below_call (B := w.heap.size) (w := w) hb (by go_grown) (by go_size); clear hb; obtain ⟨⟨c0, c1, c2⟩, _, cl⟩ := id k1; go_wp2_with fail; refine (own_any _ _ _ _).mono ?_; rintro e w2 ⟨rfl, hb⟩; have k2 := box3_below k1 hb; have hb2 := below_call (B := w.heap.size) (w := w) hb hb1 hb1.size; clear hb c0 c1 c2 cl k1 hb1; go_wp2_with fail)
        refine (hon _).mono ?_
        rintro e w3 ⟨rfl, hb⟩
        have k3 := box3_below k2 hb
        have hb3 := below_call (B := w.heap.size) (w := w) hb hb2 hb2.size
        have hz3 := hb3.size
        clear hb k2 hb2 hon
        obtain ⟨⟨c0, c1, c2⟩, _, cl⟩ := id k3
        go_wp2_with fail
        refine (hre _).mono ?_
        rintro e w4 ⟨rfl, hb⟩
        have kg : Box3 w3.heap.size w4 0 0 0 := box3_below (by simp [Box3, go_sem]) hb
        have hb4 := below_call (B := w.heap.size) (w := w) hb (by go_grown) (by go_size)
        clear hb c0 c1 c2 cl k3 hb3 hre
        generalize w3.heap.size = G at *
        go_wp2_with fail
        refine (hcode _ (hE.below hb4)).mono ?_
        rintro e w5 ⟨rfl, hb⟩
        have kg5 := box3_below kg hb
        have hb5 := below_call (B := w.heap.size) (w := w) hb hb4 hb4.size
        obtain ⟨⟨c0, c1, c2⟩, _, cl⟩ := id kg5
        clear hb
        go_wp2_with fail
        go_ret
        exact ⟨rfl, hb5⟩
  · have hck := fun w => check_v l a b h w
    unfold errOf at hck
    rw [if_neg hc] at hck
    have hne : (chkV l a b h == 0) = false := by simpa using hc
    have hne2 : (chkV l a b h != 0) = true := by simpa using hc
    have hre := refcheck_any l a b h
    have hcode := codeOf_er (chkV l a b h)
    generalize chkV l a b h = n at *
    clear hc
    have hon := fun w => con_err l o a b h w n hck
    clear hck
    (go_enter Tryd.func6, Tryd.ntmps6; go_wp2_with fail; refine (awake_any _ (hs.below (by go_grown))).mono ?_; rintro e w1 ⟨rfl, hb⟩; have k1 : Box3 w.heap.size w1 a b h := box3_below (by simp [Box3, go_sem]) hb; have hb1 := below_call (B := w.heap.size) (w := w) hb (by go_grown) (by go_size); clear hb; obtain ⟨⟨c0, c1, c2⟩, _, cl⟩ := id k1; go_wp2_with fail; refine (own_any _ _ _ _).mono ?_; rintro e w2 ⟨rfl, hb⟩; have k2 := box3_below k1 hb; have hb2 := below_call (B := w.heap.size) (w := w) hb hb1 hb1.size; clear hb c0 c1 c2 cl k1 hb1; go_wp2_with fail)
    refine (hon _).mono ?_
    rintro e w3 ⟨rfl, hb⟩
    have k3 := box3_below k2 hb
    have hb3 := below_call (B := w.heap.size) (w := w) hb hb2 hb2.size
    have hz3 := hb3.size
    clear hb k2 hb2 hon
    obtain ⟨⟨c0, c1, c2⟩, _, cl⟩ := id k3
    go_wp2_with fail
    refine (hre _).mono ?_
    rintro e w4 ⟨rfl, hb⟩
    have kg : Box3 w3.heap.size w4 0 0 0 := box3_below (by simp [Box3, go_sem]) hb
    have hb4 := below_call (B := w.heap.size) (w := w) hb (by go_grown) (by go_size)
    clear hb c0 c1 c2 cl k3 hb3 hre
    generalize w3.heap.size = G at *
    have hnn : (n == n) = true := by simp
    go_wp2_with fail
    refine (hcode _ (hE.below hb4)).mono ?_
    rintro e w5 ⟨rfl, hb⟩
    have kg5 := box3_below kg hb
    have hb5 := below_call (B := w.heap.size) (w := w) hb hb4 hb4.size
    obtain ⟨⟨c0, c1, c2⟩, _, cl⟩ := id kg5
    clear hb
    go_wp2_with fail
    go_ret
    exact ⟨rfl, hb5⟩
section cellTurnsFrame
open Go.ChangeShapes Go.WideShapes Go.ChangeAt Go.RowKit Go.Joins
set_option maxRecDepth 100000 in
theorem cellTurns_contract (H : Type) (enc : TypeId × Value → H) (W : World) (base : Nat) (args : Array Value) (ds gs : List (DataW H)) (before : List MemPlace)
    (hval : ∀ (j : Nat) t v, Tryd.f6.params[j]? = some t → args[j]? = some v → Value.okWide Tryd.prog W .any base t v)
    (hW : DataW.Whole enc Tryd.prog Tryd.f6.params.toList Rows.cellTurnsSpec.vars false W args.toList ds gs before) (hL : laidMetH Tryd.prog Rows.cellTurnsRow.laid W) :
    Calls Tryd.prog 6 args W fun e W' => ∃ v, e = .returned v ∧ Rows.cellTurnsSpec.post enc Tryd.prog Tryd.f6 false true false false W args v W' := by
  have hW' := hW
  obtain ⟨p, q, hA0, hV, rfl, hfz, hnd⟩ := hW
  have hA : DataW.TrodAll enc Tryd.prog W 0 (fun _ => true) true Tryd.f6.params.toList args.toList ds p := hA0
  rw [Tryd.params6] at hA hval
  obtain ⟨v0, vs0, d0, ds0, p0, q0, hargs, rfl, rfl, h0, r0⟩ := trodAll_cons hA
  obtain ⟨v1, vs1, d1, ds1, p1, q1, rfl, rfl, rfl, h1, r1⟩ := trodAll_cons r0
  obtain ⟨v2, vs2, d2, ds2, p2, q2, rfl, rfl, rfl, h2, r2⟩ := trodAll_cons r1
  obtain ⟨rfl, rfl, rfl⟩ := trodAll_nil r2
  obtain rfl : args = #[v0, v1, v2] := by cases args; simp_all
  obtain ⟨rfl, rfl⟩ := trodVars_none hV
  obtain ⟨l, rfl, rfl, rfl, w_l⟩ := open_int Tryd.underlying3 (hval 0 3 v0 rfl rfl) h0
  obtain ⟨o, rfl, rfl, rfl, w_o⟩ := open_int Tryd.underlying3 (hval 1 3 v1 rfl rfl) h1
  obtain ⟨c20, c21, c22, y20, y21, y22, m2, rfl, rfl, rfl, hy20, hy21, hy22⟩ := open_agg3 Tryd.underlying23 (by kernel_rfl) (by kernel_rfl) (hval 2 23 v2 rfl rfl) h2
  obtain ⟨cA, e20, rfl, w_cA⟩ := DataW.trod_int Tryd.underlying2 hy20
  simp at e20; subst e20
  obtain ⟨cB, e21, rfl, w_cB⟩ := DataW.trod_int Tryd.underlying2 hy21
  simp at e21; subst e21
  obtain ⟨cH, e22, rfl, w_cH⟩ := DataW.trod_int Tryd.underlying3 hy22
  simp at e22; subst e22
  refine (cellTurns_walk l w_l o w_o cA w_cA cB w_cB cH w_cH W (two_of_laid hL).1 (two_of_laid hL).2).mono fun e W' ⟨he, hb⟩ => ?_
  exact ⟨_, he, law_post laidOut rfl rfl Tryd.underlying4 (by kernel_rfl) hW' hb ⟨rfl, rfl, rfl⟩⟩
theorem cellTurns_met (os : Os) : laidMetH Tryd.prog Rows.cellTurnsRow.laid ((laidWorld2 os).forCall (fun _ _ => 0) ⟨#[], #[.int .i64 0, .int .i64 0, .agg #[.int .i64 0, .int .i64 0, .int .i64 0]], []⟩).memory :=
  laidMetH_of_parts (laidMet_of_run' 8 (by kernel_rfl) (by kernel_rfl)) (by kernel_rfl)
theorem cellTurns_reads (os : Os) {H : Type} (enc : TypeId × Value → H) : ∃ places, DataW.whole enc Tryd.prog ((laidWorld2 os).forCall (fun _ _ => 0) ⟨#[], #[.int .i64 0, .int .i64 0, .agg #[.int .i64 0, .int .i64 0, .int .i64 0]], []⟩).memory Tryd.f6.params.toList Rows.cellTurnsSpec.vars false #[(.int .i64 0 : Value), (.int .i64 0 : Value), (.agg #[.int .i64 0, .int .i64 0, .int .i64 0] : Value)].toList 8 = some ([.lit (.int .i64 0), .lit (.int .i64 0), .agg [.lit (.int .i64 0), .lit (.int .i64 0), .lit (.int .i64 0)]], [], places) :=
  ⟨[], by kernel_rfl⟩
set_option maxRecDepth 100000 in
theorem cellTurns_lifted (os : Os) (started : os.Started) (H : Type) (enc : TypeId × Value → H) (F : Stop.Interp) :
    ReturnsInHanded {} Tryd.checked os 6 .any ((OpenSpec.ofChange Rows.cellTurnsSpec).preRow enc Tryd.prog Tryd.f6 Rows.cellTurnsRow.domain false Rows.cellTurnsRow.laid) (((OpenSpec.ofChange Rows.cellTurnsSpec).at F).post enc Tryd.prog Tryd.f6 false true false false) := by
  obtain ⟨places, hx⟩ := cellTurns_reads os enc
  refine returnsInHanded_of_row (C := Tryd.checked) (s := OpenSpec.ofChange Rows.cellTurnsSpec) own started (by kernel_rfl) Tryd.func6
    (witness_row_at (enc := enc) (C := Tryd.checked) false (laidWorld2 os) #[.int .i64 0, .int .i64 0, .agg #[.int .i64 0, .int .i64 0, .int .i64 0]] rfl (by kernel_rfl) (by kernel_rfl) (by kernel_rfl)
      (OpenSpec.preRow_of_cond 8 hx (by kernel_rfl) (fun k hk => by cases hk) (by kernel_rfl) (cellTurns_met os))) ?_
  intro W base args ds gs before hval hW _ _ _ hL _ _
  exact cellTurns_contract H enc W base args ds gs before hval hW hL
theorem cellTurns_said : Rows.CellTurnsSaid :=
  OpenClaim.holds_of_cond 6 Tryd.f6 rfl rfl rfl rfl rfl rfl rfl ⟨rfl, rfl, rfl, rfl, rfl⟩ rfl rfl rfl rfl rfl (by kernel_rfl) Tryd.func6 (by kernel_rfl)
    (of_decide_eq_true (by kernel_rfl)) (by unfold Func.isWrapper; first | (rw [if_pos (by decide +kernel)]; kernel_rfl) | (rw [if_neg (by decide +kernel)]; exact ⟨rfl, rfl⟩))
    (fun os started H enc _ F => by rw [OpenClaim.pre_eq_preRow]; exact cellTurns_lifted os started H enc F)
theorem cellTurns_plain (f : FuncId) (fn : Func) (hf : Tryd.pinned.checked.prog.funcNamed "honeycomb/honeycomblaw03.CellTurns" = some f) (hfn : Tryd.pinned.checked.prog.funcs[f]? = some fn) :
    true = Tryd.pinned.checked.prog.looks [] ∧ ∀ (j : Nat) t, fn.params[j]? = some t → Tryd.pinned.checked.prog.wantsStandIn t = false := by
  obtain rfl : f = 6 := Option.some.inj ((show Tryd.prog.funcNamed "honeycomb/honeycomblaw03.CellTurns" = some 6 by kernel_rfl).symm.trans hf) |>.symm
  obtain rfl : fn = Tryd.f6 := (Option.some.inj (Tryd.func6.symm.trans hfn)).symm
  refine ⟨by kernel_rfl, fun j t ht => ?_⟩
  have hall : (Tryd.f6.params.toList.all fun t => !Tryd.prog.wantsStandIn t) = true := by kernel_rfl
  have hm : t ∈ Tryd.f6.params.toList := by simpa using Array.mem_of_getElem? ht
  have := List.all_eq_true.1 hall t hm
  exact (show Tryd.prog.wantsStandIn t = false by simpa using this)
end cellTurnsFrame
/-- CellTurns: the card: for every input the law answers true. -/
theorem cellTurns_card : Rows.CellTurnsCardSaid :=
  Claim7.holds_tied_plain_at .later [] _ _ _ _ cellTurns_said (fun _ h => by cases h) (by kernel_rfl) (fun _ h => by cases h) cellTurns_row_tie rfl ⟨rfl, rfl⟩ (by kernel_rfl) rfl cellTurns_plain (by kernel_rfl)
end Go.Proofs.YthlchndhfnbjaaaDoor.Ce
namespace Go.Proofs.YthlchndhfnbjaaaDoor
theorem cellTurns_proved : Rows.CellTurnsCardSaid := Ce.cellTurns_card
#print axioms cellTurns_proved
end Go.Proofs.YthlchndhfnbjaaaDoor
