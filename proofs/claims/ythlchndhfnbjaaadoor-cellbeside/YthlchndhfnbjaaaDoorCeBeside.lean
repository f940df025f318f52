/- CellBeside: any cell of any lattice, or what is none: those beside it, or the error, as the document says. No conditions. -/
import Derived.Test.YthlchndhfnbjaaaDoorCeW13
import Derived.Test.YthlchndhfnbjaaaDoorAxR3
import Derived.Deep.RegionHeld3
namespace Go.Proofs.YthlchndhfnbjaaaDoor.Ce
open Go.RowKit Go.Proofs.YthlchndhfnbjaaaDoor.Ax

theorem chk_zero' {l a b h : Int} (hc : chkV l a b h = 0) : (l = 1 ∨ l = 2 ∨ l = 3) ∧ latB l = true ∧ 0 ≤ h ∧ h < halvesV l ∧ goodB a b = true := by
  unfold chkV at hc
  cases hl : latB l
  · rw [if_pos hl] at hc; cases hc
  · rw [if_neg (by simp [hl])] at hc
    by_cases hh : h < 0 ∨ halvesV l ≤ h
    · rw [if_pos hh] at hc; cases hc
    · rw [if_neg hh] at hc
      cases hg : goodB a b
      · rw [if_pos hg] at hc; cases hc
      · simp only [latB, decide_eq_true_eq] at hl
        exact ⟨by omega, rfl, by omega, by omega, rfl⟩
theorem beside_err (l a b h : Int) (w : World) (n : Int) (hc : ∀ w, Calls Tryd.prog 15 #[.int .i64 l, Ce a b h] w fun e w' => e = .returned (Er n) ∧ Below w.heap.size w w') :
    Calls Tryd.prog 23 #[.int .i64 l, Ce a b h] w fun e w' => e = .returned (.tuple #[.slice none 0 0, Er n]) ∧ Below w.heap.size w w' := by
  go_enter Tryd.func23, Tryd.ntmps23
  go_wp2_with fail
  refine (hc _).mono ?_
  rintro e w1 ⟨rfl, hb⟩
  have hb1 := below_call (B := w.heap.size) (w := w) hb (by go_grown) (by go_size)
  clear hb
  go_wp2
  go_ret2
  exact ⟨rfl, hb1⟩
theorem eql_err6 (w : World) : (binOp .eql 31 (Er 6) (Er 6)).run Tryd.prog w = .ok (.bool true) w := by kernel_rfl
theorem rrow_of_own {w : World} {base g cap : Nat} {L : List C} (h : w.ownsRow base 23 3 (.slice (some ⟨g, 0, none⟩) L.length cap) L.length (flat L)) (hg : g < w.heap.size) : Row w g L := by
  refine ⟨fun i d hd => ?_, hg⟩
  have hi : i < L.length := (List.getElem?_eq_some_iff.1 hd).1
  obtain ⟨h1, h2, h3⟩ := flat_get L i d hd
  exact ⟨(h.cellAt (i * 3) (by omega)).trans h1, (h.cellAt (i * 3 + 1) (by omega)).trans h2, (h.cellAt (i * 3 + 1 + 1) (by omega)).trans h3⟩
theorem bes_lens : ∀ h ∈ [(0 : Int), 1], (h = 0 → (besAll 1 0 0 h).length = 6) ∧ (besAll 2 0 0 h).length = 3 ∧ (besAll 3 0 0 h).length = 12 := by decide +kernel
def BsRel (w : World) (g g2 : Nat) (L : List C) (i : Value) (wr : World) : Prop :=
  ∃ k : Nat, k ≤ L.length ∧ i = .int .i64 k ∧ Below w.heap.size w wr ∧ Row wr g L ∧ Row wr g2 L
theorem keep6 {W w' : World} {g g2 i : Nat} {x y z : Int} (hg : g < W.heap.size) (hg2 : g2 < W.heap.size) (p0 : W.cell? ⟨g, i * 3, none⟩ = some (.int .i64 x)) (p1 : W.cell? ⟨g, i * 3 + 1, none⟩ = some (.int .i64 y)) (p2 : W.cell? ⟨g, i * 3 + 1 + 1, none⟩ = some (.int .i64 z))
    (q0 : W.cell? ⟨g2, i * 3, none⟩ = some (.int .i64 x)) (q1 : W.cell? ⟨g2, i * 3 + 1, none⟩ = some (.int .i64 y)) (q2 : W.cell? ⟨g2, i * 3 + 1 + 1, none⟩ = some (.int .i64 z)) (hb : Below W.heap.size W w') :
    w'.cell? ⟨g, i * 3, none⟩ = some (.int .i64 x) ∧ w'.cell? ⟨g, i * 3 + 1, none⟩ = some (.int .i64 y) ∧ w'.cell? ⟨g, i * 3 + 1 + 1, none⟩ = some (.int .i64 z) ∧ w'.cell? ⟨g2, i * 3, none⟩ = some (.int .i64 x) ∧ w'.cell? ⟨g2, i * 3 + 1, none⟩ = some (.int .i64 y) ∧ w'.cell? ⟨g2, i * 3 + 1 + 1, none⟩ = some (.int .i64 z) :=
  ⟨(hb.cell (p := ⟨g, i * 3, none⟩) hg).trans p0, (hb.cell (p := ⟨g, i * 3 + 1, none⟩) hg).trans p1, (hb.cell (p := ⟨g, i * 3 + 1 + 1, none⟩) hg).trans p2, (hb.cell (p := ⟨g2, i * 3, none⟩) hg2).trans q0, (hb.cell (p := ⟨g2, i * 3 + 1, none⟩) hg2).trans q1, (hb.cell (p := ⟨g2, i * 3 + 1 + 1, none⟩) hg2).trans q2⟩
set_option maxRecDepth 100000 in
set_option maxHeartbeats 16000000 in
theorem beside_good (l a b h : Int) (w : World) (hs : SixIs w) (hl : l = 1 ∨ l = 2 ∨ l = 3) (hc : chkV l a b h = 0) (hh0 : 0 ≤ h) (hh1 : h < halvesV l) (hg : goodB a b = true) (hlen : ((besAll l a b h).length : Int) = if l = 1 then 6 else if l = 2 then 3 else 12) :
    Calls Tryd.prog 4 #[.int .i64 l, Ce a b h] w fun e w' => e = .returned (.bool true) ∧ Below w.heap.size w w' := by
  have hre := refcheck_any l a b h
  rw [hc] at hre
  have hbe := fun w hs => beside_any l a b h w hl hh0 hh1 hg hs
  have hrb := fun w => refbeside_any l a b h w hl hg
  unfold RBesPost at hrb
  rw [rb_all hl hh0 hh1] at hrb
  have e6 := eql_err6
  have hp := (bes_some' (a := a) (b := b) hl hh0 hh1)
  unfold BesPost at hbe
  clear hc hh0 hh1 hg
  generalize besAll l a b h = L at *
  (go_enter Tryd.func4, Tryd.ntmps4; go_wp2_with fail; refine (awake_any _ (hs.below (by go_grown))).mono ?_; rintro e w1 ⟨rfl, hb⟩; have k1 : Box3 w.heap.size w1 a b h := box3_below (by simp [Box3, go_sem]) hb; have hb1 := below_call (B := w.heap.size) (w := w) hb (by go_grown) (by go_size); clear hb; obtain ⟨⟨c0, c1, c2⟩, _, cl⟩ := id k1; go_wp2_with fail; refine (own_any _ _ _ _).mono ?_; rintro e w2 ⟨rfl, hb⟩; have k2 := box3_below k1 hb; have hb2 := below_call (B := w.heap.size) (w := w) hb hb1 hb1.size; clear hb c0 c1 c2 cl k1 hb1; go_wp2_with fail)
  refine (hbe _ (hs.below hb2)).mono ?_
  rintro e w3 hcase
  rcases hcase with ⟨hgd, v, rfl, hown, hb⟩ | ⟨hgd, rfl, hb⟩
  · rw [hgd] at hrb
    obtain ⟨g, cap, rfl, _, hgl⟩ := hown.form hp.1
    have r3 := row_of_own hown hgl
    have k3 := box3_below k2 hb
    have hb3 := below_call (B := w.heap.size) (w := w) hb hb2 hb2.size
    have hcap : L.length ≤ cap := by
      rcases hown.2 with ⟨hn, _⟩ | ⟨g', cap', cur, hv, _, _, hc, _⟩
      · cases hn
      · cases hv; exact hc
    clear hb k2 hb2 hbe hown hgd
    obtain ⟨⟨c0, c1, c2⟩, _, cl⟩ := id k3
    go_wp2_with fail
    refine (hre _).mono ?_
    rintro e w4 ⟨rfl, hb⟩
    have k4 := box3_below k3 hb
    have r4 := r3.below hb
    have hb4 := below_call (B := w.heap.size) (w := w) hb hb3 hb3.size
    clear hb k3 r3 hb3 hre c0 c1 c2 cl hgl
    obtain ⟨⟨c0, c1, c2⟩, _, cl⟩ := id k4
    go_wp2_with fail
    refine (hrb _).mono ?_
    rintro e w5 ⟨v, rfl, hown, hb⟩
    obtain ⟨g2, cap2, rfl, _, hgl2⟩ := hown.form hp.1
    have r6 := rrow_of_own hown hgl2
    have r5 := r4.below hb
    have hb5 := below_call (B := w.heap.size) (w := w) hb hb4 hb4.size
    have hz5 := hb5.size
    have hcap2 : L.length ≤ cap2 := by
      rcases hown.2 with ⟨hn, _⟩ | ⟨g', cap', cur, hv, _, _, hc, _⟩
      · cases hn
      · cases hv; exact hc
    clear hb k4 r4 hb4 hrb c0 c1 c2 cl hown hgl2
    have hle : L.length ≤ 12 := hp.2
    clear hp
    have HLN := Lib.hid hlen
    have d1 : ((L.length : Int) != (L.length : Int)) = false := by simp
    have d2 : ((L.length : Int) != (if l = 1 then 6 else if l = 2 then 3 else 12)) = false := by rw [hlen]; simp
    clear hlen
    rcases hl with rfl | rfl | rfl
    all_goals
      simp only [if_pos, if_neg, reduceIte, Int.reduceEq] at d2
      go_wp2_with fail
      clear d1 d2
      go_loopw [70] (fun i wr => BsRel w g g2 L i wr) (fun i _ => L.length - (intOf i).toNat)
      case atStart => exact ⟨0, by omega, rfl, by go_grown, r5.below (by go_grown), r6.below (by go_grown)⟩
      case round =>
        clear r5 r6 hb5 hz5
        obtain ⟨k, hk, rfl, hb5, r5, r6⟩ := hrel
        have hz5 := hb5.size
        by_cases hlt : k < L.length
        · obtain ⟨d, hd⟩ : ∃ d, L[k]? = some d := ⟨_, List.getElem?_eq_getElem hlt⟩
          obtain ⟨x, y, z⟩ := d
          obtain ⟨p0, p1, p2⟩ := r5.1 k _ hd
          obtain ⟨q0, q1, q2⟩ := r6.1 k _ hd
          dsimp only at p0 p1 p2 q0 q1 q2
          clear hd
          have hgl := r5.2
          have hgl2 := r6.2
          have nr := fun w => neq_rc x y z x y z w
          simp only [beq_self_eq_true, Bool.and_self, Bool.not_true] at nr
          go_wp2_with fail
          have hkb : Below wr.heap.size wr wr := Below.refl _ _
          go_region_held3 (fun w' => w'.cell? ⟨g, k * 3, none⟩ = some (.int .i64 x) ∧ w'.cell? ⟨g, k * 3 + 1, none⟩ = some (.int .i64 y) ∧ w'.cell? ⟨g, k * 3 + 1 + 1, none⟩ = some (.int .i64 z) ∧ w'.cell? ⟨g2, k * 3, none⟩ = some (.int .i64 x) ∧ w'.cell? ⟨g2, k * 3 + 1, none⟩ = some (.int .i64 y) ∧ w'.cell? ⟨g2, k * 3 + 1 + 1, none⟩ = some (.int .i64 z)) (first | (refine keep6 hgl hgl2 p0 p1 p2 q0 q1 q2 ?_; go_grown; done))
            (first | (go_at_call 25; refine (told_any _ _ _ _).mono ?_; rintro e w7 ⟨rfl, hb⟩; have hkb : Below wr.heap.size wr w7 := below_call hb (by go_grown) (by simp); clear hb))
          all_goals
            go_wp2
            go_roundw
            case rel => exact ⟨k + 1, by omega, by go_num, hb5.trans (hkb.mono hb5.size), r5.below hkb, r6.below hkb⟩
            case measure => simp [intOf]; omega
        · go_wp2
          go_ret
          exact ⟨rfl, hb5⟩
  · rw [hgd] at hrb
    have k3 := box3_below k2 hb
    have hb3 := below_call (B := w.heap.size) (w := w) hb hb2 hb2.size
    clear hb k2 hb2 hbe
    obtain ⟨⟨c0, c1, c2⟩, _, cl⟩ := id k3
    go_wp2_with fail
    refine (hre _).mono ?_
    rintro e w4 ⟨rfl, hb⟩
    have k4 := box3_below k3 hb
    have hb4 := below_call (B := w.heap.size) (w := w) hb hb3 hb3.size
    clear hb k3 hb3 hre c0 c1 c2 cl
    obtain ⟨⟨c0, c1, c2⟩, _, cl⟩ := id k4
    go_wp2_with fail
    refine (hrb _).mono ?_
    rintro e w5 ⟨v, rfl, _, hb⟩
    have hb5 := below_call (B := w.heap.size) (w := w) hb hb4 hb4.size
    clear hb hb4
    go_wp2_with fail
    go_ret
    exact ⟨rfl, hb5⟩
set_option maxRecDepth 100000 in
set_option maxHeartbeats 8000000 in
theorem cellBeside_walk (l : Int) (_wl : (Lit.int .i64 l).wf = true) (a : Int) (_wa : (Lit.int .i64 a).wf = true) (b : Int) (_wb : (Lit.int .i64 b).wf = true) (h : Int) (_wh : (Lit.int .i64 h).wf = true) (w : World) (hs : SixIs w) (hE : ErrIs w) :
    Calls Tryd.prog 4 #[.int .i64 l, Ce a b h] w fun e w' => e = .returned (.bool true) ∧ Below w.heap.size w w' := by
  by_cases hc : chkV l a b h = 0
  · obtain ⟨hl, _, hh0, hh1, hg⟩ := chk_zero' hc
    have hh : h = 0 ∨ h = 1 := by unfold halvesV at hh1; split at hh1 <;> omega
    refine beside_good l a b h w hs hl hc hh0 hh1 hg ?_
    obtain ⟨l1, l2, l3⟩ := bes_lens h (by rcases hh with rfl | rfl <;> simp)
    rw [besAll_shift, List.length_map]
    rcases hl with rfl | rfl | rfl
    · rw [l1 (by simp [halvesV] at hh1; omega)]; rfl
    · rw [l2]; rfl
    · rw [l3]; rfl
  · have hck := fun w => check_v l a b h w
    unfold errOf at hck
    rw [if_neg hc] at hck
    have hne2 : (chkV l a b h != 0) = true := by simpa using hc
    have hre := refcheck_any l a b h
    have hcode := codeOf_er (chkV l a b h)
    generalize chkV l a b h = n at *
    clear hc
    have hon := fun w => beside_err l a b h w n hck
    clear hck
    (go_enter Tryd.func4, Tryd.ntmps4; go_wp2_with fail; refine (awake_any _ (hs.below (by go_grown))).mono ?_; rintro e w1 ⟨rfl, hb⟩; have k1 : Box3 w.heap.size w1 a b h := box3_below (by simp [Box3, go_sem]) hb; have hb1 := below_call (B := w.heap.size) (w := w) hb (by go_grown) (by go_size); clear hb; obtain ⟨⟨c0, c1, c2⟩, _, cl⟩ := id k1; go_wp2_with fail; refine (own_any _ _ _ _).mono ?_; rintro e w2 ⟨rfl, hb⟩; have k2 := box3_below k1 hb; have hb2 := below_call (B := w.heap.size) (w := w) hb hb1 hb1.size; clear hb c0 c1 c2 cl k1 hb1; go_wp2_with fail)
    refine (hon _).mono ?_
    rintro e w3 ⟨rfl, hb⟩
    have k3 := box3_below k2 hb
    have hb3 := below_call (B := w.heap.size) (w := w) hb hb2 hb2.size
    clear hb k2 hb2 hon
    obtain ⟨⟨c0, c1, c2⟩, _, cl⟩ := id k3
    go_wp2_with fail
    refine (hre _).mono ?_
    rintro e w4 ⟨rfl, hb⟩
    have hb4 := below_call (B := w.heap.size) (w := w) hb hb3 hb3.size
    clear hb c0 c1 c2 cl k3 hb3 hre
    have hnn : (n == n) = true := by simp
    go_wp2_with fail
    refine (hcode _ (hE.below hb4)).mono ?_
    rintro e w5 ⟨rfl, hb⟩
    have hb5 := below_call (B := w.heap.size) (w := w) hb hb4 hb4.size
    clear hb
    go_wp2_with fail
    go_ret
    exact ⟨rfl, hb5⟩
section cellBesideFrame
open Go.ChangeShapes Go.WideShapes Go.ChangeAt Go.RowKit Go.Joins
set_option maxRecDepth 100000 in
theorem cellBeside_contract (H : Type) (enc : TypeId × Value → H) (W : World) (base : Nat) (args : Array Value) (ds gs : List (DataW H)) (before : List MemPlace)
    (hval : ∀ (j : Nat) t v, Tryd.f4.params[j]? = some t → args[j]? = some v → Value.okWide Tryd.prog W .any base t v)
    (hW : DataW.Whole enc Tryd.prog Tryd.f4.params.toList Rows.cellBesideSpec.vars false W args.toList ds gs before) (hL : laidMetH Tryd.prog Rows.cellBesideRow.laid W) :
    Calls Tryd.prog 4 args W fun e W' => ∃ v, e = .returned v ∧ Rows.cellBesideSpec.post enc Tryd.prog Tryd.f4 false true false false W args v W' := by
  have hW' := hW
  obtain ⟨p, q, hA0, hV, rfl, hfz, hnd⟩ := hW
  have hA : DataW.TrodAll enc Tryd.prog W 0 (fun _ => true) true Tryd.f4.params.toList args.toList ds p := hA0
  rw [Tryd.params4] at hA hval
  obtain ⟨v0, vs0, d0, ds0, p0, q0, hargs, rfl, rfl, h0, r0⟩ := trodAll_cons hA
  obtain ⟨v1, vs1, d1, ds1, p1, q1, rfl, rfl, rfl, h1, r1⟩ := trodAll_cons r0
  obtain ⟨rfl, rfl, rfl⟩ := trodAll_nil r1
  obtain rfl : args = #[v0, v1] := by cases args; simp_all
  obtain ⟨rfl, rfl⟩ := trodVars_none hV
  obtain ⟨l, rfl, rfl, rfl, w_l⟩ := open_int Tryd.underlying3 (hval 0 3 v0 rfl rfl) h0
  obtain ⟨c10, c11, c12, y10, y11, y12, m1, rfl, rfl, rfl, hy10, hy11, hy12⟩ := open_agg3 Tryd.underlying23 (by kernel_rfl) (by kernel_rfl) (hval 1 23 v1 rfl rfl) h1
  obtain ⟨cA, e10, rfl, w_cA⟩ := DataW.trod_int Tryd.underlying2 hy10
  simp at e10; subst e10
  obtain ⟨cB, e11, rfl, w_cB⟩ := DataW.trod_int Tryd.underlying2 hy11
  simp at e11; subst e11
  obtain ⟨cH, e12, rfl, w_cH⟩ := DataW.trod_int Tryd.underlying3 hy12
  simp at e12; subst e12
  refine (cellBeside_walk l w_l cA w_cA cB w_cB cH w_cH W (two_of_laid hL).1 (two_of_laid hL).2).mono fun e W' ⟨he, hb⟩ => ?_
  exact ⟨_, he, law_post laidOut rfl rfl Tryd.underlying4 (by kernel_rfl) hW' hb ⟨rfl, rfl, rfl⟩⟩
theorem cellBeside_met (os : Os) : laidMetH Tryd.prog Rows.cellBesideRow.laid ((laidWorld2 os).forCall (fun _ _ => 0) ⟨#[], #[.int .i64 0, .agg #[.int .i64 0, .int .i64 0, .int .i64 0]], []⟩).memory :=
  laidMetH_of_parts (laidMet_of_run' 8 (by kernel_rfl) (by kernel_rfl)) (by kernel_rfl)
theorem cellBeside_reads (os : Os) {H : Type} (enc : TypeId × Value → H) : ∃ places, DataW.whole enc Tryd.prog ((laidWorld2 os).forCall (fun _ _ => 0) ⟨#[], #[.int .i64 0, .agg #[.int .i64 0, .int .i64 0, .int .i64 0]], []⟩).memory Tryd.f4.params.toList Rows.cellBesideSpec.vars false #[(.int .i64 0 : Value), (.agg #[.int .i64 0, .int .i64 0, .int .i64 0] : Value)].toList 8 = some ([.lit (.int .i64 0), .agg [.lit (.int .i64 0), .lit (.int .i64 0), .lit (.int .i64 0)]], [], places) :=
  ⟨[], by kernel_rfl⟩
set_option maxRecDepth 100000 in
theorem cellBeside_lifted (os : Os) (started : os.Started) (H : Type) (enc : TypeId × Value → H) (F : Stop.Interp) :
    ReturnsInHanded {} Tryd.checked os 4 .any ((OpenSpec.ofChange Rows.cellBesideSpec).preRow enc Tryd.prog Tryd.f4 Rows.cellBesideRow.domain false Rows.cellBesideRow.laid) (((OpenSpec.ofChange Rows.cellBesideSpec).at F).post enc Tryd.prog Tryd.f4 false true false false) := by
  obtain ⟨places, hx⟩ := cellBeside_reads os enc
  refine returnsInHanded_of_row (C := Tryd.checked) (s := OpenSpec.ofChange Rows.cellBesideSpec) own started (by kernel_rfl) Tryd.func4
    (witness_row_at (enc := enc) (C := Tryd.checked) false (laidWorld2 os) #[.int .i64 0, .agg #[.int .i64 0, .int .i64 0, .int .i64 0]] rfl (by kernel_rfl) (by kernel_rfl) (by kernel_rfl)
      (OpenSpec.preRow_of_cond 8 hx (by kernel_rfl) (fun k hk => by cases hk) (by kernel_rfl) (cellBeside_met os))) ?_
  intro W base args ds gs before hval hW _ _ _ hL _ _
  exact cellBeside_contract H enc W base args ds gs before hval hW hL
theorem cellBeside_said : Rows.CellBesideSaid :=
  OpenClaim.holds_of_cond 4 Tryd.f4 rfl rfl rfl rfl rfl rfl rfl ⟨rfl, rfl, rfl, rfl, rfl⟩ rfl rfl rfl rfl rfl (by kernel_rfl) Tryd.func4 (by kernel_rfl)
    (of_decide_eq_true (by kernel_rfl)) (by unfold Func.isWrapper; first | (rw [if_pos (by decide +kernel)]; kernel_rfl) | (rw [if_neg (by decide +kernel)]; exact ⟨rfl, rfl⟩))
    (fun os started H enc _ F => by rw [OpenClaim.pre_eq_preRow]; exact cellBeside_lifted os started H enc F)
theorem cellBeside_plain (f : FuncId) (fn : Func) (hf : Tryd.pinned.checked.prog.funcNamed "honeycomb/honeycomblaw03.CellBeside" = some f) (hfn : Tryd.pinned.checked.prog.funcs[f]? = some fn) :
    true = Tryd.pinned.checked.prog.looks [] ∧ ∀ (j : Nat) t, fn.params[j]? = some t → Tryd.pinned.checked.prog.wantsStandIn t = false := by
  obtain rfl : f = 4 := Option.some.inj ((show Tryd.prog.funcNamed "honeycomb/honeycomblaw03.CellBeside" = some 4 by kernel_rfl).symm.trans hf) |>.symm
  obtain rfl : fn = Tryd.f4 := (Option.some.inj (Tryd.func4.symm.trans hfn)).symm
  refine ⟨by kernel_rfl, fun j t ht => ?_⟩
  have hall : (Tryd.f4.params.toList.all fun t => !Tryd.prog.wantsStandIn t) = true := by kernel_rfl
  have hm : t ∈ Tryd.f4.params.toList := by simpa using Array.mem_of_getElem? ht
  have := List.all_eq_true.1 hall t hm
  exact (show Tryd.prog.wantsStandIn t = false by simpa using this)
end cellBesideFrame
/-- CellBeside: the card: for every input the law answers true. -/
theorem cellBeside_card : Rows.CellBesideCardSaid :=
  Claim7.holds_tied_plain_at .later [] _ _ _ _ cellBeside_said (fun _ h => by cases h) (by kernel_rfl) (fun _ h => by cases h) cellBeside_row_tie rfl ⟨rfl, rfl⟩ (by kernel_rfl) rfl cellBeside_plain (by kernel_rfl)
end Go.Proofs.YthlchndhfnbjaaaDoor.Ce
namespace Go.Proofs.YthlchndhfnbjaaaDoor
theorem cellBeside_proved : Rows.CellBesideCardSaid := Ce.cellBeside_card
#print axioms cellBeside_proved
end Go.Proofs.YthlchndhfnbjaaaDoor
