/-
  TreeLevels: for every number as a level and any two points it answers true: how far a root of that level goes is what the document says, a point is inside of it just where the document says so, and the least level of a box is the document's.
  Conditions: none.
-/
import Derived.Test.YtcgkaghabgjjlaaTrK2
import Derived.Test.YtcgkaghabgjjlaaTrR1
import Derived.Test.YtcgkaghabgjjlaaAxB
import Derived.Test.YtcgkaghabgjjlaaBsR
import Derived.BigQuiet
namespace Go.Proofs.Ytcgkaghabgjjlaa.Tr
open Go.RowKit Go.Proofs.Ytcgkaghabgjjlaa.Ba Go.Proofs.Ytcgkaghabgjjlaa.Ar Go.Lib
open Go.Proofs.Ytcgkaghabgjjlaa.Se (RawAt flat)

theorem t50 (a : Int) : -1125899906842624 < a.tmod 1125899906842624 ∧ a.tmod 1125899906842624 < 1125899906842624 := Ax.tmod_bd a _ (by decide)
/-- The least level, of a box and of its two corners. -/
theorem two_lv {a b c e : Int} {n m : Nat} (h : Lst (a, b, c, e) n) (k : Rlv [(a, b, 0), (c, e, 0)] m) : n = m := by
  refine h.uniq ⟨k.lo, k.hi, fun l h1 h2 => ?_, fun h1 => ?_⟩
  · obtain ⟨z, hz, e1⟩ := k.no l h1 h2
    simp only [List.mem_cons, List.not_mem_nil, or_false] at hz
    rcases hz with rfl | rfl
    · dsimp only at e1
      simp [hasB, e1]
    · dsimp only at e1
      simp [hasB, e1]
  · have y1 := k.yes h1 (a, b, 0) (by simp)
    have y2 := k.yes h1 (c, e, 0) (by simp)
    dsimp only at y1 y2
    simp [hasB, y1, y2]
theorem row2 {w : World} {T : TypeId} {n : Nat} {a b c e : Int} (k : Blk w n T #[.int .i64 a, .int .i64 b, .int .i64 0, .int .i64 c, .int .i64 e, .int .i64 0]) : RawAt w (.slice (some ⟨n, 0, none⟩) 2 2) [(a, b, 0), (c, e, 0)] :=
  .inr ⟨n, 0, 2, rfl, fun j u hu => by
    rw [Nat.zero_add, k.cell j]
    rw [← hu]
    simp [Se.flat, Se.encC], k.lt⟩
theorem keepP2 {W w' : World} {A : Nat} {T : TypeId} {a b : Int} (k : Blk W A T #[.int .i64 a, .int .i64 b]) (hb : Below W.heap.size W w') :
    w'.cell? ⟨A, 0, none⟩ = some (.int .i64 a) ∧ w'.cell? ⟨A, 1, none⟩ = some (.int .i64 b) := ⟨(k.under hb).cell 0, (k.under hb).cell 1⟩
set_option maxRecDepth 100000 in
set_option maxHeartbeats 1000000 in
theorem treeLevels_walk (level : Int) (_wl : (Lit.int .i64 level).wf = true) (pA : Int) (_w1 : (Lit.int .i64 pA).wf = true) (pB : Int) (_w2 : (Lit.int .i64 pB).wf = true) (qA : Int) (_w3 : (Lit.int .i64 qA).wf = true) (qB : Int) (_w4 : (Lit.int .i64 qB).wf = true) (w : World) :
    Calls Try.prog 3 #[.int .i64 level, .agg #[.int .i64 pA, .int .i64 pB], .agg #[.int .i64 qA, .int .i64 qB]] w fun e w' => e = .returned (.bool true) ∧ Below w.heap.size w w' := by
  have ha := t50 pA
  have hb := t50 pB
  have hc := t50 qA
  have hd := t50 qB
  have haw := fun W => awake_any W
  have kP := (Blk.newAt w 23 #[.int .i64 pA, .int .i64 pB] _ rfl).alloc (.cells #[.int .i64 qA, .int .i64 qB] 23)
  have kQ := Blk.newAt (w.alloc (.cells #[.int .i64 pA, .int .i64 pB] 23)) 23 #[.int .i64 qA, .int .i64 qB] (w.heap.size + 1) (by simp)
  have hbw : Below w.heap.size w ((w.alloc (.cells #[.int .i64 pA, .int .i64 pB] 23)).alloc (.cells #[.int .i64 qA, .int .i64 qB] 23)) := by go_grown
  go_enter Try.func3, Try.ntmps3
  go_wp2_with fail
  generalize (w.alloc (.cells #[.int .i64 pA, .int .i64 pB] 23)).alloc (.cells #[.int .i64 qA, .int .i64 qB] 23) = W at *
  refine (haw _).mono ?_
  rintro e w1 ⟨rfl, hb1⟩
  have hb2 := hbw.trans (hb1.mono hbw.size)
  have kP1 := kP.under hb1
  have kQ1 := kQ.under hb1
  have p0 := kP1.cell 0
  have p1 := kP1.cell 1
  have q0 := kQ1.cell 0
  have q1 := kQ1.cell 1
  simp only [List.getElem?_toArray, List.getElem?_cons_zero, List.getElem?_cons_succ] at p0 p1 q0 q1
  have f0 := kP1.frozen 0
  have f1 := kP1.frozen 1
  have g0 := kQ1.frozen 0
  have g1 := kQ1.frozen 1
  have lp := kP1.lt
  have lq := kQ1.lt
  clear hbw kP kQ hb1 haw
  go_upto_region 3 with fail
  go_region
  generalize pA.tmod 1125899906842624 = a at *
  generalize pB.tmod 1125899906842624 = b at *
  generalize qA.tmod 1125899906842624 = c at *
  generalize qB.tmod 1125899906842624 = d at *
  have kP2 := ((((kP1.set_ 0 (.int .i64 a)).set_ 1 (.int .i64 b)).far (p := ⟨w.heap.size + 1, 0, none⟩) (by simp) (.int .i64 c)).far (p := ⟨w.heap.size + 1, 1, none⟩) (by simp) (.int .i64 d)).drewN 1
  have kQ2 := ((((kQ1.far (p := ⟨w.heap.size, 0, none⟩) (by simp) (.int .i64 a)).far (p := ⟨w.heap.size, 1, none⟩) (by simp) (.int .i64 b)).set_ 0 (.int .i64 c)).set_ 1 (.int .i64 d)).drewN 1
  have hb3 := Ba.below_dr 1 ((((hb2.setCell (p := ⟨w.heap.size, 0, none⟩) (Nat.le_refl _) (.int .i64 a)).setCell (p := ⟨w.heap.size, 1, none⟩) (Nat.le_refl _) (.int .i64 b)).setCell (p := ⟨w.heap.size + 1, 0, none⟩) (Nat.le_succ _) (.int .i64 c)).setCell (p := ⟨w.heap.size + 1, 1, none⟩) (Nat.le_succ _) (.int .i64 d))
  change Blk _ _ _ #[.int .i64 a, .int .i64 b] at kP2
  change Blk _ _ _ #[.int .i64 c, .int .i64 d] at kQ2
  clear kP1 kQ1 hb2 p0 p1 q0 q1 f0 f1 g0 g1 lp lq
  change Exit.then _ _ _ _ (World.drewN _ 1)
  generalize World.drewN ((((w1.setCell ⟨w.heap.size, 0, none⟩ (.int .i64 a)).setCell ⟨w.heap.size, 1, none⟩ (.int .i64 b)).setCell ⟨w.heap.size + 1, 0, none⟩ (.int .i64 c)).setCell ⟨w.heap.size + 1, 1, none⟩ (.int .i64 d)) 1 = w2 at *
  have hlv := fun W => Tr.level_any (a, b, c, d) W
  have hrl := fun v W h => reflevel_any v [(a, b, 0), (c, d, 0)] W h (by simp) (by intro z hz; simp only [List.mem_cons, List.not_mem_nil, or_false] at hz; unfold RmC; rcases hz with rfl | rfl <;> dsimp only <;> omega)
  have hha := fun W => half_any level W
  have hrh := fun W => refhalf_any level W
  have hin := fun W => inside_any level a b W
  have hri := fun W => refinside_any level a b W
  rw [refB_ins (by omega) (by omega)] at hri
  generalize hf level = H at *
  generalize insB level a b = r at *
  have p0 := kP2.cell 0
  have p1 := kP2.cell 1
  have q0 := kQ2.cell 0
  have q1 := kQ2.cell 1
  simp only [List.getElem?_toArray, List.getElem?_cons_zero, List.getElem?_cons_succ] at p0 p1 q0 q1
  have lp := kP2.lt
  have lq := kQ2.lt
  have HB := Lib.hid hb3
  clear hb3
  go_wp2_with fail
  refine (hlv _).mono ?_
  rintro e w3 ⟨n, rfl, hl, hb4⟩
  have HB4 := Lib.hid (HB.out.trans (hb4.mono HB.out.size))
  have kP3 := kP2.under hb4
  have kQ3 := kQ2.under hb4
  have HL := Lib.hid hl
  clear hlv hl hb4 kP2 kQ2 p0 p1 q0 q1 lp lq
  have p0 := kP3.cell 0
  have p1 := kP3.cell 1
  have q0 := kQ3.cell 0
  have q1 := kQ3.cell 1
  simp only [List.getElem?_toArray, List.getElem?_cons_zero, List.getElem?_cons_succ] at p0 p1 q0 q1
  have lp := kP3.lt
  have lq := kQ3.lt
  go_wp2_with fail
  have hrow := row2 (Blk.newAt w3 30 #[.int .i64 a, .int .i64 b, .int .i64 0, .int .i64 c, .int .i64 d, .int .i64 0] _ rfl)
  have hb5 : Below w3.heap.size w3 (w3.alloc (.cells #[.int .i64 a, .int .i64 b, .int .i64 0, .int .i64 c, .int .i64 d, .int .i64 0] 30)) := by go_grown
  refine (hrl _ _ hrow).mono ?_
  rintro e w5 ⟨m, rfl, hrlv, hb6⟩
  obtain rfl := two_lv HL.out hrlv
  have hb7 := hb5.trans (hb6.mono hb5.size)
  have HB5 := Lib.hid (HB4.out.trans (hb7.mono HB4.out.size))
  have kP4 := kP3.under hb7
  clear hrl hrow hb5 hb6 hb7 hrlv kP3 kQ3 p0 p1 q0 q1 lp lq
  have lp := kP4.lt
  obtain ⟨p0, p1⟩ := keepP2 kP4 (Below.refl _ _)
  have hkb : Below w5.heap.size w5 w5 := Below.refl _ _
  go_upto_region 6 with fail
  go_region_held3 (fun w' => w'.cell? ⟨w.heap.size, 0, none⟩ = some (.int .i64 a) ∧ w'.cell? ⟨w.heap.size, 1, none⟩ = some (.int .i64 b)) (first | (refine keepP2 kP4 ?_; go_grown; done))
    (first
      | (go_at_call 7; refine (hha _).mono ?_; rintro e w6 ⟨rfl, rfl⟩)
      | (go_at_call 8; refine (hrh _).mono ?_; rintro e w6 ⟨rfl, rfl⟩)
      | (go_at_call 9; refine (hin _).mono ?_; rintro e w6 ⟨rfl, hb6⟩; have hkb : Below w5.heap.size w5 w6 := Ba.below_call hb6 (by go_grown) (by first | exact hkb.size | go_size); clear hb6)
      | (go_at_call 10; refine (hri _).mono ?_; rintro e w6 ⟨rfl, rfl⟩))
  all_goals go_wp2_with fail
  all_goals go_ret
  all_goals exact ⟨rfl, HB5.out.trans (Below.mono (by go_grown) HB5.out.size)⟩
section treeLevelsFrame
open Go.ChangeShapes Go.WideShapes Go.ChangeAt Go.RowKit
set_option maxRecDepth 100000 in
theorem treeLevels_lifted (os : Os) (started : os.Started) (H : Type) (enc : TypeId × Value → H) :
    ReturnsInHanded {} Try.checked os 3 .any (Rows.treeLevelsSpec.pre6 enc Try.prog Try.f3 Rows.treeLevelsRow.domain false) (Rows.treeLevelsSpec.post enc Try.prog Try.f3 false true false false) := by
  refine returnsInHanded_of_change (C := Try.checked) own started (by kernel_rfl) Try.func3
    (ChangeSpec.witness6 (enc := enc) (C := Try.checked) false ⟨#[], #[.int .i64 0, .agg #[.int .i64 0, .int .i64 0], .agg #[.int .i64 0, .int .i64 0]], []⟩ 8 (by kernel_rfl) (by kernel_rfl) (by kernel_rfl) (by kernel_rfl)) ?_
  intro W base args ds gs before hval0 hW hcnd _
  have hval : ∀ (j : Nat) t v, Try.f3.params[j]? = some t → args[j]? = some v → Value.okWide Try.prog W .any base t v := hval0
  have hW' := hW
  obtain ⟨p, q, hA0, hV, rfl, hfz, hnd⟩ := hW
  have hA : DataW.TrodAll enc Try.prog W 0 (fun _ => true) true Try.f3.params.toList args.toList ds p := hA0
  rw [Try.params3] at hA hval
  obtain ⟨v0, vs0, d0, ds0, p0, q0, hargs, rfl, rfl, h0, r0⟩ := trodAll_cons hA
  obtain ⟨v1, vs1, d1, ds1, p1, q1, rfl, rfl, rfl, h1, r1⟩ := trodAll_cons r0
  obtain ⟨v2, vs2, d2, ds2, p2, q2, rfl, rfl, rfl, h2, r2⟩ := trodAll_cons r1
  obtain ⟨rfl, rfl, rfl⟩ := trodAll_nil r2
  obtain rfl : args = #[v0, v1, v2] := by cases args; simp_all
  obtain ⟨rfl, rfl⟩ := trodVars_none hV
  obtain ⟨level, rfl, rfl, rfl, w_level⟩ := open_int Try.underlying3 (hval 0 3 v0 rfl rfl) h0
  obtain ⟨c10, c11, y10, y11, m1, rfl, rfl, rfl, hy10, hy11⟩ := Go.Joins.open_agg2 Try.underlying23 (by kernel_rfl) (by kernel_rfl) (hval 1 23 v1 rfl rfl) h1
  obtain ⟨pA, e10, rfl, w_pA⟩ := DataW.trod_int Try.underlying2 hy10
  simp at e10; subst e10
  obtain ⟨pB, e11, rfl, w_pB⟩ := DataW.trod_int Try.underlying2 hy11
  simp at e11; subst e11
  obtain ⟨c20, c21, y20, y21, m2, rfl, rfl, rfl, hy20, hy21⟩ := Go.Joins.open_agg2 Try.underlying23 (by kernel_rfl) (by kernel_rfl) (hval 2 23 v2 rfl rfl) h2
  obtain ⟨qA, e20, rfl, w_qA⟩ := DataW.trod_int Try.underlying2 hy20
  simp at e20; subst e20
  obtain ⟨qB, e21, rfl, w_qB⟩ := DataW.trod_int Try.underlying2 hy21
  simp at e21; subst e21
  refine (treeLevels_walk level w_level pA w_pA pB w_pB qA w_qA qB w_qB W).mono fun e W' ⟨he, hb⟩ => ?_
  exact ⟨_, he, law_post laidOut rfl rfl Try.underlying4 (by kernel_rfl) hW' hb ⟨rfl, rfl, rfl⟩⟩
theorem treeLevels_said : Rows.TreeLevelsSaid :=
  OpenClaim.holds_of_wide 3 Try.f3 rfl rfl rfl rfl rfl rfl rfl ⟨rfl, rfl, rfl, rfl, rfl⟩ rfl rfl rfl rfl rfl (by kernel_rfl) Try.func3 (by kernel_rfl)
    (of_decide_eq_true (by kernel_rfl)) (by unfold Func.isWrapper; first | (rw [if_pos (by decide +kernel)]; kernel_rfl) | (rw [if_neg (by decide +kernel)]; exact ⟨rfl, rfl⟩))
    (fun os started H enc _ => treeLevels_lifted os started H enc)
end treeLevelsFrame
end Go.Proofs.Ytcgkaghabgjjlaa.Tr
namespace Go.Proofs.Ytcgkaghabgjjlaa
theorem treeLevels_proved : Rows.TreeLevelsSaid := Tr.treeLevels_said
#print axioms treeLevels_proved
end Go.Proofs.Ytcgkaghabgjjlaa
