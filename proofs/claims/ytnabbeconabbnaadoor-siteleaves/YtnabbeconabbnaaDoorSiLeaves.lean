/- SiteLeaves: of any leaf, any place and state: the state there; the leaf with another one; how many live, and which. No conditions. -/
import Derived.Test.YtnabbeconabbnaaDoorSiW3
import Derived.Test.YtnabbeconabbnaaDoorSiR2
import Derived.Test.YtnabbeconabbnaaDoorSeA
import Derived.Test.YtnabbeconabbnaaDoorBsT
import Derived.Deep.DeepHandedRow
import Derived.Lib.SmallJoins
namespace Go.Proofs.YtnabbeconabbnaaDoor.Si
open Go.RowKit Go.Proofs.YtnabbeconabbnaaDoor.Ba Go.Proofs.YtnabbeconabbnaaDoor.Se Go.Proofs.YtnabbeconabbnaaDoor.Ax Go.Lib

/-- The sixteen states, one of them another one. -/
def sOf (f k s i : Nat) : Nat := if i = k then s else st f i
theorem sOf_lt (f k s : Nat) (hs : s < 4) (i : Nat) : sOf f k s i < 4 := by unfold sOf; split; exact hs; exact st_lt f i
set_option maxRecDepth 100000 in
set_option maxHeartbeats 4000000 in
theorem siteLeaves_walk (f0 : Int) (w0 : (Lit.int .u32 f0).wf = true) (a : Int) (_w1 : (Lit.int .i64 a).wf = true) (b : Int) (_w2 : (Lit.int .i64 b).wf = true) (ss : Int) (_w3 : (Lit.int .i64 ss).wf = true) (lA : Int) (_w4 : (Lit.int .i64 lA).wf = true) (lB : Int) (_w5 : (Lit.int .i64 lB).wf = true) (w : World) (hD : DebIs w) :
    Calls Tryd.prog 3 #[.int .u32 f0, .int .i64 a, .int .i64 b, .int .i64 ss, .agg #[.int .i64 lA, .int .i64 lB]] w fun e w' => e = .returned (.bool true) ∧ Below w.heap.size w w' := by
  obtain ⟨f, rfl, hf⟩ : ∃ f : Nat, f0 = (f : Int) ∧ f < 4294967296 := by
    have := u32_wf w0
    exact ⟨f0.toNat, by omega, by omega⟩
  have hba := tmod_bd lA 1152921504606846976 (by decide)
  have hbb := tmod_bd lB 1152921504606846976 (by decide)
  generalize hla : lA.tmod 1152921504606846976 = A at hba
  generalize hlb : lB.tmod 1152921504606846976 = B at hbb
  have h3 := i64_and3 ss
  obtain ⟨s, hs⟩ : ∃ s : Nat, ss % 4 = (s : Int) := ⟨(ss % 4).toNat, by omega⟩
  rw [hs] at h3
  have hs4 : s < 4 := by omega
  have HD := Lib.hid hD
  clear w0 _w1 _w2 _w3 _w4 _w5 hD
  have hcn := fun W => count_any f hf W
  have HPL := Lib.hid (pos_len f 32)
  have hne : ∀ n : Nat, (((n : Nat) : Int) != (n : Int)) = false := fun n => by simp
  by_cases hin : 0 ≤ a ∧ a < 4 ∧ 0 ≤ b ∧ b < 4
  · obtain ⟨k, hk⟩ : ∃ k : Nat, (k : Int) = 4 * b + a := ⟨(4 * b + a).toNat, by omega⟩
    have hpt := fun W => put_at f k s a b ss hf (by omega) (by omega) hk hs W
    have hst := fun W => state_at f k a b hf (by omega) (by omega) hk W
    have hrs := fun W => refstate_in f k a b hf (by omega) (by omega) hk W
    have HE := Lib.hid (ofF_eq (sOf f k s) (sOf_lt f k s hs4) (pt f k s) (pt_lt f k s (by omega) hs4) (fun i hi => by rw [st_pt f k s i (by omega) hs4 hi]; rfl))
    have hk16 : k < 16 := by omega
    obtain ⟨i1, i2, i3, i4⟩ := hin
    have hk4 : 4 * b + a = (k : Int) := hk.symm
    have HK := Lib.hid hk
    clear hs hk
    go_enter Tryd.func3, Tryd.ntmps3
    go_wp2_with fail
    refine (awake_any _).mono ?_
    rintro e w1 ⟨rfl, hb1⟩
    have kb : Blk w1 w.heap.size 24 #[.int .i64 lA, .int .i64 lB] := Blk.below (Blk.newAt w _ _ _ rfl) hb1 (by simp)
    have hbw : Below w.heap.size w w1 := below_call hb1 ((Below.refl _ _).alloc (Nat.le_refl _) _) (by simp)
    have hzw : w.heap.size < w1.heap.size := by have := hb1.size; simp at this; omega
    clear hb1
    go_wp2_with fail
    refine (refstates_any f hf _).mono ?_
    rintro e w2 ⟨v, rfl, hown, hb2⟩
    have kb2 := kb.under hb2
    have hbw2 := hbw.trans (hb2.mono hbw.size)
    have hzw2 := hb2.size
    go_wp2_with fail
    with_reducible refine (hpt _).mono ?_
    rintro e w' ⟨rfl, rfl⟩
    go_wp2_with fail
    with_reducible refine (hst _).mono ?_
    rintro e w' ⟨rfl, rfl⟩
    go_wp2_with fail
    with_reducible refine (hrs _).mono ?_
    rintro e w' ⟨rfl, rfl⟩
    obtain ⟨g, cap, cur, rfl, hge, kg, hcur⟩ : ∃ g cap cur, v = .slice (some ⟨g, 0, none⟩) 16 cap ∧ w1.heap.size ≤ g ∧ Blk w2 g 3 cur ∧ (∀ i, i < 16 → cur[i]? = some (.int .i64 (st f i))) := by
      rcases hown.2 with ⟨_, hn⟩ | ⟨g, cap, cur, rfl, hbs, hh, _⟩
      · cases hn
      · refine ⟨g, cap, cur, rfl, hbs, hh, fun i hi => ?_⟩
        have := hown.cellAt i (by omega)
        have e : Blk w2 g 3 cur := hh
        rw [e.cell i] at this
        rw [this]
        simp [ints, hi]
    clear hown hpt hst hrs
    have kg3 := kg.set_ k (.int .i64 s)
    have kb3 := kb2.far (p := ⟨g, k, none⟩) (by show w.heap.size ≠ g; omega) (.int .i64 s)
    have hcell := kg.cell k
    have hfrz := kg.frozen k
    have hgl := kg.lt
    have hck := hcur k hk16
    rw [hck] at hcell
    have q0 := kb3.cell 0
    have q1 := kb3.cell 1
    have q2 := kb3.frozen 0
    have q3 := kb3.frozen 1
    simp only [List.getElem?_toArray, List.getElem?_cons_zero, List.getElem?_cons_succ] at q0 q1
    have hbw3 := hbw2.setCell (p := ⟨g, k, none⟩) (by show w.heap.size ≤ g; omega) (.int .i64 s)
    have kg4 := (kg3.far (p := ⟨w.heap.size, 0, none⟩) (by show g ≠ w.heap.size; omega) (.int .i64 A)).far (p := ⟨w.heap.size, 1, none⟩) (by show g ≠ w.heap.size; omega) (.int .i64 B)
    have kb4 : Blk _ w.heap.size 24 #[.int .i64 A, .int .i64 B] := (kb3.set_ 0 (.int .i64 A)).set_ 1 (.int .i64 B)
    have hbw4 := (hbw3.setCell (p := ⟨w.heap.size, 0, none⟩) (Nat.le_refl _) (.int .i64 A)).setCell (p := ⟨w.heap.size, 1, none⟩) (Nat.le_refl _) (.int .i64 B)
    clear hbw hbw2 hbw3 kg3 kb3 kb kb2 hb2
    have hsz : cur.size > k := by
      rcases Nat.lt_or_ge k cur.size with h | h
      · exact h
      · rw [Array.getElem?_eq_none h] at hck; cases hck
    have hcur4 : ∀ i, i < 16 → (cur.setIfInBounds k (.int .i64 s))[i]? = some (.int .i64 (sOf f k s i)) := fun i hi => by
      rw [Array.getElem?_setIfInBounds]
      unfold sOf
      by_cases e : k = i
      · subst e; simp [hsz]
      · rw [if_neg e, if_neg (fun h => e h.symm)]; exact hcur i hi
    go_wp2_with fail
    generalize (((w2.setCell ⟨g, k, none⟩ (.int .i64 s)).setCell ⟨w.heap.size, 0, none⟩ (.int .i64 A)).setCell ⟨w.heap.size, 1, none⟩ (.int .i64 B)) = w4 at *
    refine (refcells_any f A B hf (by omega) (by omega) _).mono ?_
    rintro e w5 ⟨v5, rfl, hs5, hb5⟩
    have kg5 := kg4.under hb5
    have kb5 := kb4.under hb5
    have hbw5 := hbw4.trans (hb5.mono hbw4.size)
    clear hb5 kg4 kb4 hbw4
    go_wp2_with fail
    refine (refof9_any (sOf f k s) (sOf_lt f k s hs4) g cap w5 (fun i hi => (kg5.cell i).trans (hcur4 i hi)) kg5.lt).mono ?_
    rintro e w' ⟨rfl, rfl⟩
    rw [HE.out]
    have HS5 := Lib.hid hs5
    obtain ⟨p5, cap5, hv5⟩ := set_slice hs5
    rw [List.length_map, pos_len] at hv5
    clear hs5
    have hpc := HPL.out
    obtain ⟨p0, p1⟩ := keep2 kb5 (Below.refl _ _)
    have hpl := kb5.lt
    have hD5 := HD.out.below hbw5
    generalize hP : pcn f 32 = P at *
    have HP := Lib.hid hP
    subst hv5
    clear hP hpc HPL
    go_wp2_with fail
    with_reducible refine (hcn _).mono ?_
    rintro e w6 ⟨rfl, m, rfl⟩
    go_wp2_with fail
    refine (cells_any f A B hf (by omega) (by omega) _ (hD5.dr m)).mono ?_
    rintro e w7 ⟨v7, rfl, hs7, hb7⟩
    have hle := pos_le f
    have hare := are_any v7 _ _ w7 hs7 (HS5.out.below (Below.trans (below_dr m (Below.refl _ _)) hb7)) (by rw [List.length_map]; omega)
    have hbw7 := hbw5.trans ((below_dr m (Below.refl w5.heap.size w5)).trans hb7 |>.mono hbw5.size)
    clear hs7 HS5 hle hb7
    go_wp2_with fail
    with_reducible refine hare.mono ?_
    rintro e w8 ⟨rfl, hb8⟩
    have hbw8 := hbw7.trans (hb8.mono hbw7.size)
    clear hare hb8
    go_wp2_with fail
    go_ret
    exact ⟨rfl, hbw8⟩
  · have hpt := fun W => put_out (f : Int) a b ss hin W
    have hst := fun W => state_out (f : Int) a b hin W
    have hrs := fun W => refstate_out (f : Int) a b hin W
    have HE := Lib.hid (ofF_eq (st f) (st_lt f) f hf (fun i _ => rfl))
    have h4 : (decide (0 ≤ a) = false ∧ ¬ 0 ≤ a) ∨ ((decide (0 ≤ a) = true ∧ decide (a < 4) = false) ∧ (0 ≤ a ∧ ¬ a < 4)) ∨ ((decide (0 ≤ a) = true ∧ decide (a < 4) = true ∧ decide (0 ≤ b) = false) ∧ (0 ≤ a ∧ a < 4 ∧ ¬ 0 ≤ b)) ∨ ((decide (0 ≤ a) = true ∧ decide (a < 4) = true ∧ decide (0 ≤ b) = true ∧ decide (b < 4) = false) ∧ (0 ≤ a ∧ a < 4 ∧ 0 ≤ b ∧ ¬ b < 4)) := by
      by_cases h1 : 0 ≤ a <;> by_cases h2 : a < 4 <;> by_cases h3 : 0 ≤ b <;> by_cases h4 : b < 4 <;> simp_all
    clear hs hin h3
    rcases h4 with ⟨d1, h1⟩ | ⟨⟨d1, d2⟩, h1, h2⟩ | ⟨⟨d1, d2, d3⟩, h1, h2, h3⟩ | ⟨⟨d1, d2, d3, d4⟩, h1, h2, h3, h4⟩
    all_goals
      go_enter Tryd.func3, Tryd.ntmps3
      go_wp2_with fail
      refine (awake_any _).mono ?_
      rintro e w1 ⟨rfl, hb1⟩
      have kb : Blk w1 w.heap.size 24 #[.int .i64 lA, .int .i64 lB] := Blk.below (Blk.newAt w _ _ _ rfl) hb1 (by simp)
      have hbw : Below w.heap.size w w1 := below_call hb1 ((Below.refl _ _).alloc (Nat.le_refl _) _) (by simp)
      have hzw : w.heap.size < w1.heap.size := by have := hb1.size; simp at this; omega
      clear hb1
      go_wp2_with fail
      refine (refstates_any f hf _).mono ?_
      rintro e w2 ⟨v, rfl, hown, hb2⟩
      have kb2 := kb.under hb2
      have hbw2 := hbw.trans (hb2.mono hbw.size)
      have hzw2 := hb2.size
      go_wp2_with fail
      with_reducible refine (hpt _).mono ?_
      rintro e w' ⟨rfl, rfl⟩
      go_wp2_with fail
      with_reducible refine (hst _).mono ?_
      rintro e w' ⟨rfl, rfl⟩
      go_wp2_with fail
      with_reducible refine (hrs _).mono ?_
      rintro e w' ⟨rfl, rfl⟩
      obtain ⟨g, cap, cur, rfl, hge, kg, hcur4⟩ : ∃ g cap cur, v = .slice (some ⟨g, 0, none⟩) 16 cap ∧ w1.heap.size ≤ g ∧ Blk w2 g 3 cur ∧ (∀ i, i < 16 → cur[i]? = some (.int .i64 (st f i))) := by
        rcases hown.2 with ⟨_, hn⟩ | ⟨g, cap, cur, rfl, hbs, hh, _⟩
        · cases hn
        · refine ⟨g, cap, cur, rfl, hbs, hh, fun i hi => ?_⟩
          have := hown.cellAt i (by omega)
          have e : Blk w2 g 3 cur := hh
          rw [e.cell i] at this
          rw [this]
          simp [ints, hi]
      clear hown hpt hst hrs
      have q0 := kb2.cell 0
      have q1 := kb2.cell 1
      have q2 := kb2.frozen 0
      have q3 := kb2.frozen 1
      simp only [List.getElem?_toArray, List.getElem?_cons_zero, List.getElem?_cons_succ] at q0 q1
      have kg4 := (kg.far (p := ⟨w.heap.size, 0, none⟩) (by show g ≠ w.heap.size; omega) (.int .i64 A)).far (p := ⟨w.heap.size, 1, none⟩) (by show g ≠ w.heap.size; omega) (.int .i64 B)
      have kb4 : Blk _ w.heap.size 24 #[.int .i64 A, .int .i64 B] := (kb2.set_ 0 (.int .i64 A)).set_ 1 (.int .i64 B)
      have hbw4 := (hbw2.setCell (p := ⟨w.heap.size, 0, none⟩) (Nat.le_refl _) (.int .i64 A)).setCell (p := ⟨w.heap.size, 1, none⟩) (Nat.le_refl _) (.int .i64 B)
      clear hbw hbw2 kb kb2 hb2 kg
      go_wp2_with fail
      generalize ((w2.setCell ⟨w.heap.size, 0, none⟩ (.int .i64 A)).setCell ⟨w.heap.size, 1, none⟩ (.int .i64 B)) = w4 at *
      refine (refcells_any f A B hf (by omega) (by omega) _).mono ?_
      rintro e w5 ⟨v5, rfl, hs5, hb5⟩
      have kg5 := kg4.under hb5
      have kb5 := kb4.under hb5
      have hbw5 := hbw4.trans (hb5.mono hbw4.size)
      clear hb5 kg4 kb4 hbw4
      go_wp2_with fail
      refine (refof9_any (st f) (st_lt f) g cap w5 (fun i hi => (kg5.cell i).trans (hcur4 i hi)) kg5.lt).mono ?_
      rintro e w' ⟨rfl, rfl⟩
      rw [HE.out]
      have HS5 := Lib.hid hs5
      obtain ⟨p5, cap5, hv5⟩ := set_slice hs5
      rw [List.length_map, pos_len] at hv5
      clear hs5
      have hpc := HPL.out
      obtain ⟨p0, p1⟩ := keep2 kb5 (Below.refl _ _)
      have hpl := kb5.lt
      have hD5 := HD.out.below hbw5
      generalize hP : pcn f 32 = P at *
      have HP := Lib.hid hP
      subst hv5
      clear hP hpc HPL
      go_wp2_with fail
      with_reducible refine (hcn _).mono ?_
      rintro e w6 ⟨rfl, m, rfl⟩
      go_wp2_with fail
      refine (cells_any f A B hf (by omega) (by omega) _ (hD5.dr m)).mono ?_
      rintro e w7 ⟨v7, rfl, hs7, hb7⟩
      have hle := pos_le f
      have hare := are_any v7 _ _ w7 hs7 (HS5.out.below (Below.trans (below_dr m (Below.refl _ _)) hb7)) (by rw [List.length_map]; omega)
      have hbw7 := hbw5.trans ((below_dr m (Below.refl w5.heap.size w5)).trans hb7 |>.mono hbw5.size)
      clear hs7 HS5 hle hb7
      go_wp2_with fail
      with_reducible refine hare.mono ?_
      rintro e w8 ⟨rfl, hb8⟩
      have hbw8 := hbw7.trans (hb8.mono hbw7.size)
      clear hare hb8
      go_wp2_with fail
      go_ret
      exact ⟨rfl, hbw8⟩
section siteLeavesFrame
open Go.ChangeShapes Go.WideShapes Go.ChangeAt Go.RowKit Go.Joins
set_option maxRecDepth 100000 in
theorem siteLeaves_contract (H : Type) (enc : TypeId × Value → H) (W : World) (base : Nat) (args : Array Value) (ds gs : List (DataW H)) (before : List MemPlace)
    (hval : ∀ (j : Nat) t v, Tryd.f3.params[j]? = some t → args[j]? = some v → Value.okWide Tryd.prog W .any base t v)
    (hW : DataW.Whole enc Tryd.prog Tryd.f3.params.toList Rows.siteLeavesSpec.vars false W args.toList ds gs before) (hL : laidMetH Tryd.prog Rows.siteLeavesRow.laid W) :
    Calls Tryd.prog 3 args W fun e W' => ∃ v, e = .returned v ∧ Rows.siteLeavesSpec.post enc Tryd.prog Tryd.f3 false true false false W args v W' := by
  have hW' := hW
  obtain ⟨p, q, hA0, hV, rfl, hfz, hnd⟩ := hW
  have hA : DataW.TrodAll enc Tryd.prog W 0 (fun _ => true) true Tryd.f3.params.toList args.toList ds p := hA0
  rw [Tryd.params3] at hA hval
  obtain ⟨v0, vs0, d0, ds0, p0, q0, hargs, rfl, rfl, h0, r0⟩ := trodAll_cons hA
  obtain ⟨v1, vs1, d1, ds1, p1, q1, rfl, rfl, rfl, h1, r1⟩ := trodAll_cons r0
  obtain ⟨v2, vs2, d2, ds2, p2, q2, rfl, rfl, rfl, h2, r2⟩ := trodAll_cons r1
  obtain ⟨v3, vs3, d3, ds3, p3, q3, rfl, rfl, rfl, h3, r3⟩ := trodAll_cons r2
  obtain ⟨v4, vs4, d4, ds4, p4, q4, rfl, rfl, rfl, h4, r4⟩ := trodAll_cons r3
  obtain ⟨rfl, rfl, rfl⟩ := trodAll_nil r4
  obtain rfl : args = #[v0, v1, v2, v3, v4] := by cases args; simp_all
  obtain ⟨rfl, rfl⟩ := trodVars_none hV
  obtain ⟨f0, rfl, rfl, rfl, w_f0⟩ := open_int Tryd.underlying22 (hval 0 22 v0 rfl rfl) h0
  obtain ⟨a, rfl, rfl, rfl, w_a⟩ := open_int Tryd.underlying3 (hval 1 3 v1 rfl rfl) h1
  obtain ⟨b, rfl, rfl, rfl, w_b⟩ := open_int Tryd.underlying3 (hval 2 3 v2 rfl rfl) h2
  obtain ⟨ss, rfl, rfl, rfl, w_ss⟩ := open_int Tryd.underlying3 (hval 3 3 v3 rfl rfl) h3
  obtain ⟨c40, c41, y40, y41, m4, rfl, rfl, rfl, hy40, hy41⟩ := open_agg2 Tryd.underlying24 (by kernel_rfl) cellsPt (hval 4 24 v4 rfl rfl) h4
  obtain ⟨lA, e40, rfl, w_lA⟩ := DataW.trod_int Tryd.underlying2 hy40
  simp at e40; subst e40
  obtain ⟨lB, e41, rfl, w_lB⟩ := DataW.trod_int Tryd.underlying2 hy41
  simp at e41; subst e41
  refine (siteLeaves_walk f0 w_f0 a w_a b w_b ss w_ss lA w_lA lB w_lB W (deb_of_laid hL)).mono fun e W' ⟨he, hb⟩ => ?_
  exact ⟨_, he, law_post laidOut rfl rfl Tryd.underlying4 (by kernel_rfl) hW' hb ⟨rfl, rfl, rfl⟩⟩
theorem siteLeaves_met (os : Os) : laidMet Tryd.prog Rows.siteLeavesRow.laid ((laidWorldT os).forCall (fun _ _ => 0) ⟨#[], #[.int .u32 0, .int .i64 0, .int .i64 0, .int .i64 0, .agg #[.int .i64 0, .int .i64 0]], []⟩).memory :=
  laidMet_of_run' 8 (by kernel_rfl) (by kernel_rfl)
theorem siteLeaves_reads (os : Os) {H : Type} (enc : TypeId × Value → H) : ∃ places, DataW.whole enc Tryd.prog ((laidWorldT os).forCall (fun _ _ => 0) ⟨#[], #[.int .u32 0, .int .i64 0, .int .i64 0, .int .i64 0, .agg #[.int .i64 0, .int .i64 0]], []⟩).memory Tryd.f3.params.toList Rows.siteLeavesSpec.vars false #[(.int .u32 0 : Value), (.int .i64 0 : Value), (.int .i64 0 : Value), (.int .i64 0 : Value), (.agg #[.int .i64 0, .int .i64 0] : Value)].toList 8 = some ([.lit (.int .u32 0), .lit (.int .i64 0), .lit (.int .i64 0), .lit (.int .i64 0), .agg [.lit (.int .i64 0), .lit (.int .i64 0)]], [], places) :=
  ⟨[], by kernel_rfl⟩
set_option maxRecDepth 100000 in
theorem siteLeaves_lifted (os : Os) (started : os.Started) (H : Type) (enc : TypeId × Value → H) (F : Stop.Interp) :
    ReturnsInHanded {} Tryd.checked os 3 .any ((OpenSpec.ofChange Rows.siteLeavesSpec).preRow enc Tryd.prog Tryd.f3 Rows.siteLeavesRow.domain false Rows.siteLeavesRow.laid) (((OpenSpec.ofChange Rows.siteLeavesSpec).at F).post enc Tryd.prog Tryd.f3 false true false false) := by
  obtain ⟨places, hx⟩ := siteLeaves_reads os enc
  refine returnsInHanded_of_row (C := Tryd.checked) (s := OpenSpec.ofChange Rows.siteLeavesSpec) own started (by kernel_rfl) Tryd.func3
    (witness_row_at (enc := enc) (C := Tryd.checked) false (laidWorldT os) #[.int .u32 0, .int .i64 0, .int .i64 0, .int .i64 0, .agg #[.int .i64 0, .int .i64 0]] rfl (by kernel_rfl) (by kernel_rfl) (by kernel_rfl)
      (OpenSpec.preRow_of_cond 8 hx (by kernel_rfl) (fun k hk => by cases hk) (by kernel_rfl) (siteLeaves_met os))) ?_
  intro W base args ds gs before hval hW _ _ _ hL _ _
  exact siteLeaves_contract H enc W base args ds gs before hval hW hL
theorem siteLeaves_said : Rows.SiteLeavesSaid :=
  OpenClaim.holds_of_cond 3 Tryd.f3 rfl rfl rfl rfl rfl rfl rfl ⟨rfl, rfl, rfl, rfl, rfl⟩ rfl rfl rfl rfl rfl (by kernel_rfl) Tryd.func3 (by kernel_rfl)
    (of_decide_eq_true (by kernel_rfl)) (by unfold Func.isWrapper; first | (rw [if_pos (by decide +kernel)]; kernel_rfl) | (rw [if_neg (by decide +kernel)]; exact ⟨rfl, rfl⟩))
    (fun os started H enc _ F => by rw [OpenClaim.pre_eq_preRow]; exact siteLeaves_lifted os started H enc F)
theorem siteLeaves_plain (f : FuncId) (fn : Func) (hf : Tryd.pinned.checked.prog.funcNamed "honeycomb/honeycomblaw09.SiteLeaves" = some f) (hfn : Tryd.pinned.checked.prog.funcs[f]? = some fn) :
    false = Tryd.pinned.checked.prog.looks [] ∧ ∀ (j : Nat) t, fn.params[j]? = some t → Tryd.pinned.checked.prog.wantsStandIn t = false := by
  obtain rfl : f = 3 := Option.some.inj ((show Tryd.prog.funcNamed "honeycomb/honeycomblaw09.SiteLeaves" = some 3 by kernel_rfl).symm.trans hf) |>.symm
  obtain rfl : fn = Tryd.f3 := (Option.some.inj (Tryd.func3.symm.trans hfn)).symm
  refine ⟨by kernel_rfl, fun j t ht => ?_⟩
  have hall : (Tryd.f3.params.toList.all fun t => !Tryd.prog.wantsStandIn t) = true := by kernel_rfl
  have hm : t ∈ Tryd.f3.params.toList := by simpa using Array.mem_of_getElem? ht
  have := List.all_eq_true.1 hall t hm
  exact (show Tryd.prog.wantsStandIn t = false by simpa using this)
end siteLeavesFrame
/-- SiteLeaves: the card: for every input the law answers true. -/
theorem siteLeaves_card : Rows.SiteLeavesCardSaid :=
  Claim7.holds_tied_plain_at .later [] _ _ _ _ siteLeaves_said (fun _ h => by cases h) (by kernel_rfl) (fun _ h => by cases h) siteLeaves_row_tie rfl ⟨rfl, rfl⟩ (by kernel_rfl) rfl siteLeaves_plain (by kernel_rfl)
end Go.Proofs.YtnabbeconabbnaaDoor.Si
namespace Go.Proofs.YtnabbeconabbnaaDoor
theorem siteLeaves_proved : Rows.SiteLeavesCardSaid := Si.siteLeaves_card
#print axioms siteLeaves_proved
end Go.Proofs.YtnabbeconabbnaaDoor
