/- Names of lattices; the law's own small functions; what the laws of layer 3 ask first (awake). -/
import Derived.Test.YtoimaiaccmmakaaDoorCeW5
import Derived.Deep.AppendLies
import Derived.Test.YtoimaiaccmmakaaDoorAxBits
import Derived.Deep.RegionHeld3
import Derived.Outline
namespace Go.Proofs.YtoimaiaccmmakaaDoor.Ce
open Go.RowKit Go.Proofs.YtoimaiaccmmakaaDoor.Ax

/-- A lattice's word. -/
def nameB (l : Int) : ByteArray := if l = 1 then ⟨#[104, 101, 120]⟩ else if l = 2 then ⟨#[101, 100, 103, 101]⟩ else if l = 3 then ⟨#[118, 101, 114, 116, 101, 120]⟩ else ⟨#[]⟩
theorem name_any (l : Int) (w : World) :
    Calls Tryd.prog 14 #[.int .i64 l] w fun e w' => e = .returned (.string (nameB l)) ∧ w = w' := by
  by_cases h1 : l = 1
  · subst h1
    go_enter Tryd.func14, Tryd.ntmps14
    go_wp2
    go_ret
    exact ⟨rfl, rfl⟩
  · by_cases h2 : l = 2
    · subst h2
      go_enter Tryd.func14, Tryd.ntmps14
      go_wp2
      go_ret
      exact ⟨rfl, rfl⟩
    · by_cases h3 : l = 3
      · subst h3
        go_enter Tryd.func14, Tryd.ntmps14
        go_wp2
        go_ret
        exact ⟨rfl, rfl⟩
      · have e : nameB l = ⟨#[]⟩ := by simp [nameB, h1, h2, h3]
        rw [e]
        clear e
        have g1 : (l == 1) = false := by simpa using h1
        have g2 : (l == 2) = false := by simpa using h2
        have g3 : (l == 3) = false := by simpa using h3
        clear h1 h2 h3
        go_enter Tryd.func14, Tryd.ntmps14
        go_wp2
        go_ret
        exact ⟨rfl, rfl⟩
theorem own_any (a b h : Int) (w : World) :
    Calls Tryd.prog 13 #[Ce a b h] w fun e w' => e = .returned (Ce a b h) ∧ Below w.heap.size w w' := by
  go_enter Tryd.func13, Tryd.ntmps13
  go_wp2
  exact bodyPost_ret (v := Ce a b h) (by simp [results, Tryd.results13, go_sem, *]) rfl ⟨rfl, by go_grown⟩
/-- The lattice of a word; 0: there is none. -/
def namedV (s : ByteArray) : Int := if (nameB 1).toList == s.toList then 1 else if (nameB 2).toList == s.toList then 2 else if (nameB 3).toList == s.toList then 3 else 0
theorem named_any (s : ByteArray) (w : World) :
    Calls Tryd.prog 15 #[.string s] w fun e w' => e = .returned (.int .i64 (namedV s)) ∧ w = w' := by
  have l1 : latB 1 = true := by decide
  have l2 : latB 2 = true := by decide
  have l3 : latB 3 = true := by decide
  have l4 : latB 4 = false := by decide
  cases g1 : ((nameB 1).toList == s.toList)
  · cases g2 : ((nameB 2).toList == s.toList)
    · cases g3 : ((nameB 3).toList == s.toList)
      · rw [show namedV s = 0 by simp only [namedV, g1, g2, g3]; rfl]
        (go_enter Tryd.func15, Tryd.ntmps15; go_wp2; refine wp_loop_rounds 4 ?_; (iterate 4 (rw [rounds_succ]; go_wp2_with (first | (go_at_call 28; refine (lgood_any _ _).mono ?_; rintro e w' ⟨rfl, rfl⟩) | (go_at_call 14; refine (name_any _ _).mono ?_; rintro e w' ⟨rfl, rfl⟩)))); go_ret; exact ⟨rfl, rfl⟩)
      · rw [show namedV s = 3 by simp only [namedV, g1, g2, g3]; rfl]
        (go_enter Tryd.func15, Tryd.ntmps15; go_wp2; refine wp_loop_rounds 3 ?_; (iterate 3 (rw [rounds_succ]; go_wp2_with (first | (go_at_call 28; refine (lgood_any _ _).mono ?_; rintro e w' ⟨rfl, rfl⟩) | (go_at_call 14; refine (name_any _ _).mono ?_; rintro e w' ⟨rfl, rfl⟩)))); go_ret; exact ⟨rfl, rfl⟩)
    · rw [show namedV s = 2 by simp only [namedV, g1, g2]; rfl]
      (go_enter Tryd.func15, Tryd.ntmps15; go_wp2; refine wp_loop_rounds 2 ?_; (iterate 2 (rw [rounds_succ]; go_wp2_with (first | (go_at_call 28; refine (lgood_any _ _).mono ?_; rintro e w' ⟨rfl, rfl⟩) | (go_at_call 14; refine (name_any _ _).mono ?_; rintro e w' ⟨rfl, rfl⟩)))); go_ret; exact ⟨rfl, rfl⟩)
  · rw [show namedV s = 1 by simp only [namedV, g1]; rfl]
    (go_enter Tryd.func15, Tryd.ntmps15; go_wp2; refine wp_loop_rounds 1 ?_; (iterate 1 (rw [rounds_succ]; go_wp2_with (first | (go_at_call 28; refine (lgood_any _ _).mono ?_; rintro e w' ⟨rfl, rfl⟩) | (go_at_call 14; refine (name_any _ _).mono ?_; rintro e w' ⟨rfl, rfl⟩)))); go_ret; exact ⟨rfl, rfl⟩)
set_option maxRecDepth 100000 in
set_option maxHeartbeats 4000000 in
theorem awake_any (w : World) (hs : SixIs w) :
    Calls Tryd.prog 4 #[] w fun e w' => e = .returned (.bool true) ∧ Below w.heap.size w w' := by
  go_enter Tryd.func4, Tryd.ntmps4
  go_wp2_with fail
  refine (beside_any 2 0 0 0 _ (by decide) (by decide) (by decide) (by decide) hs).mono ?_
  rintro e w1 h
  have e0 : besAll 2 0 0 0 = [(0, -1, 1), (-1, 0, 1), (0, 0, 1)] := besAll_e0
  rcases h with ⟨_, v, rfl, hown, hb⟩ | ⟨hbad, _, _⟩
  · rw [e0] at hown
    obtain ⟨g, cap, rfl, hg1, hg2⟩ := hown.form (by simp)
    have q := fun j (hj : j < 3 * 3) => hown.cellAt j hj
    have q0 := q 0 (by omega); have q1 := q 1 (by omega); have q2 := q 2 (by omega); have q3 := q 3 (by omega); have q4 := q 4 (by omega); have q5 := q 5 (by omega); have q6 := q 6 (by omega); have q7 := q 7 (by omega); have q8 := q 8 (by omega)
    simp only [flat, List.flatMap_cons, List.flatMap_nil, List.cons_append, List.nil_append, List.append_nil, List.getElem?_cons_zero, List.getElem?_cons_succ] at q0 q1 q2 q3 q4 q5 q6 q7 q8
    clear q hown
    have ec := eql_ce
    simp only [List.length_cons, List.length_nil, Nat.zero_add, Nat.reduceAdd]
    have hl := hb.size
    have n2 : namedV ⟨#[101, 100, 103, 101]⟩ = 2 := by decide +kernel
    have b3 : nameB 3 = ⟨#[118, 101, 114, 116, 101, 120]⟩ := by decide
    have nm := name_any 3
    rw [b3] at nm
    have nd := named_any ⟨#[101, 100, 103, 101]⟩
    rw [n2] at nd
    clear n2 b3
    replace hb : Below w.heap.size w w1.drew := hb.trans ⟨rfl, rfl, rfl, Nat.le_refl _, fun _ _ => rfl⟩
    replace hg2 : g < w1.drew.heap.size := hg2
    replace q0 : w1.drew.cell? ⟨g, 0, none⟩ = _ := q0
    replace q1 : w1.drew.cell? ⟨g, 1, none⟩ = _ := q1
    replace q2 : w1.drew.cell? ⟨g, 2, none⟩ = _ := q2
    replace q3 : w1.drew.cell? ⟨g, 3, none⟩ = _ := q3
    replace q4 : w1.drew.cell? ⟨g, 4, none⟩ = _ := q4
    replace q5 : w1.drew.cell? ⟨g, 5, none⟩ = _ := q5
    replace q6 : w1.drew.cell? ⟨g, 6, none⟩ = _ := q6
    replace q7 : w1.drew.cell? ⟨g, 7, none⟩ = _ := q7
    replace q8 : w1.drew.cell? ⟨g, 8, none⟩ = _ := q8
    go_wp2_with fail
    go_region_held3 (fun w' => w'.cell? ⟨g, 0, none⟩ = some (.int .i64 0) ∧ w'.cell? ⟨g, 1, none⟩ = some (.int .i64 (-1)) ∧ w'.cell? ⟨g, 2, none⟩ = some (.int .i64 1) ∧ w'.cell? ⟨g, 3, none⟩ = some (.int .i64 (-1)) ∧ w'.cell? ⟨g, 4, none⟩ = some (.int .i64 0) ∧ w'.cell? ⟨g, 5, none⟩ = some (.int .i64 1) ∧ w'.cell? ⟨g, 6, none⟩ = some (.int .i64 0) ∧ w'.cell? ⟨g, 7, none⟩ = some (.int .i64 0) ∧ w'.cell? ⟨g, 8, none⟩ = some (.int .i64 1) ∧ g < w'.heap.size ∧ Below w.heap.size w w') (first | exact ⟨q0, q1, q2, q3, q4, q5, q6, q7, q8, hg2, hb⟩) (first | (go_at_call 13; refine (own_any _ _ _ _).mono ?_; rintro e w7 ⟨rfl, hb7⟩; have hb := hb.trans (hb7.mono hb.size); have q0 := (hb7.cell (p := ⟨g, 0, none⟩) hg2).trans q0; have q1 := (hb7.cell (p := ⟨g, 1, none⟩) hg2).trans q1; have q2 := (hb7.cell (p := ⟨g, 2, none⟩) hg2).trans q2; have q3 := (hb7.cell (p := ⟨g, 3, none⟩) hg2).trans q3; have q4 := (hb7.cell (p := ⟨g, 4, none⟩) hg2).trans q4; have q5 := (hb7.cell (p := ⟨g, 5, none⟩) hg2).trans q5; have q6 := (hb7.cell (p := ⟨g, 6, none⟩) hg2).trans q6; have q7 := (hb7.cell (p := ⟨g, 7, none⟩) hg2).trans q7; have q8 := (hb7.cell (p := ⟨g, 8, none⟩) hg2).trans q8; have hg2 := Nat.lt_of_lt_of_le hg2 hb7.size) | (go_at_call 14; refine (nm _).mono ?_; rintro e w' ⟨rfl, rfl⟩) | (go_at_call 15; refine (nd _).mono ?_; rintro e w' ⟨rfl, rfl⟩))
    all_goals
      go_wp2
      go_ret
      exact ⟨rfl, hb⟩
  · rw [e0] at hbad; cases hbad
/-- One of the three lattices, by any number. -/
def latV (n : Int) : Int := 1 + n % 256 % 3
theorem latV_cases (n : Int) : latV n = 1 ∨ latV n = 2 ∨ latV n = 3 := by unfold latV; omega
theorem lattice_any (n : Int) (w : World) :
    Calls Tryd.prog 5 #[.int .i64 n] w fun e w' => e = .returned (.int .i64 (latV n)) ∧ w = w' := by
  unfold latV
  have hb := i64_and255 n
  have h0 : 0 ≤ n % 256 := by omega
  have h1 : n % 256 ≤ 255 := by omega
  go_enter Tryd.func5, Tryd.ntmps5
  go_wp2
  go_ret
  exact ⟨rfl, rfl⟩
def someH (l h : Int) : Int := if l = 1 then 0 else h % 2
theorem some_any (l a b h : Int) (w : World) :
    Calls Tryd.prog 6 #[.int .i64 l, Ce a b h] w fun e w' => e = .returned (Ce (a.tmod 100) (b.tmod 100) (someH l h)) ∧ Below w.heap.size w w' := by
  have hh := i64_and1 h
  by_cases h1 : l = 1
  · subst h1
    go_enter Tryd.func6, Tryd.ntmps6
    go_wp2_with fail
    refine (own_any _ _ _ _).mono ?_
    rintro e w1 ⟨rfl, hb⟩
    obtain ⟨hc_w1, hf_w1⟩ := bcell hb; have hz_w1 := hb.size; (try simp at hz_w1); have hb_w1 := below_call (B := w.heap.size) (w := w) hb (by go_grown) (by go_size); clear hb; (try have hy0_w1 : w.heap.size < w1.heap.size := by omega); (try have hy1_w1 : w.heap.size + 1 < w1.heap.size := by omega); (try have hy2_w1 : w.heap.size + 1 + 1 < w1.heap.size := by omega)
    go_wp2_with fail
    exact bodyPost_ret (v := Ce (a.tmod 100) (b.tmod 100) (someH 1 h)) (by simp [results, Tryd.results6, go_sem, someH, *]) rfl ⟨rfl, by go_grown⟩
  · have h' : (l == 1) = false := by simpa using h1
    have e : someH l h = h % 2 := if_neg h1
    rw [e]
    clear e h1
    go_enter Tryd.func6, Tryd.ntmps6
    go_wp2_with fail
    refine (own_any _ _ _ _).mono ?_
    rintro e w1 ⟨rfl, hb⟩
    obtain ⟨hc_w1, hf_w1⟩ := bcell hb; have hz_w1 := hb.size; (try simp at hz_w1); have hb_w1 := below_call (B := w.heap.size) (w := w) hb (by go_grown) (by go_size); clear hb; (try have hy0_w1 : w.heap.size < w1.heap.size := by omega); (try have hy1_w1 : w.heap.size + 1 < w1.heap.size := by omega); (try have hy2_w1 : w.heap.size + 1 + 1 < w1.heap.size := by omega)
    go_wp2_with fail
    exact bodyPost_ret (v := Ce (a.tmod 100) (b.tmod 100) (h % 2)) (by simp [results, Tryd.results6, go_sem, *]) rfl ⟨rfl, by go_grown⟩
end Go.Proofs.YtoimaiaccmmakaaDoor.Ce
