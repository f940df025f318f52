/- A set's box: each side has a cell, and none is outside; the laws' touches. -/
import Derived.Test.YtkejniadapnofaaSeR2
namespace Go.Proofs.Ytkejniadapnofaa.Se
open Go.RowKit Go.Proofs.Ytkejniadapnofaa.Ax Go.Proofs.Ytkejniadapnofaa.Ba Go.Shelf Go.Lib Go.Sort

theorem fold_le : ∀ (M : List C) (a : Q), ((M.foldl bstep a).1 ≤ a.1 ∧ (M.foldl bstep a).2.1 ≤ a.2.1 ∧ a.2.2.1 ≤ (M.foldl bstep a).2.2.1 ∧ a.2.2.2 ≤ (M.foldl bstep a).2.2.2) ∧
    ∀ x ∈ M, ((M.foldl bstep a).1 ≤ x.1 ∧ x.1 ≤ (M.foldl bstep a).2.2.1) ∧ ((M.foldl bstep a).2.1 ≤ x.2.1 ∧ x.2.1 ≤ (M.foldl bstep a).2.2.2)
  | [], a => ⟨⟨Int.le_refl _, Int.le_refl _, Int.le_refl _, Int.le_refl _⟩, fun x hx => by simp at hx⟩
  | y :: M, a => by
    obtain ⟨⟨h1, h2, h3, h4⟩, h5⟩ := fold_le M (bstep a y)
    rw [List.foldl_cons]
    generalize M.foldl bstep (bstep a y) = q at *
    simp only [bstep] at h1 h2 h3 h4
    refine ⟨⟨by omega, by omega, by omega, by omega⟩, fun x hx => ?_⟩
    rcases List.mem_cons.1 hx with rfl | hx
    · exact ⟨⟨by omega, by omega⟩, by omega, by omega⟩
    · exact h5 x hx
theorem fold_at : ∀ (M : List C) (a : Q), ((M.foldl bstep a).1 = a.1 ∨ ∃ x ∈ M, x.1 = (M.foldl bstep a).1) ∧ ((M.foldl bstep a).2.1 = a.2.1 ∨ ∃ x ∈ M, x.2.1 = (M.foldl bstep a).2.1) ∧
    ((M.foldl bstep a).2.2.1 = a.2.2.1 ∨ ∃ x ∈ M, x.1 = (M.foldl bstep a).2.2.1) ∧ ((M.foldl bstep a).2.2.2 = a.2.2.2 ∨ ∃ x ∈ M, x.2.1 = (M.foldl bstep a).2.2.2)
  | [], a => ⟨.inl rfl, .inl rfl, .inl rfl, .inl rfl⟩
  | y :: M, a => by
    obtain ⟨h1, h2, h3, h4⟩ := fold_at M (bstep a y)
    rw [List.foldl_cons]
    generalize M.foldl bstep (bstep a y) = q at *
    simp only [bstep] at h1 h2 h3 h4
    refine ⟨?_, ?_, ?_, ?_⟩
    · rcases h1 with h | ⟨x, hx, e⟩
      · rcases Int.le_total a.1 y.1 with hle | hle
        · exact .inl (by omega)
        · exact .inr ⟨y, by simp, by omega⟩
      · exact .inr ⟨x, by simp [hx], e⟩
    · rcases h2 with h | ⟨x, hx, e⟩
      · rcases Int.le_total a.2.1 y.2.1 with hle | hle
        · exact .inl (by omega)
        · exact .inr ⟨y, by simp, by omega⟩
      · exact .inr ⟨x, by simp [hx], e⟩
    · rcases h3 with h | ⟨x, hx, e⟩
      · rcases Int.le_total y.1 a.2.2.1 with hle | hle
        · exact .inl (by omega)
        · exact .inr ⟨y, by simp, by omega⟩
      · exact .inr ⟨x, by simp [hx], e⟩
    · rcases h4 with h | ⟨x, hx, e⟩
      · rcases Int.le_total y.2.1 a.2.2.2 with hle | hle
        · exact .inl (by omega)
        · exact .inr ⟨y, by simp, by omega⟩
      · exact .inr ⟨x, by simp [hx], e⟩
/-- A cell is on one of a box's four sides. -/
def hit (q : Q) (c : C) : Nat → Bool
  | 0 => c.1 == q.1
  | 1 => c.1 == q.2.2.1
  | 2 => c.2.1 == q.2.1
  | _ => c.2.1 == q.2.2.2
theorem box_in {L : List C} {x : C} (hx : x ∈ L) : ((boxL L).1 ≤ x.1 ∧ x.1 ≤ (boxL L).2.2.1) ∧ ((boxL L).2.1 ≤ x.2.1 ∧ x.2.1 ≤ (boxL L).2.2.2) := by
  cases L with
  | nil => simp at hx
  | cons y M =>
    have := (fold_le (y :: M) (y.1, y.2.1, y.1, y.2.1)).2 x hx
    simp only [boxL, boxN, List.take_length]
    exact this
theorem box_hit {L : List C} (h : L ≠ []) (j : Nat) : L.any (fun c => hit (boxL L) c j) = true := by
  cases L with
  | nil => exact absurd rfl h
  | cons y M =>
    obtain ⟨h1, h2, h3, h4⟩ := fold_at (y :: M) (y.1, y.2.1, y.1, y.2.1)
    have e : boxL (y :: M) = (y :: M).foldl bstep (y.1, y.2.1, y.1, y.2.1) := by simp only [boxL, boxN, List.take_length]
    rw [List.any_eq_true, e]
    generalize (y :: M).foldl bstep (y.1, y.2.1, y.1, y.2.1) = q at *
    match j with
    | 0 =>
      rcases h1 with h | ⟨x, hx, e⟩
      · exact ⟨y, by simp, by simp [hit, h]⟩
      · exact ⟨x, hx, by simp [hit, e]⟩
    | 1 =>
      rcases h3 with h | ⟨x, hx, e⟩
      · exact ⟨y, by simp, by simp [hit, h]⟩
      · exact ⟨x, hx, by simp [hit, e]⟩
    | 2 =>
      rcases h2 with h | ⟨x, hx, e⟩
      · exact ⟨y, by simp, by simp [hit, h]⟩
      · exact ⟨x, hx, by simp [hit, e]⟩
    | j + 3 =>
      rcases h4 with h | ⟨x, hx, e⟩
      · exact ⟨y, by simp, by simp [hit, h]⟩
      · exact ⟨x, hx, by simp [hit, e]⟩
/-- How many of the first are on a side. -/
def cntS (q : Q) (L : List C) (k j : Nat) : Int := (((L.take k).filter fun c => hit q c j).length : Nat)
theorem cnt_succ {q : Q} {L : List C} {k : Nat} {x : C} (h : L[k]? = some x) (j : Nat) : cntS q L (k + 1) j = cntS q L k j + (if hit q x j then 1 else 0) := by
  unfold cntS
  rw [List.take_add_one, h, List.filter_append, List.length_append]
  cases hq : hit q x j <;> simp [hq]
theorem cnt_bd (q : Q) (L : List C) (k j : Nat) : 0 ≤ cntS q L k j ∧ cntS q L k j ≤ k := by
  unfold cntS
  have h1 := List.length_filter_le (fun c => hit q c j) (L.take k)
  rw [List.length_take] at h1
  omega
theorem cnt_pos {L : List C} (h : L ≠ []) (j : Nat) : 0 < cntS (boxL L) L L.length j := by
  have h1 := box_hit h j
  unfold cntS
  rw [List.take_length]
  obtain ⟨x, hx, hh⟩ := List.any_eq_true.1 h1
  have : x ∈ L.filter fun c => hit (boxL L) c j := List.mem_filter.2 ⟨hx, hh⟩
  have := List.length_pos_of_mem this
  omega
/-! touches. -/
def arr4 (n0 n1 n2 n3 m0 m1 m2 m3 : Int) : Nat → Array Value
  | 0 => #[.int .i64 n0, .int .i64 n1, .int .i64 n2, .int .i64 n3]
  | 1 => #[.int .i64 m0, .int .i64 n1, .int .i64 n2, .int .i64 n3]
  | 2 => #[.int .i64 m0, .int .i64 m1, .int .i64 n2, .int .i64 n3]
  | 3 => #[.int .i64 m0, .int .i64 m1, .int .i64 m2, .int .i64 n3]
  | _ => #[.int .i64 m0, .int .i64 m1, .int .i64 m2, .int .i64 m3]
def To1 (w : World) (L : List C) (q : Q) (i : Value) (wr : World) : Prop :=
  ∃ k : Nat, k ≤ L.length ∧ i = .int .i64 k ∧ Blk wr (w.heap.size + 1) 71 #[.int .i64 (cntS q L k 0), .int .i64 (cntS q L k 1), .int .i64 (cntS q L k 2), .int .i64 (cntS q L k 3)] ∧ Blk wr w.heap.size 43 (Bx q) ∧ Below w.heap.size w wr
def To2 (w : World) (HB : Nat) (q : Q) (n0 n1 n2 n3 m0 m1 m2 m3 : Int) (g0 g1 g2 g3 : Bool) (i : Value) (wr : World) : Prop :=
  ∃ k : Nat, k ≤ 4 ∧ i = .int .i64 k ∧ Blk wr (w.heap.size + 1) 71 (arr4 n0 n1 n2 n3 m0 m1 m2 m3 k) ∧ Blk wr w.heap.size 43 (Bx q) ∧ Blk wr HB 4 #[.bool g0, .bool g1, .bool g2, .bool g3] ∧ Below w.heap.size w wr
set_option maxRecDepth 100000 in
set_option maxHeartbeats 8000000 in
theorem touches_any (v : Value) (L : List C) (w : World) (h : SetAt w v L) (hne : L ≠ []) (hL : L.length ≤ 1000000) :
    Calls Try.prog 20 #[v, .agg (Bx (boxL L))] w fun e w' => e = .returned (.bool true) ∧ Below w.heap.size w w' := by
  have HU := Lib.hid h
  have key : ∀ v, SetAt w v L → ∃ p cap, v = .slice p L.length cap := by
    rintro v (⟨rfl, rfl⟩ | ⟨g, cap, rfl, _, _⟩)
    · exact ⟨none, 0, rfl⟩
    · exact ⟨_, _, rfl⟩
  obtain ⟨p, cap, rfl⟩ := key v h
  clear h key
  have HPOS := Lib.hid (fun j => cnt_pos hne j)
  clear hne
  generalize boxL L = q at *
  have k0 := (Blk.newAt w 43 (Bx q) _ rfl).alloc (.cells #[.int .i64 0, .int .i64 0, .int .i64 0, .int .i64 0] 71)
  have k1 := Blk.newAt (w.alloc (.cells (Bx q) 43)) 71 #[.int .i64 0, .int .i64 0, .int .i64 0, .int .i64 0] (w.heap.size + 1) (by simp)
  go_enter Try.func20, Try.ntmps20
  go_wp2_with fail
  go_loopw [13] (fun i wr => To1 w L q i wr) (fun i _ => L.length - (intOf i).toNat)
  case atStart => exact ⟨0, Nat.zero_le _, rfl, k1, k0, by go_grown⟩
  case round =>
    clear k0 k1
    obtain ⟨k, hk, rfl, kn, kb, hb⟩ := hrel
    have hz := hb.size
    by_cases hlt : k < L.length
    · obtain ⟨x, hx⟩ : ∃ x, L[k]? = some x := ⟨_, List.getElem?_eq_getElem hlt⟩
      rcases HU.out.below hb with ⟨_, hnil⟩ | ⟨g, cp, hv, _, hr⟩
      · subst hnil; simp at hlt
      · injection hv with hv1 hv2 hv3
        subst hv1 hv3
        clear hv2
        obtain ⟨c0, c1, c2⟩ := hr.1 k x hx
        have hgl := hr.2
        have y0 := kb.cell 0
        have y1 := kb.cell 1
        have y2 := kb.cell 2
        have y3 := kb.cell 3
        simp only [List.getElem?_toArray, List.getElem?_cons_zero, List.getElem?_cons_succ] at y0 y1 y2 y3
        have hbl := kb.lt
        have hnl := kn.lt
        have E0 := Lib.hid (cnt_succ (q := q) hx 0)
        have E1 := Lib.hid (cnt_succ (q := q) hx 1)
        have E2 := Lib.hid (cnt_succ (q := q) hx 2)
        have E3 := Lib.hid (cnt_succ (q := q) hx 3)
        have D0 := cnt_bd q L k 0
        have D1 := cnt_bd q L k 1
        have D2 := cnt_bd q L k 2
        have D3 := cnt_bd q L k 3
        simp only [hit] at E0 E1 E2 E3
        obtain ⟨m0, hm0⟩ : ∃ m, cntS q L (k + 1) 0 = m := ⟨_, rfl⟩
        obtain ⟨m1, hm1⟩ : ∃ m, cntS q L (k + 1) 1 = m := ⟨_, rfl⟩
        obtain ⟨m2, hm2⟩ : ∃ m, cntS q L (k + 1) 2 = m := ⟨_, rfl⟩
        obtain ⟨m3, hm3⟩ : ∃ m, cntS q L (k + 1) 3 = m := ⟨_, rfl⟩
        have HMM := Lib.hid (And.intro hm0 (And.intro hm1 (And.intro hm2 hm3)))
        rw [hm0] at E0
        rw [hm1] at E1
        rw [hm2] at E2
        rw [hm3] at E3
        clear hm0 hm1 hm2 hm3 hx hr
        generalize cntS q L k 0 = n0 at *
        generalize cntS q L k 1 = n1 at *
        generalize cntS q L k 2 = n2 at *
        generalize cntS q L k 3 = n3 at *
        obtain ⟨g0, hg0⟩ : ∃ b, (x.1 == q.1) = b := ⟨_, rfl⟩
        obtain ⟨g1, hg1⟩ : ∃ b, (x.1 == q.2.2.1) = b := ⟨_, rfl⟩
        obtain ⟨g2, hg2⟩ : ∃ b, (x.2.1 == q.2.1) = b := ⟨_, rfl⟩
        obtain ⟨g3, hg3⟩ : ∃ b, (x.2.1 == q.2.2.2) = b := ⟨_, rfl⟩
        rw [hg0] at E0
        rw [hg1] at E1
        rw [hg2] at E2
        rw [hg3] at E3
        have kn1 := (kn.alloc (.cells #[.int .i64 x.1, .int .i64 x.2.1, .int .i64 x.2.2] 24)).alloc (.cells #[.bool g0, .bool g1, .bool g2, .bool g3] 4)
        have kb1 := (kb.alloc (.cells #[.int .i64 x.1, .int .i64 x.2.1, .int .i64 x.2.2] 24)).alloc (.cells #[.bool g0, .bool g1, .bool g2, .bool g3] 4)
        have kh1 := Blk.newAt (wr.alloc (.cells #[.int .i64 x.1, .int .i64 x.2.1, .int .i64 x.2.2] 24)) 4 #[.bool g0, .bool g1, .bool g2, .bool g3] (wr.heap.size + 1) (by simp)
        have hb1 := (hb.alloc hz (.cells #[.int .i64 x.1, .int .i64 x.2.1, .int .i64 x.2.2] 24)).alloc (by simp; omega) (.cells #[.bool g0, .bool g1, .bool g2, .bool g3] 4)
        have hHB : w.heap.size + 1 < wr.heap.size + 1 := by omega
        go_wp2_with fail
        clear c0 c1 c2 hgl y0 y1 y2 y3 hbl hnl hg0 hg1 hg2 hg3 kn kb hb hz
        generalize wr.heap.size + 1 = HB at *
        go_loopw [43] (fun i wq => To2 w HB q n0 n1 n2 n3 m0 m1 m2 m3 g0 g1 g2 g3 i wq) (fun i _ => 4 - (intOf i).toNat)
        case atStart => exact ⟨0, by omega, rfl, kn1, kb1, kh1, hb1⟩
        case round =>
          clear kn1 kb1 kh1 hb1
          obtain ⟨j, hj, rfl, kn, kb, kh, hb⟩ := hrel
          have hz := hb.size
          have hj5 : j = 0 ∨ j = 1 ∨ j = 2 ∨ j = 3 ∨ j = 4 := by omega
          rcases hj5 with rfl | rfl | rfl | rfl | rfl
          · have z0 := kn.cell 0
            have z1 := kn.frozen 0
            have b0 := kh.cell 0
            simp only [arr4, List.getElem?_toArray, List.getElem?_cons_zero] at z0 b0
            have hnl := kn.lt
            have hhl := kh.lt
            have ej := E0.out
            generalize g0 = b at *
            cases b
            · have HJ := Lib.hid (show n0 = m0 by simpa using ej.symm)
              clear ej
              go_wp2_with fail
              go_roundw
              case rel => exact ⟨1, by omega, rfl, by simp only [arr4] at kn ⊢; rw [← HJ.out]; exact kn, kb, kh, hb⟩
              case measure => simp [intOf]
            · have HJ := Lib.hid (show m0 = n0 + 1 by simpa using ej)
              clear ej
              go_wp2_with fail
              go_roundw
              case rel => exact ⟨1, by omega, rfl, by simp only [arr4] at kn ⊢; rw [HJ.out]; exact kn.set_ 0 _, kb.far (by simp) _, kh.far (by simp; omega) _, by go_grown⟩
              case measure => simp [intOf]
          · have z0 := kn.cell 1
            have z1 := kn.frozen 1
            have b0 := kh.cell 1
            simp only [arr4, List.getElem?_toArray, List.getElem?_cons_zero, List.getElem?_cons_succ] at z0 b0
            have hnl := kn.lt
            have hhl := kh.lt
            have ej := E1.out
            generalize g1 = b at *
            cases b
            · have HJ := Lib.hid (show n1 = m1 by simpa using ej.symm)
              clear ej
              go_wp2_with fail
              go_roundw
              case rel => exact ⟨2, by omega, rfl, by simp only [arr4] at kn ⊢; rw [← HJ.out]; exact kn, kb, kh, hb⟩
              case measure => simp [intOf]
            · have HJ := Lib.hid (show m1 = n1 + 1 by simpa using ej)
              clear ej
              go_wp2_with fail
              go_roundw
              case rel => exact ⟨2, by omega, rfl, by simp only [arr4] at kn ⊢; rw [HJ.out]; exact kn.set_ 1 _, kb.far (by simp) _, kh.far (by simp; omega) _, by go_grown⟩
              case measure => simp [intOf]
          · have z0 := kn.cell 2
            have z1 := kn.frozen 2
            have b0 := kh.cell 2
            simp only [arr4, List.getElem?_toArray, List.getElem?_cons_zero, List.getElem?_cons_succ] at z0 b0
            have hnl := kn.lt
            have hhl := kh.lt
            have ej := E2.out
            generalize g2 = b at *
            cases b
            · have HJ := Lib.hid (show n2 = m2 by simpa using ej.symm)
              clear ej
              go_wp2_with fail
              go_roundw
              case rel => exact ⟨3, by omega, rfl, by simp only [arr4] at kn ⊢; rw [← HJ.out]; exact kn, kb, kh, hb⟩
              case measure => simp [intOf]
            · have HJ := Lib.hid (show m2 = n2 + 1 by simpa using ej)
              clear ej
              go_wp2_with fail
              go_roundw
              case rel => exact ⟨3, by omega, rfl, by simp only [arr4] at kn ⊢; rw [HJ.out]; exact kn.set_ 2 _, kb.far (by simp) _, kh.far (by simp; omega) _, by go_grown⟩
              case measure => simp [intOf]
          · have z0 := kn.cell 3
            have z1 := kn.frozen 3
            have b0 := kh.cell 3
            simp only [arr4, List.getElem?_toArray, List.getElem?_cons_zero, List.getElem?_cons_succ] at z0 b0
            have hnl := kn.lt
            have hhl := kh.lt
            have ej := E3.out
            generalize g3 = b at *
            cases b
            · have HJ := Lib.hid (show n3 = m3 by simpa using ej.symm)
              clear ej
              go_wp2_with fail
              go_roundw
              case rel => exact ⟨4, by omega, rfl, by simp only [arr4] at kn ⊢; rw [← HJ.out]; exact kn, kb, kh, hb⟩
              case measure => simp [intOf]
            · have HJ := Lib.hid (show m3 = n3 + 1 by simpa using ej)
              clear ej
              go_wp2_with fail
              go_roundw
              case rel => exact ⟨4, by omega, rfl, by simp only [arr4] at kn ⊢; rw [HJ.out]; exact kn.set_ 3 _, kb.far (by simp) _, kh.far (by simp; omega) _, by go_grown⟩
              case measure => simp [intOf]
          · simp only [arr4] at kn
            go_wp2_with fail
            go_roundw
            case rel =>
              refine ⟨k + 1, by omega, by go_num, ?_, kb, hb⟩
              rw [HMM.out.1, HMM.out.2.1, HMM.out.2.2.1, HMM.out.2.2.2]
              exact kn
            case measure => simp [intOf]; omega
    · obtain rfl : k = L.length := by omega
      have P0 := HPOS.out 0
      have P1 := HPOS.out 1
      have P2 := HPOS.out 2
      have P3 := HPOS.out 3
      generalize cntS q L L.length 0 = n0 at *
      generalize cntS q L L.length 1 = n1 at *
      generalize cntS q L L.length 2 = n2 at *
      generalize cntS q L L.length 3 = n3 at *
      have y0 := kn.cell 0
      have y1 := kn.cell 1
      have y2 := kn.cell 2
      have y3 := kn.cell 3
      simp only [List.getElem?_toArray, List.getElem?_cons_zero, List.getElem?_cons_succ] at y0 y1 y2 y3
      have hnl := kn.lt
      go_wp2_with fail
      go_ret
      exact ⟨rfl, hb⟩
end Go.Proofs.Ytkejniadapnofaa.Se
