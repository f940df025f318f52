/- slices.BinarySearchFunc over a rising list of cells; set's find, Has. -/
import Derived.Test.YtplldlfbcblncaaGreatDoorSeW4
namespace Go.Proofs.YtplldlfbcblncaaGreatDoor.Se
open Go.RowKit Go.Proofs.YtplldlfbcblncaaGreatDoor.Ax Go.Proofs.YtplldlfbcblncaaGreatDoor.Ba Go.Shelf Go.Lib Go.Sort

def Bs (w : World) (g : Nat) (L : List C) (c : C) (P : Nat) (s t : Value) (wr : World) : Prop :=
  ∃ i j : Nat, i ≤ P ∧ P ≤ j ∧ j ≤ L.length ∧ s = .int .i64 i ∧ t = .int .i64 j ∧ Row wr g L ∧ Blk wr w.heap.size 45 #[.int .i64 c.1, .int .i64 c.2.1, .int .i64 c.2.2] ∧ Below w.heap.size w wr
theorem keep6 {W w' : World} {g o B : Nat} {t : TypeId} {x : C} {a b h : Value} (hg : g < W.heap.size) (p0 : W.cell? ⟨g, o, none⟩ = some (.int .i64 x.1)) (p1 : W.cell? ⟨g, o + 1, none⟩ = some (.int .i64 x.2.1)) (p2 : W.cell? ⟨g, o + 1 + 1, none⟩ = some (.int .i64 x.2.2)) (k : Blk W B t #[a, b, h]) (hb : Below W.heap.size W w') :
    w'.cell? ⟨g, o, none⟩ = some (.int .i64 x.1) ∧ w'.cell? ⟨g, o + 1, none⟩ = some (.int .i64 x.2.1) ∧ w'.cell? ⟨g, o + 1 + 1, none⟩ = some (.int .i64 x.2.2) ∧ w'.cell? ⟨B, 0, none⟩ = some a ∧ w'.cell? ⟨B, 1, none⟩ = some b ∧ w'.cell? ⟨B, 2, none⟩ = some h :=
  ⟨(hb.cell (p := ⟨g, o, none⟩) hg).trans p0, (hb.cell (p := ⟨g, o + 1, none⟩) hg).trans p1, (hb.cell (p := ⟨g, o + 1 + 1, none⟩) hg).trans p2, (k.under hb).cell 0, (k.under hb).cell 1, (k.under hb).cell 2⟩
theorem mid_bd (i j : Nat) (h : i < j) : i ≤ (i + j) / 2 ∧ (i + j) / 2 < j := by omega
set_option maxRecDepth 100000 in
set_option maxHeartbeats 4000000 in
theorem bsf_row (g cap : Nat) (L : List C) (c : C) (w : World) (hrow : Row w g L) (hR : Rising L) (_ : L.length ≤ cap) (hL : L.length ≤ 1000000) :
    Calls Tryz.prog 50 #[.slice (some ⟨g, 0, none⟩) L.length cap, Ce c, .func (.func 19) #[] #[]] w fun e w' => e = .returned (.tuple #[.int .i64 (pos L c), .bool (decide (c ∈ L))]) ∧ Below w.heap.size w w' := by
  have hpl := pos_le L c
  have HP := Lib.hid (fun i x hx => pos_lt hR c i x hx)
  have HA := Lib.hid (at_pos hR c)
  generalize pos L c = P at *
  go_enter Tryz.func50, Tryz.ntmps50
  have hgl := hrow.2
  go_wp2_with fail
  have k0 := Blk.newAt w 45 #[.int .i64 c.1, .int .i64 c.2.1, .int .i64 c.2.2] _ rfl
  have hb0 : Below w.heap.size w (w.alloc (.cells #[.int .i64 c.1, .int .i64 c.2.1, .int .i64 c.2.2] 45)) := (Below.refl _ _).alloc (Nat.le_refl _) _
  have hr0 := hrow.below hb0
  clear hrow hgl
  generalize w.alloc (.cells #[.int .i64 c.1, .int .i64 c.2.1, .int .i64 c.2.2] 45) = w0 at *
  go_loopw [9, 10] (fun s t wr => Bs w g L c P s t wr) (fun s t _ => (intOf t).toNat - (intOf s).toNat)
  case atStart => exact ⟨0, L.length, Nat.zero_le _, hpl, Nat.le_refl _, rfl, rfl, hr0, k0, hb0⟩
  case round =>
    clear hr0 k0 hb0
    obtain ⟨i, j, hi, hj, hjl, rfl, rfl, hr, kb, hb⟩ := hrel
    by_cases hlt : i < j
    · obtain ⟨m, hm⟩ : ∃ m : Nat, ((i : Int) + (j : Int)) / 2 = (m : Int) := ⟨(i + j) / 2, by omega⟩
      have m0 : i ≤ m := by omega
      have m1 : m < j := by omega
      go_upto_region 5 with fail
      clear hm
      obtain ⟨x, hx⟩ : ∃ x, L[m]? = some x := ⟨_, List.getElem?_eq_getElem (by omega)⟩
      obtain ⟨p0, p1, p2⟩ := hr.1 m x hx
      have hq := HP.out m x hx
      have HQ := Lib.hid hq
      clear hq hx
      have hgl := hr.2
      go_cut [31] (fun v wx => v = .bool (lt x c) ∧ Below wr.heap.size wr wx)
      case first =>
        have hcm := compare_below x c
        have hcf : cf x c < 0 ↔ lt x c = true := by unfold cf; cases lt x c <;> simp; split <;> omega
        have hkb : Below wr.heap.size wr wr := Below.refl _ _
        have hml : m < L.length := by omega
        generalize cf x c = r at *
        generalize lt x c = b at *
        have HC := Lib.hid (show decide (r < 0) = b by cases b <;> simp_all)
        clear hcf
        go_region_held3 (fun w' => w'.cell? ⟨g, m * 3, none⟩ = some (.int .i64 x.1) ∧ w'.cell? ⟨g, m * 3 + 1, none⟩ = some (.int .i64 x.2.1) ∧ w'.cell? ⟨g, m * 3 + 1 + 1, none⟩ = some (.int .i64 x.2.2) ∧ w'.cell? ⟨w.heap.size, 0, none⟩ = some (.int .i64 c.1) ∧ w'.cell? ⟨w.heap.size, 1, none⟩ = some (.int .i64 c.2.1) ∧ w'.cell? ⟨w.heap.size, 2, none⟩ = some (.int .i64 c.2.2)) (first | (refine keep6 hgl p0 p1 p2 kb ?_; go_grown; done))
          (first | (go_at_call 19; refine (hcm _).mono ?_; rintro e w6 ⟨rfl, hb'⟩; have hkb : Below wr.heap.size wr w6 := Ba.below_call hb' (by go_grown) (by simp); clear hb'))
        all_goals go_wp2_with fail
        all_goals go_meet
        all_goals exact ⟨by rw [HC.out], by go_grown⟩
      case rest =>
        obtain ⟨rfl, hbw⟩ := hcut
        have hr1 := hr.below hbw
        have kb1 := kb.under hbw
        have hb1 := hb.trans (hbw.mono hb.size)
        clear p0 p1 p2 hr kb hb hbw hgl
        cases hx : lt x c
        · have hPm : P ≤ m := by have := HQ.out; rw [hx] at this; have := decide_eq_false_iff_not.1 this.symm; omega
          clear hx
          go_wp2
          go_roundw
          case rel => exact ⟨i, m, hi, hPm, by omega, rfl, rfl, hr1, kb1, hb1⟩
          case measure => simp [intOf]; omega
        · have hPm : m < P := by have := HQ.out; rw [hx] at this; exact of_decide_eq_true this.symm
          clear hx
          go_wp2
          go_roundw
          case rel => exact ⟨m + 1, j, hPm, hj, hjl, by go_num, rfl, hr1, kb1, hb1⟩
          case measure => simp [intOf]; omega
    · obtain rfl : i = P := by omega
      obtain rfl : j = i := by omega
      by_cases hin : j < L.length
      · obtain ⟨x, hx⟩ : ∃ x, L[j]? = some x := ⟨_, List.getElem?_eq_getElem hin⟩
        obtain ⟨p0, p1, p2⟩ := hr.1 j x hx
        have hz := HA.out
        rw [hx] at hz
        have HZ := Lib.hid (show decide (c ∈ L) = decide (x = c) from hz)
        clear hz hx
        have hgl := hr.2
        go_upto_region 8 with fail
        go_cut [6, 7] (fun u v wx => u = .int .i64 j ∧ v = .bool (decide (x = c)) ∧ Below wr.heap.size wr wx)
        case first =>
          have hcm := compare_below x c
          have hcf : cf x c = 0 ↔ x = c := by
            unfold cf
            cases h : lt x c
            · simp
            · simp; rintro rfl; rw [lt_irrefl] at h; cases h
          have hkb : Below wr.heap.size wr wr := Below.refl _ _
          generalize cf x c = r at *
          have HC := Lib.hid (show (r == 0) = decide (x = c) by rw [Bool.eq_iff_iff]; simpa using hcf)
          clear hcf
          go_region_held3 (fun w' => w'.cell? ⟨g, j * 3, none⟩ = some (.int .i64 x.1) ∧ w'.cell? ⟨g, j * 3 + 1, none⟩ = some (.int .i64 x.2.1) ∧ w'.cell? ⟨g, j * 3 + 1 + 1, none⟩ = some (.int .i64 x.2.2) ∧ w'.cell? ⟨w.heap.size, 0, none⟩ = some (.int .i64 c.1) ∧ w'.cell? ⟨w.heap.size, 1, none⟩ = some (.int .i64 c.2.1) ∧ w'.cell? ⟨w.heap.size, 2, none⟩ = some (.int .i64 c.2.2)) (first | (refine keep6 hgl p0 p1 p2 kb ?_; go_grown; done))
            (first | (go_at_call 19; refine (hcm _).mono ?_; rintro e w6 ⟨rfl, hb'⟩; have hkb : Below wr.heap.size wr w6 := Ba.below_call hb' (by go_grown) (by simp); clear hb'))
          all_goals go_wp2_with fail
          all_goals go_meet
          all_goals exact ⟨rfl, by rw [HC.out], by go_grown⟩
        case rest =>
          obtain ⟨rfl, rfl, hbw⟩ := hcut
          go_wp2
          exact bodyPost_ret (v := .tuple #[.int .i64 j, .bool (decide (x = c))]) (by simp [results, Tryz.results50, go_sem]) rfl ⟨by rw [HZ.out], hb.trans (hbw.mono hb.size)⟩
      · obtain rfl : j = L.length := by omega
        have HZ := Lib.hid (show decide (c ∈ L) = false by have := HA.out; rw [List.getElem?_eq_none (Nat.le_refl _)] at this; exact this)
        go_wp2_with fail
        go_quiet (fail)
        go_wp2
        exact bodyPost_ret (v := .tuple #[.int .i64 L.length, .bool false]) (by simp [results, Tryz.results50, go_sem]) rfl ⟨by rw [HZ.out], Ba.below_dr _ hb⟩
theorem bsf_any (v : Value) (L : List C) (c : C) (w : World) (h : SetAt w v L) (hR : Rising L) (hL : L.length ≤ 1000000) :
    Calls Tryz.prog 50 #[v, Ce c, .func (.func 19) #[] #[]] w fun e w' => e = .returned (.tuple #[.int .i64 (pos L c), .bool (decide (c ∈ L))]) ∧ Below w.heap.size w w' := by
  rcases h with ⟨rfl, rfl⟩ | ⟨g, cap, rfl, hc, hr⟩
  · go_enter Tryz.func50, Tryz.ntmps50
    go_wp2_with fail
    have hb0 : Below w.heap.size w (w.alloc (.cells #[.int .i64 c.1, .int .i64 c.2.1, .int .i64 c.2.2] 45)) := (Below.refl _ _).alloc (Nat.le_refl _) _
    go_loopw [9, 10] (fun s t wr => s = .int .i64 0 ∧ t = .int .i64 0 ∧ Below w.heap.size w wr) (fun _ _ _ => 0)
    case atStart => exact ⟨rfl, rfl, hb0⟩
    case round =>
      obtain ⟨rfl, rfl, hb⟩ := hrel
      go_wp2_with fail
      go_quiet (fail)
      go_wp2
      exact bodyPost_ret (v := .tuple #[.int .i64 0, .bool false]) (by simp [results, Tryz.results50, go_sem]) rfl ⟨by simp [pos], Ba.below_dr _ hb⟩
  · exact bsf_row g cap L c w hr hR hc hL
theorem find_any (v : Value) (L : List C) (c : C) (w : World) (h : SetAt w v L) (hR : Rising L) (hL : L.length ≤ 1000000) :
    Calls Tryz.prog 33 #[v, Ce c] w fun e w' => e = .returned (.tuple #[.int .i64 (pos L c), .bool (decide (c ∈ L))]) ∧ Below w.heap.size w w' := by
  have hb0 : Below w.heap.size w (w.alloc (.cells #[.int .i64 c.1, .int .i64 c.2.1, .int .i64 c.2.2] 45)) := (Below.refl _ _).alloc (Nat.le_refl _) _
  have hbs := bsf_any v L c _ (h.below hb0) hR hL
  have hz0 := hb0.size
  generalize decide (c ∈ L) = b at *
  generalize pos L c = P at *
  clear h
  go_enter Tryz.func33, Tryz.ntmps33
  go_wp2_with fail
  refine hbs.mono ?_
  rintro e w1 ⟨rfl, hb⟩
  go_wp2
  exact bodyPost_ret (v := .tuple #[.int .i64 P, .bool b]) (by simp [results, Tryz.results33, go_sem]) rfl ⟨rfl, hb0.trans (hb.mono hz0)⟩
theorem has_any (v : Value) (L : List C) (c : C) (w : World) (h : SetAt w v L) (hR : Rising L) (hL : L.length ≤ 1000000) :
    Calls Tryz.prog 16 #[v, Ce c] w fun e w' => e = .returned (.bool (decide (c ∈ L))) ∧ Below w.heap.size w w' := by
  have hb0 : Below w.heap.size w (w.alloc (.cells #[.int .i64 c.1, .int .i64 c.2.1, .int .i64 c.2.2] 45)) := (Below.refl _ _).alloc (Nat.le_refl _) _
  have hbs := find_any v L c _ (h.below hb0) hR hL
  have hz0 := hb0.size
  generalize decide (c ∈ L) = b at *
  generalize pos L c = P at *
  clear h
  go_enter Tryz.func16, Tryz.ntmps16
  go_wp2_with fail
  refine hbs.mono ?_
  rintro e w1 ⟨rfl, hb⟩
  go_wp2
  go_ret
  exact ⟨rfl, hb0.trans (hb.mono hz0)⟩
end Go.Proofs.YtplldlfbcblncaaGreatDoor.Se
