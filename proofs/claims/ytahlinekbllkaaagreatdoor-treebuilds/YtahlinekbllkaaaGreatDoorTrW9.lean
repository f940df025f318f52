/- Contracts of package tree: Inside, has, Level. -/
import Derived.Test.YtahlinekbllkaaaGreatDoorTrW1
import Derived.Test.YtahlinekbllkaaaGreatDoorSeBx
namespace Go.Proofs.YtahlinekbllkaaaGreatDoor.Tr
open Go.RowKit Go.Proofs.YtahlinekbllkaaaGreatDoor.Ba Go.Proofs.YtahlinekbllkaaaGreatDoor.Se Go.Lib

/-- Is a point inside of a root of that level? -/
def insB (l a b : Int) : Bool := decide ((-hf l ≤ a ∧ a < hf l) ∧ (-hf l ≤ b ∧ b < hf l))
abbrev Pv (a b : Int) : Value := .agg #[.int .i64 a, .int .i64 b]
set_option maxRecDepth 100000 in
theorem inside_any (l a b : Int) (w : World) :
    Calls Tryz.prog 46 #[.int .i64 l, Pv a b] w fun e w' => e = .returned (.bool (insB l a b)) ∧ Below w.heap.size w w' := by
  have hb := hf_bd l
  have hc := fun W => half_any l W
  have HI := Lib.hid (rfl : insB l a b = decide ((-hf l ≤ a ∧ a < hf l) ∧ (-hf l ≤ b ∧ b < hf l)))
  have HI2 : insB l a b = decide ((-hf l ≤ a ∧ a < hf l) ∧ (-hf l ≤ b ∧ b < hf l)) := rfl
  generalize insB l a b = r at *
  generalize hf l = H at *
  have HR := Lib.hid HI2
  clear HI HI2
  have kp := Blk.newAt w 38 #[.int .i64 a, .int .i64 b] _ rfl
  have hbw : Below w.heap.size w (w.alloc (.cells #[.int .i64 a, .int .i64 b] 38)) := by go_grown
  have HB := Lib.hid hbw
  clear hbw
  have p0 := kp.cell 0
  have p1 := kp.cell 1
  simp only [List.getElem?_toArray, List.getElem?_cons_zero, List.getElem?_cons_succ] at p0 p1
  clear kp
  by_cases h1 : -H ≤ a
  · by_cases h2 : a < H
    · by_cases h3 : -H ≤ b
      · by_cases h4 : b < H
        · ((obtain rfl : r = true := (by rw [HR.out]; simp; try omega)); clear HR; go_enter Tryz.func46, Tryz.ntmps46; go_wp2_with (first | (go_at_call 33; refine (hc _).mono ?_; rintro e w' ⟨rfl, rfl⟩)); (exact bodyPost_ret (v := .bool true) (by simp [results, Tryz.results46, go_sem, *]) rfl ⟨rfl, HB.out⟩))
        · ((obtain rfl : r = false := (by rw [HR.out]; simp; try omega)); clear HR; go_enter Tryz.func46, Tryz.ntmps46; go_wp2_with (first | (go_at_call 33; refine (hc _).mono ?_; rintro e w' ⟨rfl, rfl⟩)); (exact bodyPost_ret (v := .bool false) (by simp [results, Tryz.results46, go_sem, *]) rfl ⟨rfl, HB.out⟩))
      · ((obtain rfl : r = false := (by rw [HR.out]; simp; try omega)); clear HR; go_enter Tryz.func46, Tryz.ntmps46; go_wp2_with (first | (go_at_call 33; refine (hc _).mono ?_; rintro e w' ⟨rfl, rfl⟩)); (exact bodyPost_ret (v := .bool false) (by simp [results, Tryz.results46, go_sem, *]) rfl ⟨rfl, HB.out⟩))
    · ((obtain rfl : r = false := (by rw [HR.out]; simp; try omega)); clear HR; go_enter Tryz.func46, Tryz.ntmps46; go_wp2_with (first | (go_at_call 33; refine (hc _).mono ?_; rintro e w' ⟨rfl, rfl⟩)); (exact bodyPost_ret (v := .bool false) (by simp [results, Tryz.results46, go_sem, *]) rfl ⟨rfl, HB.out⟩))
  · ((obtain rfl : r = false := (by rw [HR.out]; simp; try omega)); clear HR; go_enter Tryz.func46, Tryz.ntmps46; go_wp2_with (first | (go_at_call 33; refine (hc _).mono ?_; rintro e w' ⟨rfl, rfl⟩)); (exact bodyPost_ret (v := .bool false) (by simp [results, Tryz.results46, go_sem, *]) rfl ⟨rfl, HB.out⟩))
theorem ins_mono {l m a b : Int} (h : insB l a b = true) (hlm : l ≤ m) : insB m a b = true := by
  have hh : hf l ≤ hf m := by
    rw [hf_nat, hf_nat]
    have : hfN l ≤ hfN m := by unfold hfN; omega
    have := Nat.pow_le_pow_right (n := 2) (by decide) this
    omega
  unfold insB at h ⊢
  rw [decide_eq_true_eq] at h ⊢
  omega
/-- Has a root of that level a box's two points? -/
def hasB (l : Int) (q : Q) : Bool := insB l q.1 q.2.1 && insB l q.2.2.1 q.2.2.2
theorem has_mono {l m : Int} {q : Q} (h : hasB l q = true) (hlm : l ≤ m) : hasB m q = true := by
  unfold hasB at h ⊢
  rw [Bool.and_eq_true] at h ⊢
  exact ⟨ins_mono h.1 hlm, ins_mono h.2 hlm⟩
theorem keepB {W w' : World} {P : Nat} {q : Q} (k : Blk W P 40 (Bx q)) (hb : Below W.heap.size W w') :
    w'.cell? ⟨P, 0, none⟩ = some (.int .i64 q.1) ∧ w'.cell? ⟨P, 1, none⟩ = some (.int .i64 q.2.1) ∧ w'.cell? ⟨P, 2, none⟩ = some (.int .i64 q.2.2.1) ∧ w'.cell? ⟨P, 3, none⟩ = some (.int .i64 q.2.2.2) :=
  ⟨(k.under hb).cell 0, (k.under hb).cell 1, (k.under hb).cell 2, (k.under hb).cell 3⟩
set_option maxRecDepth 100000 in
theorem has_any (l : Int) (q : Q) (w : World) :
    Calls Tryz.prog 56 #[.int .i64 l, .agg (Bx q)] w fun e w' => e = .returned (.bool (hasB l q)) ∧ Below w.heap.size w w' := by
  have hi1 := fun W => inside_any l q.1 q.2.1 W
  have hi2 := fun W => inside_any l q.2.2.1 q.2.2.2 W
  have kB := Blk.newAt w 40 (Bx q) _ rfl
  have hbw : Below w.heap.size w (w.alloc (.cells (Bx q) 40)) := by go_grown
  obtain ⟨b0, b1, b2, b3⟩ := keepB kB (Below.refl _ _)
  have HB := Lib.hid hbw
  clear hbw
  rcases h1 : insB l q.1 q.2.1 with _ | _
  · rw [h1] at hi1
    clear hi2
    go_enter Tryz.func56, Tryz.ntmps56
    go_wp2_with fail
    refine (hi1 _).mono ?_
    rintro e w1 ⟨rfl, hb1⟩
    have HW := Lib.hid (HB.out.trans (hb1.mono HB.out.size))
    clear hb1 hi1
    go_wp2_with fail
    exact bodyPost_ret (v := .bool false) (by simp [results, Tryz.results56, go_sem, *]) rfl ⟨by unfold hasB; rw [h1]; rfl, HW.out⟩
  · rw [h1] at hi1
    go_enter Tryz.func56, Tryz.ntmps56
    go_wp2_with fail
    refine (hi1 _).mono ?_
    rintro e w1 ⟨rfl, hb1⟩
    have HW := Lib.hid (HB.out.trans (hb1.mono HB.out.size))
    obtain ⟨b0', b1', b2', b3'⟩ := keepB kB hb1
    clear hb1 hi1 b0 b1 b2 b3
    go_wp2_with fail
    refine (hi2 _).mono ?_
    rintro e w2 ⟨rfl, hb2⟩
    have HW2 := Lib.hid (HW.out.trans (hb2.mono HW.out.size))
    clear hb2 hi2 b0' b1' b2' b3'
    go_wp2_with fail
    exact bodyPost_ret (v := .bool (insB l q.2.2.1 q.2.2.2)) (by simp [results, Tryz.results56, go_sem, *]) rfl ⟨by unfold hasB; rw [h1]; rfl, HW2.out⟩
/-- The least level of a box. -/
structure Lst (q : Q) (l : Nat) : Prop where
  lo : 3 ≤ l
  hi : l ≤ 44
  no : ∀ m : Nat, 3 ≤ m → m < l → hasB m q = false
  yes : l < 44 → hasB l q = true
theorem Lst.uniq {q : Q} {l m : Nat} (h : Lst q l) (k : Lst q m) : l = m := by
  rcases Nat.lt_trichotomy l m with a | a | a
  · have := k.no l h.lo a
    rw [h.yes (by have := k.hi; omega)] at this
    cases this
  · exact a
  · have := h.no m k.lo a
    rw [k.yes (by have := h.hi; omega)] at this
    cases this
def LeR (w : World) (B : Nat) (q : Q) (t3 : Value) (wr : World) : Prop :=
  ∃ l : Nat, 3 ≤ l ∧ l ≤ 44 ∧ (∀ m : Nat, 3 ≤ m → m < l → hasB m q = false) ∧ t3 = .int .i64 l ∧ Blk wr B 40 (Bx q) ∧ Below w.heap.size w wr
set_option maxRecDepth 100000 in
theorem level_any (q : Q) (w : World) :
    Calls Tryz.prog 58 #[.agg (Bx q)] w fun e w' => ∃ l : Nat, e = .returned (.int .i64 l) ∧ Lst q l ∧ Below w.heap.size w w' := by
  have kB := Blk.newAt w 40 (Bx q) _ rfl
  have hbw : Below w.heap.size w (w.alloc (.cells (Bx q) 40)) := by go_grown
  have HB := Lib.hid hbw
  clear hbw
  go_enter Tryz.func58, Tryz.ntmps58
  go_wp2_with fail
  go_loopw [3] (fun t3 wr => LeR w w.heap.size q t3 wr) (fun t3 _ => 44 - (intOf t3).toNat)
  case atStart => exact ⟨3, by omega, by omega, fun m h1 h2 => by omega, rfl, kB, HB.out⟩
  case round =>
    obtain ⟨l, hl, hl2, hno, rfl, kB, hb⟩ := hrel
    have HNo := Lib.hid hno
    have hh := fun W => has_any l q W
    clear hno
    by_cases h44 : l < 44
    · obtain ⟨b0, b1, b2, b3⟩ := keepB kB (Below.refl _ _)
      have hBl := kB.lt
      have hd : decide ((l : Int) < 44) = true := by simp; omega
      rcases hs : hasB l q with _ | _
      · rw [hs] at hh
        go_wp2_with fail
        refine (hh _).mono ?_
        rintro e w1 ⟨rfl, hb1⟩
        have HW := Lib.hid (hb.trans (hb1.mono hb.size))
        have HK := Lib.hid (kB.under hb1)
        have HS := Lib.hid hs
        clear hb1 hh b0 b1 b2 b3 kB hb hs
        go_wp2_with fail
        exact ⟨⟨l + 1, by omega, by omega, fun m h1 h2 => by rcases Nat.lt_or_ge m l with h | h; exact HNo.out m h1 h; obtain rfl : m = l := (by omega); exact HS.out, by go_num, HK.out, HW.out⟩, by simp [intOf]; omega⟩
      · rw [hs] at hh
        go_wp2_with fail
        refine (hh _).mono ?_
        rintro e w1 ⟨rfl, hb1⟩
        have HW := Lib.hid (hb.trans (hb1.mono hb.size))
        have HS := Lib.hid hs
        clear hb1 hh b0 b1 b2 b3 kB hb hs
        go_wp2_with fail
        go_ret
        exact ⟨l, rfl, ⟨hl, hl2, HNo.out, fun _ => HS.out⟩, HW.out⟩
    · obtain rfl : l = 44 := by omega
      clear hh
      go_wp2_with fail
      go_ret
      exact ⟨44, rfl, ⟨hl, hl2, HNo.out, fun h => absurd h h44⟩, hb⟩
end Go.Proofs.YtahlinekbllkaaaGreatDoor.Tr
