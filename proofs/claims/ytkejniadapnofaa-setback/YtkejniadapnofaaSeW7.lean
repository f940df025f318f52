/- set's Put, Same. -/
import Derived.Test.YtkejniadapnofaaSeW6
namespace Go.Proofs.Ytkejniadapnofaa.Se
open Go.RowKit Go.Proofs.Ytkejniadapnofaa.Ax Go.Proofs.Ytkejniadapnofaa.Ba Go.Shelf Go.Lib Go.Sort

theorem concat_put (w w2 : World) (S X : Nat) (v0 v2 : Value) (L0 L2 : List C) (c : C) (h0 : PartAt w v0 L0) (h2 : PartAt w v2 L2) (hb : Below w.heap.size w w2) (kX : Blk w2 X 37 #[.int .i64 c.1, .int .i64 c.2.1, .int .i64 c.2.2]) (kS : Blk w2 S 28 #[v0, .slice (some ⟨X, 0, none⟩) 1 1, v2]) (hl : L0.length + L2.length ≤ 2000000) :
    Calls Try.prog 33 #[.slice (some ⟨S, 0, none⟩) 3 3] w2 fun e w' => ∃ v', e = .returned v' ∧ SetAt w' v' (L0 ++ c :: L2) ∧ Below w2.heap.size w2 w' := by
  have hP : Parts w2 S [(v0, L0), (.slice (some ⟨X, 0, none⟩) 1 1, [c]), (v2, L2)] := by
    refine ⟨kS, fun p hp => ?_⟩
    simp at hp
    rcases hp with rfl | rfl | rfl
    · exact h0.below hb
    · refine .inr ⟨X, 0, 1, rfl, fun j u hu => ?_, kX.lt⟩
      rw [Nat.zero_add, kX.cell j]
      simpa [flat, encC] using hu
    · exact h2.below hb
  have hcat : cat [(v0, L0), (.slice (some ⟨X, 0, none⟩) 1 1, [c]), (v2, L2)] 3 = L0 ++ c :: L2 := by simp [cat]
  have hcon := concat_any S 3 [(v0, L0), (.slice (some ⟨X, 0, none⟩) 1 1, [c]), (v2, L2)] w2 hP (by simp) (by rw [show ([(v0, L0), (.slice (some ⟨X, 0, none⟩) 1 1, [c]), (v2, L2)] : List (Value × List C)).length = 3 from rfl, hcat]; simp; omega)
  rw [show ([(v0, L0), (.slice (some ⟨X, 0, none⟩) 1 1, [c]), (v2, L2)] : List (Value × List C)).length = 3 from rfl, hcat] at hcon
  refine hcon.mono ?_
  rintro e w' ⟨v', rfl, ho, hb'⟩
  exact ⟨v', rfl, set_of_own ho, hb'⟩
theorem concat_del (w w2 : World) (S : Nat) (v0 v2 : Value) (L0 L2 : List C) (h0 : PartAt w v0 L0) (h2 : PartAt w v2 L2) (hb : Below w.heap.size w w2) (kS : Blk w2 S 28 #[v0, v2]) (hl : L0.length + L2.length ≤ 2000000) :
    Calls Try.prog 33 #[.slice (some ⟨S, 0, none⟩) 2 2] w2 fun e w' => ∃ v', e = .returned v' ∧ SetAt w' v' (L0 ++ L2) ∧ Below w2.heap.size w2 w' := by
  have hP : Parts w2 S [(v0, L0), (v2, L2)] := by
    refine ⟨kS, fun p hp => ?_⟩
    simp at hp
    rcases hp with rfl | rfl
    · exact h0.below hb
    · exact h2.below hb
  have hcat : cat [(v0, L0), (v2, L2)] 2 = L0 ++ L2 := by simp [cat]
  have hcon := concat_any S 2 [(v0, L0), (v2, L2)] w2 hP (by simp) (by rw [show ([(v0, L0), (v2, L2)] : List (Value × List C)).length = 2 from rfl, hcat]; simp; omega)
  rw [show ([(v0, L0), (v2, L2)] : List (Value × List C)).length = 2 from rfl, hcat] at hcon
  refine hcon.mono ?_
  rintro e w' ⟨v', rfl, ho, hb'⟩
  exact ⟨v', rfl, set_of_own ho, hb'⟩
theorem flat_cons (c : C) (L : List C) : flat (c :: L) = .int .i64 c.1 :: .int .i64 c.2.1 :: .int .i64 c.2.2 :: flat L := by simp [flat, encC]
theorem flat_drop : ∀ (L : List C) (b : Nat), flat (L.drop b) = (flat L).drop (b * 3)
  | [], b => by simp [flat]
  | c :: L, 0 => by simp
  | c :: L, b + 1 => by rw [List.drop_succ_cons, flat_drop L b, flat_cons, show (b + 1) * 3 = b * 3 + 1 + 1 + 1 by omega]; simp
theorem flat_take : ∀ (L : List C) (b : Nat), flat (L.take b) = (flat L).take (b * 3)
  | [], b => by simp [flat]
  | c :: L, 0 => by simp [flat]
  | c :: L, b + 1 => by rw [List.take_succ_cons, flat_cons, flat_take L b, flat_cons, show (b + 1) * 3 = b * 3 + 1 + 1 + 1 by omega]; simp
theorem part_take {w : World} {g cap : Nat} {L : List C} (hr : Row w g L) (b : Nat) (hb : b ≤ L.length) : PartAt w (.slice (some ⟨g, 0, none⟩) b cap) (L.take b) := by
  refine .inr ⟨g, 0, cap, by rw [List.length_take, Nat.min_eq_left hb], fun j u hu => ?_, hr.2⟩
  rw [flat_take, List.getElem?_take] at hu
  split at hu
  · exact hr.flat j u hu
  · cases hu
theorem part_drop {w : World} {g cap : Nat} {L : List C} (hr : Row w g L) (b : Nat) : PartAt w (.slice (some ⟨g, b * 3, none⟩) (L.length - b) cap) (L.drop b) := by
  refine .inr ⟨g, b * 3, cap, by rw [List.length_drop], fun j u hu => ?_, hr.2⟩
  rw [flat_drop, List.getElem?_drop] at hu
  have := hr.flat _ u hu
  rwa [Nat.zero_add] at this
theorem part_drop_if {w : World} {g cap : Nat} {L : List C} (hr : Row w g L) (b : Nat) (hcap : L.length ≤ cap) : PartAt w (.slice (if cap = b then some ⟨g, 0, none⟩ else some ⟨g, b * 3, none⟩) (L.length - b) (cap - b)) (L.drop b) := by
  split
  · rename_i h
    have e : L.drop b = [] := List.drop_eq_nil_of_le (by omega)
    rw [e, show L.length - b = 0 by omega]
    exact .inr ⟨g, 0, cap - b, rfl, fun j u hu => by simp [flat] at hu, hr.2⟩
  · exact part_drop hr b
theorem keepB {W w' : World} {B : Nat} {t : TypeId} {a b h : Value} (k : Blk W B t #[a, b, h]) (hb : Below W.heap.size W w') : w'.cell? ⟨B, 0, none⟩ = some a ∧ w'.cell? ⟨B, 1, none⟩ = some b ∧ w'.cell? ⟨B, 2, none⟩ = some h :=
  ⟨(k.under hb).cell 0, (k.under hb).cell 1, (k.under hb).cell 2⟩
set_option maxRecDepth 100000 in
set_option maxHeartbeats 4000000 in
theorem put_row (g cap : Nat) (L : List C) (c : C) (w : World) (hr : Row w g L) (hcap : L.length ≤ cap) (hR : Rising L) (hL : L.length ≤ 1000000) :
    Calls Try.prog 15 #[.slice (some ⟨g, 0, none⟩) L.length cap, Ce c, .bool true] w fun e w' => ∃ v', e = .returned v' ∧ SetAt w' v' (ins L c) ∧ Below w.heap.size w w' := by
  have hb0 : Below w.heap.size w (w.alloc (.cells #[.int .i64 c.1, .int .i64 c.2.1, .int .i64 c.2.2] 37)) := (Below.refl _ _).alloc (Nat.le_refl _) _
  have hfi := find_any (.slice (some ⟨g, 0, none⟩) L.length cap) L c _ (.inr ⟨g, cap, rfl, hcap, hr.below hb0⟩) hR hL
  obtain ⟨hp1, hp2⟩ := parts hR c
  have HP1 := Lib.hid hp1
  have HP2 := Lib.hid hp2
  have hpl := pos_le L c
  have hpm : c ∈ L → pos L c < L.length := fun hc => by
    have h := at_pos hR c
    rw [decide_eq_true hc] at h
    rcases Nat.lt_or_ge (pos L c) L.length with hlt | hge
    · exact hlt
    · rw [List.getElem?_eq_none hge] at h; cases h
  clear hp1 hp2
  generalize pos L c = P at *
  have hk0 := (Blk.newAt w 37 #[.int .i64 c.1, .int .i64 c.2.1, .int .i64 c.2.2] _ rfl)
  by_cases hc : c ∈ L
  · have hP1 := hpm hc
    rw [decide_eq_true hc] at hfi
    rw [if_pos hc] at HP2
    clear hc hpm
    go_enter Try.func15, Try.ntmps15
    go_wp2_with fail
    refine hfi.mono ?_
    rintro e w1 ⟨rfl, hb1⟩
    have k1 := hk0.under hb1
    have hb2 := hb0.trans (hb1.mono hb0.size)
    have hr1 := hr.below hb2
    clear hfi hb1 hk0 hb0
    go_upto_region 6 with fail
    have h0 : PartAt w1 (.slice (some ⟨g, 0, none⟩) P cap) (L.take P) := part_take hr1 P (by omega)
    have h2 := part_drop_if (cap := cap) hr1 (P + 1) hcap
    obtain ⟨q0, q1, q2⟩ := And.intro (k1.cell 0) (And.intro (k1.cell 1) (k1.cell 2))
    simp only [List.getElem?_toArray, List.getElem?_cons_zero, List.getElem?_cons_succ] at q0 q1 q2
    have hl0 := k1.lt
    go_cut [6] (fun v wx => SetAt wx v (ins L c) ∧ Below w1.heap.size w1 wx)
    case first =>
      have hkb : Below w1.heap.size w1 w1 := Below.refl _ _
      have i1 : (0 : Int) ≤ (P : Int) := by omega
      have i2 : (P : Int) ≤ (cap : Int) := by omega
      have i3 : (P : Int) + 1 ≤ (L.length : Int) := by omega
      have i4 : (L.length : Int) ≤ (cap : Int) := by omega
      have i5 : (0 : Int) ≤ (P : Int) + 1 := by omega
      obtain ⟨p2, hif⟩ : ∃ p2 : Option Addr, (if cap = (P + 1) then some (⟨g, 0, none⟩ : Addr) else some ⟨g, (P + 1) * 3, none⟩) = p2 := ⟨_, rfl⟩
      rw [hif] at h2
      go_region_held3 (fun w' => w'.cell? ⟨w.heap.size, 0, none⟩ = some (.int .i64 c.1) ∧ w'.cell? ⟨w.heap.size, 1, none⟩ = some (.int .i64 c.2.1) ∧ w'.cell? ⟨w.heap.size, 2, none⟩ = some (.int .i64 c.2.2)) (first | (refine keepB k1 ?_; go_grown; done))
        (first | (go_at_call 33; refine (concat_put w1 _ (w1.heap.size + 1) w1.heap.size _ _ (L.take P) (L.drop (P + 1)) c h0 h2 (by go_grown) (by exact (Blk.newAt w1 _ _ _ rfl).alloc _) (by exact Blk.newAt (w1.alloc _) _ _ _ (by simp)) (by simp; omega)).mono ?_; rintro e w6 ⟨v6, rfl, hset, hb'⟩; have hkb : Below w1.heap.size w1 w6 := Ba.below_call hb' (by go_grown) (by simp; omega); clear hb'))
      all_goals go_wp2_with fail
      all_goals go_meet
      all_goals exact ⟨by rw [HP1.out, HP2.out] at hset; exact hset, by go_grown⟩
    case rest =>
      obtain ⟨hset, hbw⟩ := hcut
      go_wp2
      go_ret
      exact ⟨_, rfl, hset, hb2.trans (hbw.mono hb2.size)⟩
  · rw [decide_eq_false hc] at hfi
    rw [if_neg hc, Nat.add_zero] at HP2
    clear hc hpm
    go_enter Try.func15, Try.ntmps15
    go_wp2_with fail
    refine hfi.mono ?_
    rintro e w1 ⟨rfl, hb1⟩
    have k1 := hk0.under hb1
    have hb2 := hb0.trans (hb1.mono hb0.size)
    have hr1 := hr.below hb2
    clear hfi hb1 hk0 hb0
    go_upto_region 6 with fail
    have h0 : PartAt w1 (.slice (some ⟨g, 0, none⟩) P cap) (L.take P) := part_take hr1 P (by omega)
    have h2 := part_drop_if (cap := cap) hr1 P hcap
    obtain ⟨q0, q1, q2⟩ := And.intro (k1.cell 0) (And.intro (k1.cell 1) (k1.cell 2))
    simp only [List.getElem?_toArray, List.getElem?_cons_zero, List.getElem?_cons_succ] at q0 q1 q2
    have hl0 := k1.lt
    go_cut [6] (fun v wx => SetAt wx v (ins L c) ∧ Below w1.heap.size w1 wx)
    case first =>
      have hkb : Below w1.heap.size w1 w1 := Below.refl _ _
      have i1 : (0 : Int) ≤ (P : Int) := by omega
      have i2 : (P : Int) ≤ (cap : Int) := by omega
      have i3 : (P : Int) ≤ (L.length : Int) := by omega
      have i4 : (L.length : Int) ≤ (cap : Int) := by omega
      have i5 : (0 : Int) ≤ (P : Int) := by omega
      obtain ⟨p2, hif⟩ : ∃ p2 : Option Addr, (if cap = P then some (⟨g, 0, none⟩ : Addr) else some ⟨g, P * 3, none⟩) = p2 := ⟨_, rfl⟩
      rw [hif] at h2
      go_region_held3 (fun w' => w'.cell? ⟨w.heap.size, 0, none⟩ = some (.int .i64 c.1) ∧ w'.cell? ⟨w.heap.size, 1, none⟩ = some (.int .i64 c.2.1) ∧ w'.cell? ⟨w.heap.size, 2, none⟩ = some (.int .i64 c.2.2)) (first | (refine keepB k1 ?_; go_grown; done))
        (first | (go_at_call 33; refine (concat_put w1 _ (w1.heap.size + 1) w1.heap.size _ _ (L.take P) (L.drop P) c h0 h2 (by go_grown) (by exact (Blk.newAt w1 _ _ _ rfl).alloc _) (by exact Blk.newAt (w1.alloc _) _ _ _ (by simp)) (by simp; omega)).mono ?_; rintro e w6 ⟨v6, rfl, hset, hb'⟩; have hkb : Below w1.heap.size w1 w6 := Ba.below_call hb' (by go_grown) (by simp; omega); clear hb'))
      all_goals go_wp2_with fail
      all_goals go_meet
      all_goals exact ⟨by rw [HP1.out, HP2.out] at hset; exact hset, by go_grown⟩
    case rest =>
      obtain ⟨hset, hbw⟩ := hcut
      go_wp2
      go_ret
      exact ⟨_, rfl, hset, hb2.trans (hbw.mono hb2.size)⟩
set_option maxRecDepth 100000 in
set_option maxHeartbeats 4000000 in
theorem less_row (g cap : Nat) (L : List C) (c : C) (w : World) (hr : Row w g L) (hcap : L.length ≤ cap) (hR : Rising L) (hL : L.length ≤ 1000000) :
    Calls Try.prog 15 #[.slice (some ⟨g, 0, none⟩) L.length cap, Ce c, .bool false] w fun e w' => ∃ v', e = .returned v' ∧ SetAt w' v' (del L c) ∧ Below w.heap.size w w' := by
  have hb0 : Below w.heap.size w (w.alloc (.cells #[.int .i64 c.1, .int .i64 c.2.1, .int .i64 c.2.2] 37)) := (Below.refl _ _).alloc (Nat.le_refl _) _
  have hfi := find_any (.slice (some ⟨g, 0, none⟩) L.length cap) L c _ (.inr ⟨g, cap, rfl, hcap, hr.below hb0⟩) hR hL
  obtain ⟨hp1, hp2⟩ := parts hR c
  have HP1 := Lib.hid hp1
  have HP2 := Lib.hid hp2
  have hpl := pos_le L c
  have hpm : c ∈ L → pos L c < L.length := fun hc => by
    have h := at_pos hR c
    rw [decide_eq_true hc] at h
    rcases Nat.lt_or_ge (pos L c) L.length with hlt | hge
    · exact hlt
    · rw [List.getElem?_eq_none hge] at h; cases h
  clear hp1 hp2
  generalize pos L c = P at *
  have hk0 := (Blk.newAt w 37 #[.int .i64 c.1, .int .i64 c.2.1, .int .i64 c.2.2] _ rfl)
  by_cases hc : c ∈ L
  · have hP1 := hpm hc
    rw [decide_eq_true hc] at hfi
    rw [if_pos hc] at HP2
    clear hc hpm
    go_enter Try.func15, Try.ntmps15
    go_wp2_with fail
    refine hfi.mono ?_
    rintro e w1 ⟨rfl, hb1⟩
    have k1 := hk0.under hb1
    have hb2 := hb0.trans (hb1.mono hb0.size)
    have hr1 := hr.below hb2
    clear hfi hb1 hk0 hb0
    go_upto_region 7 with fail
    have h0 : PartAt w1 (.slice (some ⟨g, 0, none⟩) P cap) (L.take P) := part_take hr1 P (by omega)
    have h2 := part_drop_if (cap := cap) hr1 (P + 1) hcap
    have hl0 := k1.lt
    go_cut [6] (fun v wx => SetAt wx v (del L c) ∧ Below w1.heap.size w1 wx)
    case first =>
      have hkb : Below w1.heap.size w1 w1 := Below.refl _ _
      have i1 : (0 : Int) ≤ (P : Int) := by omega
      have i2 : (P : Int) ≤ (cap : Int) := by omega
      have i3 : (P : Int) + 1 ≤ (L.length : Int) := by omega
      have i4 : (L.length : Int) ≤ (cap : Int) := by omega
      have i5 : (0 : Int) ≤ (P : Int) + 1 := by omega
      obtain ⟨p2, hif⟩ : ∃ p2 : Option Addr, (if cap = (P + 1) then some (⟨g, 0, none⟩ : Addr) else some ⟨g, (P + 1) * 3, none⟩) = p2 := ⟨_, rfl⟩
      rw [hif] at h2
      go_region_held3 (fun _ => True) (first | trivial)
        (first | (go_at_call 33; refine (concat_del w1 _ w1.heap.size _ _ (L.take P) (L.drop (P + 1)) h0 h2 (by go_grown) (by exact Blk.newAt w1 _ _ _ rfl) (by simp; omega)).mono ?_; rintro e w6 ⟨v6, rfl, hset, hb'⟩; have hkb : Below w1.heap.size w1 w6 := Ba.below_call hb' (by go_grown) (by simp); clear hb'))
      all_goals go_wp2_with fail
      all_goals go_meet
      all_goals exact ⟨by rw [HP1.out, HP2.out] at hset; exact hset, by go_grown⟩
    case rest =>
      obtain ⟨hset, hbw⟩ := hcut
      go_wp2
      go_ret
      exact ⟨_, rfl, hset, hb2.trans (hbw.mono hb2.size)⟩
  · rw [decide_eq_false hc] at hfi
    rw [if_neg hc, Nat.add_zero] at HP2
    clear hc hpm
    go_enter Try.func15, Try.ntmps15
    go_wp2_with fail
    refine hfi.mono ?_
    rintro e w1 ⟨rfl, hb1⟩
    have k1 := hk0.under hb1
    have hb2 := hb0.trans (hb1.mono hb0.size)
    have hr1 := hr.below hb2
    clear hfi hb1 hk0 hb0
    go_upto_region 7 with fail
    have h0 : PartAt w1 (.slice (some ⟨g, 0, none⟩) P cap) (L.take P) := part_take hr1 P (by omega)
    have h2 := part_drop_if (cap := cap) hr1 P hcap
    have hl0 := k1.lt
    go_cut [6] (fun v wx => SetAt wx v (del L c) ∧ Below w1.heap.size w1 wx)
    case first =>
      have hkb : Below w1.heap.size w1 w1 := Below.refl _ _
      have i1 : (0 : Int) ≤ (P : Int) := by omega
      have i2 : (P : Int) ≤ (cap : Int) := by omega
      have i3 : (P : Int) ≤ (L.length : Int) := by omega
      have i4 : (L.length : Int) ≤ (cap : Int) := by omega
      have i5 : (0 : Int) ≤ (P : Int) := by omega
      obtain ⟨p2, hif⟩ : ∃ p2 : Option Addr, (if cap = P then some (⟨g, 0, none⟩ : Addr) else some ⟨g, P * 3, none⟩) = p2 := ⟨_, rfl⟩
      rw [hif] at h2
      go_region_held3 (fun _ => True) (first | trivial)
        (first | (go_at_call 33; refine (concat_del w1 _ w1.heap.size _ _ (L.take P) (L.drop P) h0 h2 (by go_grown) (by exact Blk.newAt w1 _ _ _ rfl) (by simp; omega)).mono ?_; rintro e w6 ⟨v6, rfl, hset, hb'⟩; have hkb : Below w1.heap.size w1 w6 := Ba.below_call hb' (by go_grown) (by simp); clear hb'))
      all_goals go_wp2_with fail
      all_goals go_meet
      all_goals exact ⟨by rw [HP1.out, HP2.out] at hset; exact hset, by go_grown⟩
    case rest =>
      obtain ⟨hset, hbw⟩ := hcut
      go_wp2
      go_ret
      exact ⟨_, rfl, hset, hb2.trans (hbw.mono hb2.size)⟩
set_option maxRecDepth 100000 in
set_option maxHeartbeats 4000000 in
theorem put_nil (c : C) (w : World) :
    Calls Try.prog 15 #[.slice none 0 0, Ce c, .bool true] w fun e w' => ∃ v', e = .returned v' ∧ SetAt w' v' (ins [] c) ∧ Below w.heap.size w w' := by
  have hb0 : Below w.heap.size w (w.alloc (.cells #[.int .i64 c.1, .int .i64 c.2.1, .int .i64 c.2.2] 37)) := (Below.refl _ _).alloc (Nat.le_refl _) _
  have hfi := find_any (.slice none 0 0) [] c (h := .inl ⟨rfl, rfl⟩) (hR := List.Pairwise.nil) (hL := by simp) (w := w.alloc (.cells #[.int .i64 c.1, .int .i64 c.2.1, .int .i64 c.2.2] 37))
  rw [show pos [] c = 0 from rfl, show decide (c ∈ ([] : List C)) = false by simp] at hfi
  have hk0 := (Blk.newAt w 37 #[.int .i64 c.1, .int .i64 c.2.1, .int .i64 c.2.2] _ rfl)
  go_enter Try.func15, Try.ntmps15
  go_wp2_with fail
  refine hfi.mono ?_
  rintro e w1 ⟨rfl, hb1⟩
  have k1 := hk0.under hb1
  have hb2 := hb0.trans (hb1.mono hb0.size)
  clear hfi hb1 hk0 hb0
  go_upto_region 6 with fail
  have h0 : PartAt w1 (.slice none 0 0) [] := .inl ⟨rfl, rfl⟩
  obtain ⟨q0, q1, q2⟩ := And.intro (k1.cell 0) (And.intro (k1.cell 1) (k1.cell 2))
  simp only [List.getElem?_toArray, List.getElem?_cons_zero, List.getElem?_cons_succ] at q0 q1 q2
  have hl0 := k1.lt
  go_cut [6] (fun v wx => SetAt wx v (ins [] c) ∧ Below w1.heap.size w1 wx)
  case first =>
    have hkb : Below w1.heap.size w1 w1 := Below.refl _ _
    go_region_held3 (fun w' => w'.cell? ⟨w.heap.size, 0, none⟩ = some (.int .i64 c.1) ∧ w'.cell? ⟨w.heap.size, 1, none⟩ = some (.int .i64 c.2.1) ∧ w'.cell? ⟨w.heap.size, 2, none⟩ = some (.int .i64 c.2.2)) (first | (refine keepB k1 ?_; go_grown; done))
      (first | (go_at_call 33; refine (concat_put w1 _ (w1.heap.size + 1) w1.heap.size _ _ [] [] c h0 h0 (by go_grown) (by exact (Blk.newAt w1 _ _ _ rfl).alloc _) (by exact Blk.newAt (w1.alloc _) _ _ _ (by simp)) (by simp)).mono ?_; rintro e w6 ⟨v6, rfl, hset, hb'⟩; have hkb : Below w1.heap.size w1 w6 := Ba.below_call hb' (by go_grown) (by simp; omega); clear hb'))
    all_goals go_wp2_with fail
    all_goals go_meet
    all_goals exact ⟨hset, by go_grown⟩
  case rest =>
    obtain ⟨hset, hbw⟩ := hcut
    go_wp2
    go_ret
    exact ⟨_, rfl, hset, hb2.trans (hbw.mono hb2.size)⟩
set_option maxRecDepth 100000 in
set_option maxHeartbeats 4000000 in
theorem less_nil (c : C) (w : World) :
    Calls Try.prog 15 #[.slice none 0 0, Ce c, .bool false] w fun e w' => ∃ v', e = .returned v' ∧ SetAt w' v' (del [] c) ∧ Below w.heap.size w w' := by
  have hb0 : Below w.heap.size w (w.alloc (.cells #[.int .i64 c.1, .int .i64 c.2.1, .int .i64 c.2.2] 37)) := (Below.refl _ _).alloc (Nat.le_refl _) _
  have hfi := find_any (.slice none 0 0) [] c (h := .inl ⟨rfl, rfl⟩) (hR := List.Pairwise.nil) (hL := by simp) (w := w.alloc (.cells #[.int .i64 c.1, .int .i64 c.2.1, .int .i64 c.2.2] 37))
  rw [show pos [] c = 0 from rfl, show decide (c ∈ ([] : List C)) = false by simp] at hfi
  have hk0 := (Blk.newAt w 37 #[.int .i64 c.1, .int .i64 c.2.1, .int .i64 c.2.2] _ rfl)
  go_enter Try.func15, Try.ntmps15
  go_wp2_with fail
  refine hfi.mono ?_
  rintro e w1 ⟨rfl, hb1⟩
  have k1 := hk0.under hb1
  have hb2 := hb0.trans (hb1.mono hb0.size)
  clear hfi hb1 hk0 hb0
  go_upto_region 7 with fail
  have h0 : PartAt w1 (.slice none 0 0) [] := .inl ⟨rfl, rfl⟩
  have hl0 := k1.lt
  go_cut [6] (fun v wx => SetAt wx v (del [] c) ∧ Below w1.heap.size w1 wx)
  case first =>
    have hkb : Below w1.heap.size w1 w1 := Below.refl _ _
    go_region_held3 (fun _ => True) (first | trivial)
      (first | (go_at_call 33; refine (concat_del w1 _ w1.heap.size _ _ [] [] h0 h0 (by go_grown) (by exact Blk.newAt w1 _ _ _ rfl) (by simp)).mono ?_; rintro e w6 ⟨v6, rfl, hset, hb'⟩; have hkb : Below w1.heap.size w1 w6 := Ba.below_call hb' (by go_grown) (by simp); clear hb'))
    all_goals go_wp2_with fail
    all_goals go_meet
    all_goals exact ⟨hset, by go_grown⟩
  case rest =>
    obtain ⟨hset, hbw⟩ := hcut
    go_wp2
    go_ret
    exact ⟨_, rfl, hset, hb2.trans (hbw.mono hb2.size)⟩
def putL (L : List C) (c : C) (b : Bool) : List C := if b then ins L c else del L c
theorem put_any (v : Value) (L : List C) (c : C) (b : Bool) (w : World) (h : SetAt w v L) (hR : Rising L) (hL : L.length ≤ 1000000) :
    Calls Try.prog 15 #[v, Ce c, .bool b] w fun e w' => ∃ v', e = .returned v' ∧ SetAt w' v' (putL L c b) ∧ Below w.heap.size w w' := by
  rcases h with ⟨rfl, rfl⟩ | ⟨g, cap, rfl, hc, hr⟩
  · cases b
    · exact less_nil c w
    · exact put_nil c w
  · cases b
    · exact less_row g cap L c w hr hc hR hL
    · exact put_row g cap L c w hr hc hR hL
end Go.Proofs.Ytkejniadapnofaa.Se
