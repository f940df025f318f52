/- Contracts of package arena: New, Len, Most, at, and what is told of a node. -/
import Derived.Test.YtahlinekbllkaaaGreatDoorArM
namespace Go.Proofs.YtahlinekbllkaaaGreatDoor.Ar
open Go.RowKit Go.Proofs.YtahlinekbllkaaaGreatDoor.Ba Go.Proofs.YtahlinekbllkaaaGreatDoor.Mp Go.Lib Go.Maps

theorem ret_int {k : IntKind} {a b : Int} (h : a = b) : Ending.returned (.int k a) = .returned (.int k b) := by rw [h]
/-- The value of a pointer to an arena. -/
abbrev Pt (g : Nat) : Value := .pointer (some ⟨g, 0, none⟩)
theorem own_slice {w : World} {base n size : Nat} {e : TypeId} {v : Value} {xs : List Value} (h : w.ownsRow base e size v n xs) : ∃ p cap, v = .slice p n cap := by
  rcases h.2 with ⟨rfl, rfl⟩ | ⟨g, cap, cur, rfl, _⟩
  · exact ⟨_, _, rfl⟩
  · exact ⟨_, _, rfl⟩
theorem ArAt.cells {w : World} {g : Nat} {S : Sta} {P : Nat → Prop} (h : ArAt w g S P) : ∃ p cap lv jn, (w.cell? ⟨g, 0, none⟩ = some (.int .i64 S.more) ∧ w.cell? ⟨g, 1, none⟩ = some (.slice p S.N.length cap) ∧ w.cell? ⟨g, 2, none⟩ = some lv ∧ w.cell? ⟨g, 3, none⟩ = some jn) ∧ w.ownsRow 0 95 7 (.slice p S.N.length cap) S.N.length (flatN S.N) ∧ MapAt mkL w lv S.nL S.L ∧ MapAt mkJ w jn S.nJ S.J := by
  obtain ⟨s, lv, jn, h1, h2, h3, h4, _⟩ := h
  obtain ⟨p, cap, rfl⟩ := own_slice h2
  exact ⟨p, cap, lv, jn, ⟨h1.cell 0, h1.cell 1, h1.cell 2, h1.cell 3⟩, h2, h3, h4⟩
theorem len_any (g : Nat) (S : Sta) (P : Nat → Prop) (w : World) (h : ArAt w g S P) (hN : S.N.length ≤ 1000000) :
    Calls Tryz.prog 32 #[Pt g] w fun e w' => e = .returned (.int .i64 ((S.N.length + 1 : Nat) : Int)) ∧ w = w' := by
  obtain ⟨p, cap, lv, jn, ⟨-, c1, -, -⟩, -⟩ := h.cells
  have hlt := h.lt
  clear h
  go_enter Tryz.func32, Tryz.ntmps32
  go_wp2
  go_ret
  exact ⟨ret_int (by omega), rfl⟩
theorem most_any (g : Nat) (S : Sta) (P : Nat → Prop) (w : World) (h : ArAt w g S P) :
    Calls Tryz.prog 64 #[Pt g] w fun e w' => e = .returned (.int .i64 (64 + S.more)) ∧ w = w' := by
  obtain ⟨p, cap, lv, jn, ⟨c0, -, -, -⟩, -⟩ := h.cells
  have hlt := h.lt
  obtain ⟨_, _, _, -, -, -, -, -, -, -, hm1, hm2⟩ := h
  go_enter Tryz.func64, Tryz.ntmps64
  go_wp2
  go_ret
  exact ⟨ret_int (by omega), rfl⟩
theorem at_any (g i : Nat) (S : Sta) (P : Nat → Prop) (w : World) (h : ArAt w g S P) (hi : okU i) (hN : S.N.length ≤ 1000000) :
    Calls Tryz.prog 44 #[Pt g, .int .u32 i] w fun e w' => e = .returned (.tuple #[NV (ndAt S.N i).1, .bool (ndAt S.N i).2]) ∧ Below w.heap.size w w' := by
  obtain ⟨p, cap, lv, jn, ⟨-, c1, -, -⟩, ho, -⟩ := h.cells
  have hlt := h.lt
  clear h
  have hi' : i < 4294967296 := hi
  clear hi
  rcases i with _ | m
  · go_enter Tryz.func44, Tryz.ntmps44
    go_wp2
    exact bodyPost_ret (v := .tuple #[NV leaf0, .bool true]) (by simp [results, Tryz.results44, go_sem, leaf0]) rfl ⟨rfl, by go_grown⟩
  · by_cases hm : m < S.N.length
    · obtain ⟨d, hd⟩ : ∃ d, S.N[m]? = some d := ⟨_, List.getElem?_eq_getElem hm⟩
      have HD := Lib.hid (show ndAt S.N (m + 1) = (d, true) by simp [ndAt, hd])
      rcases ho.2 with ⟨hv, hn⟩ | ⟨G, cap', cur, hv, -, hg, -⟩
      · omega
      · injection hv with hv1 hv2 hv3
        subst hv1 hv3
        have hG : G < w.heap.size := by
          rcases Nat.lt_or_ge G w.heap.size with h' | h'
          · exact h'
          · rw [Array.getElem?_eq_none h'] at hg; cases hg
        have hc : ∀ j, j < 7 → w.cell? ⟨G, m * 7 + j, none⟩ = (encN d)[j]? := fun j hj => (ho.cellAt (m * 7 + j) (by omega)).trans (flatN_get _ m d hd j hj)
        have d0 := hc 0 (by omega)
        have d1 := hc 1 (by omega)
        have d2 := hc 2 (by omega)
        have d3 := hc 3 (by omega)
        have d4 := hc 4 (by omega)
        have d5 := hc 5 (by omega)
        have d6 := hc 6 (by omega)
        simp only [encN, List.getElem?_cons_zero, List.getElem?_cons_succ, Nat.add_zero] at d0 d1 d2 d3 d4 d5 d6
        have q2 : m * 7 + 2 = m * 7 + 1 + 1 := by omega
        have q3 : m * 7 + 3 = m * 7 + 1 + 1 + 1 := by omega
        have q4 : m * 7 + 4 = m * 7 + 1 + 1 + 1 + 1 := by omega
        have q5 : m * 7 + 5 = m * 7 + 1 + 1 + 1 + 1 + 1 := by omega
        have q6 : m * 7 + 6 = m * 7 + 1 + 1 + 1 + 1 + 1 + 1 := by omega
        rw [q2] at d2
        rw [q3] at d3
        rw [q4] at d4
        rw [q5] at d5
        rw [q6] at d6
        clear q2 q3 q4 q5 q6 hc hv2 hg ho hd
        have i1 : (m : Int) < (S.N.length : Int) := by omega
        have i2 : (0 : Int) ≤ (m : Int) := by omega
        go_enter Tryz.func44, Tryz.ntmps44
        go_wp2
        exact bodyPost_ret (v := .tuple #[NV d, .bool true]) (by simp [results, Tryz.results44, go_sem]) rfl ⟨by rw [HD.out], by go_grown⟩
    · have HD := Lib.hid (show ndAt S.N (m + 1) = (nd0, false) by simp [ndAt, List.getElem?_eq_none (by omega : S.N.length ≤ m)])
      go_enter Tryz.func44, Tryz.ntmps44
      go_wp2
      exact bodyPost_ret (v := .tuple #[NV nd0, .bool false]) (by simp [results, Tryz.results44, go_sem, nd0]) rfl ⟨by rw [HD.out], by go_grown⟩
def levelOf (N : List Nd) (i : Nat) : Int := if (ndAt N i).2 = true then (ndAt N i).1.level else -1
theorem level_any (g i : Nat) (S : Sta) (P : Nat → Prop) (w : World) (h : ArAt w g S P) (hi : okU i) (hN : S.N.length ≤ 1000000) :
    Calls Tryz.prog 15 #[Pt g, .int .u32 i] w fun e w' => e = .returned (.int .i64 (levelOf S.N i)) ∧ Below w.heap.size w w' := by
  have ha := at_any g i S P w h hi hN
  have hl : -1000 ≤ (ndAt S.N i).1.level ∧ (ndAt S.N i).1.level ≤ 1000 := by
    obtain ⟨_, _, _, -, -, -, -, -, hk, -⟩ := h
    unfold ndAt
    split
    · decide
    · split
      · rename_i d hd
        have := hk d (List.mem_of_getElem? hd)
        dsimp only
        omega
      · decide
  clear h
  cases ho : (ndAt S.N i).2
  · have HL := Lib.hid (show levelOf S.N i = -1 by unfold levelOf; rw [ho]; rfl)
    rw [ho] at ha
    go_enter Tryz.func15, Tryz.ntmps15
    go_wp2_with fail
    refine ha.mono ?_
    rintro e w' ⟨rfl, hb⟩
    have hz := hb.size
    go_wp2
    go_ret
    exact ⟨ret_int HL.out.symm, by go_grown⟩
  · have HL := Lib.hid (show levelOf S.N i = (ndAt S.N i).1.level by unfold levelOf; rw [ho]; rfl)
    rw [ho] at ha
    generalize (ndAt S.N i).1 = d at *
    go_enter Tryz.func15, Tryz.ntmps15
    go_wp2_with fail
    refine ha.mono ?_
    rintro e w' ⟨rfl, hb⟩
    have hz := hb.size
    go_wp2
    go_ret
    exact ⟨ret_int (by rw [HL.out]), by go_grown⟩
theorem bits_any (g i : Nat) (S : Sta) (P : Nat → Prop) (w : World) (h : ArAt w g S P) (hi : okU i) (hN : S.N.length ≤ 1000000) :
    Calls Tryz.prog 50 #[Pt g, .int .u32 i] w fun e w' => e = .returned (.int .u32 (ndAt S.N i).1.bits) ∧ Below w.heap.size w w' := by
  have ha := at_any g i S P w h hi hN
  clear h
  generalize (ndAt S.N i).1 = d at *
  generalize (ndAt S.N i).2 = o at *
  go_enter Tryz.func50, Tryz.ntmps50
  go_wp2_with fail
  refine ha.mono ?_
  rintro e w' ⟨rfl, hb⟩
  have hz := hb.size
  go_wp2
  go_ret
  exact ⟨rfl, by go_grown⟩
theorem count_any (g i : Nat) (S : Sta) (P : Nat → Prop) (w : World) (h : ArAt w g S P) (hi : okU i) (hN : S.N.length ≤ 1000000) :
    Calls Tryz.prog 17 #[Pt g, .int .u32 i] w fun e w' => e = .returned (.int .u64 (ndAt S.N i).1.count) ∧ Below w.heap.size w w' := by
  have ha := at_any g i S P w h hi hN
  clear h
  generalize (ndAt S.N i).1 = d at *
  generalize (ndAt S.N i).2 = o at *
  go_enter Tryz.func17, Tryz.ntmps17
  go_wp2_with fail
  refine ha.mono ?_
  rintro e w' ⟨rfl, hb⟩
  have hz := hb.size
  go_wp2
  go_ret
  exact ⟨rfl, by go_grown⟩
theorem kids_any (g i : Nat) (S : Sta) (P : Nat → Prop) (w : World) (h : ArAt w g S P) (hi : okU i) (hN : S.N.length ≤ 1000000) :
    Calls Tryz.prog 48 #[Pt g, .int .u32 i] w fun e w' => e = .returned (KV (ndAt S.N i).1.k) ∧ Below w.heap.size w w' := by
  have ha := fun W hW => at_any g i S P W hW hi hN
  generalize (ndAt S.N i).1 = d at *
  generalize (ndAt S.N i).2 = o at *
  go_enter Tryz.func48, Tryz.ntmps48
  go_wp2_with fail
  refine (ha _ (h.under (by go_grown))).mono ?_
  rintro e w' ⟨rfl, hb⟩
  have hz := hb.size
  simp at hz
  have k0 := (Blk.newAt w 93 #[.int .u32 0, .int .u32 0, .int .u32 0, .int .u32 0] _ rfl).under hb
  have hlt := k0.lt
  have q0 := k0.cell 0
  have q1 := k0.cell 1
  have q2 := k0.cell 2
  have q3 := k0.cell 3
  have f0 := k0.frozen 0
  have f1 := k0.frozen 1
  have f2 := k0.frozen 2
  have f3 := k0.frozen 3
  clear k0
  simp only [List.getElem?_toArray, List.getElem?_cons_zero, List.getElem?_cons_succ] at q0 q1 q2 q3
  have hbb : Below w.heap.size w w' := ((Below.refl _ _).alloc (Nat.le_refl _) _).trans (hb.mono (by simp))
  clear hb ha h
  go_wp2
  exact bodyPost_ret (v := KV d.k) (by simp [results, Tryz.results48, go_sem, *]) rfl ⟨rfl, by go_grown⟩
def newS (most : Int) : Sta := ⟨max most 64 - 64, [], fun _ => none, fun _ => none, 0, 0⟩
theorem new_any (most : Int) (hm : -9223372036854775808 ≤ most ∧ most ≤ 9223372036854775807) (w : World) :
    Calls Tryz.prog 31 #[.int .i64 most] w fun e w' => e = .returned (Pt w.heap.size) ∧ ArAt w' w.heap.size (newS most) (fun b => b = w.heap.size) ∧ Below w.heap.size w w' := by
  have h1 : 0 ≤ max most 64 - 64 := by omega
  have h2 : max most 64 - 64 ≤ 9223372036854775743 := by omega
  have HA := Lib.hid (show ∀ x : Int, x = max most 64 - 64 → ArAt (w.alloc (.cells #[.int .i64 x, .slice none 0 0, .map none, .map none] 126)) w.heap.size (newS most) (fun b => b = w.heap.size) from fun x hx =>
    ⟨_, _, _, by subst hx; exact Blk.newAt w _ _ _ rfl, World.ownsRow_nil _ _ _ _, .inl ⟨rfl, rfl⟩, .inl ⟨rfl, rfl⟩, ⟨rfl, fun b hb => by simp [Value.ownBlock] at hb, fun b hb => by simp [mapBlock] at hb, fun b hb => by simp [mapBlock] at hb, fun b hb => by simp [mapBlock] at hb⟩, fun d hd => by simp [newS] at hd, ⟨Nat.zero_le _, Nat.zero_le _⟩, h1, h2⟩)
  go_enter Tryz.func31, Tryz.ntmps31
  go_wp2
  all_goals go_ret
  all_goals exact ⟨rfl, HA.out _ (by omega), by go_grown⟩
end Go.Proofs.YtahlinekbllkaaaGreatDoor.Ar
