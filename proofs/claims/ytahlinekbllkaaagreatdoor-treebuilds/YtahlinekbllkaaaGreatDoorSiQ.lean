/- The leaves of a set: the mathematics, and Leaves. -/
import Derived.Test.YtahlinekbllkaaaGreatDoorSiP
namespace Go.Proofs.YtahlinekbllkaaaGreatDoor.Si
open Go.RowKit Go.Proofs.YtahlinekbllkaaaGreatDoor.Ba Go.Proofs.YtahlinekbllkaaaGreatDoor.Se Go.Proofs.YtahlinekbllkaaaGreatDoor.Ax Go.Lib Go.Maps

/-- The least point of a cell's leaf; the leaf of a point, of the cells of a list. -/
def lowP (c : C) : Int × Int := (c.1 - c.1 % 4, c.2.1 - c.2.1 % 4)
def lmF (p : Int × Int) (x : Nat) (c : C) : Nat := if lowP c = p then x ||| 2 ^ bitAt c else x
def lm (L : List C) (p : Int × Int) : Nat := L.foldl (lmF p) 0
theorem lm_next (L : List C) (c : C) (p : Int × Int) : lm (L ++ [c]) p = if p = lowP c then lm L p ||| 2 ^ bitAt c else lm L p := by
  unfold lm
  rw [List.foldl_append]
  show lmF p _ c = _
  unfold lmF
  by_cases e : lowP c = p
  · rw [if_pos e, if_pos e.symm]
  · rw [if_neg e, if_neg (fun h => e h.symm)]
theorem lm_test0 (p : Int × Int) (i : Nat) : ∀ (L : List C) (x : Nat), (L.foldl (lmF p) x).testBit i = true ↔ x.testBit i = true ∨ ∃ c ∈ L, lowP c = p ∧ bitAt c = i
  | [], x => by simp
  | c :: L, x => by
    rw [List.foldl_cons, lm_test0 p i L]
    unfold lmF
    by_cases e : lowP c = p
    · rw [if_pos e, on_test]
      simp only [Bool.or_eq_true, decide_eq_true_eq, List.mem_cons]
      constructor
      · rintro ((h | h) | ⟨d, hd, h⟩)
        · exact .inl h
        · exact .inr ⟨c, .inl rfl, e, h⟩
        · exact .inr ⟨d, .inr hd, h⟩
      · rintro (h | ⟨d, rfl | hd, h⟩)
        · exact .inl (.inl h)
        · exact .inl (.inr h.2)
        · exact .inr ⟨d, hd, h⟩
    · rw [if_neg e]
      simp only [List.mem_cons]
      constructor
      · rintro (h | ⟨d, hd, h⟩)
        · exact .inl h
        · exact .inr ⟨d, .inr hd, h⟩
      · rintro (h | ⟨d, rfl | hd, h⟩)
        · exact .inl h
        · exact absurd h.1 e
        · exact .inr ⟨d, hd, h⟩
theorem lm_test (L : List C) (p : Int × Int) (i : Nat) : (lm L p).testBit i = true ↔ ∃ c ∈ L, lowP c = p ∧ bitAt c = i := by
  have := lm_test0 p i L 0
  simpa [lm] using this
/-- Small cells. -/
def Sm (c : C) : Prop := (-35184372088832 ≤ c.1 ∧ c.1 ≤ 35184372088832) ∧ (-35184372088832 ≤ c.2.1 ∧ c.2.1 ≤ 35184372088832) ∧ (c.2.2 = 0 ∨ c.2.2 = 1)
theorem okP_low {c : C} (h : Sm c) : okP (lowP c) := by
  obtain ⟨h1, h2, _⟩ := h
  exact ⟨i64_lit (by unfold lowP; dsimp only; omega), i64_lit (by unfold lowP; dsimp only; omega)⟩
theorem lm_lt (L : List C) (p : Int × Int) (h : ∀ c ∈ L, Sm c) : lm L p < 4294967296 := by
  refine Nat.lt_pow_two_of_testBit (n := 32) _ fun i hi => ?_
  cases hb : (lm L p).testBit i
  · rfl
  · obtain ⟨c, hc, _, he⟩ := (lm_test L p i).1 hb
    have := bitAt_lt c (h c hc).2.2
    omega
theorem lm_pos {L : List C} {c : C} (hc : c ∈ L) : lm L (lowP c) ≠ 0 := by
  intro h
  have := (lm_test L (lowP c) (bitAt c)).2 ⟨c, hc, rfl, rfl⟩
  rw [h] at this
  simp at this
theorem lm_zero {L : List C} {p : Int × Int} (h : lm L p ≠ 0) : ∃ c ∈ L, lowP c = p := by
  obtain ⟨i, hi⟩ := Nat.exists_testBit_of_ne_zero h
  obtain ⟨c, hc, hp, _⟩ := (lm_test L p i).1 hi
  exact ⟨c, hc, hp⟩
/-- A cell of the leaf, by its place. -/
theorem mem_leaf (L : List C) (h : ∀ c ∈ L, Sm c) (p : Int × Int) (hp : lm L p ≠ 0) (c : C) : c ∈ (Si.pos (lm L p) 32).map (cAt p.1 p.2) ↔ c ∈ L ∧ lowP c = p := by
  rw [List.mem_map]
  constructor
  · rintro ⟨i, hi, rfl⟩
    obtain ⟨h1, h2⟩ := (mem_pos _ _ _).1 hi
    obtain ⟨d, hd, rfl, rfl⟩ := (lm_test L p i).1 h2
    obtain ⟨a, b, k⟩ := d
    have := cAt_bit a b k (h _ hd).2.2
    unfold lowP
    dsimp only
    rw [this]
    exact ⟨hd, rfl⟩
  · rintro ⟨hc, rfl⟩
    obtain ⟨a, b, k⟩ := c
    exact ⟨bitAt (a, b, k), (mem_pos _ _ _).2 ⟨bitAt_lt _ (h _ hc).2.2, (lm_test _ _ _).2 ⟨_, hc, rfl, rfl⟩⟩, cAt_bit a b k (h _ hc).2.2⟩
theorem pos_nodup (x : Nat) : ∀ n, (Si.pos x n).Nodup
  | 0 => List.nodup_nil
  | n + 1 => by
    unfold Si.pos
    refine List.nodup_append.2 ⟨pos_nodup x n, by split <;> simp, ?_⟩
    intro a ha b hb e
    subst e
    have := ((mem_pos x a n).1 ha).1
    split at hb
    · simp at hb; omega
    · simp at hb
theorem leaf_nodup (x : Nat) (A B : Int) : ((Si.pos x 32).map (cAt A B)).Nodup := by
  have h := pos_nodup x 32
  unfold List.Nodup at h ⊢
  rw [List.pairwise_map]
  refine h.imp_of_mem ?_
  intro a b ha hb hne e
  have h1 := ((mem_pos x a 32).1 ha).1
  have h2 := ((mem_pos x b 32).1 hb).1
  unfold cAt at e
  simp only [Prod.mk.injEq] at e
  omega
/-! Leaves. -/
theorem lm_step {L : List C} {k : Nat} {x : C} (hx : L[k]? = some x) : (fun q => if q = lowP x then lm (L.take k) (lowP x) ||| 2 ^ bitAt x else lm (L.take k) q) = lm (L.take (k + 1)) := by
  funext q
  rw [List.take_add_one, hx, Option.toList_some, lm_next]
  by_cases e : q = lowP x
  · rw [if_pos e, if_pos e, e]
  · rw [if_neg e, if_neg e]
def LvR (w : World) (B : Nat) (L : List C) (i : Value) (wr : World) : Prop :=
  ∃ k : Nat, k ≤ L.length ∧ i = .int .i64 k ∧ MapIs wr B k (lm (L.take k)) ∧ Below w.heap.size w wr
set_option maxRecDepth 100000 in
set_option maxHeartbeats 1000000 in
theorem leaves_any (v : Value) (L : List C) (w : World) (h : SetAt w v L) (hS : ∀ c ∈ L, Sm c) (hL : L.length ≤ 1000) :
    Calls Tryz.prog 78 #[v] w fun e w' => e = .returned (.map (some w.heap.size)) ∧ MapIs w' w.heap.size L.length (lm L) ∧ Below w.heap.size w w' := by
  have HU := Lib.hid h
  have HS := Lib.hid hS
  obtain ⟨p, cap, rfl⟩ := set_slice h
  clear h hS
  have hm0 := MapIs.made w
  have hmm := @run_makeMap Tryz.prog
  go_enter Tryz.func78, Tryz.ntmps78
  go_wp2_with fail
  go_loopw [10] (fun i wr => LvR w w.heap.size L i wr) (fun i _ => L.length - (intOf i).toNat)
  case atStart => exact ⟨0, Nat.zero_le _, rfl, hm0, by go_grown⟩
  case round =>
    clear hm0 hmm
    obtain ⟨k, hk, rfl, hm, hb⟩ := hrel
    have hz := hb.size
    by_cases hlt : k < L.length
    · obtain ⟨x, hx⟩ : ∃ x, L[k]? = some x := ⟨_, List.getElem?_eq_getElem hlt⟩
      rcases HU.out.below hb with ⟨_, hnil⟩ | ⟨g, cap', hv, _, hr⟩
      · subst hnil; simp at hlt
      · injection hv with hv1 hv2 hv3
        subst hv1 hv3
        clear hv2
        obtain ⟨c0, c1, c2⟩ := hr.1 k x hx
        have hgl := hr.2
        have hsx := HS.out x (List.mem_of_getElem? hx)
        have HN := Lib.hid (lm_step hx)
        have HK := Lib.hid (okP_low hsx)
        have hlx := lm_lt (L.take k) (lowP x) (fun c hc => HS.out c (List.mem_of_mem_take hc))
        have hl := fun W => low_any x.1 x.2.1 (by have := hsx.1; omega) (by have := hsx.2.1; omega) W
        have hw := fun W => with_any (lm (L.take k) (lowP x)) x true hlx (by have := hsx.1; omega) (by have := hsx.2.1; omega) hsx.2.2 W
        simp only [if_true] at hw
        have hon := on_lt (lm (L.take k) (lowP x)) (bitAt x) hlx (bitAt_lt x hsx.2.2)
        have HNZ := Lib.hid (show lm (L.take k) (lowP x) ||| 2 ^ bitAt x ≠ 0 by
          intro e
          have := on_test (lm (L.take k) (lowP x)) (bitAt x) (bitAt x)
          rw [e] at this
          simp at this)
        clear hx hr hsx
        go_wp2_with fail
        refine (hl _).mono ?_
        rintro e w1 ⟨rfl, hb1⟩
        have kc : Blk w1 wr.heap.size 53 #[.int .i64 x.1, .int .i64 x.2.1, .int .i64 x.2.2] := (Blk.newAt wr _ _ _ rfl).under hb1
        have hm1 := (hm.under ((Below.refl _ _).alloc (Nat.le_refl _) (.cells #[.int .i64 x.1, .int .i64 x.2.1, .int .i64 x.2.2] 53))).under hb1
        have hbw1 := (hb.alloc hz (.cells #[.int .i64 x.1, .int .i64 x.2.1, .int .i64 x.2.2] 53)).trans (hb1.mono (by simp; omega))
        clear hb1 c0 c1 c2 hl hm hgl
        go_upto_region 6 with fail
        have kl := Blk.newAt w1 38 #[.int .i64 (lowP x).1, .int .i64 (lowP x).2] _ rfl
        have kc2 := kc.alloc (.cells #[.int .i64 (lowP x).1, .int .i64 (lowP x).2] 38)
        have hm2 := hm1.under ((Below.refl _ _).alloc (Nat.le_refl _) (.cells #[.int .i64 (lowP x).1, .int .i64 (lowP x).2] 38))
        have hbw2 := hbw1.alloc hbw1.size (.cells #[.int .i64 (lowP x).1, .int .i64 (lowP x).2] 38)
        change Code.wp _ _ _ _ (w1.alloc (.cells #[.int .i64 (lowP x).1, .int .i64 (lowP x).2] 38))
        generalize w1.alloc (.cells #[.int .i64 (lowP x).1, .int .i64 (lowP x).2] 38) = w2 at *
        have hwB : w.heap.size < w2.heap.size := by
          obtain ⟨D, h1, _⟩ := hm2
          exact World.ownsMap.lt h1
        have hn1 := kc.lt
        generalize w1.heap.size = Z at *
        clear hm1 kc hbw1
        generalize hvv : lm (L.take k) (lowP x) = y at *
        have HV := Lib.hid hvv
        clear hvv
        have hlk : ∀ W, Below w2.heap.size w2 W → (Instr.lookup 142 (.map (some w.heap.size)) (.agg #[.int .i64 (lowP x).1, .int .i64 (lowP x).2]) false).run Tryz.prog W = .ok (.int .u32 y) W := fun W hW => by
          have := (hm2.under hW).look HK.out
          rw [HV.out] at this
          exact this
        have HLK := Lib.hid hlk
        clear hlk
        obtain ⟨b0, b1, b2⟩ := keep3 kc2 (Below.refl _ _)
        obtain ⟨l0, l1⟩ := keep2 kl (Below.refl _ _)
        have hkb : Below w2.heap.size w2 w2.drew := ⟨rfl, rfl, rfl, Nat.le_refl _, fun _ _ => rfl⟩
        have hlk := HLK.out w2.drew hkb
        go_region_with (first
              | (go_at_call 51; with_reducible refine (hw _).mono ?_; rintro e w6 ⟨rfl, hb⟩; have hkb : Below w2.heap.size w2 w6 := below_call hb (by go_grown) (by first | exact Nat.le_refl _ | exact hkb.size | go_size); clear hb; obtain ⟨b0, b1, b2⟩ := keep3 kc2 hkb; obtain ⟨l0, l1⟩ := keep2 kl hkb; obtain ⟨w7, hup, hm7, hg7⟩ := (hm2.under hkb).put (by unfold maxLen; omega) HK.out hon HNZ.out))
        all_goals go_wp2_with fail
        all_goals
          rw [HN.out] at hm7
          have hbw6 := hbw2.trans (hkb.mono hbw2.size)
          exact ⟨⟨k + 1, by omega, by go_num, hm7, hbw6.grown hg7 hbw6.size (fun q hq => by simp at hq; omega)⟩, by simp [intOf]; omega⟩
    · obtain rfl : k = L.length := by omega
      rw [List.take_length] at hm
      go_wp2_with fail
      go_ret
      exact ⟨rfl, hm, hb⟩
end Go.Proofs.YtahlinekbllkaaaGreatDoor.Si
