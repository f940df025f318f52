/- Sets of cells as rising lists: the mathematics. -/
import Derived.Test.YtcmfkdhadmfgkaaDoorBs
namespace Go.Proofs.YtcmfkdhadmfgkaaDoor.Se

abbrev C := Int × Int × Int
/-- Is a cell ahead of another one? -/
def lt (c d : C) : Bool := decide (c.2.1 < d.2.1 ∨ c.2.1 = d.2.1 ∧ (c.1 < d.1 ∨ c.1 = d.1 ∧ c.2.2 < d.2.2))
theorem lt_iff (c d : C) : lt c d = true ↔ c.2.1 < d.2.1 ∨ c.2.1 = d.2.1 ∧ (c.1 < d.1 ∨ c.1 = d.1 ∧ c.2.2 < d.2.2) := by simp [lt]
theorem lt_irrefl (c : C) : lt c c = false := by
  cases h : lt c c
  · rfl
  · rw [lt_iff] at h; omega
theorem lt_trans {c d e : C} (h : lt c d = true) (k : lt d e = true) : lt c e = true := by
  rw [lt_iff] at *; omega
theorem lt_or {c d : C} (h : lt c d = false) (k : lt d c = false) : c = d := by
  have h' : ¬ lt c d = true := by simp [h]
  have k' : ¬ lt d c = true := by simp [k]
  rw [lt_iff] at h' k'
  obtain ⟨a, b, x⟩ := c
  obtain ⟨a', b', x'⟩ := d
  simp only [Prod.mk.injEq] at *
  omega
theorem lt_asymm {c d : C} (h : lt c d = true) : lt d c = false := by
  cases k : lt d c
  · rfl
  · have := lt_trans h k; rw [lt_irrefl] at this; cases this
def Rising (L : List C) : Prop := L.Pairwise fun c d => lt c d = true
theorem rising_ext : ∀ {L M : List C}, Rising L → Rising M → (∀ c, c ∈ L ↔ c ∈ M) → L = M
  | [], [], _, _, _ => rfl
  | [], d :: M, _, _, h => by have := (h d).2 (by simp); simp at this
  | c :: L, [], _, _, h => by have := (h c).1 (by simp); simp at this
  | c :: L, d :: M, hL, hM, h => by
    obtain ⟨h1, h2⟩ := List.pairwise_cons.1 hL
    obtain ⟨k1, k2⟩ := List.pairwise_cons.1 hM
    have e : c = d := by
      have hc := (h c).1 (by simp)
      have hd := (h d).2 (by simp)
      rcases List.mem_cons.1 hc with e | hc
      · exact e
      · rcases List.mem_cons.1 hd with e | hd
        · exact e.symm
        · have := lt_trans (h1 d hd) (k1 c hc)
          rw [lt_irrefl] at this; cases this
    subst e
    rw [rising_ext h2 k2]
    intro x
    constructor
    · intro hx
      rcases List.mem_cons.1 ((h x).1 (by simp [hx])) with e | h'
      · subst e; have := h1 x hx; rw [lt_irrefl] at this; cases this
      · exact h'
    · intro hx
      rcases List.mem_cons.1 ((h x).2 (by simp [hx])) with e | h'
      · subst e; have := k1 x hx; rw [lt_irrefl] at this; cases this
      · exact h'
/-- How many of a list are ahead of a cell. -/
def pos (L : List C) (c : C) : Nat := (L.filter fun x => lt x c).length
theorem pos_le (L : List C) (c : C) : pos L c ≤ L.length := List.length_filter_le _ _
/-- In a rising list just the first ones are ahead. -/
theorem pos_lt : ∀ {L : List C}, Rising L → ∀ (c : C) (i : Nat) (x : C), L[i]? = some x → (lt x c = decide (i < pos L c))
  | [], _, c, i, x, h => by simp at h
  | y :: L, hL, c, i, x, h => by
    obtain ⟨h1, h2⟩ := List.pairwise_cons.1 hL
    cases hy : lt y c
    · have hp : pos (y :: L) c = 0 := by
        unfold pos
        rw [List.length_eq_zero_iff, List.filter_eq_nil_iff]
        intro z hz hzc
        rcases List.mem_cons.1 hz with e | hz
        · subst e; rw [hy] at hzc; cases hzc
        · have := lt_trans (h1 z hz) hzc; rw [hy] at this; cases this
      rw [hp]
      have hx : x ∈ y :: L := List.mem_of_getElem? h
      cases hxc : lt x c
      · simp
      · rcases List.mem_cons.1 hx with e | hx
        · subst e; rw [hy] at hxc; cases hxc
        · have := lt_trans (h1 x hx) hxc; rw [hy] at this; cases this
    · have hp : pos (y :: L) c = pos L c + 1 := by unfold pos; simp [hy]
      rw [hp]
      cases i with
      | zero => simp at h; subst h; simp [hy]
      | succ i =>
        have := pos_lt h2 c i x (by simpa using h)
        rw [this]; simp
/-- Put together of what is ahead, the cell itself, and what is behind. -/
def ins (L : List C) (c : C) : List C := (L.filter fun x => lt x c) ++ c :: (L.filter fun x => lt c x)
def del (L : List C) (c : C) : List C := (L.filter fun x => lt x c) ++ (L.filter fun x => lt c x)
theorem mem_ins (L : List C) (c x : C) : x ∈ ins L c ↔ x = c ∨ x ∈ L := by
  unfold ins
  simp only [List.mem_append, List.mem_cons, List.mem_filter]
  constructor
  · rintro (⟨h, _⟩ | e | ⟨h, _⟩)
    · exact .inr h
    · exact .inl e
    · exact .inr h
  · rintro (e | h)
    · exact .inr (.inl e)
    · cases h1 : lt x c
      · cases h2 : lt c x
        · exact .inr (.inl (lt_or h1 h2))
        · exact .inr (.inr ⟨h, rfl⟩)
      · exact .inl ⟨h, rfl⟩
theorem mem_del (L : List C) (c x : C) : x ∈ del L c ↔ x ∈ L ∧ x ≠ c := by
  unfold del
  simp only [List.mem_append, List.mem_filter]
  constructor
  · rintro (⟨h, k⟩ | ⟨h, k⟩)
    · exact ⟨h, fun e => by subst e; rw [lt_irrefl] at k; cases k⟩
    · exact ⟨h, fun e => by subst e; rw [lt_irrefl] at k; cases k⟩
  · rintro ⟨h, hne⟩
    cases h1 : lt x c
    · cases h2 : lt c x
      · exact absurd (lt_or h1 h2) hne
      · exact .inr ⟨h, rfl⟩
    · exact .inl ⟨h, rfl⟩
theorem rising_ins {L : List C} (h : Rising L) (c : C) : Rising (ins L c) := by
  unfold ins
  refine List.pairwise_append.2 ⟨h.filter _, List.pairwise_cons.2 ⟨fun x hx => (List.mem_filter.1 hx).2, h.filter _⟩, fun x hx y hy => ?_⟩
  have hxc := (List.mem_filter.1 hx).2
  rcases List.mem_cons.1 hy with e | hy
  · subst e; exact hxc
  · exact lt_trans hxc (List.mem_filter.1 hy).2
theorem rising_del {L : List C} (h : Rising L) (c : C) : Rising (del L c) := by
  unfold del
  refine List.pairwise_append.2 ⟨h.filter _, h.filter _, fun x hx y hy => lt_trans (List.mem_filter.1 hx).2 (List.mem_filter.1 hy).2⟩
theorem ins_same {L : List C} (h : Rising L) {c : C} (hc : c ∈ L) : ins L c = L :=
  rising_ext (rising_ins h c) h fun x => by rw [mem_ins]; constructor; (rintro (e | k); exact e ▸ hc; exact k); exact .inr
/-- The two parts by where they stand. -/
theorem parts : ∀ {L : List C}, Rising L → ∀ c : C, L.take (pos L c) = (L.filter fun x => lt x c) ∧ L.drop (pos L c + if c ∈ L then 1 else 0) = (L.filter fun x => lt c x)
  | [], _, c => by simp [pos]
  | y :: L, hL, c => by
    obtain ⟨h1, h2⟩ := List.pairwise_cons.1 hL
    cases hy : lt y c
    · have hp0 : (y :: L).filter (fun x => lt x c) = [] := by
        rw [List.filter_eq_nil_iff]
        intro z hz hzc
        rcases List.mem_cons.1 hz with e | hz
        · subst e; rw [hy] at hzc; cases hzc
        · have := lt_trans (h1 z hz) hzc; rw [hy] at this; cases this
      have hp : pos (y :: L) c = 0 := by unfold pos; rw [hp0]; rfl
      rw [hp, hp0]
      refine ⟨rfl, ?_⟩
      by_cases hyc : y = c
      · subst hyc
        have hf : L.filter (fun x => lt y x) = L := List.filter_eq_self.2 fun x hx => h1 x hx
        simp [lt_irrefl, hf]
      · have hcy : lt c y = true := by
          cases h : lt c y
          · exact absurd (lt_or hy h) hyc
          · rfl
        have hn : c ∉ y :: L := by
          intro hm
          rcases List.mem_cons.1 hm with e | hm
          · exact hyc e.symm
          · have := lt_trans hcy (h1 c hm); rw [lt_irrefl] at this; cases this
        have hf : (y :: L).filter (fun x => lt c x) = y :: L := List.filter_eq_self.2 fun x hx => by
          rcases List.mem_cons.1 hx with e | hx
          · subst e; exact hcy
          · exact lt_trans hcy (h1 x hx)
        rw [if_neg hn, hf]
        rfl
    · have hp : pos (y :: L) c = pos L c + 1 := by unfold pos; simp [hy]
      obtain ⟨k1, k2⟩ := parts h2 c
      have hne : c ≠ y := fun e => by subst e; rw [lt_irrefl] at hy; cases hy
      have hcy : lt c y = false := lt_asymm hy
      have hmem : (c ∈ y :: L) ↔ c ∈ L := by simp [hne]
      rw [hp]
      simp only [List.filter_cons, hy, hcy, hmem, if_true]
      refine ⟨by rw [List.take_succ_cons, k1], ?_⟩
      rw [show pos L c + 1 + (if c ∈ L then 1 else 0) = pos L c + (if c ∈ L then 1 else 0) + 1 by omega, List.drop_succ_cons]
      simpa using k2
/-- Where a cell of a rising list stands. -/
theorem at_pos {L : List C} (h : Rising L) (c : C) : (decide (c ∈ L)) = (match L[pos L c]? with | some x => decide (x = c) | none => false) := by
  by_cases hc : c ∈ L
  · obtain ⟨i, hi⟩ := List.mem_iff_getElem?.1 hc
    have h0 := pos_lt h c i c hi
    rw [lt_irrefl] at h0
    have hi1 : ¬ i < pos L c := by simpa using h0.symm
    have hlen : i < L.length := (List.getElem?_eq_some_iff.1 hi).1
    rcases Nat.lt_or_ge (pos L c) i with hlt | hge
    · obtain ⟨x, hx⟩ : ∃ x, L[pos L c]? = some x := ⟨_, List.getElem?_eq_getElem (by omega)⟩
      have h1 := pos_lt h c _ x hx
      have h2 : lt x c = true := by
        obtain ⟨_, rfl⟩ := List.getElem?_eq_some_iff.1 hi
        obtain ⟨_, rfl⟩ := List.getElem?_eq_some_iff.1 hx
        exact List.pairwise_iff_getElem.1 h _ _ _ _ hlt
      rw [h2] at h1
      simp at h1
    · have e : pos L c = i := by omega
      rw [e, hi]
      simp [hc]
  · cases hx : L[pos L c]? with
    | none => simp [hc]
    | some x =>
      have : x ≠ c := fun e => hc (e ▸ List.mem_of_getElem? hx)
      simp [hc, this]
/-- The set of a list of cells. -/
def ofL : List C → List C
  | [] => []
  | c :: L => ins (ofL L) c
theorem mem_ofL : ∀ (L : List C) (x : C), x ∈ ofL L ↔ x ∈ L
  | [], x => by simp [ofL]
  | c :: L, x => by rw [ofL, mem_ins, mem_ofL L x, List.mem_cons]
theorem rising_ofL : ∀ L : List C, Rising (ofL L)
  | [] => List.Pairwise.nil
  | c :: L => rising_ins (rising_ofL L) c
theorem ofL_eq {L M : List C} (h : Rising M) (hm : ∀ c, c ∈ M ↔ c ∈ L) : ofL L = M :=
  rising_ext (rising_ofL L) h fun c => (mem_ofL L c).trans (hm c).symm
theorem ins_len {L : List C} (h : Rising L) (c : C) : (ins L c).length ≤ L.length + 1 := by
  obtain ⟨h1, h2⟩ := parts h c
  unfold ins
  rw [← h1, ← h2, List.length_append, List.length_cons, List.length_take, List.length_drop]
  split <;> omega
theorem del_len {L : List C} (h : Rising L) (c : C) : (del L c).length ≤ L.length := by
  obtain ⟨h1, h2⟩ := parts h c
  unfold del
  rw [← h1, ← h2, List.length_append, List.length_take, List.length_drop]
  split <;> omega
theorem ofL_len : ∀ L : List C, (ofL L).length ≤ L.length
  | [] => Nat.le_refl _
  | c :: L => by have := ins_len (rising_ofL L) c; have := ofL_len L; simp only [ofL, List.length_cons]; omega
theorem ofL_put {M : List C} {k : Nat} {c : C} (h : M[k]? = some c) : ins (ofL (M.take k)) c = ofL (M.take (k + 1)) := by
  refine rising_ext (rising_ins (rising_ofL _) c) (rising_ofL _) fun x => ?_
  rw [mem_ins, mem_ofL, mem_ofL, List.take_add_one, h]
  simp [or_comm]
end Go.Proofs.YtcmfkdhadmfgkaaDoor.Se
