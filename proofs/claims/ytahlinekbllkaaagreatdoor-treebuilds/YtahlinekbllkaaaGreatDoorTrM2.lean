/- What a leaf, a node of four, and an empty one make of an arena. -/
import Derived.Test.YtahlinekbllkaaaGreatDoorTrM
namespace Go.Proofs.YtahlinekbllkaaaGreatDoor.Tr
open Go.Proofs.YtahlinekbllkaaaGreatDoor.Ar Go.Proofs.YtahlinekbllkaaaGreatDoor.Mp
open Go.Proofs.YtahlinekbllkaaaGreatDoor.Si (cAt mem_pos leaf_nodup pcn pos_len)

theorem nd_app {N : List Nd} {i : Nat} (X : List Nd) (h : (ndAt N i).2 = true) : ndAt (N ++ X) i = ndAt N i := by
  unfold ndAt at h ⊢
  by_cases h0 : i = 0
  · rw [if_pos h0, if_pos h0]
  · rw [if_neg h0] at h ⊢
    rw [if_neg h0]
    cases hd : N[i - 1]? with
    | none => rw [hd] at h; cases h
    | some d => rw [List.getElem?_append_left (List.getElem?_eq_some_iff.1 hd).1, hd]
/-- An arena that has more nodes, and the old ones. -/
structure Ext (S S' : Sta) : Prop where
  tw : Tw S'
  more : S'.more = S.more
  app : ∃ X, S'.N = S.N ++ X
  cap : ((S.N.length + 1 : Nat) : Int) ≤ 64 + S.more → ((S'.N.length + 1 : Nat) : Int) ≤ 64 + S'.more
theorem cap_add {S : Sta} (h : ¬ full S) (nd : Nd) : (((S.N ++ [nd]).length + 1 : Nat) : Int) ≤ 64 + S.more := by
  unfold full at h
  rw [List.length_append]
  simp only [List.length_cons, List.length_nil]
  omega
section
variable {S S' S'' : Sta} {d i j : Nat} {x y : Int}
theorem Ext.refl (T : Tw S) : Ext S S := ⟨T, rfl, ⟨[], by simp⟩, id⟩
theorem Ext.trans (h : Ext S S') (k : Ext S' S'') : Ext S S'' := by
  obtain ⟨X, hX⟩ := h.app
  obtain ⟨Y, hY⟩ := k.app
  exact ⟨k.tw, k.more.trans h.more, ⟨X ++ Y, by rw [hY, hX, List.append_assoc]⟩, fun h0 => k.cap (h.cap h0)⟩
theorem Ext.nd (h : Ext S S') (hi : (ndAt S.N i).2 = true) : ndAt S'.N i = ndAt S.N i := by
  obtain ⟨X, hX⟩ := h.app
  rw [hX]
  exact nd_app X hi
theorem Ext.lv (h : Ext S S') (hi : lvOk S.N d i) : lvOk S'.N d i := by
  obtain ⟨h1, h2⟩ := lv_is hi
  exact lv_of (by rw [h.nd h1]; exact h1) (by rw [h.nd h1]; exact h2)
theorem Ext.len (h : Ext S S') : S.N.length ≤ S'.N.length := by
  obtain ⟨X, hX⟩ := h.app
  rw [hX, List.length_append]
  omega
theorem Ext.cells (h : Ext S S') (T : Tw S) : ∀ {d i : Nat} {x y : Int}, lvOk S.N d i → cellsL S'.N d i x y = cellsL S.N d i x y := by
  intro d
  induction d with
  | zero =>
    intro i x y hi
    show (Si.pos (ndAt S'.N i).1.bits 32).map (cAt x y) = (Si.pos (ndAt S.N i).1.bits 32).map (cAt x y)
    rw [h.nd (lv_is hi).1]
  | succ d ih =>
    intro i x y hi
    rw [cells_succ, cells_succ, h.nd (lv_is hi).1, show List.range 4 = [0, 1, 2, 3] from rfl]
    simp only [List.flatMap_cons, List.flatMap_nil, List.append_nil]
    rw [ih (kid_ok T hi (q := 0) (by decide)), ih (kid_ok T hi (q := 1) (by decide)), ih (kid_ok T hi (q := 2) (by decide)), ih (kid_ok T hi (q := 3) (by decide))]
theorem full_ext (h : Ext S S') (hf : full S) : full S' := by
  unfold full at hf ⊢
  have := h.len
  rw [h.more]
  omega
theorem tw_new (most : Int) : Tw (newS most) := ⟨new_wf most, fun nd h => by simp [newS] at h, fun nd h => by simp [newS] at h⟩
/-! A leaf. -/
/-- How many nodes have cells. -/
def ne (N : List Nd) : Nat := (N.filter fun d => decide (d.count ≠ 0)).length
theorem ne_app (N : List Nd) (nd : Nd) : ne (N ++ [nd]) ≤ ne N + 1 := by
  unfold ne
  rw [List.filter_append, List.length_append]
  have := List.length_filter_le (fun d : Nd => decide (d.count ≠ 0)) [nd]
  simp only [List.length_cons, List.length_nil] at this
  omega
theorem ne_same (N : List Nd) (nd : Nd) (h : nd.count = 0) : ne (N ++ [nd]) = ne N := by
  unfold ne
  rw [List.filter_append]
  simp [h]
theorem ne_split : ∀ N : List Nd, N.length = ne N + (N.filter fun d => decide (d.count = 0)).length
  | [] => rfl
  | d :: N => by
    have ih := ne_split N
    unfold ne at ih ⊢
    by_cases h : d.count = 0
    · rw [List.filter_cons_of_neg (by simp [h]), List.filter_cons_of_pos (by simp [h]), List.length_cons, List.length_cons]
      omega
    · rw [List.filter_cons_of_pos (by simp [h]), List.filter_cons_of_neg (by simp [h]), List.length_cons, List.length_cons]
      omega
theorem nodup_le {α : Type} [DecidableEq α] : ∀ {A B : List α}, A.Nodup → (∀ a ∈ A, a ∈ B) → A.length ≤ B.length
  | [], _, _, _ => Nat.zero_le _
  | a :: A, B, hd, hs => by
    obtain ⟨h1, h2⟩ := List.nodup_cons.1 hd
    have ih := nodup_le (B := B.erase a) h2 fun x hx => (List.mem_erase_of_ne (fun e : x = a => h1 (e ▸ hx))).2 (hs x (by simp [hx]))
    have := List.length_erase_of_mem (hs a (by simp))
    have := List.length_pos_of_mem (hs a (by simp))
    simp only [List.length_cons]
    omega
/-- At most one node a level is without cells. -/
theorem em_le (T : Tw S) : S.N.length ≤ ne S.N + 42 := by
  have hz : ∀ m nd, S.N[m]? = some nd → nd.count = 0 → ∃ d : Nat, nd.level = (d : Int) + 3 ∧ d < 42 ∧ lvOk S.N (d + 1) (m + 1) ∧ cellsL S.N (d + 1) (m + 1) 0 0 = [] := by
    intro m nd hm h0
    have hmem := List.mem_of_getElem? hm
    have hlv := T.nok nd hmem
    have e : ndAt S.N (m + 1) = (nd, true) := by unfold ndAt; rw [if_neg (by omega), show m + 1 - 1 = m by omega, hm]
    have h3 : 3 ≤ nd.level := by
      rcases T.wf.kinds nd hmem with ⟨f, hf, rfl⟩ | ⟨h, _⟩
      · exfalso
        have hb := T.bits _ hmem
        have hl : lvOk S.N 0 (m + 1) := lv_of (by rw [e]) (by rw [e]; rfl)
        obtain ⟨g, hg, _, h2, _, _⟩ := leaf_case T hl (by omega)
        rw [show m + 1 - 1 = m by omega, hm] at h2
        have hc := count_leaf T hl
        rw [e] at hc
        have h0' : (leafNd f).count = 0 := h0
        dsimp only at hc
        rw [h0'] at hc
        have hbl : (leafNd f).bits = f := rfl
        rw [hbl] at hc
        have hlen : (Si.pos f 32).length = 0 := by rw [Si.pos_len]; exact hc.symm
        have hnil := List.eq_nil_of_length_eq_zero hlen
        refine hf (bits_eq (by rw [p32]; exact hb) (by rw [p32]; decide) fun k hk => ?_)
        have h1 : f.testBit k = false := by
          cases hbk : f.testBit k
          · rfl
          · have : k ∈ Si.pos f 32 := (Si.mem_pos _ _ _).2 ⟨hk, hbk⟩
            rw [hnil] at this
            cases this
        rw [h1, Nat.zero_testBit]
      · omega
    refine ⟨(nd.level - 3).toNat, by omega, by omega, ?_, ?_⟩
    · exact lv_of (by rw [e]) (by rw [e]; dsimp only; omega)
    · have hl : lvOk S.N ((nd.level - 3).toNat + 1) (m + 1) := lv_of (by rw [e]) (by rw [e]; dsimp only; omega)
      have hc := count_eq T hl (x := 0) (y := 0)
      rw [e] at hc
      dsimp only at hc
      rw [h0] at hc
      unfold mxC at hc
      exact List.eq_nil_of_length_eq_zero (by omega)
  have hpw : S.N.Pairwise fun a b => a.count = 0 → b.count = 0 → a.level ≠ b.level := by
    rw [List.pairwise_iff_getElem]
    intro i j hi hj hij h1 h2 h3
    obtain ⟨d, e1, _, l1, c1⟩ := hz i _ (List.getElem?_eq_getElem hi) h1
    obtain ⟨d', e2, _, l2, c2⟩ := hz j _ (List.getElem?_eq_getElem hj) h2
    obtain rfl : d = d' := by omega
    have := uniq T (x := 0) (y := 0) l1 l2 fun c => by rw [c1, c2]
    omega
  have h1 : ((S.N.filter fun d => decide (d.count = 0)).map fun d => d.level.toNat).Nodup := by
    unfold List.Nodup
    rw [List.pairwise_map]
    refine (hpw.filter _).imp_of_mem ?_
    intro a b ha hb h
    obtain ⟨ha1, ha2⟩ := List.mem_filter.1 ha
    obtain ⟨hb1, hb2⟩ := List.mem_filter.1 hb
    have := h (by simpa using ha2) (by simpa using hb2)
    have := T.nok a ha1
    have := T.nok b hb1
    omega
  have h2 := nodup_le (B := List.range' 3 42) h1 fun a ha => by
    obtain ⟨nd, hnd, rfl⟩ := List.mem_map.1 ha
    obtain ⟨hm, h0⟩ := List.mem_filter.1 hnd
    obtain ⟨m, hm'⟩ := List.getElem?_of_mem hm
    obtain ⟨d, e, hd, _⟩ := hz m nd hm' (by simpa using h0)
    rw [List.mem_range'_1]
    omega
  rw [List.length_map, List.length_range'] at h2
  have h3 := ne_split S.N
  omega
theorem leaf_tw (T : Tw S) {f : Nat} (hf : f < 4294967296) : Tw (leafR S f).2.2 := by
  refine ⟨leaf_wf T.wf f, leaf_nok T.nok f, ?_⟩
  unfold leafR
  split
  · exact T.bits
  · split
    · exact T.bits
    · split
      · exact T.bits
      · intro nd h
        have h' : nd ∈ S.N ++ [leafNd f] := h
        simp only [List.mem_append, List.mem_singleton] at h'
        rcases h' with h' | rfl
        · exact T.bits nd h'
        · exact hf
theorem leaf_found (T : Tw S) (h : lvOk S.N 0 i) : leafR S (ndAt S.N i).1.bits = (i, none, S) := by
  unfold leafR
  by_cases h0 : i = 0
  · subst h0
    rw [if_pos (by simp [ndAt, leaf0])]
  · obtain ⟨f, f0, _, _, h2, h3⟩ := leaf_case T h h0
    rw [h2]
    have e : (leafNd f).bits = f := rfl
    dsimp only
    rw [e, if_neg f0, h3]
theorem leaf_spec (T : Tw S) {f : Nat} (hf : f < 4294967296) :
    ((leafR S f).2.1 = none ∧ Ext S (leafR S f).2.2 ∧ lvOk (leafR S f).2.2.N 0 (leafR S f).1 ∧ (ndAt (leafR S f).2.2.N (leafR S f).1).1.bits = f ∧ ne (leafR S f).2.2.N ≤ ne S.N + 1) ∨ (leafR S f = (0, some 8, S) ∧ full S) := by
  have ht := leaf_tw T hf
  revert ht
  unfold leafR
  by_cases h0 : f = 0
  · rw [if_pos h0]
    intro _
    exact .inl ⟨rfl, Ext.refl T, lv_zero _, by rw [h0]; simp [ndAt, leaf0], by show ne S.N ≤ ne S.N + 1; omega⟩
  · rw [if_neg h0]
    cases hl : S.L f with
    | some i =>
      intro _
      obtain ⟨_, h1, h2⟩ := (T.wf.leaf f i).1 hl
      have e : ndAt S.N i = (leafNd f, true) := by unfold ndAt; rw [if_neg (by omega), h2]
      exact .inl ⟨rfl, Ext.refl T, lv_of (by show (ndAt S.N i).2 = true; rw [e]) (by show (ndAt S.N i).1.level = _; rw [e]; rfl), by show (ndAt S.N i).1.bits = f; rw [e]; rfl, by show ne S.N ≤ ne S.N + 1; omega⟩
    | none =>
      dsimp only
      by_cases hfu : full S
      · rw [if_pos hfu]
        intro _
        exact .inr ⟨rfl, hfu⟩
      · rw [if_neg hfu]
        intro ht
        have e : ndAt (S.N ++ [leafNd f]) (S.N.length + 1) = (leafNd f, true) := by unfold ndAt; rw [if_neg (by omega)]; simp
        have eN : (leafS S f).N = S.N ++ [leafNd f] := rfl
        exact .inl ⟨rfl, ⟨ht, rfl, ⟨[leafNd f], rfl⟩, fun _ => cap_add hfu _⟩, lv_of (by show (ndAt (S.N ++ [leafNd f]) (S.N.length + 1)).2 = true; rw [e]) (by show (ndAt (S.N ++ [leafNd f]) (S.N.length + 1)).1.level = _; rw [e]; rfl), by show (ndAt (S.N ++ [leafNd f]) (S.N.length + 1)).1.bits = f; rw [e]; rfl, by show ne (S.N ++ [leafNd f]) ≤ _; exact ne_app _ _⟩
/-! Four nodes. -/
theorem join_tw (T : Tw S) (k : K4) : Tw (joinR S k).2.2 := by
  refine ⟨join_wf T.wf T.nok k, join_nok T.nok k, ?_⟩
  unfold joinR
  split
  · exact T.bits
  · split
    · exact T.bits
    · rename_i nd ha
      split
      · exact T.bits
      · intro md h
        have h' : md ∈ S.N ++ [nd] := h
        simp only [List.mem_append, List.mem_singleton] at h'
        rcases h' with h' | rfl
        · exact T.bits md h'
        · rw [(above_lv ha).1]
          show 0 < 4294967296
          decide
theorem join_found (T : Tw S) (h : lvOk S.N (d + 1) i) : joinR S (ndAt S.N i).1.k = (i, none, S) := by
  obtain ⟨nd, _, _, h2, _, _, h5⟩ := node_case T h
  unfold joinR
  rw [h2]
  dsimp only
  rw [h5]
theorem above_fine {N : List Nd} {k : K4} (hk : ∀ q, q < 4 → lvOk N d (kd k q)) (hd : d ≤ 41) : aboveR N k = (⟨cntS N (kli k), k, 0, (d : Int) + 3⟩, none) := by
  have h0 : levelOf N k.1 = (d : Int) + 2 := hk 0 (by decide)
  unfold aboveR
  rw [if_pos, if_neg (by rw [h0]; omega), h0]
  · congr 2
  · rw [List.all_eq_true]
    intro i hi
    have hl : lvOk N d i := by
      simp only [kli, List.mem_cons, List.not_mem_nil, or_false] at hi
      rcases hi with rfl | rfl | rfl | rfl
      · exact hk 0 (by decide)
      · exact hk 1 (by decide)
      · exact hk 2 (by decide)
      · exact hk 3 (by decide)
    obtain ⟨h1, h2⟩ := lv_is hl
    unfold kidOk
    rw [h1, h2, h0]
    simp
theorem join_spec (T : Tw S) {k : K4} (hk : ∀ q, q < 4 → lvOk S.N d (kd k q)) (hd : d ≤ 41) :
    ((joinR S k).2.1 = none ∧ Ext S (joinR S k).2.2 ∧ lvOk (joinR S k).2.2.N (d + 1) (joinR S k).1 ∧ (ndAt (joinR S k).2.2.N (joinR S k).1).1.k = k ∧ ne (joinR S k).2.2.N ≤ ne S.N + 1 ∧ (cntS S.N (kli k) = 0 → ne (joinR S k).2.2.N = ne S.N)) ∨ (joinR S k = (0, some 8, S) ∧ full S) := by
  have ht := join_tw T k
  have ha := above_fine hk hd
  revert ht
  unfold joinR
  cases hl : S.J k with
  | some i =>
    intro _
    obtain ⟨h1, nd, h2, h3, h4⟩ := (T.wf.join k i).1 hl
    have e : ndAt S.N i = (nd, true) := by unfold ndAt; rw [if_neg (by omega), h2]
    have hlv : nd.level = (d : Int) + 3 := by
      rcases T.wf.kinds nd (List.mem_of_getElem? h2) with ⟨f, _, rfl⟩ | ⟨_, h5⟩
      · have : (leafNd f).level = 2 := rfl
        omega
      · rw [h3, ha] at h5
        simp only [Prod.mk.injEq, and_true] at h5
        rw [← h5]
    exact .inl ⟨rfl, Ext.refl T, lv_of (by show (ndAt S.N i).2 = true; rw [e]) (by show (ndAt S.N i).1.level = _; rw [e]; show nd.level = _; omega), by show (ndAt S.N i).1.k = k; rw [e]; exact h3, by show ne S.N ≤ ne S.N + 1; omega, fun _ => rfl⟩
  | none =>
    dsimp only
    rw [ha]
    dsimp only
    by_cases hfu : full S
    · rw [if_pos hfu]
      intro _
      exact .inr ⟨rfl, hfu⟩
    · rw [if_neg hfu]
      generalize hnd : (⟨cntS S.N (kli k), k, 0, (d : Int) + 3⟩ : Nd) = nd
      intro ht
      have e : ndAt (S.N ++ [nd]) (S.N.length + 1) = (nd, true) := by unfold ndAt; rw [if_neg (by omega)]; simp
      exact .inl ⟨rfl, ⟨ht, rfl, ⟨[nd], rfl⟩, fun _ => cap_add hfu _⟩, lv_of (by show (ndAt (S.N ++ [nd]) (S.N.length + 1)).2 = true; rw [e]) (by show (ndAt (S.N ++ [nd]) (S.N.length + 1)).1.level = _; rw [e, ← hnd]; show (d : Int) + 3 = _; omega), by show (ndAt (S.N ++ [nd]) (S.N.length + 1)).1.k = k; rw [e, ← hnd], by show ne (S.N ++ [nd]) ≤ _; exact ne_app _ _, fun h => ne_same _ _ (by rw [← hnd]; exact h)⟩
/-- What lives in a node of four. -/
theorem cells_four {N : List Nd} {k : K4} {c : C} (hk : (ndAt N i).1.k = k) : c ∈ cellsL N (d + 1) i x y ↔ ∃ q, q < 4 ∧ c ∈ cellsL N d (kd k q) (px d x q) (py d y q) := by
  rw [mem_cells, hk]
/-! Without cells. -/
theorem kd_same (i : Nat) {q : Nat} (hq : q < 4) : kd (i, i, i, i) q = i := by rcases four hq with rfl | rfl | rfl | rfl <;> rfl
theorem nil_iff {L : List C} : (∀ c, c ∉ L) ↔ L = [] := by
  constructor
  · intro h; exact List.eq_nil_iff_forall_not_mem.2 h
  · rintro rfl; simp
theorem emp_spec (T : Tw S) : ∀ n, n ≤ 42 →
    ((empL n S).2.1 = none ∧ Ext S (empL n S).2.2 ∧ lvOk (empL n S).2.2.N n (empL n S).1 ∧ (∀ x y, cellsL (empL n S).2.2.N n (empL n S).1 x y = []) ∧ ne (empL n S).2.2.N = ne S.N) ∨
    ((empL n S).2.1 = some 8 ∧ (empL n S).1 = 0 ∧ Ext S (empL n S).2.2 ∧ full (empL n S).2.2 ∧ ne (empL n S).2.2.N = ne S.N)
  | 0, _ => by
    left
    refine ⟨rfl, Ext.refl T, lv_zero _, fun x y => ?_, rfl⟩
    show (Si.pos (ndAt S.N 0).1.bits 32).map (cAt x y) = []
    rw [show (ndAt S.N 0).1.bits = 0 by simp [ndAt, leaf0], Go.Proofs.YtahlinekbllkaaaGreatDoor.Si.pos_zero]
    rfl
  | n + 1, hn => by
    rcases hR : empL n S with ⟨i, e, S'⟩
    have ih := emp_spec T n (by omega)
    rw [hR] at ih
    dsimp only at ih
    rcases ih with ⟨rfl, h2, h3, h4, h5⟩ | ⟨rfl, h2, h3, h4, h5⟩
    · have e2 : empL (n + 1) S = joinR S' (i, i, i, i) := by
        show (match empL n S with | (i, none, S') => joinR S' (i, i, i, i) | (_, some c, S') => (0, some c, S')) = _
        rw [hR]
      rw [e2]
      have hk : ∀ q, q < 4 → lvOk S'.N n (kd (i, i, i, i) q) := fun q hq => by rw [kd_same i hq]; exact h3
      have hz : (ndAt S'.N i).1.count = min 0 mxC := by rw [count_eq h2.tw h3 (x := 0) (y := 0), h4]; rfl
      have hz4 := cnt_four (k := (i, i, i, i)) hz hz hz hz
      rcases join_spec h2.tw hk (by omega) with ⟨j1, j2, j3, j4, _, j5⟩ | ⟨j1, j2⟩
      · left
        refine ⟨j1, h2.trans j2, j3, fun x y => nil_iff.1 fun c hc => ?_, (j5 hz4).trans h5⟩
        obtain ⟨q, hq, hc'⟩ := (cells_four j4).1 hc
        rw [kd_same i hq, j2.cells h2.tw h3, h4] at hc'
        simp at hc'
      · right
        rw [j1]
        exact ⟨rfl, rfl, h2, j2, h5⟩
    · have e2 : empL (n + 1) S = (0, some 8, S') := by
        show (match empL n S with | (i, none, S') => joinR S' (i, i, i, i) | (_, some c, S') => (0, some c, S')) = _
        rw [hR]
      rw [e2]
      right
      exact ⟨rfl, rfl, h3, h4, h5⟩
theorem cells_shift_nil {N : List Nd} {x' y' : Int} : ∀ {d i : Nat} {x y : Int}, cellsL N d i x y = [] → cellsL N d i x' y' = [] := by
  intro d
  induction d generalizing x' y' with
  | zero =>
    intro i x y h
    have h : (Si.pos (ndAt N i).1.bits 32).map (cAt x y) = [] := h
    show (Si.pos (ndAt N i).1.bits 32).map (cAt x' y') = []
    rw [List.map_eq_nil_iff] at h ⊢
    exact h
  | succ d ih =>
    intro i x y h
    refine nil_iff.1 fun c hc => ?_
    obtain ⟨q, hq, hc'⟩ := mem_cells.1 hc
    have h0 : cellsL N d (kd (ndAt N i).1.k q) (px d x q) (py d y q) = [] := nil_iff.1 fun e he => nil_iff.2 h e (mem_cells.2 ⟨q, hq, he⟩)
    rw [ih h0] at hc'
    simp at hc'
theorem emp_found (T : Tw S) : ∀ {n i : Nat}, lvOk S.N n i → cellsL S.N n i x y = [] → empL n S = (i, none, S) := by
  intro n
  induction n generalizing x y with
  | zero =>
    intro i hi hc
    have : (0 : Nat) = i := uniq T (x := x) (y := y) (lv_zero _) hi fun c => by
      rw [hc]
      show c ∈ (Si.pos (ndAt S.N 0).1.bits 32).map (cAt x y) ↔ _
      rw [show (ndAt S.N 0).1.bits = 0 by simp [ndAt, leaf0], Go.Proofs.YtahlinekbllkaaaGreatDoor.Si.pos_zero]
      rfl
    subst this
    rfl
  | succ n ih =>
    intro i hi hc
    have hk : ∀ q, q < 4 → cellsL S.N n (kd (ndAt S.N i).1.k q) (px n x q) (py n y q) = [] := fun q hq => nil_iff.1 fun e he => nil_iff.2 hc e (mem_cells.2 ⟨q, hq, he⟩)
    have h0 := ih (kid_ok T hi (q := 0) (by decide)) (hk 0 (by decide))
    have e2 : empL (n + 1) S = joinR S (kd (ndAt S.N i).1.k 0, kd (ndAt S.N i).1.k 0, kd (ndAt S.N i).1.k 0, kd (ndAt S.N i).1.k 0) := by
      show (match empL n S with | (i, none, S') => joinR S' (i, i, i, i) | (_, some c, S') => (0, some c, S')) = _
      rw [h0]
    have same : ∀ q, q < 4 → kd (ndAt S.N i).1.k q = kd (ndAt S.N i).1.k 0 := fun q hq => by
      have a := cells_shift_nil (x' := 0) (y' := 0) (hk q hq)
      have b := cells_shift_nil (x' := 0) (y' := 0) (hk 0 (by decide))
      exact uniq T (x := 0) (y := 0) (kid_ok T hi hq) (kid_ok T hi (by decide)) fun c => by rw [a, b]
    have e3 : (kd (ndAt S.N i).1.k 0, kd (ndAt S.N i).1.k 0, kd (ndAt S.N i).1.k 0, kd (ndAt S.N i).1.k 0) = (ndAt S.N i).1.k := by
      have a := same 1 (by decide)
      have b := same 2 (by decide)
      have c := same 3 (by decide)
      exact Prod.ext rfl (Prod.ext a.symm (Prod.ext b.symm c.symm))
    rw [e2, e3]
    exact join_found T hi
end
end Go.Proofs.YtahlinekbllkaaaGreatDoor.Tr
