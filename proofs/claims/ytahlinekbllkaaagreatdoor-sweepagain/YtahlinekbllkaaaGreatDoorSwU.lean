/- Several texts, joined. -/
import Derived.Test.YtahlinekbllkaaaGreatDoorTrM2
import Derived.Test.YtahlinekbllkaaaGreatDoorArM
import Derived.Maps.OwnOps
import Derived.Maps.OwnSet
import Derived.Test.YtahlinekbllkaaaGreatDoorArW6
import Derived.BigQuiet
import Derived.Deep.RegionHeld3
import Derived.Deep.DeepCutAuto
import Derived.Maps.AppendAt
import Derived.Test.YtahlinekbllkaaaGreatDoorTrU
/- What nodes reach; copies of nodes in another arena: the mathematics. -/
namespace Go.Proofs.YtahlinekbllkaaaGreatDoor.Sw
open Go.Proofs.YtahlinekbllkaaaGreatDoor.Ar Go.Proofs.YtahlinekbllkaaaGreatDoor.Mp Go.Proofs.YtahlinekbllkaaaGreatDoor.Tr

abbrev kidOf (N : List Nd) (i q : Nat) : Nat := kd (ndAt N i).1.k q
/-- A node of depth d has another one below it, or is it. -/
def Rch (N : List Nd) : Nat → Nat → Nat → Prop
  | 0, i, j => j = i
  | d + 1, i, j => j = i ∨ ∃ q, q < 4 ∧ Rch N d (kidOf N i q) j
section
variable {N : List Nd} {S T T0 T1 T2 : Sta} {d e i j x y q m : Nat} {L L1 L2 L0 : List Nat} {K K0 K1 K2 : Nat → Option Nat} {kk : K4} {er : Option Nat}
theorem rch_self (N : List Nd) (d i : Nat) : Rch N d i i := by cases d with | zero => exact rfl | succ d => exact .inl rfl
theorem rch_kid (hq : q < 4) (h : Rch N d (kidOf N i q) j) : Rch N (d + 1) i j := .inr ⟨q, hq, h⟩
theorem lv_uniq (h : lvOk N d i) (k : lvOk N e i) : d = e := by unfold lvOk at h k; omega
theorem rch_lv (W : Tw S) : ∀ {d i : Nat}, lvOk S.N d i → Rch S.N d i j → ∃ e, e ≤ d ∧ lvOk S.N e j
  | 0, i, h, r => by
    have r : j = i := r
    subst r
    exact ⟨0, Nat.le_refl _, h⟩
  | d + 1, i, h, r => by
    rcases r with r | ⟨q, hq, r⟩
    · subst r
      exact ⟨d + 1, Nat.le_refl _, h⟩
    · obtain ⟨e, he, hl⟩ := rch_lv W (kid_ok W h hq) r
      exact ⟨e, by omega, hl⟩
theorem rch_trans (W : Tw S) : ∀ {d i : Nat}, lvOk S.N d i → Rch S.N d i x → lvOk S.N e x → Rch S.N e x y → Rch S.N d i y
  | 0, i, h, r, k, t => by
    have r : x = i := r
    subst r
    obtain rfl := lv_uniq h k
    exact t
  | d + 1, i, h, r, k, t => by
    rcases r with r | ⟨q, hq, r⟩
    · subst r
      obtain rfl := lv_uniq h k
      exact t
    · exact .inr ⟨q, hq, rch_trans W (kid_ok W h hq) r k t⟩
theorem rch_le (W : Tw S) (h : lvOk S.N d i) (r : Rch S.N d i j) : j ≤ S.N.length := by
  obtain ⟨e, _, hl⟩ := rch_lv W h r
  exact lv_le hl
/-- Below a kid the node itself isn't. -/
theorem rch_ne (W : Tw S) (h : lvOk S.N (d + 1) i) (hq : q < 4) (r : Rch S.N d (kidOf S.N i q) x) : x ≠ i := by
  obtain ⟨e, he, hl⟩ := rch_lv W (kid_ok W h hq) r
  rintro rfl
  have := lv_uniq h hl
  omega
theorem range_len {n : Nat} (hn : L.Nodup) (h : ∀ x ∈ L, x ≤ n) : L.length ≤ n + 1 := by
  have := nodup_le (B := List.range (n + 1)) hn fun x hx => by rw [List.mem_range]; have := h x hx; omega
  rwa [List.length_range] at this
/-! Reaching. -/
def ClUp (N : List Nd) (d : Nat) (L : List Nat) : Prop := ∀ x ∈ L, ∀ e, e ≤ d → lvOk N e x → ∀ y, Rch N e x y → y ∈ L
theorem ClUp.down (h : ClUp N (d + 1) L) : ClUp N d L := fun x hx e he hl y hy => h x hx e (by omega) hl y hy
structure Rd (N : List Nd) (d i : Nat) (L L1 : List Nat) : Prop where
  nodup : L1.Nodup
  mem : ∀ x, x ∈ L1 ↔ x ∈ L ∨ Rch N d i x
theorem rd_known (hn : L.Nodup) (hc : ClUp S.N d L) (hi : lvOk S.N d i) (h : i ∈ L) : Rd S.N d i L L :=
  ⟨hn, fun x => ⟨.inl, fun hx => by rcases hx with hx | hx; exact hx; exact hc i h d (Nat.le_refl _) hi x hx⟩⟩
theorem rd_cl (W : Tw S) (hi : lvOk S.N d i) (hc : ClUp S.N e L) (h : Rd S.N d i L L1) : ClUp S.N e L1 := fun x hx f hf hl y hy => by
  rcases (h.mem x).1 hx with hx | hx
  · exact (h.mem y).2 (.inl (hc x hx f hf hl y hy))
  · exact (h.mem y).2 (.inr (rch_trans W hi hx hl hy))
theorem rd_leaf (hn : L.Nodup) (h : i ∉ L) : Rd N 0 i L (i :: L) := ⟨List.nodup_cons.2 ⟨h, hn⟩, fun x => by
  rw [List.mem_cons]
  constructor
  · rintro (h | h)
    · exact .inr h
    · exact .inl h
  · rintro (h | h)
    · exact .inr h
    · exact .inl h⟩
structure Rk (N : List Nd) (d i q : Nat) (L L1 : List Nat) : Prop where
  nodup : L1.Nodup
  mem : ∀ x, x ∈ L1 ↔ x ∈ L ∨ x = i ∨ ∃ r, r < q ∧ Rch N d (kidOf N i r) x
theorem rk_zero (hn : L.Nodup) (h : i ∉ L) : Rk N d i 0 L (i :: L) := ⟨List.nodup_cons.2 ⟨h, hn⟩, fun x => by
  rw [List.mem_cons]
  constructor
  · rintro (h | h)
    · exact .inr (.inl h)
    · exact .inl h
  · rintro (h | h | ⟨r, hr, _⟩)
    · exact .inr h
    · exact .inl h
    · omega⟩
theorem rk_cl (W : Tw S) (hi : lvOk S.N (d + 1) i) (hq : q ≤ 4) (hc : ClUp S.N (d + 1) L) (h : Rk S.N d i q L L1) : ClUp S.N d L1 := fun x hx f hf hl y hy => by
  rcases (h.mem x).1 hx with hx | rfl | ⟨r, hr, hx⟩
  · exact (h.mem y).2 (.inl (hc x hx f (by omega) hl y hy))
  · have := lv_uniq hi hl
    omega
  · exact (h.mem y).2 (.inr (.inr ⟨r, hr, rch_trans W (kid_ok W hi (by omega)) hx hl hy⟩))
theorem rk_step (h : Rk N d i q L L1) (k : Rd N d (kidOf N i q) L1 L2) : Rk N d i (q + 1) L L2 := ⟨k.nodup, fun x => by
  rw [k.mem, h.mem]
  clear h k
  constructor
  · rintro ((h | h | ⟨r, hr, h⟩) | h)
    · exact .inl h
    · exact .inr (.inl h)
    · exact .inr (.inr ⟨r, by omega, h⟩)
    · exact .inr (.inr ⟨q, by omega, h⟩)
  · rintro (h | h | ⟨r, hr, h⟩)
    · exact .inl (.inl h)
    · exact .inl (.inr (.inl h))
    · rcases Nat.lt_or_ge r q with hlt | hge
      · exact .inl (.inr (.inr ⟨r, hlt, h⟩))
      · obtain rfl : r = q := by omega
        exact .inr h⟩
theorem rk_done (h : Rk N d i 4 L L1) : Rd N (d + 1) i L L1 := ⟨h.nodup, fun x => by rw [h.mem]; rfl⟩
/-- All that some roots reach. -/
def Rs (N : List Nd) (R : List Nat) (x : Nat) : Prop := ∃ r ∈ R, ∃ d, lvOk N d r ∧ Rch N d r x
structure Rr (N : List Nd) (R L : List Nat) : Prop where
  nodup : L.Nodup
  mem : ∀ x, x ∈ L ↔ Rs N R x
theorem rr_nil (N : List Nd) : Rr N [] [] := ⟨List.nodup_nil, fun x => by unfold Rs; simp⟩
theorem rr_cl (W : Tw S) {R : List Nat} (h : Rr S.N R L) (e : Nat) : ClUp S.N e L := fun x hx f _ hl y hy => by
  obtain ⟨r, hr, d, h1, h2⟩ := (h.mem x).1 hx
  exact (h.mem y).2 ⟨r, hr, d, h1, rch_trans W h1 h2 hl hy⟩
theorem rr_step {R : List Nat} (h : Rr N R L) (hi : lvOk N d i) (k : Rd N d i L L1) : Rr N (R ++ [i]) L1 := ⟨k.nodup, fun x => by
  rw [k.mem, h.mem]
  unfold Rs
  constructor
  · rintro (⟨r, hr, h⟩ | h)
    · exact ⟨r, by simp [hr], h⟩
    · exact ⟨i, by simp, d, hi, h⟩
  · rintro ⟨r, hr, e, h1, h2⟩
    rcases List.mem_append.1 hr with hr | hr
    · exact .inl ⟨r, hr, e, h1, h2⟩
    · rw [List.mem_singleton] at hr
      subst hr
      obtain rfl := lv_uniq hi h1
      exact .inr h2⟩
theorem rr_len {R : List Nat} (h : Rr N R L) (k : Rr N R L1) : L.length = L1.length :=
  Nat.le_antisymm (nodup_le h.nodup fun x hx => (k.mem x).2 ((h.mem x).1 hx)) (nodup_le k.nodup fun x hx => (h.mem x).2 ((k.mem x).1 hx))
theorem rs_le (W : Tw S) {R : List Nat} (h : Rs S.N R x) : x ≤ S.N.length := by
  obtain ⟨r, _, d, h1, h2⟩ := h
  exact rch_le W h1 h2
/-! Copying. -/
/-- A node of one arena is that of another one. -/
def Same (S T : Sta) (d i j : Nat) : Prop := lvOk S.N d i ∧ lvOk T.N d j ∧ ∀ x y, cellsL T.N d j x y = cellsL S.N d i x y
theorem Same.ext (h : Same S T d i j) (W : Tw T) (k : Ext T T1) : Same S T1 d i j := ⟨h.1, k.lv h.2.1, fun x y => by rw [k.cells W h.2.1]; exact h.2.2 x y⟩
theorem same_inj (W : Tw S) (h : Same S T d i j) (k : Same S T e x j) : i = x := by
  obtain rfl := lv_uniq h.2.1 k.2.1
  exact uniq W (x := 0) (y := 0) h.1 k.1 fun c => by rw [← h.2.2, ← k.2.2]
theorem same_to (W : Tw T) (h : Same S T d i j) (k : Same S T e i m) : j = m := by
  obtain rfl := lv_uniq h.1 k.1
  exact uniq W (x := 0) (y := 0) h.2.1 k.2.1 fun c => by rw [h.2.2, k.2.2]
theorem same_kid (WS : Tw S) (WT : Tw T) (h : Same S T (d + 1) i j) (hq : q < 4) (k : Same S T e (kidOf S.N i q) m) : m = kidOf T.N j q := by
  obtain rfl := lv_uniq k.1 (kid_ok WS h.1 hq)
  refine uniq WT (x := px e 0 q) (y := py e 0 q) k.2.1 (kid_ok WT h.2.1 hq) fun c => ?_
  rw [k.2.2]
  constructor
  · intro hc
    have hs := cells_in hc
    have := (cells_kid (N := S.N) (i := i) (x := 0) (y := 0) hq hs).2 hc
    rw [← h.2.2] at this
    exact (cells_kid hq hs).1 this
  · intro hc
    have hs := cells_in hc
    have := (cells_kid (N := T.N) (i := j) (x := 0) (y := 0) hq hs).2 hc
    rw [h.2.2] at this
    exact (cells_kid hq hs).1 this
theorem same_zero (W : Tw S) (h : Same S T d i 0) : i = 0 := by
  have h0 : lvOk T.N 0 0 := lv_zero _
  obtain rfl := lv_uniq h.2.1 h0
  refine leaf_same W h.1 (lv_zero _) ?_
  have e0 : (ndAt S.N 0).1.bits = 0 := by simp [ndAt, leaf0]
  have e1 : (ndAt T.N 0).1.bits = 0 := by simp [ndAt, leaf0]
  have hc := h.2.2 0 0
  have hl := leaf_bits W h.1
  rw [e0]
  refine bits_eq hl (by decide) fun k hk => ?_
  have h1 : Go.Proofs.YtahlinekbllkaaaGreatDoor.Si.cAt 0 0 k ∈ cellsL T.N 0 0 0 0 ↔ (0 : Nat).testBit k = true := by
    show _ ∈ (Si.pos (ndAt T.N 0).1.bits 32).map (Si.cAt 0 0) ↔ _
    rw [e1, mem_bits hk]
  have h2 : Go.Proofs.YtahlinekbllkaaaGreatDoor.Si.cAt 0 0 k ∈ cellsL S.N 0 i 0 0 ↔ (ndAt S.N i).1.bits.testBit k = true := mem_bits hk
  rw [hc, h2] at h1
  rw [Bool.eq_iff_iff]
  exact h1
def nz (L : List Nat) : Nat := (L.filter fun x => decide (x ≠ 0)).length
theorem nz_cons (i : Nat) (L : List Nat) : nz (i :: L) = nz L + if i = 0 then 0 else 1 := by
  unfold nz
  by_cases h : i = 0
  · rw [List.filter_cons_of_neg (by simp [h]), if_pos h]; rfl
  · rw [List.filter_cons_of_pos (by simp [h]), if_neg h]; rfl
theorem nz_le (L : List Nat) : nz L ≤ L.length := List.length_filter_le _ _
structure Kn (S T : Sta) (K : Nat → Option Nat) (L : List Nat) : Prop where
  same : ∀ i j, K i = some j → ∃ d, Same S T d i j
  closed : ∀ d i, lvOk S.N (d + 1) i → (K i).isSome = true → ∀ q, q < 4 → (K (kidOf S.N i q)).isSome = true
  nodup : L.Nodup
  keys : ∀ x, x ∈ L ↔ (K x).isSome = true
theorem kn_nil (S T : Sta) : Kn S T (fun _ => none) [] := ⟨fun i j h => by simp at h, fun d i _ h => by simp at h, List.nodup_nil, fun x => by simp⟩
theorem Kn.ext (h : Kn S T K L) (W : Tw T) (k : Ext T T1) : Kn S T1 K L := ⟨fun i j hj => by obtain ⟨d, hs⟩ := h.same i j hj; exact ⟨d, hs.ext W k⟩, h.closed, h.nodup, h.keys⟩
theorem Kn.len (h : Kn S T K L) : L.length ≤ S.N.length + 1 := range_len h.nodup fun x hx => by
  obtain ⟨j, hj⟩ := Option.isSome_iff_exists.1 ((h.keys x).1 hx)
  obtain ⟨d, hs⟩ := h.same x j hj
  exact lv_le hs.1
/-- All below what is known is known. -/
theorem Kn.all (h : Kn S T K L) (W : Tw S) : ∀ {d i : Nat}, lvOk S.N d i → (K i).isSome = true → Rch S.N d i x → (K x).isSome = true
  | 0, i, _, hi, r => by
    have r : x = i := r
    subst r
    exact hi
  | d + 1, i, hl, hi, r => by
    rcases r with r | ⟨q, hq, r⟩
    · subst r
      exact hi
    · exact h.all W (kid_ok W hl hq) (h.closed d i hl hi q hq) r
/-- .. and lies below its copy. -/
theorem Kn.rch (h : Kn S T K L) (WS : Tw S) (WT : Tw T) : ∀ {d i j : Nat}, K i = some j → Same S T d i j → Rch S.N d i x → K x = some y → Rch T.N d j y := by
  intro d
  induction d with
  | zero =>
    intro i j hi _ r hx
    have r : x = i := r
    subst r
    rw [hi] at hx
    injection hx with hx
    exact hx.symm
  | succ d ih =>
    intro i j hi hs r hx
    rcases r with r | ⟨q, hq, r⟩
    · subst r
      rw [hi] at hx
      injection hx with hx
      exact .inl hx.symm
    · obtain ⟨m, hm⟩ := Option.isSome_iff_exists.1 (h.closed d i hs.1 (by rw [hi]; rfl) q hq)
      obtain ⟨e, hk⟩ := h.same _ _ hm
      have hde := lv_uniq hk.1 (kid_ok WS hs.1 hq)
      rw [hde] at hk
      have e := same_kid WS WT hs hq hk
      have := ih hm hk r hx
      rw [e] at this
      exact .inr ⟨q, hq, this⟩
theorem Kn.count (h : Kn S T K L) (WS : Tw S) : nz L ≤ T.N.length := by
  have key : ∀ x ∈ L.filter (fun x => decide (x ≠ 0)), ∃ j d, K x = some j ∧ Same S T d x j ∧ j ≠ 0 := fun x hx => by
    obtain ⟨h1, h2⟩ := List.mem_filter.1 hx
    obtain ⟨j, hj⟩ := Option.isSome_iff_exists.1 ((h.keys x).1 h1)
    obtain ⟨d, hs⟩ := h.same x j hj
    refine ⟨j, d, hj, hs, ?_⟩
    rintro rfl
    have := same_zero WS hs
    simp at h2
    exact h2 this
  have hnd : ((L.filter fun x => decide (x ≠ 0)).map fun x => (K x).getD 0).Nodup := by
    unfold List.Nodup
    rw [List.pairwise_map]
    refine (h.nodup.filter _).imp_of_mem ?_
    intro a b ha hb hne e
    obtain ⟨ja, da, ka, sa, _⟩ := key a ha
    obtain ⟨jb, db, kb, sb, _⟩ := key b hb
    rw [ka, kb] at e
    have e : ja = jb := e
    subst e
    exact hne (same_inj WS sa sb)
  have := nodup_le (B := List.range' 1 T.N.length) hnd fun j hj => by
    obtain ⟨x, hx, rfl⟩ := List.mem_map.1 hj
    obtain ⟨j, d, hk, hs, h0⟩ := key x hx
    rw [hk, List.mem_range'_1]
    have := lv_le hs.2.1
    show 1 ≤ j ∧ j < 1 + T.N.length
    omega
  rw [List.length_map, List.length_range'] at this
  exact this
/-- What copying a node does. -/
structure Cd (S T0 : Sta) (K0 : Nat → Option Nat) (L0 : List Nat) (d i j : Nat) (er : Option Nat) (T : Sta) (K : Nat → Option Nat) (L : List Nat) : Prop where
  ext : Ext T0 T
  kn : Kn S T K L
  grow : ∀ x y, K0 x = some y → K x = some y
  new : ∀ x, (K x).isSome = true → (K0 x).isSome = true ∨ Rch S.N d i x
  cov : ∀ m, T0.N.length < m → m ≤ T.N.length → ∃ x, K x = some m
  len : T.N.length + nz L0 ≤ T0.N.length + nz L
  ok : (er = none ∧ K i = some j) ∨ (er = some 8 ∧ j = 0 ∧ full T ∧ ∃ x, x ≠ 0 ∧ Rch S.N d i x ∧ K x = none)
theorem cd_known (W : Tw T0) (h : Kn S T0 K0 L0) (hi : K0 i = some j) : Cd S T0 K0 L0 d i j none T0 K0 L0 :=
  ⟨Ext.refl W, h, fun _ _ h => h, fun _ h => .inl h, fun m h1 h2 => by omega, Nat.le_refl _, .inl ⟨rfl, hi⟩⟩
/-- .. kid by kid. -/
structure Mk (S T0 : Sta) (K0 : Nat → Option Nat) (L0 : List Nat) (d i q : Nat) (kk : K4) (T : Sta) (K : Nat → Option Nat) (L : List Nat) : Prop where
  ext : Ext T0 T
  kn : Kn S T K L
  grow : ∀ x y, K0 x = some y → K x = some y
  new : ∀ x, (K x).isSome = true → (K0 x).isSome = true ∨ ∃ r, r < q ∧ Rch S.N d (kidOf S.N i r) x
  cov : ∀ m, T0.N.length < m → m ≤ T.N.length → ∃ x, K x = some m
  len : T.N.length + nz L0 ≤ T0.N.length + nz L
  kids : ∀ r, r < q → K (kidOf S.N i r) = some (kd kk r)
theorem mk_zero (W : Tw T0) (h : Kn S T0 K0 L0) (kk : K4) : Mk S T0 K0 L0 d i 0 kk T0 K0 L0 :=
  ⟨Ext.refl W, h, fun _ _ h => h, fun _ h => .inl h, fun m h1 h2 => by omega, Nat.le_refl _, fun r h => by omega⟩
end
/-- A node's number in the place of a kid's. -/
def kset4 (k : K4) (q i : Nat) : K4 := match q with
  | 0 => (i, k.2.1, k.2.2.1, k.2.2.2)
  | 1 => (k.1, i, k.2.2.1, k.2.2.2)
  | 2 => (k.1, k.2.1, i, k.2.2.2)
  | _ => (k.1, k.2.1, k.2.2.1, i)
theorem kd_set4 (k : K4) {q r : Nat} (i : Nat) (hq : q < 4) (hr : r < 4) : kd (kset4 k q i) r = if r = q then i else kd k r := by
  rcases four hq with rfl | rfl | rfl | rfl <;> rcases four hr with rfl | rfl | rfl | rfl <;> simp [kset4, kd]
section
variable {N : List Nd} {S T T0 T1 T2 : Sta} {d e i j x y q m : Nat} {L L1 L2 L0 : List Nat} {K K0 K1 K2 : Nat → Option Nat} {kk : K4} {er : Option Nat}
theorem mk_step (hq : q < 4) (h : Mk S T0 K0 L0 d i q kk T K L) (k : Cd S T K L d (kidOf S.N i q) j none T1 K1 L1) : Mk S T0 K0 L0 d i (q + 1) (kset4 kk q j) T1 K1 L1 := by
  refine ⟨h.ext.trans k.ext, k.kn, fun x y hx => k.grow x y (h.grow x y hx), fun x hx => ?_, fun m h1 h2 => ?_, by have := h.len; have := k.len; omega, fun r hr => ?_⟩
  · rcases k.new x hx with hx | hx
    · rcases h.new x hx with hx | ⟨r, hr, hx⟩
      · exact .inl hx
      · exact .inr ⟨r, by omega, hx⟩
    · exact .inr ⟨q, by omega, hx⟩
  · rcases Nat.lt_or_ge T.N.length m with hm | hm
    · exact k.cov m hm h2
    · obtain ⟨x, hx⟩ := h.cov m h1 hm
      exact ⟨x, k.grow x m hx⟩
  · rw [kd_set4 kk j hq (by omega)]
    by_cases e : r = q
    · subst e
      rw [if_pos rfl]
      rcases k.ok with ⟨_, h1⟩ | ⟨h1, _⟩
      · exact h1
      · cases h1
    · rw [if_neg e]
      exact k.grow _ _ (h.kids r (by omega))
/-- .. what is made, but not known yet. -/
structure Md (S T0 : Sta) (K0 : Nat → Option Nat) (L0 : List Nat) (d i j : Nat) (er : Option Nat) (T : Sta) (K : Nat → Option Nat) (L : List Nat) : Prop where
  ext : Ext T0 T
  kn : Kn S T K L
  grow : ∀ x y, K0 x = some y → K x = some y
  new : ∀ x, (K x).isSome = true → (K0 x).isSome = true ∨ (Rch S.N d i x ∧ x ≠ i)
  cov : ∀ m, T0.N.length < m → m ≤ T.N.length → (er = none ∧ m = j) ∨ ∃ x, K x = some m
  len : T.N.length + nz L0 ≤ T0.N.length + nz L + if er = none ∧ i ≠ 0 then 1 else 0
  ok : (er = none ∧ Same S T d i j ∧ (∀ f, d = f + 1 → ∀ q, q < 4 → (K (kidOf S.N i q)).isSome = true)) ∨ (er = some 8 ∧ j = 0 ∧ full T ∧ ∃ x, x ≠ 0 ∧ Rch S.N d i x ∧ K x = none)
theorem mk_stop (W : Tw S) (hi : lvOk S.N (d + 1) i) {c : Nat} (hq : q < 4) (h : Mk S T0 K0 L0 d i q kk T K L) (k : Cd S T K L d (kidOf S.N i q) j (some c) T1 K1 L1) : Md S T0 K0 L0 (d + 1) i 0 (some c) T1 K1 L1 := by
  refine ⟨h.ext.trans k.ext, k.kn, fun x y hx => k.grow x y (h.grow x y hx), fun x hx => ?_, fun m h1 h2 => ?_, ?_, ?_⟩
  · rcases k.new x hx with hx | hx
    · rcases h.new x hx with hx | ⟨r, hr, hx⟩
      · exact .inl hx
      · exact .inr ⟨.inr ⟨r, by omega, hx⟩, rch_ne W hi (by omega) hx⟩
    · exact .inr ⟨.inr ⟨q, hq, hx⟩, rch_ne W hi hq hx⟩
  · rcases Nat.lt_or_ge T.N.length m with hm | hm
    · exact .inr (k.cov m hm h2)
    · obtain ⟨x, hx⟩ := h.cov m h1 hm
      exact .inr ⟨x, k.grow x m hx⟩
  · rw [if_neg (by simp)]
    have := h.len
    have := k.len
    omega
  · rcases k.ok with ⟨h1, _⟩ | ⟨h1, _, h3, x, hx, hr, h4⟩
    · cases h1
    · exact .inr ⟨h1, rfl, h3, x, hx, .inr ⟨q, hq, hr⟩, h4⟩
theorem join_one (T : Sta) (k : K4) (h : (joinR T k).2.1 = none) : (joinR T k).2.2.N = T.N ∨ (∃ nd, (joinR T k).2.2.N = T.N ++ [nd]) ∧ (joinR T k).1 = T.N.length + 1 := by
  revert h
  unfold joinR
  cases T.J k with
  | some i => intro _; exact .inl rfl
  | none =>
    dsimp only
    rcases aboveR T.N k with ⟨nd, _ | c⟩
    · dsimp only
      by_cases hf : full T
      · rw [if_pos hf]; intro h; cases h
      · rw [if_neg hf]; intro _; exact .inr ⟨⟨nd, rfl⟩, rfl⟩
    · dsimp only; intro h; cases h
theorem leaf_one (T : Sta) (f : Nat) (h : (leafR T f).2.1 = none) : (leafR T f).2.2.N = T.N ∨ ((∃ nd, (leafR T f).2.2.N = T.N ++ [nd]) ∧ (leafR T f).1 = T.N.length + 1) ∧ f ≠ 0 := by
  revert h
  unfold leafR
  by_cases h0 : f = 0
  · rw [if_pos h0]; intro _; exact .inl rfl
  · rw [if_neg h0]
    cases T.L f with
    | some i => intro _; exact .inl rfl
    | none =>
      dsimp only
      by_cases hf : full T
      · rw [if_pos hf]; intro h; cases h
      · rw [if_neg hf]; intro _; exact .inr ⟨⟨⟨_, rfl⟩, rfl⟩, h0⟩
theorem mk_done (W : Tw S) (hi : lvOk S.N (d + 1) i) (hd : d ≤ 41) (h0 : K0 i = none) (h : Mk S T0 K0 L0 d i 4 kk T K L) : Md S T0 K0 L0 (d + 1) i (joinR T kk).1 (joinR T kk).2.1 (joinR T kk).2.2 K L := by
  have hi0 : i ≠ 0 := by
    obtain ⟨nd, h1, _⟩ := node_case W hi
    exact h1
  have hs : ∀ r, r < 4 → Same S T d (kidOf S.N i r) (kd kk r) := fun r hr => by
    obtain ⟨e, hs⟩ := h.kn.same _ _ (h.kids r hr)
    obtain rfl := lv_uniq hs.1 (kid_ok W hi hr)
    exact hs
  have hnew : ∀ x, (K x).isSome = true → (K0 x).isSome = true ∨ (Rch S.N (d + 1) i x ∧ x ≠ i) := fun x hx => by
    rcases h.new x hx with hx | ⟨r, hr, hx⟩
    · exact .inl hx
    · exact .inr ⟨.inr ⟨r, hr, hx⟩, rch_ne W hi hr hx⟩
  have hki : K i = none := by
    cases hk : K i with
    | none => rfl
    | some j =>
      rcases hnew i (by rw [hk]; rfl) with hx | hx
      · rw [h0] at hx; cases hx
      · exact absurd rfl hx.2
  rcases join_spec h.ext.tw (fun q hq => (hs q hq).2.1) hd with ⟨j1, j2, j3, j4, _, _⟩ | ⟨j1, j2⟩
  · rw [j1]
    have hone := join_one T kk j1
    have hlen := h.len
    refine ⟨h.ext.trans j2, h.kn.ext h.ext.tw j2, h.grow, hnew, fun m h1 h2 => ?_, ?_, .inl ⟨rfl, ⟨hi, j3, fun x y => ?_⟩, fun f hf q hq => ?_⟩⟩
    · rcases hone with e | ⟨⟨nd, e⟩, e1⟩
      · rw [e] at h2
        exact .inr (h.cov m h1 h2)
      · rw [e, List.length_append] at h2
        simp only [List.length_cons, List.length_nil] at h2
        rcases Nat.lt_or_ge T.N.length m with hm | hm
        · exact .inl ⟨rfl, by omega⟩
        · exact .inr (h.cov m h1 hm)
    · rw [if_pos ⟨rfl, hi0⟩]
      rcases hone with e | ⟨⟨nd, e⟩, _⟩
      · rw [e]; omega
      · rw [e, List.length_append]
        simp only [List.length_cons, List.length_nil]
        omega
    · rw [cells_succ, cells_succ, j4, show List.range 4 = [0, 1, 2, 3] from rfl]
      simp only [List.flatMap_cons, List.flatMap_nil, List.append_nil]
      rw [j2.cells h.ext.tw (hs 0 (by decide)).2.1, j2.cells h.ext.tw (hs 1 (by decide)).2.1, j2.cells h.ext.tw (hs 2 (by decide)).2.1, j2.cells h.ext.tw (hs 3 (by decide)).2.1, (hs 0 (by decide)).2.2, (hs 1 (by decide)).2.2, (hs 2 (by decide)).2.2, (hs 3 (by decide)).2.2]
    · obtain rfl : d = f := by omega
      rw [h.kids q hq]
      rfl
  · rw [j1]
    exact ⟨h.ext, h.kn, h.grow, hnew, fun m h1 h2 => .inr (h.cov m h1 h2), by rw [if_neg (by simp)]; exact h.len, .inr ⟨rfl, rfl, j2, i, hi0, .inl rfl, hki⟩⟩
theorem md_leaf (W : Tw S) (WT : Tw T0) (hi : lvOk S.N 0 i) (h0 : K0 i = none) (h : Kn S T0 K0 L0) : Md S T0 K0 L0 0 i (leafR T0 (ndAt S.N i).1.bits).1 (leafR T0 (ndAt S.N i).1.bits).2.1 (leafR T0 (ndAt S.N i).1.bits).2.2 K0 L0 := by
  have hb := leaf_bits W hi
  rw [p32] at hb
  have hz : (ndAt S.N i).1.bits ≠ 0 → i ≠ 0 := fun hb0 e => by
    subst e
    exact hb0 (by simp [ndAt, leaf0])
  rcases leaf_spec WT hb with ⟨j1, j2, j3, j4, _⟩ | ⟨j1, j2⟩
  · rw [j1]
    have hone := leaf_one T0 _ j1
    refine ⟨j2, h.ext WT j2, fun _ _ h => h, fun _ h => .inl h, fun m h1 h2 => ?_, ?_, .inl ⟨rfl, ⟨hi, j3, fun x y => ?_⟩, fun f hf => by omega⟩⟩
    · rcases hone with e | ⟨⟨⟨nd, e⟩, e1⟩, _⟩
      · rw [e] at h2; omega
      · rw [e, List.length_append] at h2
        simp only [List.length_cons, List.length_nil] at h2
        exact .inl ⟨rfl, by omega⟩
    · rcases hone with e | ⟨⟨⟨nd, e⟩, _⟩, e1⟩
      · rw [e]; omega
      · rw [e, List.length_append, if_pos ⟨rfl, hz e1⟩]
        simp only [List.length_cons, List.length_nil]
        omega
    · show (Si.pos (ndAt (leafR T0 (ndAt S.N i).1.bits).2.2.N (leafR T0 (ndAt S.N i).1.bits).1).1.bits 32).map (Si.cAt x y) = (Si.pos (ndAt S.N i).1.bits 32).map (Si.cAt x y)
      rw [j4]
  · have hb0 : (ndAt S.N i).1.bits ≠ 0 := fun e => by
      rw [e] at j1
      simp [leafR] at j1
    rw [j1]
    exact ⟨Ext.refl WT, h, fun _ _ h => h, fun _ h => .inl h, fun m h1 h2 => by dsimp only at h2; omega, by rw [if_neg (by simp)]; exact Nat.le_refl _, .inr ⟨rfl, rfl, j2, i, hz hb0, rfl, h0⟩⟩
def updK (K : Nat → Option Nat) (i j : Nat) : Nat → Option Nat := fun x => if x = i then some j else K x
theorem md_none (h : Md S T0 K0 L0 d i j er T K L) (h0 : K0 i = none) : K i = none := by
  cases hk : K i with
  | none => rfl
  | some j =>
    rcases h.new i (by rw [hk]; rfl) with hx | hx
    · rw [h0] at hx; cases hx
    · exact absurd rfl hx.2
theorem md_learn (h : Md S T0 K0 L0 d i j none T K L) (h0 : K0 i = none) : Cd S T0 K0 L0 d i j none T (updK K i j) (i :: L) := by
  have hki := md_none h h0
  obtain ⟨hs, hkk⟩ : Same S T d i j ∧ (∀ f, d = f + 1 → ∀ q, q < 4 → (K (kidOf S.N i q)).isSome = true) := by
    rcases h.ok with ⟨_, h1, h2⟩ | ⟨h1, _⟩
    · exact ⟨h1, h2⟩
    · cases h1
  have hmono : ∀ x, (K x).isSome = true → (updK K i j x).isSome = true := fun x hx => by
    unfold updK
    split
    · rfl
    · exact hx
  refine ⟨h.ext, ⟨fun x y hx => ?_, fun f x hl hx q hq => ?_, ?_, fun x => ?_⟩, fun x y hx => ?_, fun x hx => ?_, fun m h1 h2 => ?_, ?_, .inl ⟨rfl, by unfold updK; rw [if_pos rfl]⟩⟩
  · unfold updK at hx
    split at hx
    · rename_i e
      subst e
      injection hx with hx
      subst hx
      exact ⟨d, hs⟩
    · exact h.kn.same x y hx
  · by_cases e : x = i
    · subst e
      have := lv_uniq hl hs.1
      exact hmono _ (hkk f this.symm q hq)
    · unfold updK at hx
      rw [if_neg e] at hx
      exact hmono _ (h.kn.closed f x hl hx q hq)
  · refine List.nodup_cons.2 ⟨fun hm => ?_, h.kn.nodup⟩
    have := (h.kn.keys i).1 hm
    rw [hki] at this
    cases this
  · rw [List.mem_cons, h.kn.keys]
    unfold updK
    constructor
    · rintro (rfl | hx)
      · rw [if_pos rfl]; rfl
      · exact hmono x hx
    · intro hx
      split at hx
      · rename_i e
        exact .inl e
      · exact .inr hx
  · unfold updK
    rw [if_neg (fun e => by subst e; rw [h0] at hx; cases hx)]
    exact h.grow x y hx
  · by_cases e : x = i
    · subst e
      exact .inr (rch_self _ _ _)
    · unfold updK at hx
      rw [if_neg e] at hx
      rcases h.new x hx with hx | hx
      · exact .inl hx
      · exact .inr hx.1
  · rcases h.cov m h1 h2 with ⟨_, rfl⟩ | ⟨x, hx⟩
    · exact ⟨i, by unfold updK; rw [if_pos rfl]⟩
    · refine ⟨x, ?_⟩
      unfold updK
      rw [if_neg (fun e => by subst e; rw [hki] at hx; cases hx)]
      exact hx
  · have := h.len
    rw [nz_cons]
    split at this
    · rename_i e
      rw [if_neg e.2]
      omega
    · split <;> omega
theorem md_fail {c : Nat} (h : Md S T0 K0 L0 d i j (some c) T K L) : Cd S T0 K0 L0 d i 0 (some c) T K L := by
  refine ⟨h.ext, h.kn, h.grow, fun x hx => ?_, fun m h1 h2 => ?_, ?_, ?_⟩
  · rcases h.new x hx with hx | hx
    · exact .inl hx
    · exact .inr hx.1
  · rcases h.cov m h1 h2 with ⟨h3, _⟩ | h3
    · cases h3
    · exact h3
  · have := h.len
    rwa [if_neg (by simp)] at this
  · rcases h.ok with ⟨h1, _⟩ | ⟨h1, _, h3⟩
    · cases h1
    · exact .inr ⟨h1, rfl, h3⟩
end
end Go.Proofs.YtahlinekbllkaaaGreatDoor.Sw

/- Sets of numbers in memory: maps from numbers to nothing; a map from numbers to numbers. -/
namespace Go.Proofs.YtahlinekbllkaaaGreatDoor.Sw
open Go.RowKit Go.Proofs.YtahlinekbllkaaaGreatDoor.Ba Go.Proofs.YtahlinekbllkaaaGreatDoor.Mp Go.Proofs.YtahlinekbllkaaaGreatDoor.Ar Go.Lib Go.Maps

--%if map[uint32]struct {}
theorem zeroUnit (w : World) : (zeroValue 146).run Tryz.prog w = .ok (.agg #[]) w := by kernel_rfl
theorem kU : Keyed Tryz.prog 28 := int_keyed Tryz.underlying28
/-- A block is a set of numbers. -/
def SetB (w : World) (b : Nat) (L : List Nat) : Prop := ∃ D, w.ownsMap Tryz.prog 28 (unitElem (H := Unit)) b L.length D ∧ (∀ x, okU x → has D (.int .u32 (x : Int)) = decide (x ∈ L)) ∧ Maps.size D = L.length
section
variable {w w' : World} {b : Nat} {L : List Nat} {x : Nat}
theorem SetB.lt (h : SetB w b L) : b < w.heap.size := by
  obtain ⟨D, h1, _⟩ := h
  exact World.ownsMap.lt h1
theorem SetB.same (h : SetB w b L) (hs : w'.heap[b]? = w.heap[b]?) : SetB w' b L := by
  obtain ⟨D, ⟨es, clock, h1, r⟩, h2⟩ := h
  exact ⟨D, ⟨es, clock, hs.trans h1, r⟩, h2⟩
theorem SetB.under (h : SetB w b L) (hb : Below w.heap.size w w') : SetB w' b L := h.same (hb.block b h.lt)
theorem SetB.made (w : World) : SetB (w.alloc (.map #[] 0)) w.heap.size [] :=
  ⟨.map [], World.ownsMap_made w Tryz.prog 28 _, fun x _ => by simp [has], by simp [Maps.size]⟩
theorem SetB.look (h : SetB w b L) (hx : okU x) : (Instr.lookup 120 (.map (some b)) (.int .u32 (x : Int)) true).run Tryz.prog w = .ok (.tuple #[.agg #[], .bool (decide (x ∈ L))]) w := by
  obtain ⟨D, h1, h2, _⟩ := h
  obtain ⟨v, ps, hrun, hv⟩ := World.ownsMap.look_ok h1 kU Tryz.underlying120 (zeroUnit w) unitElem_mk (keyOf_int_mk Tryz.underlying28 (u32_lit hx))
  obtain ⟨rfl, _⟩ := unitElem_inv hv
  rw [h2 x hx] at hrun
  exact hrun
theorem SetB.put (h : SetB w b L) (hL : L.length < maxLen) (hx : okU x) (hn : x ∉ L) :
    ∃ w', (Instr.mapUpdate 120 (.map (some b)) (.int .u32 (x : Int)) (.agg #[])).run Tryz.prog w = .ok () w' ∧ SetB w' b (x :: L) ∧ w.grownBy w' (some b) := by
  obtain ⟨D, h1, h2, h3⟩ := h
  obtain ⟨w', hup, hown, hg⟩ := World.ownsMap.update h1 kU Tryz.underlying120 hL (keyOf_int_mk Tryz.underlying28 (u32_lit hx)) unitElem_mk
  have hm := World.ownsMap.isMap h1
  have hk := kU.key (keyOf_int_mk Tryz.underlying28 (u32_lit hx))
  refine ⟨w', hup, ⟨_, by simpa using hown, fun y hy => ?_, ?_⟩, hg⟩
  · by_cases e : y = x
    · subst e
      rw [has_put_same hm hk]; simp
    · rw [has_put_other (fun e2 => e (by simp only [Lit.int.injEq, true_and] at e2; omega)), h2 y hy]; simp [e]
  · rw [size_put (World.ownsMap.tidy h1 kU), h2 x hx, h3]
    simp [hn]
theorem SetB.len (h : SetB w b L) (ty : TypeId) : (Builtin.len_ #[120] ty #[.map (some b)]).run Tryz.prog w = .ok (.int .i64 (L.length : Int)) w := by
  obtain ⟨D, h1, _, h5⟩ := h
  rw [← h5]
  exact World.ownsMap.len h1 Tryz.underlying120 ty
theorem SetB.blk (h : SetB w b L) {g : Nat} {t : TypeId} {cs : Array Value} (hg : Blk w g t cs) : b ≠ g := by
  rintro rfl
  obtain ⟨D, ⟨es, clock, h1, _⟩, _⟩ := h
  unfold Blk at hg
  rw [hg] at h1
  cases h1
end
--%fi
/-- Which numbers are which. -/
def mkN : MK Nat where
  mT := 116
  kT := 28
  eT := 28
  q := .u32
  enc := fun n => .int .u32 n
  kl := fun n => .int .u32 n
  ok := okU
  K := int_keyed Tryz.underlying28
  hu := Tryz.underlying116
  he := Tryz.underlying28
  hz := zeroU
  hkey := fun _ h => keyOf_int_mk Tryz.underlying28 (u32_lit h)
  inj := fun x y _ _ e => by simp only [Lit.int.injEq, true_and] at e; omega
end Go.Proofs.YtahlinekbllkaaaGreatDoor.Sw

/- Contracts of package sweep: isThere, isLeaf, reach, Reach. -/
namespace Go.Proofs.YtahlinekbllkaaaGreatDoor.Sw
open Go.RowKit Go.Proofs.YtahlinekbllkaaaGreatDoor.Ba Go.Proofs.YtahlinekbllkaaaGreatDoor.Mp Go.Proofs.YtahlinekbllkaaaGreatDoor.Ar Go.Proofs.YtahlinekbllkaaaGreatDoor.Tr Go.Lib Go.Maps

theorem lv_u {N : List Nd} {d i : Nat} (h : lvOk N d i) (hN : N.length ≤ 1000000) : okU i := by have := lv_le h; show _ < _; omega
theorem kid_ix (k : K4) {q : Nat} (h : q < 4) (w : World) : (Instr.index 93 (KV k) (.int .i64 q)).run Tryz.prog w = .ok (.int .u32 (kd k q)) w := by
  rcases four h with rfl | rfl | rfl | rfl <;> kernel_rfl
theorem isthere_any (g i : Nat) (S : Sta) (P : Nat → Prop) (w : World) (h : ArAt w g S P) (hi : okU i) (hN : S.N.length ≤ 1000000) :
    Calls Tryz.prog 61 #[Pt g, .int .u32 i] w fun e w' => e = .returned (.bool (decide (2 ≤ levelOf S.N i))) ∧ Below w.heap.size w w' := by
  have hc := Ar.level_any g i S P w h hi hN
  clear h
  generalize levelOf S.N i = l at *
  go_enter Tryz.func61, Tryz.ntmps61
  go_wp2_with fail
  refine hc.mono ?_
  rintro e w' ⟨rfl, hb⟩
  go_wp2_with fail
  go_ret
  exact ⟨rfl, hb⟩
theorem isleaf_any (g i : Nat) (S : Sta) (P : Nat → Prop) (w : World) (h : ArAt w g S P) (hi : okU i) (hN : S.N.length ≤ 1000000) :
    Calls Tryz.prog 81 #[Pt g, .int .u32 i] w fun e w' => e = .returned (.bool (levelOf S.N i == 2)) ∧ Below w.heap.size w w' := by
  have hc := Ar.level_any g i S P w h hi hN
  clear h
  generalize levelOf S.N i = l at *
  go_enter Tryz.func81, Tryz.ntmps81
  go_wp2_with fail
  refine hc.mono ?_
  rintro e w' ⟨rfl, hb⟩
  go_wp2_with fail
  go_ret
  exact ⟨rfl, hb⟩
def One (b : Nat) : Nat → Prop := fun k => k = b
theorem ArAt.one {w w' : World} {g b : Nat} {S : Sta} {P : Nat → Prop} (h : ArAt w g S P) (ho : Off (One b) w w') (hb : ¬ P b) : ArAt w' g S P :=
  h.same fun k hk hlt => ho.block k hlt fun e => hb (by have e : k = b := e; rwa [← e])
theorem off_put {w0 w w' : World} {b : Nat} (h : Off (One b) w0 w) (hg : w.grownBy w' (some b)) : Off (One b) w0 w' := h.grown hg fun k hk _ => by
  injection hk with hk
  exact hk.symm
def ReachC (d : Nat) : Prop := ∀ (i g b : Nat) (L : List Nat) (S : Sta) (P : Nat → Prop) (w : World), lvOk S.N d i → ArAt w g S P → ¬ P b → SetB w b L → L.Nodup → ClUp S.N d L → (∀ x ∈ L, x ≤ S.N.length) → Tw S → S.N.length ≤ 1000000 →
  Calls Tryz.prog 63 #[Pt g, .int .u32 i, .map (some b)] w fun e w' => ∃ L', e = .returned (.tuple #[]) ∧ Rd S.N d i L L' ∧ SetB w' b L' ∧ Off (One b) w w'
set_option maxRecDepth 100000 in
theorem reach_known (d i g b : Nat) (L : List Nat) (S : Sta) (w : World) (hi : lvOk S.N d i) (hS : SetB w b L) (hn : L.Nodup) (hc : ClUp S.N d L) (hN : S.N.length ≤ 1000000) (hm : i ∈ L) :
    Calls Tryz.prog 63 #[Pt g, .int .u32 i, .map (some b)] w fun e w' => ∃ L', e = .returned (.tuple #[]) ∧ Rd S.N d i L L' ∧ SetB w' b L' ∧ Off (One b) w w' := by
  have hl := hS.look (lv_u hi hN)
  rw [decide_eq_true hm] at hl
  have HR := Lib.hid (rd_known hn hc hi hm)
  have HS := Lib.hid hS
  clear hS hn hc hm hi
  go_enter Tryz.func63, Tryz.ntmps63
  go_wp2_with fail
  have hb : Below w.heap.size w (w.alloc (.cells #[] 146)) := by go_grown
  exact bodyPost_ret (v := .tuple #[]) (by simp [results, Tryz.results63, go_sem]) rfl ⟨L, rfl, HR.out, HS.out.under hb, Off.of_below hb⟩
def RcR (w : World) (b d i : Nat) (S : Sta) (L : List Nat) (t : Value) (wr : World) : Prop :=
  ∃ (q : Nat) (L1 : List Nat), q ≤ 4 ∧ t = .int .i64 q ∧ Rk S.N d i q L L1 ∧ SetB wr b L1 ∧ Off (One b) w wr
set_option maxRecDepth 100000 in
set_option maxHeartbeats 1000000 in
theorem reach_any : ∀ d, ReachC d := by
  intro d
  induction d with
  | zero =>
    intro i g b L S P w hi hA hP hS hn hc hle T hN
    by_cases hm : i ∈ L
    · exact reach_known 0 i g b L S w hi hS hn hc hN hm
    · have hiu := lv_u hi hN
      have hl := hS.look hiu
      rw [decide_eq_false hm] at hl
      have hL := range_len hn hle
      have hb : Below w.heap.size w (w.alloc (.cells #[] 146)) := by go_grown
      obtain ⟨w2, hup, hS2, hg2⟩ := (hS.under hb).put (by unfold maxLen; omega) hiu hm
      have HO2 : Hid (Off (One b) w w2) := Lib.hid (off_put (Off.of_below hb) hg2)
      have hA2 := ArAt.one hA HO2.out hP
      have hlf := isleaf_any g i S P w2 hA2 hiu hN
      rw [show levelOf S.N i = 2 from hi] at hlf
      have HR : Hid (Rd S.N 0 i L (i :: L)) := Lib.hid (rd_leaf hn hm)
      have HS2 := Lib.hid hS2
      clear hS hn hc hm hi hle hA hA2 hg2 hb hS2
      go_enter Tryz.func63, Tryz.ntmps63
      go_wp2_with fail
      refine hlf.mono ?_
      rintro e w3 ⟨rfl, hb3⟩
      go_wp2_with fail
      exact bodyPost_ret (v := .tuple #[]) (by simp [results, Tryz.results63, go_sem]) rfl ⟨_, rfl, HR.out, HS2.out.under hb3, HO2.out.trans (Off.of_below hb3)⟩
  | succ d ih =>
    intro i g b L S P w hi hA hP hS hn hc hle T hN
    by_cases hm : i ∈ L
    · exact reach_known (d + 1) i g b L S w hi hS hn hc hN hm
    · have hiu := lv_u hi hN
      have hl := hS.look hiu
      rw [decide_eq_false hm] at hl
      have hL := range_len hn hle
      have hb : Below w.heap.size w (w.alloc (.cells #[] 146)) := by go_grown
      obtain ⟨w2, hup, hS2, hg2⟩ := (hS.under hb).put (by unfold maxLen; omega) hiu hm
      have HO2 : Hid (Off (One b) w w2) := Lib.hid (off_put (Off.of_below hb) hg2)
      have hA2 := ArAt.one hA HO2.out hP
      have hlf := isleaf_any g i S P w2 hA2 hiu hN
      rw [show (levelOf S.N i == 2) = false by have : levelOf S.N i = ((d + 1 : Nat) : Int) + 2 := hi; rw [this, beq_eq_false_iff_ne]; omega] at hlf
      have hkd := fun W hW => Ar.kids_any g i S P W hW hiu hN
      have HR0 : Hid (Rk S.N d i 0 L (i :: L)) := Lib.hid (rk_zero hn hm)
      have HA := Lib.hid hA
      have HS2 := Lib.hid hS2
      have HI := Lib.hid hi
      have HC := Lib.hid hc
      have HT := Lib.hid T
      have HLe := Lib.hid hle
      have HIh := Lib.hid ih
      have HP := Lib.hid hP
      clear hS hn hc hm hi hle hA hg2 hb hS2 T ih hP
      go_enter Tryz.func63, Tryz.ntmps63
      go_wp2_with fail
      refine hlf.mono ?_
      rintro e w3 ⟨rfl, hb3⟩
      have hA3 := hA2.under hb3
      have HO3 := Lib.hid (HO2.out.trans (Off.of_below hb3))
      have HS3 := Lib.hid (HS2.out.under hb3)
      clear hlf hb3 hA2 hup
      go_wp2_with fail
      refine (hkd _ hA3).mono ?_
      rintro e w4 ⟨rfl, hb4⟩
      have HO4 := Lib.hid (HO3.out.trans (Off.of_below hb4))
      have HS4 := Lib.hid (HS3.out.under hb4)
      clear hkd hb4 hA3
      go_wp2_with fail
      go_loopw [26] (fun t wr => RcR w b d i S L t wr) (fun t _ => 4 - (intOf t).toNat)
      case atStart => exact ⟨0, _, by omega, rfl, HR0.out, HS4.out, HO4.out⟩
      case round =>
        clear HO2 HO3 HO4 HS2 HS3 HS4
        obtain ⟨q, L1, hq, rfl, hrk, hS1, ho⟩ := hrel
        by_cases hlt : q < 4
        · have hix := fun W => kid_ix (ndAt S.N i).1.k hlt W
          have hd : decide ((q : Int) < 4) = true := by simp; omega
          have hcl := rk_cl HT.out HI.out hq HC.out hrk
          have hle1 : ∀ x ∈ L1, x ≤ S.N.length := fun x hx => by
            rcases (hrk.mem x).1 hx with hx | rfl | ⟨r, hr, hx⟩
            · exact HLe.out x hx
            · exact lv_le HI.out
            · exact rch_le HT.out (kid_ok HT.out HI.out (by omega)) hx
          have hcall := HIh.out (kidOf S.N i q) g b L1 S P wr (kid_ok HT.out HI.out hlt) (ArAt.one HA.out ho HP.out) HP.out hS1 hrk.nodup hcl hle1 HT.out hN
          have HRk := Lib.hid hrk
          have HO := Lib.hid ho
          clear hrk ho hcl hle1 hS1
          go_wp2_with fail
          refine hcall.mono ?_
          rintro e w5 ⟨L2, rfl, hrd, hS5, ho5⟩
          have HR2 := Lib.hid (rk_step HRk.out hrd)
          have HO5 := Lib.hid (HO.out.trans ho5)
          have HS5 := Lib.hid hS5
          clear hcall hrd ho5 hS5
          go_wp2_with fail
          exact ⟨⟨q + 1, L2, by omega, by go_num, HR2.out, HS5.out, HO5.out⟩, by simp [intOf]; omega⟩
        · obtain rfl : q = 4 := by omega
          have HRd : Hid (Rd S.N (d + 1) i L L1) := Lib.hid (rk_done hrk)
          have HO := Lib.hid ho
          have HS1 := Lib.hid hS1
          clear hrk ho hS1
          go_wp2_with fail
          exact bodyPost_end (v := .tuple #[]) (by simp [results, Tryz.results63, go_sem]) rfl ⟨L1, rfl, HRd.out, HS1.out, HO.out⟩
end Go.Proofs.YtahlinekbllkaaaGreatDoor.Sw

/- Contracts of package sweep: copied, made. -/
namespace Go.Proofs.YtahlinekbllkaaaGreatDoor.Sw
open Go.RowKit Go.Proofs.YtahlinekbllkaaaGreatDoor.Ba Go.Proofs.YtahlinekbllkaaaGreatDoor.Mp Go.Proofs.YtahlinekbllkaaaGreatDoor.Ar Go.Proofs.YtahlinekbllkaaaGreatDoor.Tr Go.Lib Go.Maps

/-- Two arenas, and what is known of the one in the other. -/
structure Env (w : World) (gf gt b : Nat) (S T : Sta) (K : Nat → Option Nat) (L : List Nat) (Pf Pt : Nat → Prop) : Prop where
  fr : ArAt w gf S Pf
  ta : ArAt w gt T Pt
  ap : ∀ k, Pf k → ¬ Pt k
  bf : ¬ Pf b
  bt : ¬ Pt b
  new : ∀ k, w.heap.size ≤ k → Pt k
  mp : ∃ s, IsB mkN w b L.length s K
  kn : Kn S T K L
  ws : Tw S
  wt : Tw T
  ns : S.N.length ≤ 900000
  nt : T.N.length + S.N.length + 1 ≤ 1000000 + nz L
section
variable {w w' W : World} {gf gt b : Nat} {S T : Sta} {K : Nat → Option Nat} {L : List Nat} {Pf Pt : Nat → Prop}
theorem Env.tl (h : Env w gf gt b S T K L Pf Pt) : T.N.length ≤ 1000000 := by
  have := h.nt
  have := nz_le L
  have := h.kn.len
  omega
theorem Env.blt (h : Env w gf gt b S T K L Pf Pt) : b < w.heap.size := by
  obtain ⟨s, hs⟩ := h.mp
  exact hs.lt
theorem Env.under (h : Env w gf gt b S T K L Pf Pt) (hb : Below w.heap.size w w') : Env w' gf gt b S T K L Pf Pt :=
  ⟨h.fr.under hb, h.ta.under hb, h.ap, h.bf, h.bt, fun k hk => h.new k (Nat.le_trans hb.size hk), by obtain ⟨s, hs⟩ := h.mp; exact ⟨s, hs.under hb⟩, h.kn, h.ws, h.wt, h.ns, h.nt⟩
/-- A block of one's own is kept out. -/
theorem Env.keep (h : Env w gf gt b S T K L Pf Pt) (hb : Below w.heap.size w W) {B : Nat} (hB : w.heap.size ≤ B) (hB2 : B < W.heap.size) : Env W gf gt b S T K L Pf (fun k => Pt k ∧ k ≠ B) :=
  ⟨h.fr.under hb, (h.ta.weak (P' := fun k => Pt k ∧ k ≠ B) fun k hk hlt => ⟨hk, by omega⟩).under hb, fun k hk hn => h.ap k hk hn.1, h.bf, fun hn => h.bt hn.1, fun k hk => ⟨h.new k (Nat.le_trans hb.size hk), by omega⟩, by obtain ⟨s, hs⟩ := h.mp; exact ⟨s, hs.under hb⟩, h.kn, h.ws, h.wt, h.ns, h.nt⟩
theorem Env.after (h : Env w gf gt b S T K L Pf Pt) (ho : Off (fun k => Pt k ∨ k = b) w w') {T' : Sta} {K' : Nat → Option Nat} {L' : List Nat} (hto : ArAt w' gt T' Pt) (hmp : ∃ s, IsB mkN w' b L'.length s K') (hkn : Kn S T' K' L') (hwt : Tw T') (hlen : T'.N.length + nz L ≤ T.N.length + nz L') : Env w' gf gt b S T' K' L' Pf Pt :=
  ⟨h.fr.same fun k hk hlt => ho.block k hlt fun hn => by
      rcases hn with hn | hn
      · exact h.ap k hk hn
      · exact h.bf (hn ▸ hk), hto, h.ap, h.bf, h.bt, fun k hk => h.new k (Nat.le_trans ho.size hk), hmp, hkn, h.ws, hwt, h.ns, by have := h.nt; omega⟩
end
abbrev Cp (gf gt b : Nat) : Value := .agg #[Pt gf, Pt gt, .map (some b)]
abbrev Cpc (gf gt b : Nat) : Array Value := #[Pt gf, Pt gt, .map (some b)]
def CdPost (w : World) (gt b d i : Nat) (S T : Sta) (K : Nat → Option Nat) (L : List Nat) (Pt : Nat → Prop) (e : Ending) (w' : World) : Prop :=
  ∃ (j : Nat) (er : Option Nat) (T' : Sta) (K' : Nat → Option Nat) (L' : List Nat), e = .returned (.tuple #[.int .u32 j, errV er]) ∧ Cd S T K L d i j er T' K' L' ∧ ArAt w' gt T' Pt ∧ (∃ s, IsB mkN w' b L'.length s K') ∧ Off (fun k => Pt k ∨ k = b) w w'
def MdPost (w : World) (gt b d i : Nat) (S T : Sta) (K : Nat → Option Nat) (L : List Nat) (Pt : Nat → Prop) (e : Ending) (w' : World) : Prop :=
  ∃ (j : Nat) (er : Option Nat) (T' : Sta) (K' : Nat → Option Nat) (L' : List Nat), e = .returned (.tuple #[.int .u32 j, errV er]) ∧ Md S T K L d i j er T' K' L' ∧ ArAt w' gt T' Pt ∧ (∃ s, IsB mkN w' b L'.length s K') ∧ Off (fun k => Pt k ∨ k = b) w w'
def CopC (d : Nat) : Prop := ∀ (i gf gt b : Nat) (S T : Sta) (K : Nat → Option Nat) (L : List Nat) (Pf Pt : Nat → Prop) (w : World), Env w gf gt b S T K L Pf Pt → lvOk S.N d i → d ≤ 42 →
  Calls Tryz.prog 62 #[Cp gf gt b, .int .u32 i] w (CdPost w gt b d i S T K L Pt)
def MadC (d : Nat) : Prop := ∀ (i gf gt b : Nat) (S T : Sta) (K : Nat → Option Nat) (L : List Nat) (Pf Pt : Nat → Prop) (w : World), Env w gf gt b S T K L Pf Pt → lvOk S.N d i → d ≤ 42 → K i = none →
  Calls Tryz.prog 80 #[Cp gf gt b, .int .u32 i] w (MdPost w gt b d i S T K L Pt)
theorem same_okU {S T : Sta} {K : Nat → Option Nat} {L : List Nat} {i j : Nat} (h : Kn S T K L) (hT : T.N.length ≤ 1000000) (hi : K i = some j) : okU j := by
  obtain ⟨d, hs⟩ := h.same i j hi
  exact lv_u hs.2.1 hT
/-- What made answers is a number. -/
theorem md_okU {S T T' : Sta} {K K' : Nat → Option Nat} {L L' : List Nat} {d i j : Nat} (h : Md S T K L d i j none T' K' L') (hT : T'.N.length ≤ 1000001) : okU j := by
  rcases h.ok with ⟨_, h1, _⟩ | ⟨h1, _⟩
  · have := lv_le h1.2.1; show _ < _; omega
  · cases h1
set_option maxRecDepth 100000 in
set_option maxHeartbeats 1000000 in
theorem copied_of (d : Nat) (hm : MadC d) : CopC d := by
  intro i gf gt b S T K L Pf Pt w E hi hd
  have hbw : Below w.heap.size w (w.alloc (.cells (Cpc gf gt b) 118)) := by go_grown
  have kb := Blk.newAt w 118 (Cpc gf gt b) _ rfl
  have E1 := E.keep hbw (Nat.le_refl w.heap.size) kb.lt
  have hiu := lv_u hi (by have := E.ns; omega)
  obtain ⟨s, hs⟩ := E1.mp
  have hlk := hs.lookOk hiu
  have HE := Lib.hid E
  have HE1 := Lib.hid E1
  have HBw := Lib.hid hbw
  obtain ⟨c0, c1, c2⟩ := Go.Proofs.YtahlinekbllkaaaGreatDoor.Se.keepB kb (Below.refl _ _)
  have hl := kb.lt
  cases hk : K i with
  | some j =>
    have HC : Hid (Cd S T K L d i j none T K L) := Lib.hid (cd_known E.wt E.kn hk)
    have HTo := Lib.hid (E.ta.under hbw)
    have HMp : Hid (∃ s, IsB mkN (w.alloc (.cells (Cpc gf gt b) 118)) b L.length s K) := Lib.hid ⟨s, hs⟩
    have hlk2 : (Instr.lookup 116 (.map (some b)) (.int .u32 (i : Int)) true).run Tryz.prog (w.alloc (.cells (Cpc gf gt b) 118)) = .ok (.tuple #[.int .u32 (j : Int), .bool true]) (w.alloc (.cells (Cpc gf gt b) 118)) := by
      rw [hk] at hlk
      exact hlk
    clear hlk hs E1 E hbw kb hk hm
    go_enter Tryz.func62, Tryz.ntmps62
    go_wp2_with fail
    exact bodyPost_ret (v := .tuple #[.int .u32 (j : Int), .nilIface]) (by simp [results, Tryz.results62, go_sem]) rfl ⟨j, none, T, K, L, rfl, HC.out, HTo.out, HMp.out, Off.of_below HBw.out⟩
  | none =>
    have hlk2 : (Instr.lookup 116 (.map (some b)) (.int .u32 (i : Int)) true).run Tryz.prog (w.alloc (.cells (Cpc gf gt b) 118)) = .ok (.tuple #[.int .u32 0, .bool false]) (w.alloc (.cells (Cpc gf gt b) 118)) := by
      rw [hk] at hlk
      exact hlk
    have hcall := hm i gf gt b S T K L Pf (fun k => Pt k ∧ k ≠ w.heap.size) _ E1 hi hd hk
    have HK := Lib.hid hk
    clear hlk hs E1 E hbw hk hm
    go_enter Tryz.func62, Tryz.ntmps62
    go_wp2_with fail
    refine hcall.mono ?_
    rintro e w5 ⟨j, er, T', K', L', rfl, hMd, hto, ⟨s5, hs5⟩, ho⟩
    have hBb : b < w.heap.size := HE.out.blt
    have k5 := ho.blk kb (fun h => by rcases h with h | h; exact h.2 rfl; omega)
    obtain ⟨c0', c1', c2'⟩ := Go.Proofs.YtahlinekbllkaaaGreatDoor.Se.keepB k5 (Below.refl _ _)
    have hl5 := k5.lt
    have HO : Hid (Off (fun k => Pt k ∨ k = b) w w5) := Lib.hid ((Off.of_below HBw.out).trans (ho.weak fun k _ hk => by rcases hk with hk | hk; exact .inl hk.1; exact .inr hk))
    have HTo := Lib.hid (hto.weak (P' := Pt) fun k hk _ => hk.1)
    have HMd := Lib.hid hMd
    clear hcall hto ho kb k5 c0 c1 c2 hl hlk2
    rcases er with _ | c
    · have hT' : T'.N.length ≤ 1000001 := by
        have h1 := hMd.len
        have h2 := HE1.out.nt
        have h3 := nz_le L'
        have h4 := hMd.kn.len
        split at h1 <;> omega
      have hju := md_okU hMd hT'
      have hki := md_none hMd HK.out
      have hL' : L'.length < maxLen := by have := hMd.kn.len; have := HE.out.ns; unfold maxLen; omega
      obtain ⟨w6, hup, hs6, hg6⟩ := hs5.put hL' hiu (u32_lit hju)
      have HC : Hid (Cd S T K L d i j none T' (updK K' i j) (i :: L')) := Lib.hid (md_learn hMd HK.out)
      have HTo6 : Hid (ArAt w6 gt T' Pt) := Lib.hid (HTo.out.same fun k hk hlt => hg6.block k hlt fun e => by
        injection e with e
        subst e
        exact HE.out.bt hk)
      have HO6 : Hid (Off (fun k => Pt k ∨ k = b) w w6) := Lib.hid (HO.out.grown hg6 fun k hk _ => by injection hk with hk; exact .inr hk.symm)
      have HMp : Hid (∃ s, IsB mkN w6 b (i :: L').length s (updK K' i j)) := Lib.hid ⟨_, hs6⟩
      have hup' : (Instr.mapUpdate 116 (.map (some b)) (.int .u32 (i : Int)) (.int .u32 (j : Int))).run Tryz.prog w5 = .ok () w6 := hup
      clear hMd hup hs6 hg6 hs5 hki hju hT' hL'
      unfold errV
      go_wp2_with fail
      exact bodyPost_ret (v := .tuple #[.int .u32 (j : Int), .nilIface]) (by simp [results, Tryz.results62, go_sem]) rfl ⟨j, none, T', _, _, rfl, HC.out, HTo6.out, HMp.out, HO6.out⟩
    · have HC : Hid (Cd S T K L d i 0 (some c) T' K' L') := Lib.hid (md_fail hMd)
      have HMp : Hid (∃ s, IsB mkN w5 b L'.length s K') := Lib.hid ⟨_, hs5⟩
      clear hMd hs5
      unfold errV
      go_wp2_with fail
      exact bodyPost_ret (v := .tuple #[.int .u32 0, errV (some c)]) (by simp [results, Tryz.results62, go_sem, errV]) rfl ⟨0, some c, T', K', L', rfl, HC.out, HTo.out, HMp.out, HO.out⟩
set_option maxRecDepth 100000 in
set_option maxHeartbeats 1000000 in
theorem made_leaf : MadC 0 := by
  intro i gf gt b S T K L Pf Pt w E hi hd h0
  have hbw : Below w.heap.size w (w.alloc (.cells (Cpc gf gt b) 118)) := by go_grown
  have kb := Blk.newAt w 118 (Cpc gf gt b) _ rfl
  have E1 := E.keep hbw (Nat.le_refl w.heap.size) kb.lt
  have hSn : S.N.length ≤ 1000000 := by have := E.ns; omega
  have hiu := lv_u hi hSn
  have hbits := leaf_bits E.ws hi
  rw [p32] at hbits
  have hmd := md_leaf E.ws E.wt hi h0 E.kn
  have hlf := fun W hW => isleaf_any gf i S Pf W hW hiu hSn
  rw [show levelOf S.N i = 2 from hi] at hlf
  have hbt := fun W hW => Ar.bits_any gf i S Pf W hW hiu hSn
  have hle := fun W hW hQ => Ar.leaf_any gt (ndAt S.N i).1.bits T (fun k => Pt k ∧ k ≠ w.heap.size) W hW hQ hbits E.tl
  generalize (ndAt S.N i).1.bits = f at *
  generalize leafR T f = R at *
  have hmp1 := E1.mp
  have HMd := Lib.hid hmd
  have HE := Lib.hid E
  have HBw := Lib.hid hbw
  have hfr := E1.fr
  have hto := E1.ta
  have HNew := Lib.hid E1.new
  obtain ⟨c0, c1, c2⟩ := Go.Proofs.YtahlinekbllkaaaGreatDoor.Se.keepB kb (Below.refl _ _)
  have hl := kb.lt
  clear hmd E1 E hbw h0 hi
  go_enter Tryz.func80, Tryz.ntmps80
  go_wp2_with fail
  refine (hlf _ hfr).mono ?_
  rintro e w2 ⟨rfl, hb2⟩
  have k2 := kb.under hb2
  have hfr2 := hfr.under hb2
  have hto2 := hto.under hb2
  have HB2 := Lib.hid (HBw.out.trans (hb2.mono (by have := HBw.out.size; exact this)))
  have hnew2 : ∀ k, w2.heap.size ≤ k → Pt k ∧ k ≠ w.heap.size := fun k hk => HNew.out k (Nat.le_trans hb2.size hk)
  have HNew2 := Lib.hid hnew2
  have HMp2 : Hid (∃ s, IsB mkN w2 b L.length s K) := Lib.hid (by obtain ⟨s, hs⟩ := hmp1; exact ⟨s, hs.under hb2⟩)
  obtain ⟨c0', c1', c2'⟩ := Go.Proofs.YtahlinekbllkaaaGreatDoor.Se.keepB k2 (Below.refl _ _)
  have hl2 := k2.lt
  clear hlf hb2 kb hfr hto c0 c1 c2 hl hnew2 hmp1
  have hkb : Below w2.heap.size w2 w2 := Below.refl _ _
  go_upto_region 2 with fail
  go_region_held3 (fun w' => w'.cell? ⟨w.heap.size, 0, none⟩ = some (Ar.Pt gf) ∧ w'.cell? ⟨w.heap.size, 1, none⟩ = some (Ar.Pt gt) ∧ w'.cell? ⟨w.heap.size, 2, none⟩ = some (.map (some b))) (first | (refine Go.Proofs.YtahlinekbllkaaaGreatDoor.Se.keepB k2 ?_; go_grown; done) | exact hS6)
    (first
      | (go_at_call 50; refine (hbt _ (hfr2.under (by go_grown))).mono ?_; rintro e w5 ⟨rfl, hb5⟩; have hkb : Below w2.heap.size w2 w5 := Ba.below_call hb5 (by go_grown) (by first | exact hkb.size | go_size); clear hb5)
      | (go_at_call 60; have hz5 := hkb.size; refine (hle _ (hto2.under (by go_grown)) (fun k hk => HNew2.out k (by omega))).mono ?_; rintro e w6 ⟨rfl, hA6, hO6⟩; have hO2 : Off (fun k => Pt k ∧ k ≠ w.heap.size) w2 w6 := (Off.of_below (by go_grown)).trans hO6; have hS6 := Go.Proofs.YtahlinekbllkaaaGreatDoor.Se.keepB (hO2.blk k2 (fun h => h.2 rfl)) (Below.refl _ _)))
  all_goals go_wp2_with fail
  all_goals
    have hto6 : ArAt w6 gt R.2.2 Pt := hA6.weak fun k hk _ => hk.1
    have hmp6 : ∃ s, IsB mkN w6 b L.length s K := by
      obtain ⟨s, hs⟩ := HMp2.out
      exact ⟨s, hs.same (hO2.block b hs.lt fun hn => HE.out.bt hn.1)⟩
    have hoff : Off (fun k => Pt k ∨ k = b) w w6 := (Off.of_below HB2.out).trans (hO2.weak fun k _ hk => .inl hk.1)
  all_goals exact bodyPost_ret (v := .tuple #[.int .u32 (R.1 : Int), errV R.2.1]) (by simp [results, Tryz.results80, go_sem]) rfl ⟨R.1, R.2.1, R.2.2, K, L, rfl, HMd.out, hto6, hmp6, hoff⟩
end Go.Proofs.YtahlinekbllkaaaGreatDoor.Sw

/- Contracts of package sweep: made of a node of four; copied, of any node. -/
namespace Go.Proofs.YtahlinekbllkaaaGreatDoor.Sw
open Go.RowKit Go.Proofs.YtahlinekbllkaaaGreatDoor.Ba Go.Proofs.YtahlinekbllkaaaGreatDoor.Mp Go.Proofs.YtahlinekbllkaaaGreatDoor.Ar Go.Proofs.YtahlinekbllkaaaGreatDoor.Tr Go.Lib Go.Maps

abbrev K4c (k : K4) : Array Value := #[.int .u32 k.1, .int .u32 k.2.1, .int .u32 k.2.2.1, .int .u32 k.2.2.2]
theorem k4_set (k : K4) {q : Nat} (hq : q < 4) (j : Nat) : (K4c k).setIfInBounds q (.int .u32 (j : Int)) = K4c (kset4 k q j) := by
  rcases four hq with rfl | rfl | rfl | rfl <;> rfl
theorem k4_get (k : K4) {q : Nat} (hq : q < 4) : (K4c k)[q]? = some (.int .u32 (kd k q : Int)) := by
  rcases four hq with rfl | rfl | rfl | rfl <;> rfl
/-- .. the state behind some kids. -/
def MdR (w : World) (gt b d i B1 B2 : Nat) (gf : Nat) (S T : Sta) (K : Nat → Option Nat) (L : List Nat) (Pt : Nat → Prop) (t : Value) (wr : World) : Prop :=
  ∃ (q : Nat) (kk : K4) (T1 : Sta) (K1 : Nat → Option Nat) (L1 : List Nat), q ≤ 4 ∧ t = .int .i64 q ∧ Mk S T K L d i q kk T1 K1 L1 ∧ Blk wr B1 118 (Cpc gf gt b) ∧ Blk wr B2 93 (K4c kk) ∧ ArAt wr gt T1 (fun k => (Pt k ∧ k ≠ B1) ∧ k ≠ B2) ∧ (∃ s, IsB mkN wr b L1.length s K1) ∧ Off (fun k => Pt k ∨ k = b) w wr ∧ w.heap.size ≤ B1 ∧ B1 < B2 ∧ ok4 kk
theorem ok4_set {k : K4} {q j : Nat} (h : ok4 k) (hj : okU j) : ok4 (kset4 k q j) := by
  obtain ⟨a, b, c, d⟩ := h
  unfold kset4
  split
  · exact ⟨hj, b, c, d⟩
  · exact ⟨a, hj, c, d⟩
  · exact ⟨a, b, hj, d⟩
  · exact ⟨a, b, c, hj⟩
theorem kd_okU {d i : Nat} {S : Sta} (W : Tw S) (hN : S.N.length ≤ 1000000) (h : lvOk S.N (d + 1) i) : ok4 (ndAt S.N i).1.k := by
  have hk := fun q hq => lv_u (kid_ok W h (q := q) hq) hN
  exact ⟨hk 0 (by decide), hk 1 (by decide), hk 2 (by decide), hk 3 (by decide)⟩
set_option maxRecDepth 100000 in
set_option maxHeartbeats 2000000 in
theorem made_node (d : Nat) (hc : CopC d) : MadC (d + 1) := by
  intro i gf gt b S T K L Pf Pt w E hi hd h0
  have hbw : Below w.heap.size w (w.alloc (.cells (Cpc gf gt b) 118)) := by go_grown
  have kb := Blk.newAt w 118 (Cpc gf gt b) _ rfl
  have hSn : S.N.length ≤ 1000000 := by have := E.ns; omega
  have hiu := lv_u hi hSn
  have hlf := fun W hW => isleaf_any gf i S Pf W hW hiu hSn
  rw [show (levelOf S.N i == 2) = false by have : levelOf S.N i = ((d + 1 : Nat) : Int) + 2 := hi; rw [this, beq_eq_false_iff_ne]; omega] at hlf
  have hkd := fun W hW => Ar.kids_any gf i S Pf W hW hiu hSn
  have HO4 : Hid (ok4 (ndAt S.N i).1.k) := Lib.hid (kd_okU E.ws hSn hi)
  have HE := Lib.hid E
  have HBw := Lib.hid hbw
  have HI := Lib.hid hi
  have H0 := Lib.hid h0
  have HC := Lib.hid hc
  have hfr := E.fr.under hbw
  obtain ⟨c0, c1, c2⟩ := Go.Proofs.YtahlinekbllkaaaGreatDoor.Se.keepB kb (Below.refl _ _)
  have hl := kb.lt
  clear E hbw h0 hi hc
  go_enter Tryz.func80, Tryz.ntmps80
  go_wp2_with fail
  refine (hlf _ hfr).mono ?_
  rintro e w2 ⟨rfl, hb2⟩
  have k2 := kb.under hb2
  have hfr2 := hfr.under hb2
  have HB2 := Lib.hid (HBw.out.trans (hb2.mono (by have := HBw.out.size; exact this)))
  obtain ⟨c0', c1', c2'⟩ := Go.Proofs.YtahlinekbllkaaaGreatDoor.Se.keepB k2 (Below.refl _ _)
  have hl2 := k2.lt
  clear hlf hb2 kb hfr c0 c1 c2 hl
  go_wp2_with fail
  refine (hkd _ hfr2).mono ?_
  rintro e w3 ⟨rfl, hb3⟩
  have k3 := k2.under hb3
  have HB3 := Lib.hid (HB2.out.trans (hb3.mono HB2.out.size))
  have hl3 := k3.lt
  clear hkd hb3 k2 hfr2 c0' c1' c2' hl2
  go_upto_region 4 with fail
  have hb4 : Below w3.heap.size w3 (w3.alloc (.cells (K4c (ndAt S.N i).1.k) 93)) := by go_grown
  have k4 := k3.under hb4
  have kk4 := Blk.newAt w3 93 (K4c (ndAt S.N i).1.k) _ rfl
  have HB4 := Lib.hid (HB3.out.trans (hb4.mono HB3.out.size))
  have hA4 : ArAt (w3.alloc (.cells (K4c (ndAt S.N i).1.k) 93)) gt T (fun k => (Pt k ∧ k ≠ w.heap.size) ∧ k ≠ w3.heap.size) :=
    (HE.out.ta.weak (P' := fun k => (Pt k ∧ k ≠ w.heap.size) ∧ k ≠ w3.heap.size) fun k hk hlt => ⟨⟨hk, by omega⟩, by have := HB3.out.size; omega⟩).under HB4.out
  have hI4 : ∃ s, IsB mkN (w3.alloc (.cells (K4c (ndAt S.N i).1.k) 93)) b L.length s K := by obtain ⟨s, hs⟩ := HE.out.mp; exact ⟨s, hs.under HB4.out⟩
  have HR : Hid (MdR w gt b d i w.heap.size w3.heap.size gf S T K L Pt (.int .i64 0) (w3.alloc (.cells (K4c (ndAt S.N i).1.k) 93))) := Lib.hid ⟨0, _, T, K, L, by omega, rfl, mk_zero HE.out.wt HE.out.kn _, k4, kk4, hA4, hI4, Off.of_below HB4.out, Nat.le_refl _, hl3, HO4.out⟩
  have d0 := kk4.cell 0
  have d1 := kk4.cell 1
  have d2 := kk4.cell 2
  have d3 := kk4.cell 3
  simp only [List.getElem?_toArray, List.getElem?_cons_zero, List.getElem?_cons_succ] at d0 d1 d2 d3
  have hlk := kk4.lt
  clear hb4 k4 kk4 hA4 hI4 k3
  generalize w3.alloc (.cells (K4c (ndAt S.N i).1.k) 93) = w4 at *
  generalize w3.heap.size = B2 at *
  go_wp2_with fail
  clear d0 d1 d2 d3
  go_loopw [29] (fun t wr => MdR w gt b d i w.heap.size B2 gf S T K L Pt t wr) (fun t _ => 4 - (intOf t).toNat)
  case atStart => exact HR.out
  case round =>
    clear HR HB4 HB3 HB2
    obtain ⟨q, kk, T1, K1, L1, hq, rfl, hMk, kB1, kB2, hto, hmp, ho, hB1, hB12, hok⟩ := hrel
    have hBb : b < w.heap.size := HE.out.blt
    obtain ⟨c0, c1, c2⟩ := Go.Proofs.YtahlinekbllkaaaGreatDoor.Se.keepB kB1 (Below.refl _ _)
    have hl1 := kB1.lt
    have hl2 := kB2.lt
    have hsz := ho.size
    have hEr : Env wr gf gt b S T1 K1 L1 Pf (fun k => (Pt k ∧ k ≠ w.heap.size) ∧ k ≠ B2) := by
      refine ⟨HE.out.fr.same fun k hk hlt => ho.block k hlt fun hn => ?_, hto, fun k hk hn => HE.out.ap k hk hn.1.1, HE.out.bf, fun hn => HE.out.bt hn.1.1, fun k hk => ⟨⟨HE.out.new k (by omega), by omega⟩, by omega⟩, hmp, hMk.kn, HE.out.ws, hMk.ext.tw, HE.out.ns, ?_⟩
      · rcases hn with hn | hn
        · exact HE.out.ap k hk hn
        · exact HE.out.bf (hn ▸ hk)
      · have := HE.out.nt
        have := hMk.len
        omega
    by_cases hlt : q < 4
    · have hix := fun W => kid_ix (ndAt S.N i).1.k hlt W
      have hd4 : decide ((q : Int) < 4) = true := by simp; omega
      have hcall := HC.out (kidOf S.N i q) gf gt b S T1 K1 L1 Pf _ wr hEr (kid_ok HE.out.ws HI.out hlt) (by omega)
      have HMk := Lib.hid hMk
      have HO := Lib.hid ho
      have HOk := Lib.hid hok
      have hEtl := hEr.tl
      have HEr := Lib.hid hEr
      clear hMk ho hok hto hmp hEr
      go_wp2_with fail
      refine hcall.mono ?_
      rintro e w5 ⟨j, er, T2, K2, L2, rfl, hCd, hto5, hmp5, ho5⟩
      have k15 := ho5.blk kB1 (fun hn => by rcases hn with hn | hn; exact hn.1.2 rfl; omega)
      have k25 := ho5.blk kB2 (fun hn => by rcases hn with hn | hn; exact hn.2 rfl; omega)
      have HO5 : Hid (Off (fun k => Pt k ∨ k = b) w w5) := Lib.hid (HO.out.trans (ho5.weak fun k _ hk => by rcases hk with hk | hk; exact .inl hk.1.1; exact .inr hk))
      have HTo5 := Lib.hid hto5
      have HMp5 := Lib.hid hmp5
      have hE5 := HEr.out.after ho5 hto5 hmp5 hCd.kn hCd.ext.tw hCd.len
      have htl5 := hE5.tl
      clear hcall hto5 hmp5 kB1 kB2 c0 c1 c2 hl1 hl2 hE5 ho5
      rcases er with _ | c
      · have hju : okU j := by
          rcases hCd.ok with ⟨_, h1⟩ | ⟨h1, _⟩
          · exact same_okU hCd.kn htl5 h1
          · cases h1
        have HMk2 := Lib.hid (mk_step hlt HMk.out hCd)
        have HOk2 : Hid (ok4 (kset4 kk q j)) := Lib.hid (ok4_set HOk.out hju)
        have kN := k25.set_ q (.int .u32 (j : Int))
        rw [k4_set kk hlt j] at kN
        have HkN := Lib.hid kN
        have hneB : w.heap.size ≠ B2 := by omega
        have kF := k15.far (p := ⟨B2, q, none⟩) hneB (.int .u32 (j : Int))
        have HkF := Lib.hid kF
        have hA6 : ArAt (w5.setCell ⟨B2, q, none⟩ (.int .u32 (j : Int))) gt T2 (fun k => (Pt k ∧ k ≠ w.heap.size) ∧ k ≠ B2) := HTo5.out.same fun k hk _ => Below.heap_setCell w5 ⟨B2, q, none⟩ _ k (fun e => hk.2 e)
        have HA6 := Lib.hid hA6
        have HMp6 : Hid (∃ s, IsB mkN (w5.setCell ⟨B2, q, none⟩ (.int .u32 (j : Int))) b L2.length s K2) := Lib.hid (by
          obtain ⟨s, hs⟩ := HMp5.out
          exact ⟨s, hs.same (Below.heap_setCell w5 ⟨B2, q, none⟩ _ b (fun e => by have e : b = B2 := e; omega))⟩)
        have HO6 : Hid (Off (fun k => Pt k ∨ k = b) w (w5.setCell ⟨B2, q, none⟩ (.int .u32 (j : Int)))) := Lib.hid (HO5.out.setCell (p := ⟨B2, q, none⟩) (fun h => by have h : B2 < w.heap.size := h; omega) _)
        have hl25 := k25.lt
        have f2 := k25.frozen q
        have hcq := (k25.cell q).trans (k4_get kk hlt)
        have hq4 : (q : Int) < 4 := by omega
        clear hCd kN kF hA6 k15 k25
        unfold errV
        go_wp2_with fail
        exact ⟨⟨q + 1, _, T2, K2, L2, by omega, by go_num, HMk2.out, HkF.out, HkN.out, HA6.out, HMp6.out, HO6.out, hB1, hB12, HOk2.out⟩, by simp [intOf]; omega⟩
      · have HMd : Hid (Md S T K L (d + 1) i 0 (some c) T2 K2 L2) := Lib.hid (mk_stop HE.out.ws HI.out hlt HMk.out hCd)
        have HTo6 : Hid (ArAt w5 gt T2 Pt) := Lib.hid (HTo5.out.weak fun k hk _ => hk.1.1)
        clear hCd k15 k25
        unfold errV
        go_wp2_with fail
        exact bodyPost_ret (v := .tuple #[.int .u32 0, errV (some c)]) (by simp [results, Tryz.results80, go_sem, errV]) rfl ⟨0, some c, T2, K2, L2, rfl, HMd.out, HTo6.out, HMp5.out, HO5.out⟩
    · obtain rfl : q = 4 := by omega
      have HMd := Lib.hid (mk_done HE.out.ws HI.out (by omega) H0.out hMk)
      have hjn := fun W hW hQ => Ar.join_any gt kk T1 (fun k => (Pt k ∧ k ≠ w.heap.size) ∧ k ≠ B2) W hW hok hQ hEr.tl
      generalize joinR T1 kk = R at *
      have hcall := hjn wr hto hEr.new
      have HO := Lib.hid ho
      have HMp := Lib.hid hmp
      have d0 := kB2.cell 0
      have d1 := kB2.cell 1
      have d2 := kB2.cell 2
      have d3 := kB2.cell 3
      simp only [List.getElem?_toArray, List.getElem?_cons_zero, List.getElem?_cons_succ] at d0 d1 d2 d3
      clear hMk ho hto hmp hEr hjn hok kB1 kB2
      go_wp2_with fail
      refine hcall.mono ?_
      rintro e w6 ⟨rfl, hA6, hO6⟩
      have HTo6 : Hid (ArAt w6 gt R.2.2 Pt) := Lib.hid (hA6.weak fun k hk _ => hk.1.1)
      have HMp6 : Hid (∃ s, IsB mkN w6 b L1.length s K1) := Lib.hid (by
        obtain ⟨s, hs⟩ := HMp.out
        exact ⟨s, hs.same (hO6.block b hs.lt fun hn => HE.out.bt hn.1.1)⟩)
      have HO6 : Hid (Off (fun k => Pt k ∨ k = b) w w6) := Lib.hid (HO.out.trans (hO6.weak fun k _ hk => .inl hk.1.1))
      clear hcall hA6 hO6 d0 d1 d2 d3
      go_wp2_with fail
      exact bodyPost_ret (v := .tuple #[.int .u32 (R.1 : Int), errV R.2.1]) (by simp [results, Tryz.results80, go_sem]) rfl ⟨R.1, R.2.1, R.2.2, K1, L1, rfl, HMd.out, HTo6.out, HMp6.out, HO6.out⟩
theorem copied_any : ∀ d, CopC d
  | 0 => copied_of 0 made_leaf
  | d + 1 => copied_of (d + 1) (made_node d (copied_any d))
end Go.Proofs.YtahlinekbllkaaaGreatDoor.Sw

/- Contracts of package sweep: Reach; lists of numbers in memory. -/
namespace Go.Proofs.YtahlinekbllkaaaGreatDoor.Sw
open Go.RowKit Go.Proofs.YtahlinekbllkaaaGreatDoor.Ba Go.Proofs.YtahlinekbllkaaaGreatDoor.Mp Go.Proofs.YtahlinekbllkaaaGreatDoor.Ar Go.Proofs.YtahlinekbllkaaaGreatDoor.Tr Go.Lib Go.Maps

/-- A list of numbers in memory. -/
def UAt (w : World) (v : Value) (R : List Nat) : Prop :=
  (v = .slice none 0 0 ∧ R = []) ∨ ∃ g o cap : Nat, v = .slice (some ⟨g, o, none⟩) R.length cap ∧ (∀ (j x : Nat), R[j]? = some x → w.cell? ⟨g, o + j, none⟩ = some (.int .u32 (x : Int))) ∧ g < w.heap.size
def UOut (v : Value) (P : Nat → Prop) : Prop := ∀ g o n cap, v = .slice (some ⟨g, o, none⟩) n cap → ¬ P g
section
variable {w w' : World} {v : Value} {R : List Nat} {P : Nat → Prop}
theorem UAt.len (h : UAt w v R) : ∃ p cap, v = .slice p R.length cap := by
  rcases h with ⟨rfl, rfl⟩ | ⟨g, o, cap, rfl, _, _⟩
  · exact ⟨none, 0, rfl⟩
  · exact ⟨_, _, rfl⟩
theorem UAt.off (h : UAt w v R) (ho : Off P w w') (hn : UOut v P) : UAt w' v R := by
  rcases h with h | ⟨g, o, cap, hv, hc, hg⟩
  · exact .inl h
  · exact .inr ⟨g, o, cap, hv, fun j x hj => (World.cell?_of_block (a := ⟨g, o + j, none⟩) (ho.block g hg (hn _ _ _ _ hv))).trans (hc j x hj), Nat.lt_of_lt_of_le hg ho.size⟩
theorem UAt.lt (h : UAt w v R) : UOut v fun k => w.heap.size ≤ k := fun g o n cap e => by
  rcases h with ⟨rfl, _⟩ | ⟨g2, o2, c2, hv, _, hg⟩
  · cases e
  · rw [hv] at e
    injection e with e
    injection e with e
    injection e with e
    omega
theorem UAt.below (h : UAt w v R) (hb : Below w.heap.size w w') : UAt w' v R := by
  rcases h with h | ⟨g, o, cap, hv, hc, hg⟩
  · exact .inl h
  · exact .inr ⟨g, o, cap, hv, fun j x hj => (hb.cell (p := ⟨g, o + j, none⟩) hg).trans (hc j x hj), Nat.lt_of_lt_of_le hg hb.size⟩
/-- One of them. -/
theorem UAt.get {p : Option Addr} {cap k x : Nat} (h : UAt w (.slice p R.length cap) R) (hx : R[k]? = some x) : ∃ g o, p = some ⟨g, o, none⟩ ∧ w.cell? ⟨g, o + k, none⟩ = some (.int .u32 (x : Int)) ∧ g < w.heap.size := by
  rcases h with ⟨_, rfl⟩ | ⟨g, o, cap', hv, hc, hg⟩
  · simp at hx
  · injection hv with hv _ _
    exact ⟨g, o, hv, hc k x hx, hg⟩
end
theorem lv_there {S : Sta} {r : Nat} (W : Tw S) (h : 2 ≤ levelOf S.N r) : ∃ d, lvOk S.N d r ∧ d ≤ 42 := by
  have h44 : levelOf S.N r ≤ 44 := by
    unfold levelOf ndAt
    by_cases h0 : r = 0
    · simp [h0, leaf0]
    · rw [if_neg h0]
      cases hd : S.N[r - 1]? with
      | none => simp
      | some nd => have := W.nok nd (List.mem_of_getElem? hd); simp; omega
  exact ⟨(levelOf S.N r - 2).toNat, by unfold lvOk; omega, by omega⟩
theorem take_next {α : Type} {R : List α} {k : Nat} {x : α} (h : R[k]? = some x) : R.take (k + 1) = R.take k ++ [x] := by rw [List.take_add_one, h]; rfl
/-! Reach. -/
def RtR (w1 : World) (b : Nat) (S : Sta) (R : List Nat) (t : Value) (wr : World) : Prop :=
  ∃ (k : Nat) (L : List Nat), k ≤ R.length ∧ t = .int .i64 k ∧ Rr S.N (R.take k) L ∧ (∀ r ∈ R.take k, 2 ≤ levelOf S.N r) ∧ SetB wr b L ∧ Off (One b) w1 wr
def RchPost (w : World) (S : Sta) (R : List Nat) (e : Ending) (w' : World) : Prop :=
  Below w.heap.size w w' ∧ ((∃ L, Rr S.N R L ∧ (∀ r ∈ R, 2 ≤ levelOf S.N r) ∧ e = .returned (.tuple #[.int .i64 (L.length : Int), .nilIface])) ∨ ((∃ r ∈ R, levelOf S.N r < 2) ∧ e = .returned (.tuple #[.int .i64 0, errV (some 4)])))
set_option maxRecDepth 100000 in
set_option maxHeartbeats 1000000 in
theorem reach_top (g : Nat) (S : Sta) (P : Nat → Prop) (R : List Nat) (v : Value) (w : World) (hA : ArAt w g S P) (hU : UAt w v R) (hR : ∀ r ∈ R, okU r) (hl : R.length ≤ 1000) (W : Tw S) (hN : S.N.length ≤ 1000000) :
    Calls Tryz.prog 29 #[Pt g, v] w (RchPost w S R) := by
  obtain ⟨p, cap, rfl⟩ := hU.len
  have hb1 : Below w.heap.size w (w.alloc (.map #[] 0)) := by go_grown
  have hS1 := SetB.made w
  have hA1 := (hA.weak (P' := fun k => P k ∧ k < w.heap.size) fun k hk hlt => ⟨hk, hlt⟩).under hb1
  have HA1 := Lib.hid hA1
  have HU1 := Lib.hid (hU.below hb1)
  have HUo := Lib.hid hU.lt
  have HR := Lib.hid hR
  have HW := Lib.hid W
  have HB1 := Lib.hid hb1
  have hmm := @run_makeMap Tryz.prog
  clear hA hU hR W hb1 hA1
  go_enter Tryz.func29, Tryz.ntmps29
  go_upto_region 2 with fail
  clear hmm
  have hz1 : w.heap.size + 1 ≤ (w.alloc (.map #[] 0)).heap.size := by simp
  generalize w.alloc (.map #[] 0) = w1 at *
  go_wp2_with fail
  go_loopw [12] (fun t wr => RtR w1 w.heap.size S R t wr) (fun t _ => R.length - (intOf t).toNat)
  case atStart => exact ⟨0, [], by omega, rfl, rr_nil _, fun r hr => by simp at hr, hS1, Off.refl⟩
  case round =>
    clear hS1
    obtain ⟨k, L, hk, rfl, hrr, hall, hS, ho⟩ := hrel
    have HBr : Hid (Below w.heap.size w wr) := Lib.hid (HB1.out.trans (ho.below (B := w.heap.size) HB1.out.size (fun b hb => by have hb : b = w.heap.size := hb; omega)))
    have hAr : ArAt wr g S (fun k => P k ∧ k < w.heap.size) := ArAt.one HA1.out ho (fun h => by omega)
    have hN1 : okU 0 := by decide
    by_cases hlt : k < R.length
    · obtain ⟨r, hr⟩ : ∃ r, R[k]? = some r := ⟨_, List.getElem?_eq_getElem hlt⟩
      have hru := HR.out r (List.mem_of_getElem? hr)
      obtain ⟨g2, o2, rfl, hc2, hg2⟩ := (HU1.out.off ho (fun g o n cap e hb => by have h1 := HUo.out g o n cap e; have hb : g = w.heap.size := hb; omega)).get hr
      have hit := isthere_any g r S _ wr hAr hru hN
      have hkR : (k : Int) < (R.length : Int) := by omega
      have HTk := Lib.hid (take_next hr)
      have HMem := Lib.hid (List.mem_of_getElem? hr)
      by_cases hth : 2 ≤ levelOf S.N r
      · rw [decide_eq_true hth] at hit
        obtain ⟨d, hd, _⟩ := lv_there HW.out hth
        have hLe : ∀ x ∈ L, x ≤ S.N.length := fun x hx => rs_le HW.out ((hrr.mem x).1 hx)
        have HRc : Hid (∀ W, Below wr.heap.size wr W → Calls Tryz.prog 63 #[Pt g, .int .u32 r, .map (some w.heap.size)] W fun e w' => ∃ L', e = .returned (.tuple #[]) ∧ Rd S.N d r L L' ∧ SetB w' w.heap.size L' ∧ Off (One w.heap.size) W w') :=
          Lib.hid fun W hb => reach_any d r g w.heap.size L S (fun k => P k ∧ k < w.heap.size) W hd (hAr.under hb) (fun h => by omega) (hS.under hb) hrr.nodup (rr_cl HW.out hrr d) hLe HW.out hN
        have HRr := Lib.hid hrr
        have HO := Lib.hid ho
        have HAll := Lib.hid hall
        have HD := Lib.hid hd
        clear hrr hall hS ho hAr hd hr hLe hN1
        go_wp2_with fail
        refine hit.mono ?_
        rintro e w2 ⟨rfl, hb2⟩
        have hrc := HRc.out w2 hb2
        have HO2 := Lib.hid (HO.out.trans (Off.of_below hb2))
        clear hit hb2 hc2 hg2
        go_wp2_with fail
        refine hrc.mono ?_
        rintro e w3 ⟨L', rfl, hrd, hS3, ho3⟩
        have HR3 : Hid (Rr S.N (R.take (k + 1)) L') := Lib.hid (by rw [HTk.out]; exact rr_step HRr.out HD.out hrd)
        have HA3 : Hid (∀ x ∈ R.take (k + 1), 2 ≤ levelOf S.N x) := Lib.hid (by
          rw [HTk.out]
          intro x hx
          rcases List.mem_append.1 hx with hx | hx
          · exact HAll.out x hx
          · rw [List.mem_singleton] at hx
            subst hx
            exact hth)
        have HS3 := Lib.hid hS3
        have HO3 := Lib.hid (HO2.out.trans ho3)
        clear hrc hrd hS3 ho3
        go_wp2_with fail
        exact ⟨⟨k + 1, L', by omega, by go_num, HR3.out, HA3.out, HS3.out, HO3.out⟩, by simp [intOf]; omega⟩
      · rw [decide_eq_false hth] at hit
        clear hrr hall hS ho hAr hr hN1
        go_wp2_with fail
        refine hit.mono ?_
        rintro e w2 ⟨rfl, hb2⟩
        have HB2 := Lib.hid (HBr.out.trans (hb2.mono HBr.out.size))
        have hth' : levelOf S.N r < 2 := by omega
        clear hit hb2 hc2 hg2
        go_wp2_with fail
        exact bodyPost_ret (v := .tuple #[.int .i64 0, errV (some 4)]) (by simp [results, Tryz.results29, go_sem, errV]) rfl ⟨HB2.out, .inr ⟨⟨r, HMem.out, hth'⟩, rfl⟩⟩
    · obtain rfl : k = R.length := by omega
      rw [List.take_length] at hrr hall
      have hlen := hS.len 3
      have HRr := Lib.hid hrr
      have HAll := Lib.hid hall
      clear hrr hall hS ho hAr hN1
      go_wp2_with fail
      exact bodyPost_ret (v := .tuple #[.int .i64 (L.length : Int), .nilIface]) (by simp [results, Tryz.results29, go_sem]) rfl ⟨HBr.out, .inl ⟨L, HRr.out, HAll.out, rfl⟩⟩
end Go.Proofs.YtahlinekbllkaaaGreatDoor.Sw

/- Contracts of package sweep: Copy, Collect. -/
namespace Go.Proofs.YtahlinekbllkaaaGreatDoor.Sw
open Go.RowKit Go.Proofs.YtahlinekbllkaaaGreatDoor.Ba Go.Proofs.YtahlinekbllkaaaGreatDoor.Mp Go.Proofs.YtahlinekbllkaaaGreatDoor.Ar Go.Proofs.YtahlinekbllkaaaGreatDoor.Tr Go.Lib Go.Maps

def encU (J : List Nat) : List Value := J.map fun (j : Nat) => Value.int .u32 (j : Int)
/-- What copying some roots does. -/
structure Cy (S T : Sta) (R : List Nat) (er : Option Nat) (T' : Sta) (K : Nat → Option Nat) (L J : List Nat) : Prop where
  ext : Ext T T'
  kn : Kn S T' K L
  new : ∀ x, (K x).isSome = true → Rs S.N R x
  cov : ∀ m, T.N.length < m → m ≤ T'.N.length → ∃ x, K x = some m
  len : T'.N.length ≤ T.N.length + nz L
  ok : (er = none ∧ (∀ r ∈ R, 2 ≤ levelOf S.N r) ∧ R.map K = J.map some) ∨ (er = some 8 ∧ full T' ∧ ∃ x, x ≠ 0 ∧ Rs S.N R x ∧ K x = none) ∨ (er = some 4 ∧ ∃ r ∈ R, levelOf S.N r < 2)
/-- .. behind so many of them. -/
structure Ck (S T : Sta) (R : List Nat) (T' : Sta) (K : Nat → Option Nat) (L J : List Nat) : Prop where
  ext : Ext T T'
  kn : Kn S T' K L
  new : ∀ x, (K x).isSome = true → Rs S.N R x
  cov : ∀ m, T.N.length < m → m ≤ T'.N.length → ∃ x, K x = some m
  len : T'.N.length ≤ T.N.length + nz L
  all : ∀ r ∈ R, 2 ≤ levelOf S.N r
  map : R.map K = J.map some
section
variable {S T T1 T2 : Sta} {R : List Nat} {K1 K2 : Nat → Option Nat} {L1 L2 J : List Nat} {d r j : Nat}
theorem rs_app {N : List Nd} {A : List Nat} {x : Nat} (h : Rs N R x) : Rs N (R ++ A) x := by
  obtain ⟨r, hr, h⟩ := h
  exact ⟨r, by simp [hr], h⟩
theorem ck_zero (W : Tw T) : Ck S T [] T (fun _ => none) [] [] := ⟨Ext.refl W, kn_nil S T, fun x h => by simp at h, fun m h1 h2 => by omega, Nat.le_add_right _ _, fun r h => by simp at h, rfl⟩
theorem ck_step (h : Ck S T R T1 K1 L1 J) (hl : 2 ≤ levelOf S.N r) (hd : lvOk S.N d r) (k : Cd S T1 K1 L1 d r j none T2 K2 L2) : Ck S T (R ++ [r]) T2 K2 L2 (J ++ [j]) := by
  have hgrow : ∀ x ∈ R, K2 x = K1 x := fun x hx => by
    have : (K1 x) ∈ R.map K1 := List.mem_map.2 ⟨x, hx, rfl⟩
    rw [h.map] at this
    obtain ⟨y, _, hy⟩ := List.mem_map.1 this
    rw [← hy]
    exact k.grow x y hy.symm
  refine ⟨h.ext.trans k.ext, k.kn, fun x hx => ?_, fun m h1 h2 => ?_, by have := h.len; have := k.len; omega, fun x hx => ?_, ?_⟩
  · rcases k.new x hx with hx | hx
    · exact rs_app (h.new x hx)
    · exact ⟨r, by simp, d, hd, hx⟩
  · rcases Nat.lt_or_ge T1.N.length m with hm | hm
    · exact k.cov m hm h2
    · obtain ⟨x, hx⟩ := h.cov m h1 hm
      exact ⟨x, k.grow x m hx⟩
  · rcases List.mem_append.1 hx with hx | hx
    · exact h.all x hx
    · rw [List.mem_singleton] at hx
      rw [hx]
      exact hl
  · rw [List.map_append, List.map_append, ← h.map]
    have e : K2 r = some j := by
      rcases k.ok with ⟨_, h1⟩ | ⟨h1, _⟩
      · exact h1
      · cases h1
    rw [List.map_congr_left hgrow]
    simp [e]
theorem ck_stop {c : Nat} {A : List Nat} (h : Ck S T R T1 K1 L1 J) (hd : lvOk S.N d r) (hr : r ∈ A) (hA : ∀ x ∈ R, x ∈ A) (k : Cd S T1 K1 L1 d r j (some c) T2 K2 L2) : Cy S T A (some c) T2 K2 L2 [] := by
  have hsub : ∀ x, Rs S.N R x → Rs S.N A x := fun x ⟨y, hy, h⟩ => ⟨y, hA y hy, h⟩
  refine ⟨h.ext.trans k.ext, k.kn, fun x hx => ?_, fun m h1 h2 => ?_, by have := h.len; have := k.len; omega, ?_⟩
  · rcases k.new x hx with hx | hx
    · exact hsub x (h.new x hx)
    · exact ⟨r, hr, d, hd, hx⟩
  · rcases Nat.lt_or_ge T1.N.length m with hm | hm
    · exact k.cov m hm h2
    · obtain ⟨x, hx⟩ := h.cov m h1 hm
      exact ⟨x, k.grow x m hx⟩
  · rcases k.ok with ⟨h1, _⟩ | ⟨h1, _, h3, x, hx, hx2, hx3⟩
    · cases h1
    · exact .inr (.inl ⟨h1, h3, x, hx, ⟨r, hr, d, hd, hx2⟩, hx3⟩)
theorem ck_none {A : List Nat} (h : Ck S T R T1 K1 L1 J) (hr : r ∈ A) (hA : ∀ x ∈ R, x ∈ A) (hl : levelOf S.N r < 2) : Cy S T A (some 4) T1 K1 L1 [] :=
  ⟨h.ext, h.kn, fun x hx => by obtain ⟨y, hy, h⟩ := h.new x hx; exact ⟨y, hA y hy, h⟩, h.cov, h.len, .inr (.inr ⟨rfl, r, hr, hl⟩)⟩
theorem ck_all (h : Ck S T R T1 K1 L1 J) : Cy S T R none T1 K1 L1 J := ⟨h.ext, h.kn, h.new, h.cov, h.len, .inl ⟨rfl, h.all, h.map⟩⟩
end
theorem u32_info : (Tryz.prog.info? 28).map (fun i => (i.zero, i.size, i.bytes)) = some (some (.int .u32 0), 1, 4) := by kernel_rfl
theorem encU_len (J : List Nat) : (encU J).length = J.length * 1 := by simp [encU]
theorem encU_app (A B : List Nat) : encU (A ++ B) = encU A ++ encU B := by simp [encU]
theorem one_encU (J : List Nat) : ∀ u ∈ encU J, u.oneCell' = true := by
  intro u hu
  obtain ⟨j, _, rfl⟩ := List.mem_map.1 hu
  rfl
def CyPost (w : World) (gt : Nat) (S T : Sta) (R : List Nat) (Pt : Nat → Prop) (e : Ending) (w' : World) : Prop :=
  ∃ (v : Value) (er : Option Nat) (T' : Sta) (K : Nat → Option Nat) (L J : List Nat), e = .returned (.tuple #[v, errV er]) ∧ Cy S T R er T' K L J ∧ ArAt w' gt T' (fun k => Pt k ∧ some k ≠ v.ownBlock) ∧ Off Pt w w' ∧ w'.ownsRow w.heap.size 28 1 v J.length (encU J) ∧ (er ≠ none → v = .slice none 0 0)
def CyR (w : World) (gf gt : Nat) (S T : Sta) (R : List Nat) (Pt : Nat → Prop) (v t : Value) (wr : World) : Prop :=
  ∃ (k : Nat) (T1 : Sta) (K1 : Nat → Option Nat) (L1 J : List Nat), k ≤ R.length ∧ t = .int .i64 k ∧ J.length = k ∧ Ck S T (R.take k) T1 K1 L1 J ∧ wr.ownsRow (w.heap.size + 2) 28 1 v k (encU J) ∧ Blk wr (w.heap.size + 1) 118 (Cpc gf gt w.heap.size) ∧ ArAt wr gt T1 (fun k => ((Pt k ∧ k ≠ w.heap.size) ∧ k ≠ w.heap.size + 1) ∧ some k ≠ v.ownBlock) ∧ (∃ s, IsB mkN wr w.heap.size L1.length s K1) ∧ Off Pt w wr ∧ w.heap.size + 2 ≤ wr.heap.size
set_option maxRecDepth 100000 in
set_option maxHeartbeats 2000000 in
theorem copy_any (gf gt : Nat) (S T : Sta) (Pf Pt : Nat → Prop) (R : List Nat) (v : Value) (w : World) (hF : ArAt w gf S Pf) (hT : ArAt w gt T Pt) (hap : ∀ k, Pf k → ¬ Pt k) (hnew : ∀ k, w.heap.size ≤ k → Pt k) (hU : UAt w v R) (hUo : UOut v Pt) (hR : ∀ r ∈ R, okU r) (hl : R.length ≤ 1000) (WS : Tw S) (WT : Tw T) (hN : S.N.length ≤ 900000) (hNT : T.N.length + S.N.length + 1 ≤ 1000000) :
    Calls Tryz.prog 27 #[Ar.Pt gf, Ar.Pt gt, v] w (CyPost w gt S T R Pt) := by
  obtain ⟨p, cap, rfl⟩ := hU.len
  obtain ⟨i0, hi0, hz0, hz1, hz2⟩ := info_parts u32_info
  have hPf : ∀ k, Pf k → k < w.heap.size := fun k hk => by
    rcases Nat.lt_or_ge k w.heap.size with h | h
    · exact h
    · exact absurd (hnew k h) (hap k hk)
  have hb1 : Below w.heap.size w ((w.alloc (.map #[] 0)).alloc (.cells (Cpc gf gt w.heap.size) 118)) := by go_grown
  have kb : Blk ((w.alloc (.map #[] 0)).alloc (.cells (Cpc gf gt w.heap.size) 118)) (w.heap.size + 1) 118 (Cpc gf gt w.heap.size) := Blk.newAt _ _ _ _ (by simp)
  have hm1 : IsB mkN ((w.alloc (.map #[] 0)).alloc (.cells (Cpc gf gt w.heap.size) 118)) w.heap.size 0 0 (fun _ => none) := (IsB.made w).under (by go_grown)
  have hsz1 : w.heap.size + 2 ≤ ((w.alloc (.map #[] 0)).alloc (.cells (Cpc gf gt w.heap.size) 118)).heap.size := by simp
  have hT1 := (hT.weak (P' := fun k => ((Pt k ∧ k ≠ w.heap.size) ∧ k ≠ w.heap.size + 1) ∧ some k ≠ (Value.slice none 0 0).ownBlock) fun k hk hlt => ⟨⟨⟨hk, by omega⟩, by omega⟩, by simp [Value.ownBlock]⟩).under hb1
  have HF := Lib.hid hF
  have HU := Lib.hid hU
  have HUo := Lib.hid hUo
  have HAp := Lib.hid hap
  have HNew := Lib.hid hnew
  have HPf := Lib.hid hPf
  have HR := Lib.hid hR
  have HWS := Lib.hid WS
  have HB1 := Lib.hid hb1
  have HR0 : Hid (CyR w gf gt S T R Pt (.slice none 0 0) (.int .i64 0) ((w.alloc (.map #[] 0)).alloc (.cells (Cpc gf gt w.heap.size) 118))) := Lib.hid ⟨0, T, _, [], [], by omega, rfl, rfl, ck_zero WT, World.ownsRow_nil _ _ _ _, kb, hT1, ⟨0, hm1⟩, Off.of_below hb1, hsz1⟩
  have hmm := @run_makeMap Tryz.prog
  clear hF hT hU hUo hap hnew hPf hR WS WT hb1 kb hm1 hsz1 hT1
  go_enter Tryz.func27, Tryz.ntmps27
  go_upto_region 2 with fail
  clear hmm
  generalize (w.alloc (.map #[] 0)).alloc (.cells (Cpc gf gt w.heap.size) 118) = w1 at *
  go_wp2_with fail
  go_loopw [9, 20] (fun v t wr => CyR w gf gt S T R Pt v t wr) (fun _ t _ => R.length - (intOf t).toNat)
  case atStart => exact HR0.out
  case round =>
    clear HR0
    obtain ⟨k, T1, K1, L1, J, hk, rfl, hJ, hCk, hown, kB, hto, hmp, ho, hsz⟩ := hrel
    obtain ⟨c0, c1, c2⟩ := Go.Proofs.YtahlinekbllkaaaGreatDoor.Se.keepB kB (Below.refl _ _)
    have hlB := kB.lt
    have hEr : Env wr gf gt w.heap.size S T1 K1 L1 Pf (fun k => ((Pt k ∧ k ≠ w.heap.size) ∧ k ≠ w.heap.size + 1) ∧ some k ≠ u9.ownBlock) := by
      refine ⟨HF.out.same fun k hk hlt => ho.block k hlt (HAp.out k hk), hto, fun k hk hn => HAp.out k hk hn.1.1.1, fun h => by have := HPf.out _ h; omega, fun hn => hn.1.1.2 rfl, fun k hk => ⟨⟨⟨HNew.out k (by have := ho.size; omega), by omega⟩, by omega⟩, fun e => by have := (hown.lt k e.symm).2; omega⟩, hmp, hCk.kn, HWS.out, hCk.ext.tw, hN, ?_⟩
      have := hCk.len
      omega
    by_cases hlt : k < R.length
    · obtain ⟨r, hr⟩ : ∃ r, R[k]? = some r := ⟨_, List.getElem?_eq_getElem hlt⟩
      have hru := HR.out r (List.mem_of_getElem? hr)
      obtain ⟨g2, o2, rfl, hc2, hg2⟩ := (HU.out.off ho HUo.out).get hr
      have hit := isthere_any gf r S Pf wr hEr.fr hru (by omega)
      have hkR : (k : Int) < (R.length : Int) := by omega
      have HTk := Lib.hid (take_next hr)
      have HMem := Lib.hid (List.mem_of_getElem? hr)
      have HCk := Lib.hid hCk
      have HO := Lib.hid ho
      have HEr := Lib.hid hEr
      have HOwn := Lib.hid hown
      have HkB := Lib.hid kB
      by_cases hth : 2 ≤ levelOf S.N r
      · rw [decide_eq_true hth] at hit
        obtain ⟨d, hd, hd42⟩ := lv_there HWS.out hth
        have HD := Lib.hid hd
        have HTh := Lib.hid hth
        have HCall : Hid (∀ W, Below wr.heap.size wr W → Calls Tryz.prog 62 #[Cp gf gt w.heap.size, .int .u32 r] W (CdPost W gt w.heap.size d r S T1 K1 L1 (fun k => ((Pt k ∧ k ≠ w.heap.size) ∧ k ≠ w.heap.size + 1) ∧ some k ≠ u9.ownBlock))) :=
          Lib.hid fun W hb => copied_any d r gf gt w.heap.size S T1 K1 L1 Pf _ W (hEr.under hb) hd hd42
        clear hCk hown hto hmp ho hEr hd hr hth kB
        go_wp2_with fail
        refine hit.mono ?_
        rintro e w2 ⟨rfl, hb2⟩
        have hcall := HCall.out w2 hb2
        have k2 := HkB.out.under hb2
        have HO2 := Lib.hid (HO.out.trans (Off.of_below hb2))
        have HOwn2 := Lib.hid (own_below HOwn.out hb2)
        have HEr2 := Lib.hid (HEr.out.under hb2)
        obtain ⟨c0', c1', c2'⟩ := Go.Proofs.YtahlinekbllkaaaGreatDoor.Se.keepB k2 (Below.refl _ _)
        have hl2 := k2.lt
        have hsz2 : w.heap.size + 2 ≤ w2.heap.size := Nat.le_trans hsz hb2.size
        clear hit hb2 hc2 hg2 c0 c1 c2 hlB
        go_wp2_with fail
        refine hcall.mono ?_
        rintro e w3 ⟨j, er, T2, K2, L2, rfl, hCd, hto3, hmp3, ho3⟩
        have k3 := ho3.blk k2 (fun hn => by rcases hn with hn | hn; exact hn.1.2 rfl; omega)
        have hE3 := HEr2.out.after ho3 hto3 hmp3 hCd.kn hCd.ext.tw hCd.len
        have htl3 := hE3.tl
        have HOff3 : Hid (Off Pt w w3) := Lib.hid (HO2.out.trans (ho3.weak fun k _ hk => by rcases hk with hk | hk; exact hk.1.1.1; exact HNew.out k (by omega)))
        have hown3 : w3.ownsRow (w.heap.size + 2) 28 1 u9 k (encU J) := own_same HOwn2.out fun q hq => ho3.block q (HOwn2.out.lt q hq).2 fun hn => by
          rcases hn with hn | hn
          · exact hn.2 hq.symm
          · have := (HOwn2.out.lt q hq).1; omega
        have hsz3 : w.heap.size + 2 ≤ w3.heap.size := Nat.le_trans hsz2 ho3.size
        have HCd := Lib.hid hCd
        have HTo3 := Lib.hid hto3
        have HMp3 := Lib.hid hmp3
        have Hk3 := Lib.hid k3
        clear hcall hCd hto3 hmp3 ho3 k2 c0' c1' c2' hl2 hE3 k3
        rcases er with _ | c
        · have hju : okU j := by
            rcases HCd.out.ok with ⟨_, h1⟩ | ⟨h1, _⟩
            · exact same_okU HCd.out.kn htl3 h1
            · cases h1
          have HCk2 : Hid (Ck S T (R.take (k + 1)) T2 K2 L2 (J ++ [j])) := Lib.hid (by rw [HTk.out]; exact ck_step HCk.out HTh.out HD.out HCd.out)
          have hownA := hown3.alloc (.cells #[.int .u32 (j : Int)] 28)
          have hnewA : ∀ (m : Nat) (u : Value), (encU [j])[m]? = some u → (w3.alloc (.cells #[.int .u32 (j : Int)] 28)).cell? ((⟨w3.heap.size, 0, none⟩ : Addr).add m) = some u := fun m u hu => by
            rw [Addr.add_lit, Nat.zero_add, (Blk.newAt w3 _ _ _ rfl).cell m]
            simpa [encU] using hu
          have HbA : Hid (Below w3.heap.size w3 (w3.alloc (.cells #[.int .u32 (j : Int)] 28))) := Lib.hid (by go_grown)
          have hszA : w3.heap.size + 1 ≤ (w3.alloc (.cells #[.int .u32 (j : Int)] 28)).heap.size := by simp
          clear hown3
          unfold errV
          go_wp2_with (at_builtin; refine wpList_append_own_at _ rfl _ _ 65 rfl (w.heap.size + 2) 28 i0 _ 1 4 Tryz.underlying65 hi0 hz0 hz1 hz2 rfl (by decide) _ _ _ rfl hownA ⟨w3.heap.size, 0, none⟩ 1 1 (encU [j]) rfl (encU_len [j]) hnewA (one_encU [j]) (by unfold maxLen; omega) (by omega) (by simp; omega) ?_)
          intro v' w' hown' hgr _ hbl
          have hbl' : ∀ q, v'.ownBlock = some q → u9.ownBlock = some q ∨ w3.heap.size + 1 ≤ q := fun q hq => by
            rcases hbl with h | h
            · exact .inl (h ▸ hq)
            · rw [h] at hq
              injection hq with hq
              omega
          have hk5 := (Hk3.out.under HbA.out).grown hgr (fun e => by have := (hownA.lt _ e.symm).1; omega)
          have hto5 : ArAt w' gt T2 (fun k => ((Pt k ∧ k ≠ w.heap.size) ∧ k ≠ w.heap.size + 1) ∧ some k ≠ v'.ownBlock) := by
            have h0 := HTo3.out.weak (P' := fun k => (((Pt k ∧ k ≠ w.heap.size) ∧ k ≠ w.heap.size + 1) ∧ some k ≠ u9.ownBlock) ∧ k < w3.heap.size) fun k hk hlt => ⟨hk, hlt⟩
            have h1 := (h0.under HbA.out).same (w' := w') fun q hq hlt => hgr.block q hlt (fun e => hq.1.2 e)
            exact h1.weak fun k hk _ => ⟨hk.1.1, fun e => by
              rcases hbl' k e.symm with h | h
              · exact hk.1.2 h.symm
              · omega⟩
          have hmp5 : ∃ s, IsB mkN w' w.heap.size L2.length s K2 := by
            obtain ⟨s, hs⟩ := HMp3.out
            exact ⟨s, (hs.under HbA.out).grown hgr (fun e => by have := (hownA.lt _ e.symm).1; omega)⟩
          have ho5 : Off Pt w w' := (HOff3.out.trans (Off.of_below HbA.out)).grown hgr fun q hq hlt => by have := (hownA.lt q hq).1; omega
          have hsz5 : w.heap.size + 2 ≤ w'.heap.size := Nat.le_trans (by omega) hgr.size
          have Hk5 := Lib.hid hk5
          have HTo5 := Lib.hid hto5
          have HMp5 := Lib.hid hmp5
          have HO5 := Lib.hid ho5
          have HOwn5 : Hid (w'.ownsRow (w.heap.size + 2) 28 1 v' (k + 1) (encU (J ++ [j]))) := Lib.hid (by rw [encU_app]; exact hown')
          have hJ5 : (J ++ [j]).length = k + 1 := by rw [List.length_append, hJ]; rfl
          have HJ5 := Lib.hid hJ5
          clear hk5 hto5 hmp5 ho5 hown' hgr hbl hbl' hownA hnewA hJ5
          go_wp2_with fail
          exact ⟨⟨k + 1, T2, K2, L2, J ++ [j], by omega, by go_num, HJ5.out, HCk2.out, HOwn5.out, Hk5.out, HTo5.out, HMp5.out, HO5.out, hsz5⟩, by simp [intOf]; omega⟩
        · have HCy : Hid (Cy S T R (some c) T2 K2 L2 []) := Lib.hid (ck_stop HCk.out HD.out HMem.out (fun x hx => List.mem_of_mem_take hx) HCd.out)
          have HTo4 : Hid (ArAt w3 gt T2 (fun k => Pt k ∧ some k ≠ (Value.slice none 0 0).ownBlock)) := Lib.hid (HTo3.out.weak fun k hk _ => ⟨hk.1.1.1, by simp [Value.ownBlock]⟩)
          clear hown3
          unfold errV
          go_wp2_with fail
          exact bodyPost_ret (v := .tuple #[.slice none 0 0, errV (some c)]) (by simp [results, Tryz.results27, go_sem, errV]) rfl ⟨_, some c, T2, K2, L2, [], rfl, HCy.out, HTo4.out, HOff3.out, World.ownsRow_nil _ _ _ _, fun _ => rfl⟩
      · rw [decide_eq_false hth] at hit
        have hth' : levelOf S.N r < 2 := by omega
        have HCy : Hid (Cy S T R (some 4) T1 K1 L1 []) := Lib.hid (ck_none HCk.out HMem.out (fun x hx => List.mem_of_mem_take hx) hth')
        clear hCk hown hmp ho hEr hr kB
        go_wp2_with fail
        refine hit.mono ?_
        rintro e w2 ⟨rfl, hb2⟩
        have HTo4 : Hid (ArAt w2 gt T1 (fun k => Pt k ∧ some k ≠ (Value.slice none 0 0).ownBlock)) := Lib.hid ((hto.under hb2).weak fun k hk _ => ⟨hk.1.1.1, by simp [Value.ownBlock]⟩)
        have HO2 := Lib.hid (HO.out.trans (Off.of_below hb2))
        clear hit hb2 hc2 hg2 hto c0 c1 c2
        go_wp2_with fail
        exact bodyPost_ret (v := .tuple #[.slice none 0 0, errV (some 4)]) (by simp [results, Tryz.results27, go_sem, errV]) rfl ⟨_, some 4, T1, K1, L1, [], rfl, HCy.out, HTo4.out, HO2.out, World.ownsRow_nil _ _ _ _, fun _ => rfl⟩
    · obtain rfl : k = R.length := by omega
      rw [List.take_length] at hCk
      have HCy : Hid (Cy S T R none T1 K1 L1 J) := Lib.hid (ck_all hCk)
      have HTo4 : Hid (ArAt wr gt T1 (fun k => Pt k ∧ some k ≠ u9.ownBlock)) := Lib.hid (hto.weak fun k hk _ => ⟨hk.1.1.1, hk.2⟩)
      have HO := Lib.hid ho
      have HOwn : Hid (wr.ownsRow w.heap.size 28 1 u9 J.length (encU J)) := Lib.hid (owns_base (Nat.le_add_right w.heap.size 2) (by rw [hJ]; exact hown))
      obtain ⟨p9, c9, rfl⟩ := own_slice hown
      clear hCk hown hto hmp ho hEr kB
      go_wp2_with fail
      exact bodyPost_ret (v := .tuple #[.slice p9 R.length c9, .nilIface]) (by simp [results, Tryz.results27, go_sem]) rfl ⟨_, none, T1, K1, L1, J, rfl, HCy.out, HTo4.out, HO.out, HOwn.out, fun h => absurd rfl h⟩
end Go.Proofs.YtahlinekbllkaaaGreatDoor.Sw

/- Contracts of package sweep: Collect; what the document fixes. -/
namespace Go.Proofs.YtahlinekbllkaaaGreatDoor.Sw
open Go.RowKit Go.Proofs.YtahlinekbllkaaaGreatDoor.Ba Go.Proofs.YtahlinekbllkaaaGreatDoor.Mp Go.Proofs.YtahlinekbllkaaaGreatDoor.Ar Go.Proofs.YtahlinekbllkaaaGreatDoor.Tr Go.Lib Go.Maps

def CoPost (w : World) (S : Sta) (R : List Nat) (e : Ending) (w' : World) : Prop :=
  Below w.heap.size w w' ∧ ((∃ (v : Value) (T : Sta) (K : Nat → Option Nat) (L J : List Nat), e = .returned (.tuple #[Pt w.heap.size, v, .nilIface]) ∧ Cy S (newS (64 + S.more)) R none T K L J ∧ ArAt w' w.heap.size T (fun k => w.heap.size ≤ k ∧ some k ≠ v.ownBlock) ∧ w'.ownsRow w.heap.size 28 1 v J.length (encU J)) ∨
    ∃ (c : Nat) (T : Sta) (K : Nat → Option Nat) (L : List Nat), e = .returned (.tuple #[.pointer none, .slice none 0 0, errV (some c)]) ∧ Cy S (newS (64 + S.more)) R (some c) T K L [])
set_option maxRecDepth 100000 in
set_option maxHeartbeats 1000000 in
theorem collect_any (g : Nat) (S : Sta) (P : Nat → Prop) (R : List Nat) (v : Value) (w : World) (hA : ArAt w g S P) (hU : UAt w v R) (hR : ∀ r ∈ R, okU r) (hl : R.length ≤ 1000) (W : Tw S) (hN : S.N.length ≤ 900000) :
    Calls Tryz.prog 30 #[Pt g, v] w (CoPost w S R) := by
  have hmost := Ar.most_any g S P w hA
  obtain ⟨hm1, hm2⟩ : 0 ≤ S.more ∧ S.more ≤ 9223372036854775743 := by
    obtain ⟨_, _, _, -, -, -, -, -, -, -, h1, h2⟩ := hA
    exact ⟨h1, h2⟩
  have hnw := Ar.new_any (64 + S.more) ⟨by omega, by omega⟩ w
  have hA0 := hA.weak (P' := fun k => P k ∧ k < w.heap.size) fun k hk hlt => ⟨hk, hlt⟩
  have hcp : ∀ w1, ArAt w1 w.heap.size (newS (64 + S.more)) (fun b => b = w.heap.size) → Below w.heap.size w w1 → Calls Tryz.prog 27 #[Pt g, Pt w.heap.size, v] w1 (CyPost w1 w.heap.size S (newS (64 + S.more)) R (fun k => w.heap.size ≤ k)) := fun w1 h1 hb =>
    copy_any g w.heap.size S (newS (64 + S.more)) (fun k => P k ∧ k < w.heap.size) (fun k => w.heap.size ≤ k) R v w1 (hA0.under hb) (h1.weak fun k hk _ => by omega) (fun k hk => by omega) (fun k hk => Nat.le_trans hb.size hk) (hU.below hb) hU.lt hR hl W (tw_new _) hN (by have : (newS (64 + S.more)).N.length = 0 := rfl; omega)
  have HCp := Lib.hid hcp
  clear hA hA0 hU hR W hcp
  generalize hT0 : newS (64 + S.more) = T0 at *
  have HT0 := Lib.hid hT0
  clear hT0
  go_enter Tryz.func30, Tryz.ntmps30
  go_wp2_with fail
  refine hmost.mono ?_
  rintro e w' ⟨rfl, rfl⟩
  go_wp2_with fail
  refine hnw.mono ?_
  rintro e w1 ⟨rfl, hA1, hb1⟩
  have hcall := HCp.out w1 hA1 hb1
  have HB1 := Lib.hid hb1
  clear hmost hnw hA1 hb1
  go_wp2_with fail
  refine hcall.mono ?_
  rintro e w2 ⟨v2, er, T, K, L, J, rfl, hCy, hto, ho, hown, hnil⟩
  have HB2 : Hid (Below w.heap.size w w2) := Lib.hid (HB1.out.trans (ho.below HB1.out.size (fun b hb => hb)))
  have HOwn : Hid (w2.ownsRow w.heap.size 28 1 v2 J.length (encU J)) := Lib.hid (owns_base HB1.out.size hown)
  have HTo := Lib.hid hto
  clear hcall hto ho
  rcases er with _ | c
  · have HCy := Lib.hid hCy
    obtain ⟨p, cp, rfl⟩ := own_slice hown
    clear hCy hown hnil
    unfold errV
    go_wp2_with fail
    exact bodyPost_ret (v := .tuple #[Pt w.heap.size, .slice p J.length cp, .nilIface]) (by simp [results, Tryz.results30, go_sem]) rfl ⟨HB2.out, .inl ⟨_, T, K, L, J, rfl, by rw [HT0.out]; exact HCy.out, HTo.out, HOwn.out⟩⟩
  · obtain rfl := hnil (by simp)
    have hJ : J = [] := by
      rcases hown.2 with ⟨_, hn⟩ | ⟨g, cap, cur, hv, _⟩
      · exact List.eq_nil_of_length_eq_zero hn
      · cases hv
    subst hJ
    have HCy := Lib.hid hCy
    clear hCy hown hnil
    unfold errV
    go_wp2_with fail
    exact bodyPost_ret (v := .tuple #[.pointer none, .slice none 0 0, errV (some c)]) (by simp [results, Tryz.results30, go_sem, errV]) rfl ⟨HB2.out, .inr ⟨c, T, K, L, rfl, by rw [HT0.out]; exact HCy.out⟩⟩
/-! What the document fixes. -/
theorem cy_nil {S T0 T : Sta} {er : Option Nat} {K : Nat → Option Nat} {L J : List Nat} (h : Cy S T0 [] er T K L J) : er = none ∧ L = [] ∧ J = [] ∧ T.N.length ≤ T0.N.length := by
  have hL : L = [] := List.eq_nil_iff_forall_not_mem.2 fun x hx => by
    obtain ⟨r, hr, _⟩ := h.new x ((h.kn.keys x).1 hx)
    simp at hr
  subst hL
  refine ⟨?_, rfl, ?_, by have := h.len; simpa [nz] using this⟩
  · rcases h.ok with ⟨h1, _⟩ | ⟨_, _, x, _, ⟨r, hr, _⟩, _⟩ | ⟨_, r, hr, _⟩
    · exact h1
    · simp at hr
    · simp at hr
  · rcases h.ok with ⟨_, _, h1⟩ | ⟨_, _, x, _, ⟨r, hr, _⟩, _⟩ | ⟨_, r, hr, _⟩
    · have : J.map some = [] := h1.symm
      simpa using this
    · simp at hr
    · simp at hr
theorem leaf5 (most : Int) : leafR (newS most) 5 = (1, none, leafS (newS most) 5) := by
  have hf : ¬ full (newS most) := by
    unfold full newS
    simp
    omega
  unfold leafR
  rw [if_neg (by decide)]
  show (match (none : Option Nat) with | some i => (i, none, newS most) | none => if full (newS most) then (0, some 8, newS most) else _) = _
  dsimp only
  rw [if_neg hf]
  rfl
theorem lv_fix (N : List Nd) (d i x : Nat) (h0 : d = 0) (h : Rch N d i x) : x = i := by
  subst h0
  exact h
set_option maxRecDepth 100000 in
set_option maxHeartbeats 1000000 in
theorem awake_any (w : World) : Calls Tryz.prog 26 #[] w fun e w' => e = .returned (.bool true) ∧ Below w.heap.size w w' := by
  have hn := Ar.new_any 100 (by decide) w
  have hlf := fun W P hW hQ => Ar.leaf_any w.heap.size 5 (newS 100) P W hW hQ (by decide) (by decide)
  rw [leaf5] at hlf
  have hT : Tw (leafS (newS 100) 5) := by have := leaf_tw (tw_new 100) (f := 5) (by decide); rwa [leaf5] at this
  have hN1 : (leafS (newS 100) 5).N.length = 1 := rfl
  have hl1 : lvOk (leafS (newS 100) 5).N 0 1 := rfl
  have hRr : Rr (leafS (newS 100) 5).N [1, 0, 1] [1, 0] := ⟨by decide, fun x => by
    constructor
    · intro hx
      simp only [List.mem_cons, List.not_mem_nil, or_false] at hx
      rcases hx with rfl | rfl
      · exact ⟨1, by simp, 0, hl1, rfl⟩
      · exact ⟨0, by simp, 0, lv_zero _, rfl⟩
    · rintro ⟨r, hr, d, h1, h2⟩
      simp only [List.mem_cons, List.not_mem_nil, or_false] at hr
      rcases hr with rfl | rfl | rfl
      · have := lv_fix _ _ _ _ (lv_uniq h1 hl1) h2
        simp [this]
      · have := lv_fix _ _ _ _ (lv_uniq h1 (lv_zero _)) h2
        simp [this]
      · have := lv_fix _ _ _ _ (lv_uniq h1 hl1) h2
        simp [this]⟩
  have hlv : ∀ r ∈ [1, 0, 1], 2 ≤ levelOf (leafS (newS 100) 5).N r := fun r hr => by
    simp only [List.mem_cons, List.not_mem_nil, or_false] at hr
    rcases hr with rfl | rfl | rfl <;> decide
  have hrc := fun v W P hW hU => reach_top w.heap.size (leafS (newS 100) 5) P [1, 0, 1] v W hW hU (by intro r hr; simp only [List.mem_cons, List.not_mem_nil, or_false] at hr; rcases hr with rfl | rfl | rfl <;> decide) (by decide) hT (by omega)
  have hco := fun W P hW => collect_any w.heap.size (leafS (newS 100) 5) P [] (.slice none 0 0) W hW (.inl ⟨rfl, rfl⟩) (by intro r hr; simp at hr) (by decide) hT (by omega)
  have HRr := Lib.hid hRr
  have HLv := Lib.hid hlv
  have HCo := Lib.hid hco
  have HRc := Lib.hid hrc
  clear hRr hlv hco hrc hT hl1 hN1
  generalize leafS (newS 100) 5 = S1 at *
  go_enter Tryz.func26, Tryz.ntmps26
  go_wp2_with fail
  refine hn.mono ?_
  rintro e w1 ⟨rfl, hA1, hb1⟩
  have hcall := hlf w1 (fun k => w.heap.size ≤ k) (hA1.weak fun k hk _ => by omega) (fun k hk => Nat.le_trans hb1.size hk)
  have HB1 := Lib.hid hb1
  clear hn hlf hA1 hb1
  go_wp2_with fail
  refine hcall.mono ?_
  rintro e w2 ⟨rfl, hA2, ho2⟩
  have HB2 := Lib.hid (HB1.out.trans (ho2.below HB1.out.size (fun b hb => hb)))
  have hA2' := hA2.weak (P' := fun k => (w.heap.size ≤ k) ∧ k < w2.heap.size) fun k hk hlt => ⟨hk, hlt⟩
  clear hcall ho2 hA2
  unfold errV
  go_upto_region 5 with fail
  have hb3 : Below w2.heap.size w2 (w2.alloc (.cells #[.int .u32 1, .int .u32 0, .int .u32 1] 28)) := by go_grown
  have kU := Blk.newAt w2 28 #[.int .u32 1, .int .u32 0, .int .u32 1] _ rfl
  have hU : UAt (w2.alloc (.cells #[.int .u32 1, .int .u32 0, .int .u32 1] 28)) (.slice (some ⟨w2.heap.size, 0, none⟩) 3 3) [1, 0, 1] := .inr ⟨w2.heap.size, 0, 3, rfl, fun j x hj => by
    rw [Nat.zero_add, kU.cell j]
    have : j = 0 ∨ j = 1 ∨ j = 2 := by have := (List.getElem?_eq_some_iff.1 hj).1; simp at this; omega
    rcases this with rfl | rfl | rfl <;> simp at hj <;> subst hj <;> rfl, kU.lt⟩
  have hA3 := hA2'.under hb3
  have hcall := HRc.out _ _ _ hA3 hU
  have HB3 := Lib.hid (HB2.out.trans (hb3.mono HB2.out.size))
  clear hb3 kU hU hA2'
  go_wp2_with fail
  refine hcall.mono ?_
  rintro e w4 ⟨hb4, hr4⟩
  have hA4 := hA3.under hb4
  have HB4 := Lib.hid (HB3.out.trans (hb4.mono HB3.out.size))
  obtain ⟨L, hL, rfl⟩ : ∃ L : List Nat, L.length = 2 ∧ e = .returned (.tuple #[.int .i64 (L.length : Int), .nilIface]) := by
    rcases hr4 with ⟨L, h1, _, h3⟩ | ⟨⟨r, hr, h⟩, _⟩
    · exact ⟨L, (rr_len h1 HRr.out).trans rfl, h3⟩
    · have := HLv.out r hr; omega
  rw [hL]
  have hcall2 := HCo.out w4 _ hA4
  clear hcall hr4 hb4 hA3 hL
  go_wp2_with fail
  refine hcall2.mono ?_
  rintro e w5 ⟨hb5, hr5⟩
  have HB5 := Lib.hid (HB4.out.trans (hb5.mono HB4.out.size))
  rcases hr5 with ⟨v, T, K, L, J, rfl, hCy, hA5, hown⟩ | ⟨c, T, K, L, _, hCy⟩
  · obtain ⟨_, _, rfl, hT0⟩ := cy_nil hCy
    have hT0 : T.N.length = 0 := by have h1 : (newS (64 + S1.more)).N.length = 0 := rfl; omega
    have hle := Ar.len_any w4.heap.size T _ w5 hA5 (by omega)
    rw [hT0] at hle
    obtain ⟨p, cp, rfl⟩ := own_slice hown
    clear hcall2 hCy hA5 hown hT0 hb5 hA4
    go_wp2_with fail
    refine hle.mono ?_
    rintro e w' ⟨rfl, rfl⟩
    go_wp2_with fail
    go_ret
    exact ⟨rfl, HB5.out⟩
  · have := (cy_nil hCy).1
    cases this
end Go.Proofs.YtahlinekbllkaaaGreatDoor.Sw

/- Roots of sets that are copied: the mathematics of the laws. -/
namespace Go.Proofs.YtahlinekbllkaaaGreatDoor.Sw
open Go.RowKit Go.Proofs.YtahlinekbllkaaaGreatDoor.Ba Go.Proofs.YtahlinekbllkaaaGreatDoor.Ar Go.Proofs.YtahlinekbllkaaaGreatDoor.Tr
open Go.Proofs.YtahlinekbllkaaaGreatDoor.Se (SetAt)

section
variable {S T T0 : Sta} {R L L2 J : List Nat} {er : Option Nat} {K : Nat → Option Nat} {d i j x y : Nat} {Q : List C}
theorem newS_more {m : Int} (h : 0 ≤ m) : (newS (64 + m)).more = m := by show max (64 + m) 64 - 64 = m; omega
theorem newS_nil (m : Int) : (newS m).N.length = 0 := rfl
/-- There is room. -/
theorem cy_room (h : Cy S T0 R er T K L J) (h0 : T0.N.length ≤ 100000) (hN : S.N.length ≤ 600000) (hm : 800000 ≤ T0.more) (hR : ∀ r ∈ R, 2 ≤ levelOf S.N r) : er = none := by
  rcases h.ok with ⟨h1, _⟩ | ⟨_, h2, _⟩ | ⟨_, r, hr, h2⟩
  · exact h1
  · exfalso
    unfold full at h2
    have h3 := h.ext.more
    rw [h3] at h2
    have h4 := h.len
    have h5 := nz_le L
    have h6 := h.kn.len
    omega
  · have := hR r hr; omega
theorem cy_one (h : Cy S T0 [x] none T K L J) : ∃ j, J = [j] ∧ K x = some j := by
  rcases h.ok with ⟨_, _, h1⟩ | ⟨h1, _⟩ | ⟨h1, _⟩
  · match J, h1 with
    | [j], h1 => exact ⟨j, rfl, by simpa using h1⟩
    | [], h1 => simp at h1
    | _ :: _ :: _, h1 => simp at h1
  · cases h1
  · cases h1
theorem cy_two (h : Cy S T0 [x, y] none T K L J) : ∃ j k, J = [j, k] ∧ K x = some j ∧ K y = some k := by
  rcases h.ok with ⟨_, _, h1⟩ | ⟨h1, _⟩ | ⟨h1, _⟩
  · match J, h1 with
    | [j, k], h1 =>
      simp only [List.map_cons, List.map_nil, List.cons.injEq, and_true] at h1
      exact ⟨j, k, rfl, h1.1, h1.2⟩
    | [], h1 => simp at h1
    | [_], h1 => simp at h1
    | _ :: _ :: _ :: _, h1 => simp at h1
  · cases h1
  · cases h1
/-- A root's copy. -/
theorem rt_copy (h : Rt S d i Q) (k : Kn S T K L) (W : Tw T) (hk : K i = some j) : Rt T d j Q ∧ Same S T d i j := by
  obtain ⟨e, hs⟩ := k.same i j hk
  obtain rfl := lv_uniq hs.1 h.lv
  exact ⟨⟨W, hs.2.1, fun c => by rw [hs.2.2]; exact h.mem c, h.ris⟩, hs⟩
theorem rt_there (h : Rt S d i Q) : 2 ≤ levelOf S.N i := by have : levelOf S.N i = (d : Int) + 2 := h.lv; omega
theorem Kn.small (k : Kn S T K L) : nz L ≤ S.N.length := by
  have hnd := k.nodup.filter (fun x => decide (x ≠ 0))
  have := nodup_le (B := List.range' 1 S.N.length) hnd fun x hx => by
    obtain ⟨h1, h2⟩ := List.mem_filter.1 hx
    obtain ⟨j, hj⟩ := Option.isSome_iff_exists.1 ((k.keys x).1 h1)
    obtain ⟨e, hs⟩ := k.same x j hj
    have := lv_le hs.1
    have : x ≠ 0 := by simpa using h2
    rw [List.mem_range'_1]
    omega
  rwa [List.length_range'] at this
/-- What is collected is reached. -/
theorem cy_reach (h : Cy S T0 [x] none T K L J) (h0 : T0.N.length = 0) (WS : Tw S) (hx : K x = some y) (hr : Rr T.N [y] L2) : T.N.length ≤ L2.length ∧ L2.length ≤ T.N.length + 1 := by
  refine ⟨?_, range_len hr.nodup fun z hz => rs_le h.ext.tw ((hr.mem z).1 hz)⟩
  have := nodup_le (A := List.range' 1 T.N.length) (B := L2) (List.nodup_range' (step := 1)) fun m hm => by
    rw [List.mem_range'_1] at hm
    obtain ⟨z, hz⟩ := h.cov m (by omega) (by omega)
    obtain ⟨r, hr2, d, h1, h2⟩ := h.new z (by rw [hz]; rfl)
    rw [List.mem_singleton] at hr2
    subst hr2
    obtain ⟨e, hs⟩ := h.kn.same _ _ hx
    obtain rfl := lv_uniq hs.1 h1
    exact (hr.mem m).2 ⟨y, by simp, e, hs.2.1, h.kn.rch WS h.ext.tw hx hs h2 hz⟩
  rwa [List.length_range'] at this
end
/-- A list just built. -/
theorem uat_one (w : World) (t : TypeId) (x : Nat) : UAt (w.alloc (.cells #[.int .u32 (x : Int)] t)) (.slice (some ⟨w.heap.size, 0, none⟩) 1 1) [x] :=
  .inr ⟨w.heap.size, 0, 1, rfl, fun j y hj => by
    rw [Nat.zero_add, (Blk.newAt w t #[.int .u32 (x : Int)] _ rfl).cell j]
    have : j = 0 := by have := (List.getElem?_eq_some_iff.1 hj).1; simp at this; omega
    subst this
    simp at hj
    subst hj
    rfl, (Blk.newAt w t #[.int .u32 (x : Int)] _ rfl).lt⟩
theorem uat_two (w : World) (t : TypeId) (x y : Nat) : UAt (w.alloc (.cells #[.int .u32 (x : Int), .int .u32 (y : Int)] t)) (.slice (some ⟨w.heap.size, 0, none⟩) 2 2) [x, y] :=
  .inr ⟨w.heap.size, 0, 2, rfl, fun j z hj => by
    rw [Nat.zero_add, (Blk.newAt w t #[.int .u32 (x : Int), .int .u32 (y : Int)] _ rfl).cell j]
    have : j = 0 ∨ j = 1 := by have := (List.getElem?_eq_some_iff.1 hj).1; simp at this; omega
    rcases this with rfl | rfl <;> simp at hj <;> subst hj <;> rfl, (Blk.newAt w t #[.int .u32 (x : Int), .int .u32 (y : Int)] _ rfl).lt⟩
/-- One of a list of one's own. -/
theorem own_u32 {w : World} {base k x : Nat} {e : TypeId} {v : Value} {J : List Nat} (h : w.ownsRow base e 1 v J.length (encU J)) (hx : J[k]? = some x) : ∃ g cap, v = .slice (some ⟨g, 0, none⟩) J.length cap ∧ J.length ≤ cap ∧ base ≤ g ∧ g < w.heap.size ∧ w.cell? ⟨g, k, none⟩ = some (.int .u32 (x : Int)) := by
  have hlt := (List.getElem?_eq_some_iff.1 hx).1
  have h0 := h
  rcases h.2 with ⟨rfl, hn⟩ | ⟨g, cap, cur, hv, hb, hh, hc, _⟩
  · omega
  · subst hv
    refine ⟨g, cap, rfl, hc, hb, ?_, ?_⟩
    · rcases Nat.lt_or_ge g w.heap.size with h' | h'
      · exact h'
      · rw [Array.getElem?_eq_none h'] at hh; cases hh
    · have := h0.cellAt k (by omega)
      rw [this]
      unfold encU
      rw [List.getElem?_map, hx]
      rfl
end Go.Proofs.YtahlinekbllkaaaGreatDoor.Sw
