/- Contracts of package flat: next. -/
import Derived.Test.YtjongkbjhiblmaaDoorFlW2
import Derived.Test.YtjongkbjhiblmaaDoorSeW4
import Derived.Test.YtjongkbjhiblmaaDoorTbW6
import Derived.Maps.RangeWalk
namespace Go.Proofs.YtjongkbjhiblmaaDoor.Fl
open Go.RowKit Go.Proofs.YtjongkbjhiblmaaDoor.Ax Go.Proofs.YtjongkbjhiblmaaDoor.Mp Go.Lib Go.Maps
open Go.Proofs.YtjongkbjhiblmaaDoor.Se (SetAt Rising ofL mem_ofL rising_ofL of_any)
open Go.Proofs.YtjongkbjhiblmaaDoor.Tb (Tab sel next_any)

/-- What a table says. -/
def nxT (b0 b1 s0 s1 : Nat) (h : Int) (live : Bool) (n : Nat) : Bool := (sel b0 b1 s0 s1 h.toNat live).testBit n
abbrev TabC (l : Int) (b0 b1 s0 s1 : Nat) : Array Value := #[.int .i64 l, .int .u64 b0, .int .u64 b1, .int .u64 s0, .int .u64 s1]
theorem next_c (l : Int) (b0 b1 s0 s1 : Nat) (h0 : b0 < 2 ^ 64) (h1 : b1 < 2 ^ 64) (h2 : s0 < 2 ^ 64) (h3 : s1 < 2 ^ 64) (c : C) (hc : valid l c) (live : Bool) (n : Nat) (hn : n < 64) (w : World) :
    Calls Tryd.prog 37 #[Tab l b0 b1 s0 s1, .int .i64 c.2.2, .bool live, .int .i64 n] w fun e w' => e = .returned (.bool (nxT b0 b1 s0 s1 c.2.2 live n)) ∧ Below w.heap.size w w' := by
  have hv := hc.2
  have h := next_any l b0 b1 s0 s1 h0 h1 h2 h3 c.2.2.toNat (by have := hc.1; split at hv <;> omega) live n hn w
  rw [show ((c.2.2.toNat : Nat) : Int) = c.2.2 by have := hc.1; omega] at h
  exact h
def drop (S : List C) (M : CC → Option Nat) (i : Nat) : CC → Option Nat := fun q => if q ∈ S.take i then none else M q
theorem drop_succ {S : List C} {M : CC → Option Nat} {i : Nat} {c : C} (h : S[i]? = some c) : (fun q => if q = c then none else drop S M i q) = drop S M (i + 1) := by
  funext q
  unfold drop
  rw [List.take_add_one, h]
  by_cases e : q = c
  · subst e; simp
  · simp [e]
def aliveL (nx : Int → Bool → Nat → Bool) (l : Int) (S L : List C) : List C := L.filter fun c => nx c.2.2 true (around l S c)
theorem keepT {W w' : World} {Z Y : Nat} {l : Int} {b0 b1 s0 s1 : Nat} {d : C} (kz : Ba.Blk W Z 30 (TabC l b0 b1 s0 s1)) (ky : Ba.Blk W Y 56 #[.int .i64 d.1, .int .i64 d.2.1, .int .i64 d.2.2]) (hb : Below W.heap.size W w') :
    w'.cell? ⟨Z, 0, none⟩ = some (.int .i64 l) ∧ w'.cell? ⟨Z, 1, none⟩ = some (.int .u64 b0) ∧ w'.cell? ⟨Z, 2, none⟩ = some (.int .u64 b1) ∧ w'.cell? ⟨Z, 3, none⟩ = some (.int .u64 s0) ∧ w'.cell? ⟨Z, 4, none⟩ = some (.int .u64 s1) ∧ w'.cell? ⟨Y, 0, none⟩ = some (.int .i64 d.1) ∧ w'.cell? ⟨Y, 1, none⟩ = some (.int .i64 d.2.1) ∧ w'.cell? ⟨Y, 2, none⟩ = some (.int .i64 d.2.2) :=
  ⟨(kz.under hb).cell 0, (kz.under hb).cell 1, (kz.under hb).cell 2, (kz.under hb).cell 3, (kz.under hb).cell 4, (ky.under hb).cell 0, (ky.under hb).cell 1, (ky.under hb).cell 2⟩
theorem own_isB_ne {w : World} {b c s : Nat} {M : CC → Option Nat} {base n size : Nat} {e : TypeId} {v : Value} {xs : List Value} (h : w.ownsRow base e size v n xs) (hI : IsB mkC w b c s M) : some b ≠ v.ownBlock := by
  rcases h.2 with ⟨rfl, _⟩ | ⟨g, cap, cur, rfl, _, hh, _⟩
  · simp [Value.ownBlock]
  · intro e
    have : b = g := by simpa [Value.ownBlock] using e
    subst this
    exact isB_ne hI hh rfl
def F1 (w : World) (l : Int) (b0 b1 s0 s1 : Nat) (S : List C) (B n : Nat) (t8 t25 : Value) (wr : World) : Prop :=
  ∃ i s : Nat, i ≤ S.length ∧ t25 = .int .i64 i ∧ wr.ownsRow w.heap.size 56 3 t8 (aliveL (nxT b0 b1 s0 s1) l S (S.take i)).length (Se.flat (aliveL (nxT b0 b1 s0 s1) l S (S.take i))) ∧ IsB mkC wr B n s (drop S (tabN l S) i) ∧ Ba.Blk wr w.heap.size 30 (TabC l b0 b1 s0 s1) ∧ Below w.heap.size w wr
theorem rising_nodup {L : List C} (h : Rising L) : L.Nodup := by
  unfold Rising at h
  unfold List.Nodup
  refine h.imp ?_
  intro a b hab e
  subst e
  rw [Se.lt_irrefl] at hab
  cases hab
theorem nodup_at {L : List C} (h : L.Nodup) {i : Nat} {c : C} (hc : L[i]? = some c) : c ∉ L.take i := by
  intro hm
  obtain ⟨j, hj⟩ := List.getElem?_of_mem hm
  have hjl : j < i := by
    have := (List.getElem?_eq_some_iff.1 hj).1
    rw [List.length_take] at this
    omega
  rw [List.getElem?_take] at hj
  simp only [hjl, if_true] at hj
  have := (List.getElem?_inj (by have := (List.getElem?_eq_some_iff.1 hj).1; exact this) h).1 (hj.trans hc.symm)
  omega
abbrev Rg (w : World) (B r n : Nat) (D : DataW Unit) (left : Lit → Bool) (cnt : Nat) : Prop := w.ranges Tryd.prog 56 (plainElem Tryd.prog 3) B r n D left cnt
def Vis (nx : Int → Bool → Nat → Bool) (l : Int) (S : List C) (D : DataW Unit) (A : List C) (left : Lit → Bool) : Prop := ∀ q, q ∈ A ↔ okC q ∧ has D (lC q) = true ∧ left (lC q) = false ∧ nx q.2.2 false (around l S q) = true
theorem iter_ne {w : World} {B r n : Nat} {D : DataW Unit} {left : Lit → Bool} {cnt : Nat} (h : Rg w B r n D left cnt) {g : Nat} {t : TypeId} {cs : Array Value} {fr : Nat × Nat} (hg : w.heap[g]? = some (.cells cs t fr)) : g ≠ r := by
  intro e
  subst e
  obtain ⟨es, clock, since, seen, c0, _, _, _, _, hh, _⟩ := h
  rw [hh] at hg
  cases hg
theorem own_iter {w w' : World} {B r n' : Nat} {D : DataW Unit} {left : Lit → Bool} {cnt : Nat} {base n size : Nat} {e : TypeId} {v : Value} {xs : List Value} (h : w.ownsRow base e size v n xs) (hr : Rg w B r n' D left cnt) (hg : w.grownBy w' (some r)) : w'.ownsRow base e size v n xs := by
  refine ⟨h.1, ?_⟩
  rcases h.2 with hn | ⟨g, cap, cur, hv, hbs, hh, rest⟩
  · exact .inl hn
  · exact .inr ⟨g, cap, cur, hv, hbs, (hg.block g (Array.getElem?_eq_some_iff.1 hh).1 (fun e => iter_ne hr hh (by simpa using e))).trans hh, rest⟩
theorem rg_kept {w w' : World} {B r n : Nat} {D : DataW Unit} {left : Lit → Bool} {cnt : Nat} {row : Option Nat} (h : Rg w B r n D left cnt) (hg : w.grownBy w' row) (hB : some B ≠ row) (hr : some r ≠ row) : Rg w' B r n D left cnt := by
  obtain ⟨es, clock, since, seen, c0, h1, h2, h3, h4, h5, h6⟩ := h
  exact ⟨es, clock, since, seen, c0, (hg.block B (Array.getElem?_eq_some_iff.1 h1).1 hB).trans h1, h2, h3, h4, (hg.block r (Array.getElem?_eq_some_iff.1 h5).1 hr).trans h5, h6⟩
theorem rg_own {w : World} {B r n' : Nat} {D : DataW Unit} {left : Lit → Bool} {cnt : Nat} {base n size : Nat} {e : TypeId} {v : Value} {xs : List Value} (h : w.ownsRow base e size v n xs) (hr : Rg w B r n' D left cnt) : some B ≠ v.ownBlock ∧ some r ≠ v.ownBlock := by
  obtain ⟨es, clock, since, seen, c0, h1, _, _, _, h5, _⟩ := hr
  rcases h.2 with ⟨rfl, _⟩ | ⟨g, cap, cur, rfl, _, hh, _⟩
  · simp [Value.ownBlock]
  · simp only [Value.ownBlock, ne_eq, Option.some.injEq]
    constructor
    · rintro rfl; rw [h1] at hh; cases hh
    · rintro rfl; rw [h5] at hh; cases hh
theorem grown_none {w w' : World} (h : Below w.heap.size w w') : w.grownBy w' none := by
  obtain ⟨a, b, c, d, e⟩ := h
  exact ⟨a, b, c, d, fun i hi _ => e i hi⟩
def F2 (w : World) (l : Int) (b0 b1 s0 s1 : Nat) (S : List C) (B r n : Nat) (D : DataW Unit) (t8 : Value) (wr : World) : Prop :=
  ∃ (A : List C) (left : Lit → Bool) (cnt : Nat), wr.ownsRow w.heap.size 56 3 t8 (aliveL (nxT b0 b1 s0 s1) l S S ++ A).length (Se.flat (aliveL (nxT b0 b1 s0 s1) l S S ++ A)) ∧ Rg wr B r n D left cnt ∧ (∀ z, left z = true → has D z = true) ∧ Vis (nxT b0 b1 s0 s1) l S D A left ∧ A.length + cnt ≤ 12 * S.length ∧ Ba.Blk wr w.heap.size 30 (TabC l b0 b1 s0 s1) ∧ Below w.heap.size w wr
theorem lC_key {q : C} (h : okC q) : WideAt.IsKeyLit (lC q) := keyedCell.key (key_cell q h)
theorem vis_step {nx : Int → Bool → Nat → Bool} {l : Int} {S : List C} {D : DataW Unit} {A : List C} {left : Lit → Bool} {q : C} (h : Vis nx l S D A left) (hq : okC q) (hd : has D (lC q) = true) (hl : left (lC q) = true) :
    Vis nx l S D (A ++ if nx q.2.2 false (around l S q) = true then [q] else []) (fun z => left z && !z.sameKey (lC q)) := by
  intro x
  rw [List.mem_append, h x]
  dsimp only
  constructor
  · rintro (⟨h1, h2, h3, h4⟩ | h1)
    · exact ⟨h1, h2, by simp [h3], h4⟩
    · split at h1
      · rename_i hn
        simp only [List.mem_singleton] at h1
        subst h1
        exact ⟨hq, hd, by rw [WideAt.sameKey_self (lC_key hq)]; simp, hn⟩
      · simp at h1
  · rintro ⟨h1, h2, h3, h4⟩
    cases hx : left (lC x)
    · exact .inl ⟨h1, h2, rfl, h4⟩
    · right
      rw [hx] at h3
      simp at h3
      have := lC_inj x q h1 hq (WideAt.sameKey_eq h3)
      subst this
      rw [if_pos h4]
      simp
/-- All gone through: the next generation. -/
theorem next_is {nx : Int → Bool → Nat → Bool} {l : Int} (hl : l = 1 ∨ l = 2 ∨ l = 3) (hb : Bare nx) {S : List C} (hR : Rising S) (hv : ∀ c ∈ S, valid l c) (hz : ∀ c ∈ S, (-2000000 ≤ c.1 ∧ c.1 ≤ 2000000) ∧ (-2000000 ≤ c.2.1 ∧ c.2.1 ≤ 2000000)) {D : DataW Unit} {A : List C} {left : Lit → Bool}
    (hrd : ∀ q, okC q → has D (lC q) = (drop S (tabN l S) S.length q).isSome) (h : Vis nx l S D A left) (hd : ∀ z, left z = false) : Stp nx l S (ofL (aliveL nx l S S ++ A)) := by
  refine ⟨rising_ofL _, fun c => ?_⟩
  rw [mem_ofL, List.mem_append, h c]
  have hnd := rising_nodup hR
  unfold aliveL
  simp only [List.mem_filter]
  have hdrop : drop S (tabN l S) S.length c = if c ∈ S then none else tabN l S c := by unfold drop; rw [List.take_length]
  have hta := (tabN_at hl S hv c).2
  constructor
  · rintro (⟨h1, h2⟩ | ⟨h1, h2, _, h4⟩)
    · have hcv := hv c h1
      rw [around_nb hl hnd hv hcv] at h2
      exact ⟨hcv, by rw [show decide (c ∈ S) = true by simpa using h1]; exact h2⟩
    · rw [hrd c h1, hdrop] at h2
      by_cases hcS : c ∈ S
      · rw [if_pos hcS] at h2; cases h2
      · rw [if_neg hcS] at h2
        obtain ⟨x, hx, hcx⟩ := hta.1 h2
        have hcv := (bes_mem hl (hv x hx) hcx).1
        rw [around_nb hl hnd hv hcv] at h4
        exact ⟨hcv, by rw [show decide (c ∈ S) = false by simpa using hcS]; exact h4⟩
  · rintro ⟨hcv, hn⟩
    by_cases hcS : c ∈ S
    · rw [show decide (c ∈ S) = true by simpa using hcS] at hn
      exact .inl ⟨hcS, by rw [around_nb hl hnd hv hcv]; exact hn⟩
    · rw [show decide (c ∈ S) = false by simpa using hcS] at hn
      by_cases he : ∃ e ∈ besC l c, e ∈ S
      · obtain ⟨e, he, heS⟩ := he
        have hce := (bes_mem hl hcv he).2.1
        obtain ⟨_, _, g1, g2⟩ := bes_mem hl (hv e heS) hce
        have hez := hz e heS
        have hokc : okC c := ⟨wf_i64 (by omega), wf_i64 (by omega), wf_i64 (by have := hcv.1; have := hcv.2; split at this <;> omega)⟩
        refine .inr ⟨hokc, ?_, hd _, by rw [around_nb hl hnd hv hcv]; exact hn⟩
        rw [hrd c hokc, hdrop, if_neg hcS]
        exact hta.2 ⟨e, heS, hce⟩
      · rw [nb_none fun e h1 h2 => he ⟨e, h1, h2⟩, hb] at hn
        cases hn
set_option maxRecDepth 100000 in
set_option maxHeartbeats 2000000 in
theorem next_set (l : Int) (b0 b1 s0 s1 : Nat) (h0 : b0 < 2 ^ 64) (h1 : b1 < 2 ^ 64) (h2 : s0 < 2 ^ 64) (h3 : s1 < 2 ^ 64) (v : Value) (S : List C) (w : World) (hs : SixIs w) (hl : l = 1 ∨ l = 2 ∨ l = 3) (h : SetAt w v S) (hR : Rising S) (hL : S.length ≤ 71000) (hv : ∀ c ∈ S, valid l c) (hsz : ∀ c ∈ S, (-2000000 ≤ c.1 ∧ c.1 ≤ 2000000) ∧ (-2000000 ≤ c.2.1 ∧ c.2.1 ≤ 2000000)) (hbare : Bare (nxT b0 b1 s0 s1)) :
    Calls Tryd.prog 21 #[Tab l b0 b1 s0 s1, v] w fun e w' => ∃ v' R, e = .returned (.tuple #[v', .nilIface]) ∧ SetAt w' v' R ∧ Stp (nxT b0 b1 s0 s1) l S R ∧ R.length ≤ 13 * S.length ∧ Below w.heap.size w w' := by
  obtain ⟨i0, hi0, hz0, hz1, hz2⟩ := info_parts Se.cell_info
  have HS := Lib.hid h
  have HV := Lib.hid hv
  have HZ := Lib.hid hsz
  have HR := Lib.hid hR
  have HB := Lib.hid hbare
  have hnd := rising_nodup hR
  have HN := Lib.hid hnd
  have hb0 : Below w.heap.size w (w.alloc (.cells (TabC l b0 b1 s0 s1) 30)) := (Below.refl _ _).alloc (Nat.le_refl _) _
  have kt := Ba.Blk.newAt w 30 (TabC l b0 b1 s0 s1) _ rfl
  have hne := neigh_any l v S _ (hs.below hb0) hl (h.below hb0) hL hv hsz
  have t0 := kt.cell 0
  simp only [List.getElem?_toArray, List.getElem?_cons_zero] at t0
  have lt0 := kt.lt
  have key : ∃ p cap, v = .slice p S.length cap := by
    rcases h with ⟨rfl, rfl⟩ | ⟨g, cap, rfl, _⟩
    · exact ⟨_, _, rfl⟩
    · exact ⟨_, _, rfl⟩
  obtain ⟨p, cap, rfl⟩ := key
  clear h hv hsz hR hbare hnd
  go_enter Tryd.func21, Tryd.ntmps21
  go_wp2_with fail
  refine hne.mono ?_
  rintro e w1 ⟨B, n, s, rfl, hI, hBl, hnn, hb1⟩
  have kt1 := kt.under hb1
  have hbw1 := hb0.trans (hb1.mono hb0.size)
  have hbw1s : w.heap.size ≤ B := by have := hb0.size; omega
  clear hne kt hb0 hb1 t0 lt0
  go_wp2_with fail
  go_loopw [8, 25] (fun t8 t25 wr => F1 w l b0 b1 s0 s1 S B n t8 t25 wr) (fun _ t25 _ => S.length - (intOf t25).toNat)
  case atStart =>
    refine ⟨0, s, Nat.zero_le _, rfl, World.ownsRow_nil _ _ _ _, ?_, kt1, hbw1⟩
    have e : drop S (tabN l S) 0 = tabN l S := by funext q; unfold drop; simp
    rw [e]
    exact hI
  case round =>
    clear hI kt1 hbw1
    obtain ⟨i, s, hi, rfl, hown, hI, kt, hb⟩ := hrel
    have hsz0 := hb.size
    by_cases hlt : i < S.length
    · obtain ⟨c, hc⟩ : ∃ c, S[i]? = some c := ⟨_, List.getElem?_eq_getElem hlt⟩
      have hcm := List.mem_of_getElem? hc
      have hcv := HV.out c hcm
      have hcz := HZ.out c hcm
      have hokc : okC c := ⟨wf_i64 (by omega), wf_i64 (by omega), wf_i64 (by have := hcv.1; have := hcv.2; split at this <;> omega)⟩
      have hcn := nodup_at HN.out hc
      have har : (drop S (tabN l S) i c).getD 0 = around l S c := by
        unfold drop
        rw [if_neg hcn]
        exact (tabN_at hl S HV.out c).1
      have hlt64 : around l S c < 64 := by
        rw [around_nb hl HN.out HV.out hcv]
        exact nb_lt hl S hcv
      have hsd := drop_succ (M := tabN l S) hc
      have HT := Lib.hid (show S.take (i + 1) = S.take i ++ [c] by rw [List.take_add_one, hc]; rfl)
      have HD := Lib.hid hsd
      have hset := HS.out.below hb
      rcases hset with ⟨_, hnil⟩ | ⟨g, cap', hvv, hcap, hrow⟩
      · subst hnil; simp at hlt
      · injection hvv with hv1 hv2 hv3
        subst hv1 hv3
        clear hv2
        obtain ⟨c0, c1, c2⟩ := hrow.1 i c hc
        have hgl := hrow.2
        have hlk := hI.look (x := c) hokc
        rw [har] at hlk
        have hnx := fun W => next_c l b0 b1 s0 s1 h0 h1 h2 h3 c hcv true (around l S c) hlt64 W
        have HA := Lib.hid (show aliveL (nxT b0 b1 s0 s1) l S (S.take (i + 1)) = aliveL (nxT b0 b1 s0 s1) l S (S.take i) ++ (if nxT b0 b1 s0 s1 c.2.2 true (around l S c) = true then [c] else []) by
          rw [HT.out]
          unfold aliveL
          rw [List.filter_append]
          by_cases hx : nxT b0 b1 s0 s1 c.2.2 true (around l S c) = true <;> simp [hx])
        have hAl : (aliveL (nxT b0 b1 s0 s1) l S (S.take i)).length ≤ S.length := by
          have h1 := List.length_filter_le (fun c => nxT b0 b1 s0 s1 c.2.2 true (around l S c)) (S.take i)
          have h2 : (S.take i).length ≤ S.length := by rw [List.length_take]; omega
          show (List.filter _ _).length ≤ S.length
          omega
        generalize around l S c = ar at *
        generalize hal : nxT b0 b1 s0 s1 c.2.2 true ar = al at *
        generalize hAA : aliveL (nxT b0 b1 s0 s1) l S (S.take i) = A at *
        have hbY : Below wr.heap.size wr (wr.alloc (.cells #[.int .i64 c.1, .int .i64 c.2.1, .int .i64 c.2.2] 56)) := (Below.refl _ _).alloc (Nat.le_refl _) _
        have ky := Ba.Blk.newAt wr 56 #[.int .i64 c.1, .int .i64 c.2.1, .int .i64 c.2.2] _ rfl
        have kt1 := kt.under hbY
        have hI1 := hI.under hbY
        have hown1 := Ba.own_below hown hbY
        have hb1 := hb.trans (hbY.mono hsz0)
        have HAR := Lib.hid har
        have hGY := fun q hq => (hown.lt q hq).2
        clear hrow hI hcap hsd har hcn hc hcm hown kt hb hbY hlk
        go_upto_region 8 with fail
        change Code.wp _ _ _ _ (wr.alloc (.cells #[.int .i64 c.1, .int .i64 c.2.1, .int .i64 c.2.2] 56))
        clear c0 c1 c2 hgl
        generalize wr.alloc (.cells #[.int .i64 c.1, .int .i64 c.2.1, .int .i64 c.2.2] 56) = W at *
        generalize wr.heap.size = Y at *
        have hlk0 : (Instr.lookup 78 (.map (some B)) (CV c) false).run Tryd.prog W.drew = .ok (.int .i64 (ar : Int)) W.drew := by
          have h0 := (hI1.under (Ba.below_dr 1 (Below.refl _ _))).look (x := c) hokc
          rw [HAR.out] at h0
          exact h0
        have lz := kt1.lt
        have ly := ky.lt
        have hb1s := hb1.size
        go_region_held3 (fun w' => w'.cell? ⟨w.heap.size, 0, none⟩ = some (.int .i64 l) ∧ w'.cell? ⟨w.heap.size, 1, none⟩ = some (.int .u64 b0) ∧ w'.cell? ⟨w.heap.size, 2, none⟩ = some (.int .u64 b1) ∧ w'.cell? ⟨w.heap.size, 3, none⟩ = some (.int .u64 s0) ∧ w'.cell? ⟨w.heap.size, 4, none⟩ = some (.int .u64 s1) ∧ w'.cell? ⟨Y, 0, none⟩ = some (.int .i64 c.1) ∧ w'.cell? ⟨Y, 1, none⟩ = some (.int .i64 c.2.1) ∧ w'.cell? ⟨Y, 2, none⟩ = some (.int .i64 c.2.2)) (first | (refine keepT kt1 ky ?_; go_grown; done) | exact keepT kt1 ky hb2)
          (first | (go_at_call 37; (with_reducible refine Calls.mono (hnx _) ?_); rintro e w2 ⟨rfl, hb2'⟩; have hb2 : Below W.heap.size W w2 := Ba.below_call hb2' ⟨rfl, rfl, rfl, Nat.le_refl _, fun _ _ => rfl⟩ (Nat.le_refl _)))
        all_goals
          have kt2 := kt1.under hb2
          have ky2 := ky.under hb2
          have hI2 := hI1.under hb2
          have hown2 := Ba.own_below hown1 hb2
          have hbw2 := hb1.trans (hb2.mono hb1s)
          have y0 := ky2.cell 0
          have y1 := ky2.cell 1
          have y2 := ky2.cell 2
          simp only [List.getElem?_toArray, List.getElem?_cons_zero, List.getElem?_cons_succ] at y0 y1 y2
          have ly2 := ky2.lt
          clear hb2 hb2' kt1 ky hI1 hown1 hb1 hb1s hlk0 lz ly hnx
          cases al
          · obtain ⟨w4, s', hdel, hI4, hg4⟩ := hI2.drop (x := c) hokc 0
            have hdel' : (Builtin.delete_ #[78, 56] 0 #[.map (some B), CV c]).run Tryd.prog w2 = .ok (.tuple #[]) w4 := hdel
            rw [HD.out] at hI4
            have kt4 := kt2.grown hg4 (fun e => isB_ne hI2 kt2 (by simpa using e))
            have hown4 := own_map hown2 hI2 hg4
            have hb4 := hbw2.grown hg4 hbw2.size (fun q hq => by injection hq with hq; subst hq; have := hbw1s; omega)
            clear hdel kt2 ky2 hown2 hbw2 hI2 hg4
            go_wp2_with fail
            refine ⟨⟨i + 1, s', by omega, by go_num, ?_, hI4, kt4, hb4⟩, by simp [intOf]; omega⟩
            rw [HA.out]
            simpa using hown4
          · have hnew : ∀ j u, (Se.flat [c])[j]? = some u → (w2.alloc (.cells #[.int .i64 c.1, .int .i64 c.2.1, .int .i64 c.2.2] 56)).cell? ((⟨w2.heap.size, 0, none⟩ : Addr).add j) = some u := fun j u hu => by
              rw [Addr.add_lit, Nat.zero_add, (Ba.Blk.newAt w2 _ _ _ rfl).cell j]
              simpa [Se.flat, Se.encC] using hu
            have hownA := hown2.alloc (.cells #[.int .i64 c.1, .int .i64 c.2.1, .int .i64 c.2.2] 56)
            have hbA : Below w2.heap.size w2 (w2.alloc (.cells #[.int .i64 c.1, .int .i64 c.2.1, .int .i64 c.2.2] 56)) := (Below.refl _ _).alloc (Nat.le_refl _) _
            have hbs2 := hbw2.size
            go_wp2_with (at_builtin; refine wpList_append_own _ rfl _ _ 32 rfl w.heap.size 56 i0 _ 3 24 Tryd.underlying32 hi0 hz0 hz1 hz2 rfl (by decide) _ _ _ rfl hownA ⟨w2.heap.size, 0, none⟩ 1 1 (Se.flat [c]) rfl (by simp [Se.flat_len]) hnew (Se.one_flat [c]) (by unfold maxLen; omega) (by omega) (by simp; omega) ?_)
            intro v' w3 hown3 hgr _
            have hI3 := (hI2.under hbA).grown hgr (own_isB_ne hownA (hI2.under hbA))
            have kt3 := Ba.Blk.grown (kt2.under hbA) hgr (Ba.own_blk_ne hownA (kt2.under hbA) (by decide))
            have ky3 := Ba.Blk.grown (ky2.under hbA) hgr (fun e => Nat.lt_irrefl _ (hGY Y e.symm))
            have hb3 := (hbw2.trans (hbA.mono hbs2)).grown hgr (by simp; omega) (fun q hq => (hownA.lt q hq).1)
            have y0 := ky3.cell 0
            have y1 := ky3.cell 1
            have y2 := ky3.cell 2
            simp only [List.getElem?_toArray, List.getElem?_cons_zero, List.getElem?_cons_succ] at y0 y1 y2
            have ly3 := ky3.lt
            obtain ⟨w4, s', hdel, hI4, hg4⟩ := hI3.drop (x := c) hokc 0
            have hdel' : (Builtin.delete_ #[78, 56] 0 #[.map (some B), CV c]).run Tryd.prog w3 = .ok (.tuple #[]) w4 := hdel
            rw [HD.out] at hI4
            have kt4 := kt3.grown hg4 (fun e => isB_ne hI3 kt3 (by simpa using e))
            have hown4 := own_map hown3 hI3 hg4
            have hb4 := hb3.grown hg4 hb3.size (fun q hq => by injection hq with hq; subst hq; exact hbw1s)
            clear hdel kt2 ky2 hown2 hbw2 hI2 hg4 hgr hI3 kt3 ky3 hb3 hownA hbA hnew hbs2 hown3
            go_wp2_with fail
            refine ⟨⟨i + 1, s', by omega, by go_num, ?_, hI4, kt4, hb4⟩, by simp [intOf]; omega⟩
            rw [HA.out]
            simpa [Se.flat_app] using hown4
    · obtain rfl : i = S.length := by omega
      obtain ⟨D, hownM, hrd, hsize⟩ := hI
      rw [List.take_length] at hown
      have hownM' : wr.ownsMap Tryd.prog 56 (plainElem (H := Unit) Tryd.prog 3) B n D := hownM
      have hszD := World.ownsMap.size_le hownM'
      have HRD := Lib.hid hrd
      clear hownM hrd hsize
      go_wp2_with (first
        | (at_range; refine wpList_range_own _ rfl _ 78 rfl 56 3 keyedCell Tryd.underlying78 _ B n D rfl hownM' ?_; intro w5 hrg0 hg0 hs0)
        | go_in)
      go_frame
      have hbg0 : Below wr.heap.size wr w5 := ⟨hg0.os, hg0.tape, hg0.output, hg0.size, fun k hk => hg0.block k hk (by simp)⟩
      have hown5 := Ba.own_below hown hbg0
      have kt5 := kt.under hbg0
      have hb5 := hb.trans (hbg0.mono hb.size)
      have hrw : w.heap.size < wr.heap.size := kt.lt
      clear hbg0 hown kt hb hownM' hg0 hs0 hsz0 hi hlt
      generalize wr.heap.size = r at *
      go_loopw [8] (fun t8 wx => F2 w l b0 b1 s0 s1 S B r n D t8 wx) (fun _ wx => wx.rangeLeft B r)
      case atStart =>
        refine ⟨[], _, _, by simpa using hown5, hrg0, fun _ h => h, fun q => ?_, by simp only [List.length_nil]; omega, kt5, hb5⟩
        simp only [List.not_mem_nil, false_iff]
        rintro ⟨_, h1, h2, _⟩
        rw [h1] at h2
        cases h2
      case round =>
        clear hown5 kt5 hb5 hrg0
        obtain ⟨A, left, cnt, hown, hrg, hlh, hvis, hcn, kt, hb⟩ := hrel
        have HLH := Lib.hid hlh
        have HVI := Lib.hid hvis
        clear hlh hvis
        go_wp2_with (first
          | (at_next; refine wpList_next_ranges _ rfl _ rfl 56 keyedCell _ (fun x : Value => x) (fun x : Value => x) (fun key kl _ => ⟨key, rfl⟩) (fun v y _ => ⟨v, rfl⟩) B r n D left cnt rfl hrg ?_ ?_)
          | go_in)
        · intro hc0 hl0
          have hstp := Lib.hid (next_is hl HB.out HR.out HV.out HZ.out (fun q hq => HRD.out.1 q hq) HVI.out hl0)
          have hset := Se.set_of_own hown
          have hAl : (aliveL (nxT b0 b1 s0 s1) l S S).length ≤ S.length := by
            have h1 := List.length_filter_le (fun c => nxT b0 b1 s0 s1 c.2.2 true (around l S c)) S
            show (List.filter _ _).length ≤ S.length
            omega
          have hol : (aliveL (nxT b0 b1 s0 s1) l S S ++ A).length ≤ 13 * S.length := by rw [List.length_append]; omega
          have hoL := Se.ofL_len (aliveL (nxT b0 b1 s0 s1) l S S ++ A)
          have hof := of_any _ _ _ hset (show (aliveL (nxT b0 b1 s0 s1) l S S ++ A).length ≤ 1000000 by omega)
          clear hown hrg hset HLH HVI hAl
          generalize aliveL (nxT b0 b1 s0 s1) l S S ++ A = Q at *
          go_wp2_with fail
          refine hof.mono ?_
          rintro e w6 ⟨v', rfl, hs6, hb6⟩
          have hb7 := hb.trans (hb6.mono hb.size)
          clear hof
          go_wp2
          exact bodyPost_ret (v := .tuple #[v', .nilIface]) (by simp [results, Tryd.results21, go_sem]) rfl ⟨v', ofL Q, rfl, hs6, hstp.out, by omega, hb7⟩
        · intro key val kl y ps w6 cnt6 hkey hlk hval hat hrg6 hlt6 hg6 hs6 hen
          have hhas := HLH.out kl hlk
          obtain ⟨q, hok, rfl⟩ := HRD.out.2.2 kl hhas
          obtain rfl := keyedCell.inj hkey (key_cell q hok)
          obtain ⟨cv, rfl, hy, hwc⟩ := plainElem_int_inv Tryd.underlying3 hval
          have hsome : (drop S (tabN l S) S.length q).isSome = true := (HRD.out.1 q hok).symm.trans hhas
          have hcv : cv = ((around l S q : Nat) : Int) ∧ valid l q := by
            have h1 : D.atKey (lC q) (.lit (.int .i64 0)) = y := hat (.lit (.int .i64 0))
            have h0 := HRD.out.2.1 q hok
            have h0' : D.atKey (lC q) (.lit (.int .i64 0)) = .lit (.int .i64 (((drop S (tabN l S) S.length q).getD 0 : Nat) : Int)) := h0
            have h2 : y = .lit (.int .i64 cv) := congrArg Prod.fst hy
            rw [h0', h2] at h1
            injection h1 with h1
            injection h1 with _ h1
            unfold drop at h1 hsome
            rw [List.take_length] at h1 hsome
            by_cases hqS : q ∈ S
            · rw [if_pos hqS] at hsome; cases hsome
            · rw [if_neg hqS] at h1 hsome
              obtain ⟨g1, g2⟩ := tabN_at hl S HV.out q
              rw [g1] at h1
              obtain ⟨x, hx, hqx⟩ := g2.1 hsome
              exact ⟨h1.symm, (bes_mem hl (HV.out x hx) hqx).1⟩
          obtain ⟨rfl, hqv⟩ := hcv
          have hlt64 : around l S q < 64 := by
            rw [around_nb hl HN.out HV.out hqv]
            exact nb_lt hl S hqv
          have hnx := fun W => next_c l b0 b1 s0 s1 h0 h1 h2 h3 q hqv false (around l S q) hlt64 W
          have HVS := Lib.hid (vis_step HVI.out hok hhas hlk)
          have HL6 := Lib.hid (show ∀ z, (left z && !z.sameKey (lC q)) = true → has D z = true from fun z hz => HLH.out z (by simp at hz; exact hz.1))
          have hcnt : wr.rangeLeft B r = cnt := hrg.left_eq
          have hrB : w6.heap[r]? ≠ none := by
            obtain ⟨_, _, _, _, _, _, _, _, _, hh, _⟩ := hrg6
            rw [hh]; simp
          have hown6 := own_iter hown hrg hg6
          have kt6 := Ba.Blk.grown kt hg6 (fun e => iter_ne hrg kt (by simpa using e))
          have hb6 := hb.grown hg6 hb.size (fun k hk => by injection hk with hk; omega)
          clear hkey hlk hval hat hhas hsome hy hwc hown kt hb hrg hg6 hs6 HLH HVI hlt64 hrB
          generalize hal : nxT b0 b1 s0 s1 q.2.2 false (around l S q) = al at *
          generalize around l S q = ar at *
          go_upto_region 15 with fail
          have hbY : Below w6.heap.size w6 (w6.alloc (.cells #[.int .i64 q.1, .int .i64 q.2.1, .int .i64 q.2.2] 56)) := (Below.refl _ _).alloc (Nat.le_refl _) _
          have ky := Ba.Blk.newAt w6 56 #[.int .i64 q.1, .int .i64 q.2.1, .int .i64 q.2.2] _ rfl
          have hGY := fun k hk => (hown6.lt k hk).2
          have kt7 := kt6.under hbY
          have hown7 := Ba.own_below hown6 hbY
          have hrg7 := rg_kept hrg6 (grown_none hbY) (by simp) (by simp)
          have hb7 := hb6.trans (hbY.mono hb6.size)
          clear hown6 hrg6 kt6 hb6 hbY hen
          change Code.wp _ _ _ _ (w6.alloc (.cells #[.int .i64 q.1, .int .i64 q.2.1, .int .i64 q.2.2] 56))
          generalize w6.alloc (.cells #[.int .i64 q.1, .int .i64 q.2.1, .int .i64 q.2.2] 56) = W at *
          generalize w6.heap.size = Y at *
          obtain ⟨k0, k1, k2, k3, k4, y0, y1, y2⟩ := keepT kt7 ky (Below.refl _ _)
          have lt7 := kt7.lt
          have ly7 := ky.lt
          go_wp2_with fail
          refine (hnx _).mono ?_
          rintro e w8 ⟨rfl, hb8⟩
          have kt8 := kt7.under hb8
          have ky8 := ky.under hb8
          have hown8 := Ba.own_below hown7 hb8
          have hrg8 := rg_kept hrg7 (grown_none hb8) (by simp) (by simp)
          have hbw8 := hb7.trans (hb8.mono hb7.size)
          clear hnx kt7 ky hown7 hrg7 hb7 hb8 k0 k1 k2 k3 k4 y0 y1 y2 lt7 ly7
          cases al
          · have HV2 := Lib.hid (show Vis (nxT b0 b1 s0 s1) l S D A (fun z => left z && !z.sameKey (lC q)) by simpa using HVS.out)
            clear HVS
            go_wp2_with fail
            exact ⟨⟨A, _, cnt6, hown8, hrg8, HL6.out, HV2.out, by omega, kt8, hbw8⟩, by rw [hcnt, hrg8.left_eq]; exact hlt6⟩
          · have HV2 := Lib.hid (show Vis (nxT b0 b1 s0 s1) l S D (A ++ [q]) (fun z => left z && !z.sameKey (lC q)) by simpa using HVS.out)
            obtain ⟨y0, y1, y2⟩ : w8.cell? ⟨Y, 0, none⟩ = some (.int .i64 q.1) ∧ w8.cell? ⟨Y, 1, none⟩ = some (.int .i64 q.2.1) ∧ w8.cell? ⟨Y, 2, none⟩ = some (.int .i64 q.2.2) := ⟨ky8.cell 0, ky8.cell 1, ky8.cell 2⟩
            have ly8 := ky8.lt
            have hnew : ∀ j u, (Se.flat [q])[j]? = some u → (w8.alloc (.cells #[.int .i64 q.1, .int .i64 q.2.1, .int .i64 q.2.2] 56)).cell? ((⟨w8.heap.size, 0, none⟩ : Addr).add j) = some u := fun j u hu => by
              rw [Addr.add_lit, Nat.zero_add, (Ba.Blk.newAt w8 _ _ _ rfl).cell j]
              simpa [Se.flat, Se.encC] using hu
            have hownA := hown8.alloc (.cells #[.int .i64 q.1, .int .i64 q.2.1, .int .i64 q.2.2] 56)
            have hbA : Below w8.heap.size w8 (w8.alloc (.cells #[.int .i64 q.1, .int .i64 q.2.1, .int .i64 q.2.2] 56)) := (Below.refl _ _).alloc (Nat.le_refl _) _
            have hbs8 := hbw8.size
            have hAl : (aliveL (nxT b0 b1 s0 s1) l S S).length ≤ S.length := by
              have h1 := List.length_filter_le (fun c => nxT b0 b1 s0 s1 c.2.2 true (around l S c)) S
              show (List.filter _ _).length ≤ S.length
              omega
            have hal2 : (aliveL (nxT b0 b1 s0 s1) l S S ++ A).length ≤ 13 * S.length := by rw [List.length_append]; omega
            have hrgA := rg_kept hrg8 (grown_none hbA) (by simp) (by simp)
            have hne2 := rg_own hownA hrgA
            clear HVS hAl hown8 hrg8
            go_wp2_with (at_builtin; refine wpList_append_own _ rfl _ _ 32 rfl w.heap.size 56 i0 _ 3 24 Tryd.underlying32 hi0 hz0 hz1 hz2 rfl (by decide) _ _ _ rfl hownA ⟨w8.heap.size, 0, none⟩ 1 1 (Se.flat [q]) rfl (by simp [Se.flat_len]) hnew (Se.one_flat [q]) (by unfold maxLen; omega) (by omega) (by simp; omega) ?_)
            intro v' w9 hown9 hgr _
            have hrg9 := rg_kept hrgA hgr hne2.1 hne2.2
            have kt9 := Ba.Blk.grown (kt8.under hbA) hgr (Ba.own_blk_ne hownA (kt8.under hbA) (by decide))
            have hb9 := (hbw8.trans (hbA.mono hbs8)).grown hgr (by simp; omega) (fun k hk => (hownA.lt k hk).1)
            clear hgr hownA hrgA hne2 kt8 hbw8 hnew
            go_wp2_with fail
            refine ⟨⟨A ++ [q], _, cnt6, ?_, hrg9, HL6.out, HV2.out, by simp; omega, kt9, hb9⟩, by rw [hcnt, hrg9.left_eq]; exact hlt6⟩
            rw [← List.append_assoc, Se.flat_app, show ((aliveL (nxT b0 b1 s0 s1) l S S ++ A) ++ [q]).length = (aliveL (nxT b0 b1 s0 s1) l S S).length + A.length + 1 by simp only [List.length_append, List.length_singleton]]
            exact hown9
end Go.Proofs.YtjongkbjhiblmaaDoor.Fl
