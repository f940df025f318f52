/- The next generation of a set: the mathematics. -/
import Derived.Test.YtcmfkdhadmfgkaaDoorCeM
import Derived.Test.YtcmfkdhadmfgkaaDoorSeM
namespace Go.Proofs.YtcmfkdhadmfgkaaDoor.Fl
open Go.Proofs.YtcmfkdhadmfgkaaDoor.Ce (besAll besAll_shift sh bes)
open Go.Proofs.YtcmfkdhadmfgkaaDoor.Se (Rising lt rising_ext)
abbrev C := Int × Int × Int

def valid (l : Int) (c : C) : Prop := 0 ≤ c.2.2 ∧ c.2.2 < (if l = 1 then 1 else 2)
instance (l : Int) (c : C) : Decidable (valid l c) := by unfold valid; infer_instance
/-- The place of a difference in the ring. -/
def sixIx (x y : Int) : Nat := if x = 1 ∧ y = 0 then 0 else if x = 0 ∧ y = 1 then 1 else if x = -1 ∧ y = 1 then 2 else if x = -1 ∧ y = 0 then 3 else if x = 0 ∧ y = -1 then 4 else 5
/-- What one that lives adds to the neighbourhood of another one. -/
def shareN (l : Int) (c d : C) : Nat := if l = 1 then 2 ^ sixIx (c.1 - d.1) (c.2.1 - d.2.1) else 1
def besC (l : Int) (d : C) : List C := besAll l d.1 d.2.1 d.2.2
/-- The neighbourhood of a cell. -/
def nbC (l : Int) (S : List C) (d : C) : Nat := (((besC l d).filter fun e => decide (e ∈ S)).map fun e => shareN l e d).sum
/-- The same, gathered by those that live. -/
def around (l : Int) (S : List C) (d : C) : Nat := ((S.filter fun c => decide (d ∈ besC l c)).map fun c => shareN l c d).sum
theorem lat3 {l : Int} (hl : l = 1 ∨ l = 2 ∨ l = 3) : l ∈ [(1 : Int), 2, 3] := by simpa using hl
theorem val2 {l : Int} {c : C} (h : valid l c) : c.2.2 ∈ [(0 : Int), 1] := by
  unfold valid at h
  have : c.2.2 = 0 ∨ c.2.2 = 1 := by split at h <;> omega
  simpa using this
theorem besC_at (l a b h : Int) : besC l (a, b, h) = (besAll l 0 0 h).map (sh a b) := besAll_shift l a b h
theorem bes_fin : ∀ l ∈ [(1 : Int), 2, 3], ∀ h ∈ [(0 : Int), 1], h < (if l = 1 then 1 else 2) → (besAll l 0 0 h).Nodup ∧
    (∀ d ∈ besAll l 0 0 h, valid l d ∧ (-d.1, -d.2.1, h) ∈ besAll l 0 0 d.2.2 ∧ (-1 ≤ d.1 ∧ d.1 ≤ 1) ∧ (-1 ≤ d.2.1 ∧ d.2.1 ≤ 1) ∧ (l = 1 → sixIx d.1 d.2.1 < 6)) ∧ (((besAll l 0 0 h).map fun e => shareN l e (0, 0, h)).sum < 64) ∧ (besAll l 0 0 h).length ≤ 12 := by decide +kernel
theorem sh_inj (a b : Int) {c d : C} (h : sh a b c = sh a b d) : c = d := by
  obtain ⟨x, y, z⟩ := c
  obtain ⟨u, v, s⟩ := d
  simp only [sh, Prod.mk.injEq] at h ⊢
  omega
theorem bes_nodup {l : Int} (hl : l = 1 ∨ l = 2 ∨ l = 3) {d : C} (hd : valid l d) : (besC l d).Nodup := by
  obtain ⟨a, b, h⟩ := d
  rw [besC_at]
  have := (bes_fin l (lat3 hl) h (val2 hd) hd.2).1
  unfold List.Nodup at this ⊢
  rw [List.pairwise_map]
  exact this.imp fun hne e => hne (sh_inj a b e)
theorem bes_mem {l : Int} (hl : l = 1 ∨ l = 2 ∨ l = 3) {c d : C} (hc : valid l c) (h : d ∈ besC l c) : valid l d ∧ c ∈ besC l d ∧ (-1 ≤ d.1 - c.1 ∧ d.1 - c.1 ≤ 1) ∧ (-1 ≤ d.2.1 - c.2.1 ∧ d.2.1 - c.2.1 ≤ 1) := by
  obtain ⟨a, b, k⟩ := c
  rw [besC_at] at h
  obtain ⟨e, he, rfl⟩ := List.mem_map.1 h
  obtain ⟨h1, h2, h3, h4, _⟩ := (bes_fin l (lat3 hl) k (val2 hc) hc.2).2.1 e he
  refine ⟨h1, ?_, ?_, ?_⟩
  · show (a, b, k) ∈ besC l (a + e.1, b + e.2.1, e.2.2)
    rw [besC_at]
    refine List.mem_map.2 ⟨_, h2, ?_⟩
    simp only [sh, Prod.mk.injEq, and_true]
    omega
  · show -1 ≤ a + e.1 - a ∧ a + e.1 - a ≤ 1
    omega
  · show -1 ≤ b + e.2.1 - b ∧ b + e.2.1 - b ≤ 1
    omega
theorem bes_comm {l : Int} (hl : l = 1 ∨ l = 2 ∨ l = 3) {c d : C} (hc : valid l c) (hd : valid l d) : d ∈ besC l c ↔ c ∈ besC l d := ⟨fun h => (bes_mem hl hc h).2.1, fun h => (bes_mem hl hd h).2.1⟩
/-- Both ways to gather it. -/
theorem around_nb {l : Int} (hl : l = 1 ∨ l = 2 ∨ l = 3) {S : List C} (hn : S.Nodup) (hv : ∀ c ∈ S, valid l c) {d : C} (hd : valid l d) : around l S d = nbC l S d := by
  unfold around nbC
  have hp : (S.filter fun c => decide (d ∈ besC l c)).Perm ((besC l d).filter fun e => decide (e ∈ S)) := by
    rw [List.perm_ext_iff_of_nodup (hn.filter _) ((bes_nodup hl hd).filter _)]
    intro c
    simp only [List.mem_filter, decide_eq_true_eq]
    constructor
    · rintro ⟨h1, h2⟩; exact ⟨(bes_mem hl (hv c h1) h2).2.1, h1⟩
    · rintro ⟨h1, h2⟩; exact ⟨h2, (bes_mem hl hd h1).2.1⟩
  exact (hp.map _).sum_nat
theorem sum_filter_le (f : C → Nat) (p : C → Bool) : ∀ L : List C, ((L.filter p).map f).sum ≤ (L.map f).sum
  | [] => Nat.le_refl _
  | c :: L => by
    have ih := sum_filter_le f p L
    by_cases h : p c = true
    · rw [List.filter_cons_of_pos h]
      simp only [List.map_cons, List.sum_cons]
      omega
    · rw [List.filter_cons_of_neg h]
      simp only [List.map_cons, List.sum_cons]
      omega
theorem share_sh (l a b : Int) (c d : C) : shareN l (sh a b c) (sh a b d) = shareN l c d := by
  unfold shareN sh
  dsimp only
  rw [show a + c.1 - (a + d.1) = c.1 - d.1 by omega, show b + c.2.1 - (b + d.2.1) = c.2.1 - d.2.1 by omega]
theorem nb_lt {l : Int} (hl : l = 1 ∨ l = 2 ∨ l = 3) (S : List C) {d : C} (hd : valid l d) : nbC l S d < 64 := by
  obtain ⟨a, b, h⟩ := d
  refine Nat.lt_of_le_of_lt (sum_filter_le _ _ _) ?_
  rw [besC_at, List.map_map]
  have e : ((fun e => shareN l e (a, b, h)) ∘ sh a b) = fun e => shareN l e (0, 0, h) := by
    funext e
    have := share_sh l a b e (0, 0, h)
    simpa [sh] using this
  rw [e]
  exact (bes_fin l (lat3 hl) h (val2 hd) hd.2).2.2.1
theorem bes_len12 {l : Int} (hl : l = 1 ∨ l = 2 ∨ l = 3) {d : C} (hd : valid l d) : (besC l d).length ≤ 12 := by
  obtain ⟨a, b, h⟩ := d
  rw [besC_at, List.length_map]
  exact (bes_fin l (lat3 hl) h (val2 hd) hd.2).2.2.2
theorem mem_sh {a b : Int} {S : List C} {c : C} : sh a b c ∈ S.map (sh a b) ↔ c ∈ S := by
  constructor
  · intro h
    obtain ⟨e, he, h2⟩ := List.mem_map.1 h
    rwa [← sh_inj a b h2]
  · exact fun h => List.mem_map.2 ⟨c, h, rfl⟩
theorem nb_sh (l a b : Int) (S : List C) (d : C) : nbC l (S.map (sh a b)) (sh a b d) = nbC l S d := by
  unfold nbC
  have e : besC l (sh a b d) = (besC l d).map (sh a b) := by
    obtain ⟨x, y, h⟩ := d
    show besC l (a + x, b + y, h) = _
    rw [besC_at, besC_at, List.map_map]
    congr 1
    funext e
    simp only [sh, Function.comp, Prod.mk.injEq, and_true]
    omega
  rw [e, List.filter_map, List.map_map]
  congr 1
  have e1 : ((fun e => decide (e ∈ S.map (sh a b))) ∘ sh a b) = fun e => decide (e ∈ S) := by
    funext e
    simp only [Function.comp, mem_sh]
  have e2 : ((fun e => shareN l e (sh a b d)) ∘ sh a b) = fun e => shareN l e d := by
    funext e
    exact share_sh l a b e d
  rw [e1, e2]
theorem nb_congr {l : Int} {S T : List C} {d : C} (h : ∀ e ∈ besC l d, (e ∈ S ↔ e ∈ T)) : nbC l S d = nbC l T d := by
  unfold nbC
  congr 2
  refine List.filter_congr fun e he => ?_
  simp only [h e he]
theorem nb_nil (l : Int) (d : C) : nbC l [] d = 0 := by
  unfold nbC
  rw [List.filter_eq_nil_iff.2 (by simp)]
  rfl
theorem nb_none {l : Int} {S : List C} {d : C} (h : ∀ e ∈ besC l d, e ∉ S) : nbC l S d = 0 := by
  rw [nb_congr (T := []) fun e he => by simp [h e he]]
  exact nb_nil l d
/-- The next generation; nx: does a cell of a Half live then, that lives now or doesn't, with a neighbourhood? -/
def Stp (nx : Int → Bool → Nat → Bool) (l : Int) (S R : List C) : Prop := Rising R ∧ ∀ c, c ∈ R ↔ valid l c ∧ nx c.2.2 (decide (c ∈ S)) (nbC l S c) = true
def StpN (nx : Int → Bool → Nat → Bool) (l : Int) : Nat → List C → List C → Prop
  | 0, S, R => R = S
  | n + 1, S, R => ∃ M, StpN nx l n S M ∧ Stp nx l M R
section
variable {nx : Int → Bool → Nat → Bool} {l : Int} {S R R' U : List C}
theorem Stp.uniq (h : Stp nx l S R) (h' : Stp nx l S R') : R = R' := rising_ext h.1 h'.1 fun c => (h.2 c).trans (h'.2 c).symm
theorem StpN.uniq : ∀ {n : Nat} {R R' : List C}, StpN nx l n S R → StpN nx l n S R' → R = R'
  | 0, _, _, h, h' => h.trans h'.symm
  | n + 1, _, _, ⟨M, h1, h2⟩, ⟨M', h1', h2'⟩ => by
    have := StpN.uniq h1 h1'
    subst this
    exact h2.uniq h2'
theorem Stp.val (h : Stp nx l S R) : ∀ c ∈ R, valid l c := fun c hc => ((h.2 c).1 hc).1
theorem StpN.val : ∀ {n : Nat} {R : List C}, (∀ c ∈ S, valid l c) → StpN nx l n S R → ∀ c ∈ R, valid l c
  | 0, _, hS, h => by cases h; exact hS
  | _ + 1, _, _, ⟨_, _, h⟩ => h.val
theorem StpN.rising : ∀ {n : Nat} {R : List C}, Rising S → StpN nx l n S R → Rising R
  | 0, _, hS, h => by cases h; exact hS
  | _ + 1, _, _, ⟨_, _, h⟩ => h.1
/-- Nothing is born of nothing. -/
def Bare (nx : Int → Bool → Nat → Bool) : Prop := ∀ h, nx h false 0 = false
theorem stp_nil (hb : Bare nx) : Stp nx l [] [] := by
  refine ⟨List.Pairwise.nil, fun c => ⟨fun h => by simp at h, fun ⟨_, h⟩ => ?_⟩⟩
  rw [nb_nil, show decide (c ∈ ([] : List C)) = false by simp, hb] at h
  cases h
theorem stpN_nil (hb : Bare nx) : ∀ n, StpN nx l n [] []
  | 0 => rfl
  | n + 1 => ⟨[], stpN_nil hb n, stp_nil hb⟩
theorem rising_sh (a b : Int) (h : Rising S) : Rising (S.map (sh a b)) := by
  unfold Rising at h ⊢
  rw [List.pairwise_map]
  refine h.imp fun {c d} hlt => ?_
  rw [Se.lt_iff] at hlt ⊢
  simp only [sh]
  omega
theorem sh_back (a b : Int) (c : C) : sh a b (sh (-a) (-b) c) = c := by
  obtain ⟨x, y, z⟩ := c
  simp only [sh, Prod.mk.injEq, and_true]
  omega
/-- Elsewhere the same. -/
theorem stp_sh (a b : Int) (h : Stp nx l S R) : Stp nx l (S.map (sh a b)) (R.map (sh a b)) := by
  refine ⟨rising_sh a b h.1, fun c => ?_⟩
  obtain ⟨d, rfl⟩ : ∃ d, c = sh a b d := ⟨sh (-a) (-b) c, (sh_back a b c).symm⟩
  rw [mem_sh, h.2 d, nb_sh]
  simp only [mem_sh]
  rfl
theorem stpN_sh (a b : Int) : ∀ {n : Nat} {R : List C}, StpN nx l n S R → StpN nx l n (S.map (sh a b)) (R.map (sh a b))
  | 0, _, h => by cases h; rfl
  | _ + 1, _, ⟨M, h1, h2⟩ => ⟨M.map (sh a b), stpN_sh a b h1, stp_sh a b h2⟩
/-- Nothing goes further than a point. -/
theorem stp_near (hl : l = 1 ∨ l = 2 ∨ l = 3) (hb : Bare nx) (h : Stp nx l S R) {c : C} (hc : c ∈ R) : ∃ d ∈ S, (-1 ≤ c.1 - d.1 ∧ c.1 - d.1 ≤ 1) ∧ (-1 ≤ c.2.1 - d.2.1 ∧ c.2.1 - d.2.1 ≤ 1) := by
  obtain ⟨hv, hn⟩ := (h.2 c).1 hc
  by_cases hS : c ∈ S
  · exact ⟨c, hS, by omega, by omega⟩
  · by_cases he : ∃ e ∈ besC l c, e ∈ S
    · obtain ⟨e, he, hes⟩ := he
      obtain ⟨_, _, h1, h2⟩ := bes_mem hl hv he
      exact ⟨e, hes, by omega, by omega⟩
    · rw [nb_none fun e h1 h2 => he ⟨e, h1, h2⟩, show decide (c ∈ S) = false by simpa using hS, hb] at hn
      cases hn
/-- All within so much. -/
def Wi (m : Int) (S : List C) : Prop := ∀ c ∈ S, (-m ≤ c.1 ∧ c.1 ≤ m) ∧ (-m ≤ c.2.1 ∧ c.2.1 ≤ m)
theorem stp_wi (hl : l = 1 ∨ l = 2 ∨ l = 3) (hb : Bare nx) {m : Int} (hS : Wi m S) (h : Stp nx l S R) : Wi (m + 1) R := fun c hc => by
  obtain ⟨d, hd, h1, h2⟩ := stp_near hl hb h hc
  obtain ⟨h3, h4⟩ := hS d hd
  omega
theorem stpN_wi (hl : l = 1 ∨ l = 2 ∨ l = 3) (hb : Bare nx) {m : Int} (hS : Wi m S) : ∀ {n : Nat} {R : List C}, StpN nx l n S R → Wi (m + n) R
  | 0, _, h => by cases h; simpa using hS
  | n + 1, _, ⟨M, h1, h2⟩ => by
    have := stp_wi hl hb (stpN_wi hl hb hS h1) h2
    intro c hc
    have := this c hc
    omega
/-- Two apart, as one. -/
theorem stp_far (hl : l = 1 ∨ l = 2 ∨ l = 3) (hb : Bare nx) {m : Int} {T R1 R2 Q : List C} (hS : ∀ c ∈ S, c.1 ≤ m) (hU : ∀ c ∈ U, m + 4 ≤ c.1) (hT : ∀ c, c ∈ T ↔ c ∈ S ∨ c ∈ U) (h1 : Stp nx l S R1) (h2 : Stp nx l U R2) (hQ : Rising Q) (hQm : ∀ c, c ∈ Q ↔ c ∈ R1 ∨ c ∈ R2) : Stp nx l T Q := by
  refine ⟨hQ, fun c => ?_⟩
  rw [hQm c, h1.2 c, h2.2 c]
  by_cases hv : valid l c
  · simp only [hv, true_and]
    by_cases hm : c.1 ≤ m + 2
    · have hbe : ∀ e ∈ besC l c, e ∉ U := fun e he hu => by
        have := (bes_mem hl hv he).2.2.1
        have := hU e hu
        omega
      have hcu : c ∉ U := fun hu => by have := hU c hu; omega
      have e1 : nbC l T c = nbC l S c := nb_congr fun e he => by rw [hT e]; simp [hbe e he]
      have e2 : decide (c ∈ T) = decide (c ∈ S) := by simp [hT c, hcu]
      rw [e1, e2, nb_none hbe, show decide (c ∈ U) = false by simpa using hcu, hb]
      simp
    · have hbe : ∀ e ∈ besC l c, e ∉ S := fun e he hs => by
        have := (bes_mem hl hv he).2.2.1
        have := hS e hs
        omega
      have hcs : c ∉ S := fun hs => by have := hS c hs; omega
      have e1 : nbC l T c = nbC l U c := nb_congr fun e he => by rw [hT e]; simp [hbe e he]
      have e2 : decide (c ∈ T) = decide (c ∈ U) := by simp [hT c, hcs]
      rw [e1, e2, nb_none hbe, show decide (c ∈ S) = false by simpa using hcs, hb]
      simp
  · simp [hv]
end
end Go.Proofs.YtcmfkdhadmfgkaaDoor.Fl
