/- SiteBack: the mathematics. -/
import Derived.Test.YtnabbeconabbnaaDoorSiQ
import Derived.Test.YtnabbeconabbnaaDoorSeSome
import Derived.Test.YtnabbeconabbnaaDoorSeR2
namespace Go.Proofs.YtnabbeconabbnaaDoor.Si
open Go.RowKit Go.Proofs.YtnabbeconabbnaaDoor.Ba Go.Proofs.YtnabbeconabbnaaDoor.Se Go.Proofs.YtnabbeconabbnaaDoor.Ax Go.Lib Go.Maps
open Go.Proofs.YtnabbeconabbnaaDoor.Ce (someH latV)

theorem grown_of_below {w w' : World} (h : Below w.heap.size w w') : w.grownBy w' none := by
  obtain ⟨a, b, c, d, e⟩ := h
  exact ⟨a, b, c, d, fun i hi _ => e i hi⟩
theorem rising_nodup {L : List C} (h : Rising L) : L.Nodup := by
  unfold Rising at h
  unfold List.Nodup
  refine h.imp ?_
  intro a b hab e
  subst e
  rw [lt_irrefl] at hab
  cases hab
theorem kp_key {p : Int × Int} (h : okP p) : WideAt.IsKeyLit (kp p) := keyedPt.key (key_pt h)
theorem sm_some (l : Int) (c : C) : Sm (someC l c) := by
  have h1 := tmod_bd c.1 100 (by decide)
  have h2 := tmod_bd c.2.1 100 (by decide)
  refine ⟨?_, ?_, ?_⟩
  · show -1000000 ≤ c.1.tmod 100 ∧ c.1.tmod 100 ≤ 1000000
    omega
  · show -1000000 ≤ c.2.1.tmod 100 ∧ c.2.1.tmod 100 ≤ 1000000
    omega
  · show someH l c.2.2 = 0 ∨ someH l c.2.2 = 1
    unfold someH
    split
    · exact .inl rfl
    · omega
/-- What is done, of a set whose leaves come one by one. -/
def Done (S A : List C) (left : Lit → Bool) : Prop := Rising A ∧ ∀ c, c ∈ A ↔ c ∈ S ∧ left (kp (lowP c)) = false
theorem done_step {S A A' : List C} {left : Lit → Bool} {p : Int × Int} (hS : ∀ c ∈ S, Sm c) (h : Done S A left) (hp : lm S p ≠ 0) (hok : okP p) (hl : left (kp p) = true) (hR : Rising A')
    (hm : ∀ c, c ∈ A' ↔ c ∈ A ∨ c ∈ (Si.pos (lm S p) 32).map (cAt p.1 p.2)) :
    Done S A' (fun z => left z && !z.sameKey (kp p)) ∧ A'.length = A.length + pcn (lm S p) 32 := by
  refine ⟨⟨hR, fun c => ?_⟩, ?_⟩
  · rw [hm, h.2, mem_leaf S hS p hp]
    dsimp only
    constructor
    · rintro (⟨h1, h2⟩ | ⟨h1, h2⟩)
      · exact ⟨h1, by simp [h2]⟩
      · exact ⟨h1, by rw [h2, WideAt.sameKey_self (kp_key hok)]; simp⟩
    · rintro ⟨h1, h2⟩
      cases hlc : left (kp (lowP c))
      · exact .inl ⟨h1, rfl⟩
      · refine .inr ⟨h1, ?_⟩
        rw [hlc] at h2
        simp at h2
        exact kp_inj (okP_low (hS c h1)) hok (WideAt.sameKey_eq h2)
  · have hd : (A ++ (Si.pos (lm S p) 32).map (cAt p.1 p.2)).Nodup := by
      refine List.nodup_append.2 ⟨rising_nodup h.1, leaf_nodup _ _ _, ?_⟩
      intro a ha b hb e
      subst e
      obtain ⟨_, h2⟩ := (h.2 a).1 ha
      obtain ⟨_, h4⟩ := (mem_leaf S hS p hp a).1 hb
      rw [h4, hl] at h2
      cases h2
    have hperm : A'.Perm (A ++ (Si.pos (lm S p) 32).map (cAt p.1 p.2)) := (List.perm_ext_iff_of_nodup (rising_nodup hR) hd).2 fun c => by rw [hm, List.mem_append]
    rw [hperm.length_eq, List.length_append, List.length_map, pos_len]
theorem done_all {S A : List C} {left : Lit → Bool} (hR : Rising S) (h : Done S A left) (hl : ∀ l, left l = false) : A = S :=
  rising_ext h.1 hR fun c => by rw [h.2]; simp [hl]
theorem done_none {S : List C} (D : DataW Unit) (hS : ∀ c ∈ S, Sm c) (hD : Reads D (lm S)) : Done S [] (has D) := by
  refine ⟨List.Pairwise.nil, fun c => ?_⟩
  constructor
  · intro h; cases h
  · rintro ⟨h1, h2⟩
    rw [hD.1 _ (okP_low (hS c h1))] at h2
    have := lm_pos h1
    simp [this] at h2
theorem done_len {S A : List C} {left : Lit → Bool} (hR : Rising S) (h : Done S A left) : A.length ≤ S.length := by
  have e : A = S.filter fun c => !left (kp (lowP c)) := rising_ext h.1 (hR.filter _) fun c => by rw [h.2, List.mem_filter]; simp
  rw [e]
  exact List.length_filter_le _ _
/-- A list of cells stays where an iterator alone has turned. -/
theorem set_kept {w w' : World} {s : Value} {A : List C} {P : Program} {k : TypeId} {R : Value → Option (DataW Unit × List MemPlace)} {b r n : Nat} {D : DataW Unit} {left : Lit → Bool} {cnt : Nat} (h : SetAt w s A) (hg : w.grownBy w' (some r)) (hr : w.ranges P k R b r n D left cnt) : SetAt w' s A := by
  obtain ⟨es, clock, since, seen, c0, _, _, _, _, hit, _⟩ := hr
  rcases h with h | ⟨g, cap, hv, hc, hrow, hlt⟩
  · exact .inl h
  · refine .inr ⟨g, cap, hv, hc, fun i d hd => ?_, Nat.lt_of_lt_of_le hlt hg.size⟩
    obtain ⟨h1, h2, h3⟩ := hrow i d hd
    have hne : some g ≠ some r := by
      intro e
      injection e with e
      subst e
      simp [World.cell?, hit] at h1
    have hb := hg.block g hlt hne
    exact ⟨(World.cell?_of_block (a := ⟨g, i * 3, none⟩) hb).trans h1, (World.cell?_of_block (a := ⟨g, i * 3 + 1, none⟩) hb).trans h2, (World.cell?_of_block (a := ⟨g, i * 3 + 1 + 1, none⟩) hb).trans h3⟩
end Go.Proofs.YtnabbeconabbnaaDoor.Si
