/- Contracts of package tree: plots. -/
import Derived.Test.YtahlinekbllkaaaGreatDoorTrW4
import Derived.Test.YtahlinekbllkaaaGreatDoorTrM3
import Derived.Test.YtahlinekbllkaaaGreatDoorSiQ
import Derived.Maps.RangeWalk
import Derived.Maps.AppendAt
import Derived.WideKeyEntry
import Derived.Lib.SmallJoins
namespace Go.Proofs.YtahlinekbllkaaaGreatDoor.Tr
open Go.RowKit Go.Proofs.YtahlinekbllkaaaGreatDoor.Ba Go.Proofs.YtahlinekbllkaaaGreatDoor.Se Go.Proofs.YtahlinekbllkaaaGreatDoor.Si Go.Lib Go.Maps

theorem gob {w w' : World} (h : Below w.heap.size w w') : w.grownBy w' none := by
  obtain ⟨a, b, c, d, e⟩ := h
  exact ⟨a, b, c, d, fun i hi _ => e i hi⟩
/-- Plots' cells. -/
def flP (L : List Plot) : List Value := L.flatMap encP
theorem flP_len (L : List Plot) : (flP L).length = L.length * 3 := by
  induction L with
  | nil => rfl
  | cons p L ih => show (encP p ++ flP L).length = _; rw [List.length_append, ih]; simp [encP]; omega
theorem flP_app (L M : List Plot) : flP (L ++ M) = flP L ++ flP M := by simp [flP]
theorem one_flP (L : List Plot) : ∀ u ∈ flP L, u.oneCell' = true := by
  intro u hu
  simp only [flP, List.mem_flatMap, encP] at hu
  obtain ⟨c, _, hu⟩ := hu
  simp at hu
  rcases hu with rfl | rfl | rfl <;> rfl
theorem flP_get : ∀ (L : List Plot) (i : Nat) (p : Plot), L[i]? = some p → ∀ j, j < 3 → (flP L)[i * 3 + j]? = (encP p)[j]?
  | [], i, d, h, _, _ => by simp at h
  | c :: L, 0, d, h, j, hj => by
    simp at h
    subst h
    match j, hj with
    | 0, _ => rfl
    | 1, _ => rfl
    | 2, _ => rfl
  | c :: L, i + 1, d, h, j, hj => by
    have ih := flP_get L i d (by simpa using h) j hj
    rw [show (i + 1) * 3 + j = (i * 3 + j) + 1 + 1 + 1 by omega]
    exact ih
theorem newsP (w1 : World) (t : TypeId) (p : Plot) (n : Nat) (hn : n = w1.heap.size) : ∀ j u, (flP [p])[j]? = some u → (w1.alloc (.cells #[.int .i64 p.1.1, .int .i64 p.1.2, .int .u32 p.2] t)).cell? ((⟨n, 0, none⟩ : Addr).add j) = some u := fun j u hu => by
  subst hn
  rw [Addr.add_lit, Nat.zero_add, (Blk.newAt w1 _ _ _ rfl).cell j]
  simpa [flP, encP] using hu
/-- A slice's own plots are a row of them. -/
theorem plrow_own {w : World} {base : Nat} {e : TypeId} {v : Value} {L : List Plot} (h : w.ownsRow base e 3 v L.length (flP L)) (hne : L ≠ []) : ∃ g cap, v = .slice (some ⟨g, 0, none⟩) L.length cap ∧ L.length ≤ cap ∧ base ≤ g ∧ PlRow w g L := by
  rcases h.2 with ⟨hv, hn⟩ | ⟨g, cap, cur, hv, hb, hh, hc, _⟩
  · exact absurd (List.eq_nil_of_length_eq_zero hn) hne
  · refine ⟨g, cap, hv, hc, hb, ?_⟩
    subst hv
    have hg : g < w.heap.size := (Array.getElem?_eq_some_iff.1 hh).1
    refine ⟨fun i d hd => ?_, fun i hi => ?_, hg⟩
    · have hi : i < L.length := (List.getElem?_eq_some_iff.1 hd).1
      have h1 := flP_get L i d hd 0 (by decide)
      have h2 := flP_get L i d hd 1 (by decide)
      have h3 := flP_get L i d hd 2 (by decide)
      exact ⟨(h.cellAt (i * 3) (by omega)).trans h1, (h.cellAt (i * 3 + 1) (by omega)).trans h2, (h.cellAt (i * 3 + 1 + 1) (by omega)).trans h3⟩
    · exact Blk.frozen (t := e) (cs := cur) hh i
theorem own_not {w : World} {base n size k : Nat} {e : TypeId} {v : Value} {xs : List Value} (h : w.ownsRow base e size v n xs) {o : Obj} (ho : w.heap[k]? = some o) (hc : ∀ cs t d, o ≠ .cells cs t d) : v.ownBlock ≠ some k := by
  rcases h.2 with ⟨rfl, _⟩ | ⟨g, cap, cur, rfl, _, hh, _⟩
  · simp [Value.ownBlock]
  · intro e
    simp only [Value.ownBlock, Option.some.injEq] at e
    subst e
    rw [ho] at hh
    exact hc _ _ _ (by injection hh)
theorem own_apart {w : World} {base m size : Nat} {e : TypeId} {v : Value} {xs : List Value} {P : Program} {k : TypeId} {R : Value → Option (DataW Unit × List MemPlace)} {b r n : Nat} {D : DataW Unit} {left : Lit → Bool} {cnt : Nat} (h : w.ownsRow base e size v m xs) (hr : w.ranges P k R b r n D left cnt) : v.ownBlock ≠ some b ∧ v.ownBlock ≠ some r := by
  obtain ⟨es, clock, since, seen, c0, hb, _, _, _, hit, _⟩ := hr
  exact ⟨own_not h hb (fun _ _ _ e => by cases e), own_not h hit (fun _ _ _ e => by cases e)⟩
/-- Plots of a list's cells. -/
structure PlsOf (S : List (Int × Int × Int)) (PL : List Plot) : Prop where
  all : ∀ q ∈ PL, q.2 = lm S q.1 ∧ lm S q.1 ≠ 0
  has : ∀ c ∈ S, (lowP c, lm S (lowP c)) ∈ PL
  nodup : (PL.map (·.1)).Nodup
/-- Those that are done. -/
structure PlsTo (S : List (Int × Int × Int)) (PL : List Plot) (left : Lit → Bool) : Prop where
  all : ∀ q ∈ PL, okP q.1 ∧ q.2 = lm S q.1 ∧ lm S q.1 ≠ 0 ∧ left (kp q.1) = false
  has : ∀ p, okP p → lm S p ≠ 0 → left (kp p) = false → (p, lm S p) ∈ PL
  nodup : (PL.map (·.1)).Nodup
theorem kpk {p : Int × Int} (h : okP p) : WideAt.IsKeyLit (kp p) := keyedPt.key (key_pt h)
theorem to_none {S : List (Int × Int × Int)} (D : DataW Unit) (hD : Reads D (lm S)) : PlsTo S [] (has D) :=
  ⟨fun q h => by simp at h, fun p h1 h2 h3 => by rw [hD.1 p h1] at h3; simp [h2] at h3, by simp⟩
theorem to_step {S : List (Int × Int × Int)} {PL : List Plot} {left : Lit → Bool} {p : Int × Int} (h : PlsTo S PL left) (hp : lm S p ≠ 0) (hok : okP p) (hl : left (kp p) = true) : PlsTo S (PL ++ [(p, lm S p)]) (fun z => left z && !z.sameKey (kp p)) := by
  refine ⟨fun q hq => ?_, fun r hr h1 h2 => ?_, ?_⟩
  · rcases List.mem_append.1 hq with hq | hq
    · obtain ⟨a, b, c, d⟩ := h.all q hq
      exact ⟨a, b, c, by simp [d]⟩
    · rw [List.mem_singleton] at hq
      subst hq
      exact ⟨hok, rfl, hp, by simp [WideAt.sameKey_self (kpk hok)]⟩
  · rw [List.mem_append, List.mem_singleton]
    cases hlr : left (kp r)
    · exact .inl (h.has r hr h1 hlr)
    · right
      rw [hlr] at h2
      simp at h2
      rw [kp_inj hr hok (WideAt.sameKey_eq h2)]
  · rw [List.map_append, List.nodup_append]
    refine ⟨h.nodup, by simp, ?_⟩
    intro a ha b hb e
    simp at hb
    subst hb e
    obtain ⟨q, hq, e⟩ := List.mem_map.1 ha
    have := (h.all q hq).2.2.2
    rw [e, hl] at this
    cases this
theorem to_all {S : List (Int × Int × Int)} {PL : List Plot} {left : Lit → Bool} (h : PlsTo S PL left) (hS : ∀ c ∈ S, Sm c) (hl : ∀ l, left l = false) : PlsOf S PL :=
  ⟨fun q hq => ⟨(h.all q hq).2.1, (h.all q hq).2.2.1⟩, fun c hc => h.has _ (okP_low (hS c hc)) (lm_pos hc) (hl _), h.nodup⟩
theorem to_len {S : List (Int × Int × Int)} {PL : List Plot} {left : Lit → Bool} (h : PlsTo S PL left) : PL.length ≤ S.length := by
  have := nodup_le (B := S.map lowP) h.nodup fun a ha => by
    obtain ⟨q, hq, rfl⟩ := List.mem_map.1 ha
    obtain ⟨c, hc, e⟩ := lm_zero (h.all q hq).2.2.1
    exact List.mem_map.2 ⟨c, hc, e⟩
  simpa using this
abbrev RgP (w : World) (B r n : Nat) (D : DataW Unit) (left : Lit → Bool) (cnt : Nat) : Prop := w.ranges Tryz.prog 38 (plainElem Tryz.prog 83) B r n D left cnt
def PoR (w : World) (B r n : Nat) (D : DataW Unit) (S : List (Int × Int × Int)) (s : Value) (wr : World) : Prop :=
  ∃ (left : Lit → Bool) (cnt : Nat) (PL : List Plot), RgP wr B r n D left cnt ∧ (∀ l, left l = true → Maps.has D l = true) ∧ PlsTo S PL left ∧ wr.ownsRow w.heap.size 139 3 s PL.length (flP PL) ∧ Below w.heap.size w wr
set_option maxRecDepth 100000 in
set_option maxHeartbeats 1000000 in
theorem plots_any (v : Value) (S : List (Int × Int × Int)) (w : World) (h : SetAt w v S) (hS : ∀ c ∈ S, Sm c) (hL : S.length ≤ 1000) :
    Calls Tryz.prog 59 #[v] w fun e w' => ∃ (pv : Value) (PL : List Plot), e = .returned pv ∧ PlsOf S PL ∧ PL.length ≤ S.length ∧ w'.ownsRow w.heap.size 139 3 pv PL.length (flP PL) ∧ Below w.heap.size w w' := by
  obtain ⟨i0, hi0, hz0, hz1, hz2⟩ := info_parts plot_info
  have HSm := Lib.hid hS
  have hlv := fun W hW => leaves_any v S W hW hS hL
  clear hS
  go_enter Tryz.func59, Tryz.ntmps59
  go_wp2_with fail
  refine (hlv _ h).mono ?_
  rintro e w1 ⟨rfl, ⟨D, hown, hrd⟩, hb1⟩
  have HRD := Lib.hid hrd
  have hown' : OwnP w1 w.heap.size S.length D := hown
  clear hlv h hrd
  have hB1 := Lib.hid hb1
  have hlt1 : w.heap.size < w1.heap.size := World.ownsMap.lt hown
  generalize hBB : w.heap.size = B at *
  go_wp2_with (first
    | (at_range; refine wpList_range_own _ rfl _ 142 rfl 38 83 keyedPt Tryz.underlying142 _ B S.length D rfl hown ?_; intro w2 hrg0 hg0 hs0)
    | go_in)
  go_frame
  have hbg0 : Below w1.heap.size w1 w2 := ⟨hg0.os, hg0.tape, hg0.output, hg0.size, fun k hk => hg0.block k hk (by simp)⟩
  have hbw2 : Below w.heap.size w w2 := by have := hB1.out; rw [← hBB] at this; exact this.trans (hbg0.mono this.size)
  generalize hrr : w1.heap.size = r at *
  go_loopw [3] (fun s wr => PoR w B r S.length D S s wr) (fun _ wr => wr.rangeLeft B r)
  case atStart => exact ⟨_, _, [], hrg0, fun _ h => h, to_none D HRD.out, ⟨rfl, .inl ⟨rfl, rfl⟩⟩, hbw2⟩
  case round =>
    clear hrg0 hs0 hbw2 hbg0 hg0 hown hown' hb1
    obtain ⟨left, cnt, PL, hrg, hlh, hto, hown, hbw⟩ := hrel
    have HTo := Lib.hid hto
    have HLH := Lib.hid hlh
    clear hto hlh
    go_wp2_with (first
      | (at_next; refine wpList_next_ranges _ rfl _ rfl 38 keyedPt _ (fun x : Value => x) (fun x : Value => x) (fun key kl _ => ⟨key, rfl⟩) (fun v y _ => ⟨v, rfl⟩) B r S.length D left cnt rfl hrg ?_ ?_)
      | go_in)
    · intro hc0 hl0
      have hlen := to_len HTo.out
      have hfin := to_all HTo.out HSm.out hl0
      have HF := Lib.hid hfin
      have HOw := Lib.hid hown
      clear hfin hown hrg
      go_wp2_with fail
      go_ret
      exact ⟨_, PL, rfl, HF.out, hlen, HOw.out, hbw⟩
    · intro key val kl y ps w6 cnt6 hkey hlk hval hat hrg6 hlt hg6 hs6 hen
      obtain ⟨p, hok, rfl⟩ := HRD.out.2.2 kl (HLH.out kl hlk)
      obtain rfl := keyedPt.inj hkey (key_pt hok)
      obtain ⟨c, rfl, hy, hwc⟩ := plainElem_int_inv Tryz.underlying83 hval
      have hc : c = ((lm S p : Nat) : Int) := by
        have h1 := hat (.lit (.int .u32 0))
        rw [HRD.out.2.1 p hok] at h1
        have h2 : y = .lit (.int .u32 c) := congrArg Prod.fst hy
        rw [h2] at h1
        injection h1 with h1
        injection h1 with _ h1
        exact h1.symm
      subst hc
      have hnz : lm S p ≠ 0 := by
        have h1 := HLH.out _ hlk
        rw [HRD.out.1 p hok] at h1
        simpa using h1
      have HTs := Lib.hid (to_step HTo.out hnz hok hlk)
      have hlen := to_len HTo.out
      obtain ⟨hap1, hap2⟩ := own_apart hown hrg
      have hown6 := hown.kept hg6 (.inr hap2)
      have hbw6 := hbw.grown hg6 hbw.size (fun q hq => by simp at hq; have := hB1.out.size; omega)
      have hz6 := hbw6.size
      have HNe := Lib.hid hnz
      clear hok hkey hat hval hy hlk hg6 hs6 hwc hnz hown
      generalize hfe : lm S p = f at *
      obtain ⟨p1, p2⟩ := p
      dsimp only [PtV] at hen
      clear hfe
      have hown7 := (hown6.alloc (.cells #[.int .i64 p1, .int .i64 p2] 38)).alloc (.cells #[.int .i64 p1, .int .i64 p2, .int .u32 f] 139)
      have hrg7 := (hrg6.alloc (.cells #[.int .i64 p1, .int .i64 p2] 38)).alloc (.cells #[.int .i64 p1, .int .i64 p2, .int .u32 f] 139)
      have hnew := newsP (w6.alloc (.cells #[.int .i64 p1, .int .i64 p2] 38)) 139 ((p1, p2), f) (w6.heap.size + 1) (by simp)
      have hbw7 := (hbw6.alloc hz6 (.cells #[.int .i64 p1, .int .i64 p2] 38)).alloc (by simp; omega) (.cells #[.int .i64 p1, .int .i64 p2, .int .u32 f] 139)
      clear hrg6 hown6 hbw6
      go_wp2_with (at_builtin; refine wpList_append_own _ rfl _ _ 113 rfl w.heap.size 139 i0 _ 3 24 Tryz.underlying113 hi0 hz0 hz1 hz2 rfl (by decide) _ _ _ rfl hown7 ⟨w6.heap.size + 1, 0, none⟩ 1 1 (flP [((p1, p2), f)]) rfl (by simp [flP_len]) hnew (one_flP _) (by unfold maxLen; omega) (by omega) (by simp; omega) ?_)
      intro v' w' hown' hgr _
      have HRg := Lib.hid (hrg7.kept hgr (fun e => hap1 e.symm) (fun e => hap2 e.symm))
      have hbw' : Below w.heap.size w w' := hbw7.grown hgr hbw7.size (fun q hq => (hown7.lt q hq).1)
      have HOw : Hid (w'.ownsRow w.heap.size 139 3 v' (PL ++ [((p1, p2), f)]).length (flP (PL ++ [((p1, p2), f)]))) := Lib.hid (by rw [flP_app, List.length_append]; rw [← hBB] at hown'; exact hown')
      clear hown7 hrg7 hnew hbw7 hown' hgr
      go_wp2_with fail
      refine ⟨⟨_, cnt6, _, HRg.out, fun l h => HLH.out l (by simp at h; exact h.1), HTs.out, HOw.out, hbw'⟩, ?_⟩
      rw [HRg.out.left_eq, hrg.left_eq]
      exact hlt
/-- Just the list's cells. -/
theorem of_mem {S : List (Int × Int × Int)} {PL : List Plot} (h : PlsOf S PL) (hS : ∀ c ∈ S, Sm c) (c : Int × Int × Int) : memP PL c ↔ c ∈ S := by
  constructor
  · rintro ⟨q, hq, hc⟩
    obtain ⟨e, h0⟩ := h.all q hq
    unfold plC at hc
    rw [e] at hc
    exact ((mem_leaf S hS q.1 h0 c).1 hc).1
  · intro hc
    refine ⟨_, h.has c hc, ?_⟩
    exact (mem_leaf S hS (lowP c) (lm_pos hc) c).2 ⟨hc, rfl⟩
/-- They lie in a root's square, if the cells do. -/
theorem of_pls {S : List (Int × Int × Int)} {PL : List Plot} (h : PlsOf S PL) (hS : ∀ c ∈ S, Sm c) {d : Nat} (hd : 1 ≤ d) (hd2 : d ≤ 42) (hin : ∀ c ∈ S, (-hf ((d : Int) + 2) ≤ c.1 ∧ c.1 < hf ((d : Int) + 2)) ∧ (-hf ((d : Int) + 2) ≤ c.2.1 ∧ c.2.1 < hf ((d : Int) + 2))) : Pls d (-hf ((d : Int) + 2)) (-hf ((d : Int) + 2)) PL := by
  refine ⟨fun q hq => ?_, h.nodup⟩
  obtain ⟨e, h0⟩ := h.all q hq
  obtain ⟨c, hc, hl⟩ := lm_zero h0
  obtain ⟨⟨i1, i2⟩, i3, i4⟩ := hin c hc
  have hh := hf_sd d hd2
  have hs : sd d = 2 * 2 ^ (d + 1) := by unfold sd; rw [show d + 2 = d + 1 + 1 by omega, Int.pow_succ]; omega
  have hm : (hf ((d : Int) + 2)) % 4 = 0 := by
    obtain ⟨m, rfl⟩ : ∃ m, d = m + 1 := ⟨d - 1, by omega⟩
    rw [hh, show m + 1 + 1 = m + 2 by omega]
    exact sd_four m
  rw [← hh] at hs
  have e1 : q.1.1 = c.1 - c.1 % 4 := by rw [← hl]; rfl
  have e2 : q.1.2 = c.2.1 - c.2.1 % 4 := by rw [← hl]; rfl
  generalize hf ((d : Int) + 2) = H at *
  exact ⟨by omega, by omega, by omega, by omega, by omega, by omega, by rw [e]; exact h0, by rw [e]; exact lm_lt S q.1 hS⟩
end Go.Proofs.YtahlinekbllkaaaGreatDoor.Tr
