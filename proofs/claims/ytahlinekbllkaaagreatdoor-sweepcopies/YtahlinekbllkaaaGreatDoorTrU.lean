/- Several texts, joined. -/
import Derived.Test.YtahlinekbllkaaaGreatDoorTrK2
import Derived.Test.YtahlinekbllkaaaGreatDoorTrM4
import Derived.Test.YtahlinekbllkaaaGreatDoorSeR2
import Derived.Test.YtahlinekbllkaaaGreatDoorSeL
import Derived.Test.YtahlinekbllkaaaGreatDoorTrW10
import Derived.Test.YtahlinekbllkaaaGreatDoorSeO
/- A root, and the list of its cells; what a Put, and building anew, make of it. -/
namespace Go.Proofs.YtahlinekbllkaaaGreatDoor.Tr
open Go.Proofs.YtahlinekbllkaaaGreatDoor.Ar
open Go.Proofs.YtahlinekbllkaaaGreatDoor.Se (Rising ins del mem_ins mem_del rising_ins rising_del ins_len del_len del_filter ofL ofL_eq)

/-- A root of that level has just a list's cells. -/
structure Rt (S : Sta) (d i : Nat) (K : List C) : Prop where
  tw : Tw S
  lv : lvOk S.N d i
  mem : ∀ c, c ∈ cellsL S.N d i (-hf ((d : Int) + 2)) (-hf ((d : Int) + 2)) ↔ c ∈ K
  ris : Rising K
section
variable {S S' : Sta} {d i j d2 : Nat} {K : List C} {c : C} {live : Bool} {er : Option Nat}
theorem Rt.of (h : Bt S K d i none S') (hr : Rising K) : Rt S' d i K := ⟨h.ext.tw, (bt_lv h).1, (bt_lv h).2, hr⟩
theorem Rt.ofL (h : Rt S d i K) : ofL (cellsL S.N d i (-hf ((d : Int) + 2)) (-hf ((d : Int) + 2))) = K := ofL_eq h.ris fun c => (h.mem c).symm
theorem Rt.len (h : Rt S d i K) : (cellsL S.N d i (-hf ((d : Int) + 2)) (-hf ((d : Int) + 2))).length ≤ K.length := nodup_le (cells_nodup S.N d i _ _) fun c hc => (h.mem c).1 hc
theorem Rt.count (h : Rt S d i K) : (ndAt S.N i).1.count ≤ K.length := by
  have h1 := count_eq h.tw h.lv (x := -hf ((d : Int) + 2)) (y := -hf ((d : Int) + 2))
  have := h.len
  omega
theorem Rt.ext (h : Rt S d i K) (k : Ext S S') : Rt S' d i K := ⟨k.tw, k.lv h.lv, fun c => by rw [k.cells h.tw h.lv]; exact h.mem c, h.ris⟩
def putK (live : Bool) (K : List C) (c : C) : List C := if live then ins K c else K.filter fun x => !decide (x = c)
theorem putK_mem (b : C) : b ∈ putK live K c ↔ putM live (fun b => b ∈ K) c b := by
  unfold putK putM
  cases live
  · simp only [Bool.false_eq_true, if_false, false_and, false_or, List.mem_filter, Bool.not_eq_true', decide_eq_false_iff_not]
  · simp only [if_true, true_and, mem_ins]
    constructor
    · rintro (h | h)
      · exact .inl h
      · by_cases e : b = c
        · exact .inl e
        · exact .inr ⟨h, e⟩
    · rintro (h | h)
      · exact .inl h
      · exact .inr h.1
theorem putK_ris (h : Rising K) : Rising (putK live K c) := by
  unfold putK
  split
  · exact rising_ins h c
  · rw [del_filter h]; exact rising_del h c
theorem putK_len (h : Rising K) : (putK live K c).length ≤ K.length + 1 := by
  unfold putK
  split
  · exact ins_len h c
  · have := List.length_filter_le (fun x => !decide (x = c)) K
    omega
theorem putK_in {Q : C → Prop} (hK : ∀ b ∈ K, Q b) (hc : Q c) : ∀ b ∈ putK live K c, Q b := fun b hb => by
  rcases (putK_mem b).1 hb with ⟨_, rfl⟩ | ⟨h, _⟩
  · exact hc
  · exact hK b h
/-- Behind a Put. -/
theorem Rt.put (h : Rt S d i K) (hp : Pd S d (-hf ((d : Int) + 2)) (-hf ((d : Int) + 2)) i c live j er S') (hN : ne S.N + (d + 1) ≤ 700000) (hm : 800000 ≤ S.more) : er = none ∧ Rt S' d j (putK live K c) := by
  rcases hp.ok with ⟨e, h1, h2⟩ | ⟨_, _, hf⟩
  · refine ⟨e, hp.ext.tw, h1, fun b => ?_, putK_ris h.ris⟩
    rw [h2 b, putK_mem]
    unfold putM
    dsimp only
    rw [h.mem b]
  · exfalso
    have h1 := hp.len
    have h2 := em_le hp.ext.tw
    have h3 := hp.ext.more
    unfold full at hf
    rw [h3] at hf
    omega
/-- Built anew: at the same level the same node. -/
theorem Rt.again {i2 : Nat} (h : Rt S d i K) (hb : Bt S K d i2 none S') : i2 = i := (hb.old i h.lv h.mem).1
end
end Go.Proofs.YtahlinekbllkaaaGreatDoor.Tr

/- An arena's own blocks hold no list of cells. -/
namespace Go.Proofs.YtahlinekbllkaaaGreatDoor.Tr
open Go.RowKit Go.Proofs.YtahlinekbllkaaaGreatDoor.Ba Go.Proofs.YtahlinekbllkaaaGreatDoor.Ar Go.Proofs.YtahlinekbllkaaaGreatDoor.Mp Go.Lib
open Go.Proofs.YtahlinekbllkaaaGreatDoor.Se (Row)

theorem map_norow {κ : Type} {m : MK κ} {w : World} {v : Value} {c q : Nat} {M : κ → Option Nat} (h : MapAt m w v c M) (hq : mapBlock v = some q) (u : Value) : w.cell? ⟨q, 0, none⟩ ≠ some u := by
  rcases h with ⟨rfl, _⟩ | ⟨b, s, rfl, ⟨D, ⟨es, clock, h1, r⟩, h2⟩⟩
  · simp [mapBlock] at hq
  · simp only [mapBlock, Option.some.injEq] at hq
    subst hq
    simp [World.cell?, h1]
theorem ar_tight {w : World} {g : Nat} {S : Sta} {P : Nat → Prop} (h : ArAt w g S P) (hN : S.N ≠ []) : ∃ P0 : Nat → Prop, ArAt w g S P0 ∧ (∀ k, P0 k → P k) ∧ ∀ q L, Row w q L → L ≠ [] → ¬ P0 q := by
  have hcs := h.cells
  obtain ⟨s, lv, jn, h1, h2, h3, h4, ⟨p1, p2, p3, p4, p5⟩, rest⟩ := h
  refine ⟨fun k => k = g ∨ s.ownBlock = some k ∨ mapBlock lv = some k ∨ mapBlock jn = some k, ⟨s, lv, jn, h1, h2, h3, h4, ⟨.inl rfl, fun b hb => .inr (.inl hb), fun b hb => .inr (.inr (.inl hb)), fun b hb => .inr (.inr (.inr hb)), p5⟩, rest⟩, fun k hk => ?_, fun q L hr hne hq => ?_⟩
  · rcases hk with rfl | hk | hk | hk
    · exact p1
    · exact p2 k hk
    · exact p3 k hk
    · exact p4 k hk
  · obtain ⟨x, hx⟩ : ∃ x, L[0]? = some x := by cases L with | nil => exact absurd rfl hne | cons x L => exact ⟨x, rfl⟩
    obtain ⟨r0, r1, _⟩ := hr.1 0 x hx
    simp only [Nat.zero_mul, Nat.zero_add] at r0 r1
    rcases hq with rfl | hq | hq | hq
    · obtain ⟨p, c, lv', jn', ⟨-, c1, -, -⟩, -⟩ := hcs
      rw [c1] at r1
      simp at r1
    · rcases h2.2 with ⟨rfl, _⟩ | ⟨b, cap, cur, rfl, _⟩
      · simp [Value.ownBlock] at hq
      · simp only [Value.ownBlock, Option.some.injEq] at hq
        subst hq
        obtain ⟨d, N, hd⟩ : ∃ d N, S.N = d :: N := by cases hS : S.N with | nil => exact absurd hS hN | cons d N => exact ⟨d, N, rfl⟩
        have hl : 0 < (flatN S.N).length := by rw [flatN_len, hd, List.length_cons]; omega
        have := h2.cellAt 0 (by rw [hd, List.length_cons]; omega)
        rw [r0, hd, flatN_cons] at this
        simp at this
    · exact map_norow h3 hq _ r0
    · exact map_norow h4 hq _ r0
end Go.Proofs.YtahlinekbllkaaaGreatDoor.Tr

/- Roots of lists in one arena: the mathematics that several laws want. -/
namespace Go.Proofs.YtahlinekbllkaaaGreatDoor.Tr
open Go.RowKit Go.Proofs.YtahlinekbllkaaaGreatDoor.Ba Go.Proofs.YtahlinekbllkaaaGreatDoor.Ar
open Go.Proofs.YtahlinekbllkaaaGreatDoor.Se (RawAt SetAt Rising rising_ext boxL)

theorem set_raw {w : World} {v : Value} {L : List C} (h : SetAt w v L) : RawAt w v L := by
  rcases h with ⟨rfl, rfl⟩ | ⟨g, cap, rfl, _, hr⟩
  · exact .inl ⟨none, 0, rfl, rfl⟩
  · exact .inr ⟨g, 0, cap, rfl, hr.flat, hr.2⟩
/-- Built where it is already: nothing turns. -/
theorem bt_same {S S' : Sta} {K : List C} {d i d3 z : Nat} {er : Option Nat} (h : Rt S d i K) (hl : Lst (boxL K) (d + 2)) (hb : Bt S K d3 z er S') : d = d3 ∧ i = z ∧ none = er ∧ S = S' := by
  have := hb.lv.uniq hl
  obtain rfl : d = d3 := by omega
  obtain ⟨a, b, c⟩ := hb.old i h.lv h.mem
  exact ⟨rfl, a.symm, b.symm, c.symm⟩
/-- Two roots in one arena are one just where their lists are. -/
theorem rt_eq {S : Sta} {K M : List C} {d i e j : Nat} (h : Rt S d i K) (k : Rt S e j M) (hl : Lst (boxL K) (d + 2)) (kl : Lst (boxL M) (e + 2)) : i = j ↔ K = M := by
  constructor
  · rintro rfl
    have a : levelOf S.N i = (d : Int) + 2 := h.lv
    have b : levelOf S.N i = (e : Int) + 2 := k.lv
    obtain rfl : d = e := by omega
    exact rising_ext h.ris k.ris fun c => (h.mem c).symm.trans (k.mem c)
  · rintro rfl
    have := hl.uniq kl
    obtain rfl : d = e := by omega
    exact uniq h.tw h.lv k.lv fun c => (h.mem c).trans (k.mem c).symm
end Go.Proofs.YtahlinekbllkaaaGreatDoor.Tr
