/- What stays true between the law's calls. -/
import Derived.Test.YtmibdbgoknbchaaDoorArQ2
namespace Go.Proofs.YtmibdbgoknbchaaDoor.Ar
open Go.RowKit Go.Proofs.YtmibdbgoknbchaaDoor.Ba Go.Proofs.YtmibdbgoknbchaaDoor.Mp Go.Lib Go.Maps

/-- Whatever a list of nodes is in is none of the arena's blocks. -/
theorem ArAt.noR {w : World} {g gy cy : Nat} {S : Sta} {P : Nat → Prop} {L : List RN} (h : ArAt w g S P) (hr : RAt w gy cy L) : ArAt w g S (fun b => P b ∧ b ≠ gy) := by
  obtain ⟨s, lv, jn, kb, ho, hL, hJ, ⟨p1, p2, p3, p4, p5⟩, rest⟩ := h
  obtain ⟨cs, fr, hty⟩ := hr.1.2
  have hmap : ∀ (v : Value), (∀ b, v = .map (some b) → ∀ (cs : Array Value) t fr, w.heap[b]? ≠ some (.cells cs t fr)) → ∀ b, mapBlock v = some b → b ≠ gy := by
    intro v hv b hb e
    subst e
    cases v <;> simp [mapBlock] at hb
    subst hb
    exact hv _ rfl _ _ _ hty
  refine ⟨s, lv, jn, kb, ho, hL, hJ, ⟨⟨p1, ?_⟩, fun b hb => ⟨p2 b hb, ?_⟩, fun b hb => ⟨p3 b hb, ?_⟩, fun b hb => ⟨p4 b hb, ?_⟩, p5⟩, rest⟩
  · intro e
    subst e
    unfold Blk at kb
    rw [kb] at hty
    simp at hty
  · intro e
    subst e
    rcases ho.2 with ⟨rfl, _⟩ | ⟨G, cap, cur, rfl, _, hg, _⟩
    · simp [Value.ownBlock] at hb
    · simp only [Value.ownBlock, Option.some.injEq] at hb
      subst hb
      rw [hg] at hty
      simp at hty
  · rcases hL with ⟨rfl, _⟩ | ⟨b', s', rfl, D, ⟨es, clock, hm, _⟩, _⟩
    · simp [mapBlock] at hb
    · simp only [mapBlock, Option.some.injEq] at hb
      intro e
      subst hb e
      rw [hm] at hty
      cases hty
  · rcases hJ with ⟨rfl, _⟩ | ⟨b', s', rfl, D, ⟨es, clock, hm, _⟩, _⟩
    · simp [mapBlock] at hb
    · simp only [mapBlock, Option.some.injEq] at hb
      intro e
      subst hb e
      rw [hm] at hty
      cases hty
abbrev OwnU (w : World) (B G n cap : Nat) : Prop := w.ownsRow B 31 1 (.slice (some ⟨G, 0, none⟩) n cap) n (ats n)
def Inv (B wd g : Nat) (S : Sta) (wr : World) : Prop :=
  ∃ (P : Nat → Prop) (gx cx G cap : Nat), ArAt wr g S P ∧ (∀ b, P b → b < wr.heap.size ∧ B ≤ b ∧ b ≠ wd ∧ b ≠ gx ∧ b ≠ G) ∧ WdB wr wd g gx (refL S.N).length cx (64 + S.more) G (S.N.length + 1) cap ∧ RAt wr gx cx (refL S.N) ∧ OwnU wr B G (S.N.length + 1) cap ∧ B ≤ wd ∧ True
/-- Ahead of a call of the arena. -/
def Mid (B wd g Z : Nat) (S : Sta) (gy cy : Nat) (L : List RN) (w : World) (P : Nat → Prop) (gx l0 cx : Nat) (most : Int) (G n cap : Nat) : Prop :=
  ArAt w g S P ∧ (∀ b, w.heap.size ≤ b → P b) ∧ (∀ b, P b → b < w.heap.size → b < Z ∧ B ≤ b ∧ b ≠ wd ∧ b ≠ gy ∧ b ≠ G) ∧ WdB w wd g gx l0 cx most G (n + 1) cap ∧ RAt w gy cy L ∧ OwnU w B G (n + 1) cap
theorem inv_mid {B wd g gy cy : Nat} {S : Sta} {wr w2 : World} {L : List RN} (h : Inv B wd g S wr) (hb : Below wr.heap.size wr w2) (hr : RAt w2 gy cy L) :
    ∃ P gx cx G cap, Mid B wd g wr.heap.size S gy cy L w2 P gx (refL S.N).length cx (64 + S.more) G S.N.length cap := by
  obtain ⟨P, gx, cx, G, cap, hA, hP, hw, hx, ho, hd, hd2⟩ := h
  have hs := hb.size
  have h2 := (hA.under hb).noR hr
  refine ⟨fun b => (P b ∧ b ≠ gy) ∨ w2.heap.size ≤ b, gx, cx, G, cap, h2.weak (fun b hb _ => .inl hb), fun b hb => .inr hb, fun b hb hlt => ?_, hw.under hb, hr, own_below ho hb⟩
  rcases hb with ⟨hp, hne⟩ | hge
  · obtain ⟨a1, a2, a3, a4, a5⟩ := hP b hp
    exact ⟨a1, a2, a3, hne, a5⟩
  · omega
/-- Behind it: what fits wants. -/
theorem mid_fit {B wd g Z gy cy gx l0 cx G n cap : Nat} {S : Sta} {L : List RN} {w2 w3 : World} {P : Nat → Prop} {most : Int} (h : Mid B wd g Z S gy cy L w2 P gx l0 cx most G n cap) (ho : Off P w2 w3) :
    WdB w3 wd g gx l0 cx most G (n + 1) cap ∧ RAt w3 gy cy L ∧ OwnU w3 B G (n + 1) cap ∧ (∀ b, P b → b ≠ wd ∧ b ≠ gy ∧ b ≠ G) := by
  obtain ⟨hA, hup, hP, hw, hr, hown⟩ := h
  have hG : G < w2.heap.size := own_lt0 hown G rfl
  have hn : ∀ b, P b → b ≠ wd ∧ b ≠ gy ∧ b ≠ G := fun b hb => by
    by_cases hlt : b < w2.heap.size
    · obtain ⟨_, _, a3, a4, a5⟩ := hP b hb hlt
      exact ⟨a3, a4, a5⟩
    · have := hw.lt
      have := hr.2.2
      exact ⟨by omega, by omega, by omega⟩
  refine ⟨ho.blk hw (fun hq => (hn _ hq).1 rfl), ?_, own_same hown fun b hb => ?_, hn⟩
  · have hk := ho.block gy hr.2.2 (fun hq => (hn _ hq).2.1 rfl)
    obtain ⟨⟨r1, cs, fr, r2⟩, r3, r4⟩ := hr
    exact ⟨⟨r1, cs, fr, hk.trans r2⟩, fun j u hu => (World.cell?_of_block (a := ⟨gy, j, none⟩) hk).trans (r3 j u hu), Nat.lt_of_lt_of_le r4 ho.size⟩
  · simp only [Value.ownBlock, Option.some.injEq] at hb
    subst hb
    exact ho.block _ hG (fun hq => (hn _ hq).2.2 rfl)
/-- Behind fits. -/
theorem fit_inv {B wd g gy cy G : Nat} {S' : Sta} {w3 w4 : World} {P : Nat → Prop} (hA : ArAt w3 g S' P) (hn : ∀ b, P b → b ≠ wd ∧ b ≠ gy ∧ b ≠ G) (hlow : ∀ b, P b → B ≤ b) (hd : B ≤ wd) (hd2 : True)
    (hE : FtE w3 B wd g G gy cy (refL S'.N) (64 + S'.more) w4) : Inv B wd g S' w4 := by
  obtain ⟨G', cap, hw, ho, hr, hG, hoff⟩ := hE
  have hs := hoff.size
  have h2 := hA.weak (P' := fun b => P b ∧ b < w3.heap.size) (fun b hb hlt => ⟨hb, hlt⟩)
  have h4 : ArAt w4 g S' (fun b => P b ∧ b < w3.heap.size) := h2.same fun b hb hlt => hoff.block b hlt (fun hq => by
    rcases hq with hq | hq
    · exact (hn b hb.1).1 hq
    · exact (hn b hb.1).2.2 hq)
  refine ⟨_, gy, cy, G', cap, h4, fun b hb => ⟨by omega, hlow b hb.1, (hn b hb.1).1, (hn b hb.1).2.1, ?_⟩, ?_, hr, ?_, hd, hd2⟩
  · rcases hG with rfl | hG
    · exact (hn b hb.1).2.2
    · omega
  · rw [← refL_len]; exact hw
  · unfold OwnU; rw [← refL_len]; exact ho
end Go.Proofs.YtmibdbgoknbchaaDoor.Ar
