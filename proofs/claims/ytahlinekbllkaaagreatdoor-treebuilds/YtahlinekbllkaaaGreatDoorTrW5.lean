/- Contracts of package tree: none. -/
import Derived.Test.YtahlinekbllkaaaGreatDoorTrW4
import Derived.Test.YtahlinekbllkaaaGreatDoorTrM3
import Derived.Test.YtahlinekbllkaaaGreatDoorArW6
namespace Go.Proofs.YtahlinekbllkaaaGreatDoor.Tr
open Go.RowKit Go.Proofs.YtahlinekbllkaaaGreatDoor.Ba Go.Proofs.YtahlinekbllkaaaGreatDoor.Ar Go.Lib

/-- A builder's cells. -/
def bc (g : Nat) (E : Nat → Nat) : Array Value := ((Value.pointer (some ⟨g, 0, none⟩)) :: (List.range 45).map fun l => Value.int .u32 (E l)).toArray
def bset (E : Nat → Nat) (l i : Nat) : Nat → Nat := fun m => if m = l then i else E m
theorem bc_zero (g : Nat) (E : Nat → Nat) : (bc g E)[0]? = some (.pointer (some ⟨g, 0, none⟩)) := rfl
theorem bc_get (g : Nat) (E : Nat → Nat) {l : Nat} (h : l < 45) : (bc g E)[l + 1]? = some (.int .u32 (E l)) := by
  unfold bc
  rw [List.getElem?_toArray, List.getElem?_cons_succ, List.getElem?_map, List.getElem?_range h]
  rfl
theorem bc_set (g : Nat) (E : Nat → Nat) {l : Nat} (i : Nat) (h : l < 45) : (bc g E).setIfInBounds (l + 1) (.int .u32 i) = bc g (bset E l i) := by
  unfold bc
  apply Array.ext'
  rw [Array.toList_setIfInBounds]
  show List.set (_ :: _) (l + 1) _ = _ :: _
  rw [List.set_cons_succ]
  congr 1
  apply List.ext_getElem?
  intro m
  rw [List.getElem?_set]
  by_cases hm : m < 45
  · by_cases e : l = m
    · subst e
      rw [if_pos rfl, if_pos (by simpa using hm), List.getElem?_map, List.getElem?_range hm]
      simp [bset]
    · rw [if_neg e, List.getElem?_map, List.getElem?_map, List.getElem?_range hm]
      have : ¬ m = l := fun h => e h.symm
      simp [bset, this]
  · rw [if_neg (by omega), List.getElem?_eq_none (by simp; omega), List.getElem?_eq_none (by simp; omega)]
/-- What a builder keeps are nodes without cells. -/
def EOk (S : Sta) (E : Nat → Nat) : Prop := ∀ l, l < 45 → E l ≠ 0 → 2 ≤ l ∧ lvOk S.N (l - 2) (E l) ∧ ∀ x y, cellsL S.N (l - 2) (E l) x y = []
theorem EOk.ext {S S' : Sta} {E : Nat → Nat} (h : EOk S E) (T : Tw S) (k : Ext S S') : EOk S' E := fun l hl h0 => by
  obtain ⟨h1, h2, h3⟩ := h l hl h0
  exact ⟨h1, k.lv h2, fun x y => by rw [k.cells T h2]; exact h3 x y⟩
theorem EOk.set {S : Sta} {E : Nat → Nat} (h : EOk S E) {d i : Nat} (hi : lvOk S.N d i) (hc : ∀ x y, cellsL S.N d i x y = []) : EOk S (bset E (d + 2) i) := fun l hl h0 => by
  unfold bset at h0 ⊢
  by_cases e : l = d + 2
  · subst e
    rw [if_pos rfl]
    exact ⟨by omega, hi, hc⟩
  · rw [if_neg e] at h0 ⊢
    exact h l hl h0
theorem EOk.zero (S : Sta) : EOk S fun _ => 0 := fun _ _ h => absurd rfl h
theorem lv_okU {S : Sta} {d i : Nat} (h : lvOk S.N d i) (hN : S.N.length ≤ 1000000) : okU i := by have := lv_le h; show _ < _; omega
theorem bd_okU {S S' : Sta} {d i : Nat} {x y : Int} {PL : List Plot} {e : Option Nat} (h : Bd S d x y PL i e S') (hN : S'.N.length ≤ 1000000) : okU i := by
  rcases h.ok with ⟨_, h1, _⟩ | ⟨_, h1, _⟩
  · exact lv_okU h1 hN
  · subst h1; decide
/-- What a building call keeps. -/
structure Kp (w : World) (P : Nat → Prop) (g b : Nat) (S' : Sta) (w' : World) : Prop where
  ar : ArAt w' g S' P
  bl : ∃ E', EOk S' E' ∧ Blk w' b 110 (bc g E')
set_option maxRecDepth 100000 in
set_option maxHeartbeats 1000000 in
theorem none_any (d : Nat) (x y : Int) (g b : Nat) (S : Sta) (E : Nat → Nat) (P : Nat → Prop) (w : World) (hd : d ≤ 42) (h : ArAt w g S P) (hP : ∀ k, w.heap.size ≤ k → P k) (hb : Blk w b 110 (bc g E)) (hPb : ¬ P b) (T : Tw S) (hE : EOk S E) (hN : S.N.length ≤ 900000) :
    Calls Tryz.prog 76 #[Pt b, .int .i64 ((d : Int) + 2)] w fun e w' => ∃ (i : Nat) (er : Option Nat) (S' : Sta), e = .returned (.tuple #[.int .u32 i, errV er]) ∧ Bd S d x y [] i er S' ∧ Kp w P g b S' w' ∧ Off (fun k => P k ∨ k = b) w w' := by
  have hem := fun W hW hQ => empty_mid g d S P W hW hQ hd hN
  have l0 : (0 : Int) ≤ (d : Int) + 2 := by omega
  have l1 : (d : Int) + 2 < 45 := by omega
  have l2 : ((d : Int) + 2).toNat = d + 2 := by omega
  have c0 := hb.cell 0
  rw [bc_zero] at c0
  have cl := hb.cell (d + 2 + 1)
  rw [bc_get g E (by omega)] at cl
  rw [show d + 2 + 1 = 1 + (d + 2) by omega] at cl
  have fl := hb.frozen (1 + (d + 2))
  have hbl := hb.lt
  by_cases h0 : E (d + 2) = 0
  · rw [h0] at cl
    have HB := Lib.hid (bd_empty (x := x) (y := y) T hd)
    have HE := Lib.hid hE
    have HN := Lib.hid (empL_len d S)
    have hbn := fun W' hO => Off.blk (P := P) (w' := W') hO hb hPb
    have HT := Lib.hid T
    clear hE T hb
    rcases hR : empL d S with ⟨i, er, S'⟩
    rw [hR] at hem HB HN
    dsimp only at hem
    go_enter Tryz.func76, Tryz.ntmps76
    go_wp2_with fail
    refine (hem _ h hP).mono ?_
    rintro e w1 ⟨rfl, hA, hO⟩
    have hb1 := hbn _ hO
    have HO := Lib.hid hO
    have c0' := hb1.cell 0
    rw [bc_zero] at c0'
    have cl' := hb1.cell (d + 2 + 1)
    rw [bc_get g E (by omega), show d + 2 + 1 = 1 + (d + 2) by omega, h0] at cl'
    have fl' := hb1.frozen (1 + (d + 2))
    have hbl' := hb1.lt
    have HBl := Lib.hid hb1
    have hEx := HB.out.ext
    have HX := Lib.hid hEx
    clear hO hb1 hbn hem c0 cl fl h hEx
    rcases er with _ | c
    · unfold errV
      go_wp2_with fail
      refine bodyPost_ret (v := .tuple #[.int .u32 i, errV none]) (by simp [results, Tryz.results76, go_sem, errV]) rfl ⟨i, none, S', rfl, HB.out, ⟨hA.same fun k hk _ => Below.heap_setCell _ _ _ _ (fun e => hPb ((show k = b from e) ▸ hk)), bset E (d + 2) i, ?_, ?_⟩, (HO.out.weak fun k _ hk => .inl hk).setCell (fun _ => .inr rfl) _⟩
      · obtain ⟨-, h1, h2⟩ | ⟨h1, -⟩ := HB.out.ok
        · exact (HE.out.ext HT.out HX.out).set h1 fun x' y' => cells_shift_nil (nil_of h2)
        · cases h1
      · have := HBl.out.set_ (d + 2 + 1) (.int .u32 i)
        rw [bc_set g E i (by omega)] at this
        rw [show 1 + (d + 2) = d + 2 + 1 by omega]
        exact this
    · obtain rfl : i = 0 := by
        obtain ⟨h1, -⟩ | ⟨-, h1, -⟩ := HB.out.ok
        · cases h1
        · exact h1
      unfold errV
      go_wp2_with fail
      exact bodyPost_ret (v := .tuple #[.int .u32 0, errV (some c)]) (by simp [results, Tryz.results76, go_sem, errV]) rfl ⟨0, some c, S', rfl, HB.out, ⟨hA, E, HE.out.ext HT.out HX.out, HBl.out⟩, HO.out.weak fun k _ hk => .inl hk⟩
  · have hne : ((E (d + 2) : Nat) : Int) ≠ 0 := by omega
    obtain ⟨-, h2, h3⟩ := hE (d + 2) (by omega) h0
    have HE := Lib.hid hE
    have H2 := Lib.hid h2
    have H3 := Lib.hid h3
    clear hem hE h2 h3
    go_enter Tryz.func76, Tryz.ntmps76
    go_wp2_with fail
    exact bodyPost_ret (v := .tuple #[.int .u32 (E (d + 2)), errV none]) (by simp [results, Tryz.results76, go_sem, errV]) rfl ⟨E (d + 2), none, S, rfl, bd_known T H2.out (H3.out x y), ⟨h, E, HE.out, hb⟩, Off.refl⟩
end Go.Proofs.YtahlinekbllkaaaGreatDoor.Tr
