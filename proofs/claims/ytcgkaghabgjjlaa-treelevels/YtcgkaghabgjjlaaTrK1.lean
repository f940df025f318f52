/- Make: an arena, and the root of a set in it. -/
import Derived.Test.YtcgkaghabgjjlaaTrW10
import Derived.Test.YtcgkaghabgjjlaaSeO
import Derived.BigQuiet
namespace Go.Proofs.Ytcgkaghabgjjlaa.Tr
open Go.RowKit Go.Proofs.Ytcgkaghabgjjlaa.Ba Go.Proofs.Ytcgkaghabgjjlaa.Ar Go.Lib
open Go.Proofs.Ytcgkaghabgjjlaa.Se (RawAt own4_any set_of_own SetAt flat)

/-- There is room. -/
theorem bt_room {S S' : Sta} {L : List (Int × Int × Int)} {d i : Nat} {er : Option Nat} (h : Bt S L d i er S') (hN : ne S.N + L.length * 43 ≤ 700000) (hm : 800000 ≤ S.more) : er = none := by
  rcases h.ok with ⟨e, _⟩ | ⟨_, _, hf⟩
  · exact e
  · exfalso
    have h1 := h.len
    have h2 := em_le h.ext.tw
    have h3 := h.ext.more
    unfold full at hf
    rw [h3] at hf
    omega
theorem bt_le {S S' : Sta} {L : List (Int × Int × Int)} {d i : Nat} {er : Option Nat} (h : Bt S L d i er S') : S'.N.length ≤ ne S.N + L.length * 43 + 42 := by
  have h1 := h.len
  have h2 := em_le h.ext.tw
  omega
theorem bt_lv {S S' : Sta} {L : List (Int × Int × Int)} {d i : Nat} (h : Bt S L d i none S') : lvOk S'.N d i ∧ ∀ c, c ∈ cellsL S'.N d i (-hf ((d : Int) + 2)) (-hf ((d : Int) + 2)) ↔ c ∈ L := by
  rcases h.ok with ⟨_, h1, h2⟩ | ⟨h1, _⟩
  · exact ⟨h1, h2⟩
  · cases h1
set_option maxRecDepth 100000 in
theorem make_any (v : Value) (L : List (Int × Int × Int)) (w : World) (h : RawAt w v L) (hin : ∀ c ∈ L, insB 44 c.1 c.2.1 = true) (hh : ∀ c ∈ L, c.2.2 = 0 ∨ c.2.2 = 1) (hL : L.length ≤ 40) :
    Calls Try.prog 11 #[v] w fun e w' => ∃ (i d : Nat) (S : Sta), e = .returned (.tuple #[Pt w.heap.size, .int .u32 i, .bool true]) ∧ Bt (newS 1048576) L d i none S ∧ ArAt w' w.heap.size S (fun k => w.heap.size ≤ k) ∧ Below w.heap.size w w' := by
  have hn := new_any 1048576 (by omega) w
  have ho := fun W hW => own4_any v L W hW (by unfold maxLen; omega)
  rw [List.take_of_length_le hL] at ho
  have hbt := fun u (W : World) P hs hA hP => build_top u L w.heap.size (newS 1048576) P W hs hin hh (by omega) hA hP (tw_new _) (by decide)
  clear hin hh
  go_enter Try.func11, Try.ntmps11
  go_wp2_with fail
  refine hn.mono ?_
  rintro e w1 ⟨rfl, hA, hb1⟩
  clear hn
  have HA := Lib.hid hA
  have HB1 := Lib.hid hb1
  have hU := h.below hb1
  clear hA hb1 h
  go_wp2_with fail
  refine (ho _ hU).mono ?_
  rintro e w2 ⟨u, rfl, hu, hb2⟩
  have hA2 := (HA.out.under hb2).weak (P' := fun k => k = w.heap.size ∨ w2.heap.size ≤ k) (fun b hb _ => .inl hb)
  have hB2 := HB1.out.trans (hb2.mono HB1.out.size)
  have hs := set_of_own hu
  have hlt := HA.out.lt
  have hz2 := hb2.size
  have HB2 := Lib.hid hB2
  have hbc := hbt u w2 _ hs hA2 (fun k hk => .inr hk)
  clear ho hU hu hb2 hB2 hA2 hs hbt
  go_wp2_with fail
  refine hbc.mono ?_
  rintro e w3 ⟨i, er, S', d, rfl, hB, hA3, ho3⟩
  have hN0 : ne (newS 1048576).N = 0 := by decide
  obtain rfl := bt_room hB (by rw [hN0]; omega) (by decide)
  have HB3 := Lib.hid (HB2.out.trans (ho3.below HB2.out.size (fun b hb => by have := HB2.out.size; rcases hb with h | h <;> omega)))
  have HA3 := Lib.hid (hA3.weak (P' := fun k => w.heap.size ≤ k) (fun b hb _ => by have := HB2.out.size; rcases hb with h | h <;> omega))
  have HBt := Lib.hid hB
  unfold errV
  clear hbc hB hA3 ho3 hN0
  go_wp2_with fail
  go_quiet (fail)
  go_wp2_with fail
  all_goals exact bodyPost_ret (v := .tuple #[Pt w.heap.size, .int .u32 i, .bool true]) (by simp [results, Try.results11, go_sem]) rfl ⟨i, d, S', rfl, HBt.out, HA3.out, Ba.below_dr _ HB3.out⟩
end Go.Proofs.Ytcgkaghabgjjlaa.Tr
