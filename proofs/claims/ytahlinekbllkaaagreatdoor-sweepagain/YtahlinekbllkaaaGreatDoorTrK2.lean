/- Several texts, joined. -/
import Derived.Test.YtahlinekbllkaaaGreatDoorTrW10
import Derived.Test.YtahlinekbllkaaaGreatDoorSeO
import Derived.BigQuiet
import Derived.Test.YtahlinekbllkaaaGreatDoorTrW11
/- Make: an arena, and the root of a set in it. -/
namespace Go.Proofs.YtahlinekbllkaaaGreatDoor.Tr
open Go.RowKit Go.Proofs.YtahlinekbllkaaaGreatDoor.Ba Go.Proofs.YtahlinekbllkaaaGreatDoor.Ar Go.Lib
open Go.Proofs.YtahlinekbllkaaaGreatDoor.Se (RawAt own4_any set_of_own SetAt flat)

/-- There is room. -/
theorem bt_room {S S' : Sta} {L : List (Int × Int × Int)} {d i : Nat} {er : Option Nat} (h : Bt S L d i er S') (hN : ne S.N + L.length * 43 ≤ 700000) (hm : 800000 ≤ S.more) : er = none := by
  rcases h.ok with ⟨e, _⟩ | ⟨_, _, hf⟩
  · exact e
  · exfalso
    have h1 := h.len
    have h2 := em_le h.ext.tw
    have h3 := h.ext.more
    unfold full at hf
    rw [h3] at hf
    omega
theorem bt_le {S S' : Sta} {L : List (Int × Int × Int)} {d i : Nat} {er : Option Nat} (h : Bt S L d i er S') : S'.N.length ≤ ne S.N + L.length * 43 + 42 := by
  have h1 := h.len
  have h2 := em_le h.ext.tw
  omega
theorem bt_lv {S S' : Sta} {L : List (Int × Int × Int)} {d i : Nat} (h : Bt S L d i none S') : lvOk S'.N d i ∧ ∀ c, c ∈ cellsL S'.N d i (-hf ((d : Int) + 2)) (-hf ((d : Int) + 2)) ↔ c ∈ L := by
  rcases h.ok with ⟨_, h1, h2⟩ | ⟨h1, _⟩
  · exact ⟨h1, h2⟩
  · cases h1
set_option maxRecDepth 100000 in
theorem make_any (v : Value) (L : List (Int × Int × Int)) (w : World) (h : RawAt w v L) (hin : ∀ c ∈ L, insB 44 c.1 c.2.1 = true) (hh : ∀ c ∈ L, c.2.2 = 0 ∨ c.2.2 = 1) (hL : L.length ≤ 40) :
    Calls Tryz.prog 9 #[v] w fun e w' => ∃ (i d : Nat) (S : Sta), e = .returned (.tuple #[Pt w.heap.size, .int .u32 i, .bool true]) ∧ Bt (newS 1048576) L d i none S ∧ ArAt w' w.heap.size S (fun k => w.heap.size ≤ k) ∧ Below w.heap.size w w' := by
  have hn := new_any 1048576 (by omega) w
  have ho := fun W hW => own4_any v L W hW (by unfold maxLen; omega)
  rw [List.take_of_length_le hL] at ho
  have hbt := fun u (W : World) P hs hA hP => build_top u L w.heap.size (newS 1048576) P W hs hin hh (by omega) hA hP (tw_new _) (by decide)
  clear hin hh
  go_enter Tryz.func9, Tryz.ntmps9
  go_wp2_with fail
  refine hn.mono ?_
  rintro e w1 ⟨rfl, hA, hb1⟩
  clear hn
  have HA := Lib.hid hA
  have HB1 := Lib.hid hb1
  have hU := h.below hb1
  clear hA hb1 h
  go_wp2_with fail
  refine (ho _ hU).mono ?_
  rintro e w2 ⟨u, rfl, hu, hb2⟩
  have hA2 := (HA.out.under hb2).weak (P' := fun k => k = w.heap.size ∨ w2.heap.size ≤ k) (fun b hb _ => .inl hb)
  have hB2 := HB1.out.trans (hb2.mono HB1.out.size)
  have hs := set_of_own hu
  have hlt := HA.out.lt
  have hz2 := hb2.size
  have HB2 := Lib.hid hB2
  have hbc := hbt u w2 _ hs hA2 (fun k hk => .inr hk)
  clear ho hU hu hb2 hB2 hA2 hs hbt
  go_wp2_with fail
  refine hbc.mono ?_
  rintro e w3 ⟨i, er, S', d, rfl, hB, hA3, ho3⟩
  have hN0 : ne (newS 1048576).N = 0 := by decide
  obtain rfl := bt_room hB (by rw [hN0]; omega) (by decide)
  have HB3 := Lib.hid (HB2.out.trans (ho3.below HB2.out.size (fun b hb => by have := HB2.out.size; rcases hb with h | h <;> omega)))
  have HA3 := Lib.hid (hA3.weak (P' := fun k => w.heap.size ≤ k) (fun b hb _ => by have := HB2.out.size; rcases hb with h | h <;> omega))
  have HBt := Lib.hid hB
  unfold errV
  clear hbc hB hA3 ho3 hN0
  go_wp2_with fail
  go_quiet (fail)
  go_wp2_with fail
  all_goals exact bodyPost_ret (v := .tuple #[Pt w.heap.size, .int .u32 i, .bool true]) (by simp [results, Tryz.results9, go_sem]) rfl ⟨i, d, S', rfl, HBt.out, HA3.out, Ba.below_dr _ HB3.out⟩
end Go.Proofs.YtahlinekbllkaaaGreatDoor.Tr

/- What the document fixes of trees. -/
namespace Go.Proofs.YtahlinekbllkaaaGreatDoor.Tr
open Go.RowKit Go.Proofs.YtahlinekbllkaaaGreatDoor.Ba Go.Proofs.YtahlinekbllkaaaGreatDoor.Ar Go.Lib
open Go.Proofs.YtahlinekbllkaaaGreatDoor.Se (RawAt flat own3_any boxL)

theorem ins44 {a b : Int} (ha : -8796093022208 ≤ a ∧ a < 8796093022208) (hb : -8796093022208 ≤ b ∧ b < 8796093022208) : insB 44 a b = true := by
  unfold insB
  rw [hf_high (by omega), decide_eq_true_eq]
  exact ⟨ha, hb⟩
def LA : List (Int × Int × Int) := [(3, 0, 0), (-4, 3, 0)]
def LB : List (Int × Int × Int) := [(4, 0, 0)]
theorem la_has3 : hasB 3 (boxL LA) = true := by
  unfold hasB insB
  rw [hf_mid (by omega) (by omega)]
  decide
theorem lb_has3 : hasB 3 (boxL LB) = false := by
  unfold hasB insB
  rw [hf_mid (by omega) (by omega)]
  decide
theorem lb_has4 : hasB 4 (boxL LB) = true := by
  unfold hasB insB
  rw [hf_mid (by omega) (by omega)]
  decide
theorem la_lv {l : Nat} (h : Lst (boxL LA) l) : l = 3 := h.uniq ⟨by omega, by omega, fun m h1 h2 => by omega, fun _ => la_has3⟩
theorem lb_lv {l : Nat} (h : Lst (boxL LB) l) : l = 4 := h.uniq ⟨by omega, by omega, fun m h1 h2 => by obtain rfl : m = 3 := (by omega); exact lb_has3, fun _ => lb_has4⟩
theorem raw_two {w : World} {T : TypeId} {n : Nat} {a b h c e k : Int} (kb : Blk w n T #[.int .i64 a, .int .i64 b, .int .i64 h, .int .i64 c, .int .i64 e, .int .i64 k]) : RawAt w (.slice (some ⟨n, 0, none⟩) 2 2) [(a, b, h), (c, e, k)] :=
  .inr ⟨n, 0, 2, rfl, fun j u hu => by
    rw [Nat.zero_add, kb.cell j, ← hu]
    simp [flat, Go.Proofs.YtahlinekbllkaaaGreatDoor.Se.encC], kb.lt⟩
theorem raw_one {w : World} {T : TypeId} {n : Nat} {a b h : Int} (kb : Blk w n T #[.int .i64 a, .int .i64 b, .int .i64 h]) : RawAt w (.slice (some ⟨n, 0, none⟩) 1 1) [(a, b, h)] :=
  .inr ⟨n, 0, 1, rfl, fun j u hu => by
    rw [Nat.zero_add, kb.cell j, ← hu]
    simp [flat, Go.Proofs.YtahlinekbllkaaaGreatDoor.Se.encC], kb.lt⟩
set_option maxRecDepth 100000 in
theorem awake_any (w : World) : Calls Tryz.prog 7 #[] w fun e w' => e = .returned (.bool true) ∧ Below w.heap.size w w' := by
  have hm1 := fun v W h => make_any v LA W h (by intro c hc; simp only [LA, List.mem_cons, List.not_mem_nil, or_false] at hc; rcases hc with rfl | rfl <;> exact ins44 (by decide) (by decide)) (by intro c hc; simp only [LA, List.mem_cons, List.not_mem_nil, or_false] at hc; rcases hc with rfl | rfl <;> decide) (by decide)
  have hm2 := fun v W h => make_any v LB W h (by intro c hc; simp only [LB, List.mem_cons, List.not_mem_nil, or_false] at hc; rcases hc with rfl; exact ins44 (by decide) (by decide)) (by intro c hc; simp only [LB, List.mem_cons, List.not_mem_nil, or_false] at hc; rcases hc with rfl; decide) (by decide)
  go_enter Tryz.func7, Tryz.ntmps7
  go_wp2_with fail
  have hr1 : RawAt (w.alloc (.cells #[.int .i64 3, .int .i64 0, .int .i64 0, .int .i64 (-4), .int .i64 3, .int .i64 0] 24)) (.slice (some ⟨w.heap.size, 0, none⟩) 2 2) LA := raw_two (Blk.newAt w _ _ _ rfl)
  have hb1 : Below w.heap.size w (w.alloc (.cells #[.int .i64 3, .int .i64 0, .int .i64 0, .int .i64 (-4), .int .i64 3, .int .i64 0] 24)) := by go_grown
  generalize w.alloc (.cells #[.int .i64 3, .int .i64 0, .int .i64 0, .int .i64 (-4), .int .i64 3, .int .i64 0] 24) = W1 at *
  refine (hm1 _ _ hr1).mono ?_
  rintro e w2 ⟨i1, d1, S1, rfl, hB1, hA1, hb2⟩
  obtain rfl : d1 = 1 := by have := la_lv hB1.lv; omega
  have HB2 := Lib.hid (hb1.trans (hb2.mono hb1.size))
  have HBt := Lib.hid hB1
  clear hm1 hr1 hb1 hb2 hB1
  go_wp2_with fail
  have hr2 : RawAt (w2.alloc (.cells #[.int .i64 4, .int .i64 0, .int .i64 0] 24)) (.slice (some ⟨w2.heap.size, 0, none⟩) 1 1) LB := raw_one (Blk.newAt w2 _ _ _ rfl)
  have hb3 : Below w2.heap.size w2 (w2.alloc (.cells #[.int .i64 4, .int .i64 0, .int .i64 0] 24)) := by go_grown
  generalize w2.alloc (.cells #[.int .i64 4, .int .i64 0, .int .i64 0] 24) = W3 at *
  refine (hm2 _ _ hr2).mono ?_
  rintro e w4 ⟨i2, d2, S2, rfl, hB2, hA2, hb4⟩
  obtain rfl : d2 = 2 := by have := lb_lv hB2.lv; omega
  have HB4 := Lib.hid (HB2.out.trans ((hb3.trans (hb4.mono hb3.size)).mono HB2.out.size))
  have hA1' := (hA1.under hb3).under hb4
  have hn1 := bt_le HBt.out
  have hn2 := bt_le hB2
  have hlv1 := (bt_lv HBt.out).1
  have hlv2 := (bt_lv hB2).1
  have hz : ne (newS 1048576).N = 0 := by decide
  have hla : LA.length = 2 := rfl
  have hlb : LB.length = 1 := rfl
  rw [hz, hla] at hn1
  rw [hz, hlb] at hn2
  have hl1 := fun W hW => Ar.level_any W1.heap.size i1 S1 (fun k => W1.heap.size ≤ k) W hW (by have := lv_le hlv1; show _ < _; omega) (by omega)
  have hl2 := fun W hW => Ar.level_any W3.heap.size i2 S2 (fun k => W3.heap.size ≤ k) W hW (by have := lv_le hlv2; show _ < _; omega) (by omega)
  rw [show levelOf S1.N i1 = 3 from hlv1] at hl1
  rw [show levelOf S2.N i2 = 4 from hlv2] at hl2
  have hgt := fun W hW => get_yes W1.heap.size i1 1 (3, 0, 0) S1 (fun k => W1.heap.size ≤ k) W hW (by omega) HBt.out.ext.tw hlv1 (by omega) (by omega) (.inl rfl) (ins_mono (l := 3) (by unfold insB; rw [hf_mid (by omega) (by omega)]; decide) (by omega))
  have hmem : ((3, 0, 0) : Int × Int × Int) ∈ cellsL S1.N 1 i1 (-hf (((1 : Nat) : Int) + 2)) (-hf (((1 : Nat) : Int) + 2)) := ((bt_lv HBt.out).2 _).2 (by decide)
  rw [decide_eq_true hmem] at hgt
  have hha := fun W => half_any 44 W
  rw [hf_high (by omega)] at hha
  have hon := fun W => own3_any (3, 0, 0) W
  clear hm2 hr2 hb3 hb4 hB2 hn1 hn2 hlv1 hlv2 hz hla hlb hmem hA1
  go_wp2_with fail
  refine (hl1 _ hA1').mono ?_
  rintro e w5 ⟨rfl, hb5⟩
  have HB5 := Lib.hid (HB4.out.trans (hb5.mono HB4.out.size))
  have hA1 := hA1'.under hb5
  have hA2' := hA2.under hb5
  clear hb5 hA1' hA2 hl1
  go_wp2_with fail
  refine (hl2 _ hA2').mono ?_
  rintro e w6 ⟨rfl, hb6⟩
  have HB6 := Lib.hid (HB5.out.trans (hb6.mono HB5.out.size))
  have hA1' := hA1.under hb6
  clear hb6 hA1 hA2' hl2
  go_wp2_with fail
  refine (hon _).mono ?_
  rintro e w7 ⟨rfl, hb7⟩
  have HB7 := Lib.hid (HB6.out.trans (hb7.mono HB6.out.size))
  have hA1 := hA1'.under hb7
  clear hb7 hA1' hon
  go_wp2_with fail
  refine (hgt _ hA1).mono ?_
  rintro e w8 ⟨rfl, hb8⟩
  have HB8 := Lib.hid (HB7.out.trans (hb8.mono HB7.out.size))
  clear hb8 hA1 hgt
  go_wp2_with fail
  refine (hha _).mono ?_
  rintro e w' ⟨rfl, rfl⟩
  go_wp2_with fail
  go_ret
  exact ⟨rfl, HB8.out⟩
end Go.Proofs.YtahlinekbllkaaaGreatDoor.Tr
