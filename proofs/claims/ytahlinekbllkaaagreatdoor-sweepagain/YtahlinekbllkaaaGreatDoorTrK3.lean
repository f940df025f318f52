/- Several texts, joined. -/
import Derived.Laws.BitsLemmas
import Derived.Test.YtahlinekbllkaaaGreatDoorTrW9
import Derived.Test.YtahlinekbllkaaaGreatDoorSeO
import Derived.Test.YtahlinekbllkaaaGreatDoorSeR2
import Derived.Maps.AppendAt
/- Low bits of an int. -/
namespace Go.Proofs.YtahlinekbllkaaaGreatDoor.Ax
theorem i64_and255 (n : Int) : bits .and .i64 n 255 = n % 256 := by
  have h127 : (BitVec.ofInt 64 255).toNat = 2 ^ 8 - 1 := by decide
  have key : (BitVec.ofInt 64 n &&& BitVec.ofInt 64 255).toNat = (n % ((2 ^ 64 : Nat) : Int)).toNat % 2 ^ 8 := by
    rw [BitVec.toNat_and, BitVec.toNat_ofInt, h127, Nat.and_two_pow_sub_one_eq_mod]
  show IntKind.i64.wrap ((BitVec.ofInt 64 n &&& BitVec.ofInt 64 255).toNat : Nat) = n % 256
  rw [key, IntKind.wrap_i64]
  omega
theorem i64_and1 (n : Int) : bits .and .i64 n 1 = n % 2 := by
  have h127 : (BitVec.ofInt 64 1).toNat = 2 ^ 1 - 1 := by decide
  have key : (BitVec.ofInt 64 n &&& BitVec.ofInt 64 1).toNat = (n % ((2 ^ 64 : Nat) : Int)).toNat % 2 ^ 1 := by
    rw [BitVec.toNat_and, BitVec.toNat_ofInt, h127, Nat.and_two_pow_sub_one_eq_mod]
  show IntKind.i64.wrap ((BitVec.ofInt 64 n &&& BitVec.ofInt 64 1).toNat : Nat) = n % 2
  rw [key, IntKind.wrap_i64]
  omega
theorem tmod_bd (a m : Int) (h : 0 < m) : -m < a.tmod m ∧ a.tmod m < m := by
  have h1 := Int.tmod_lt_of_pos a h
  have h2 := Int.tmod_lt_of_pos (-a) h
  rw [Int.neg_tmod] at h2
  omega
end Go.Proofs.YtahlinekbllkaaaGreatDoor.Ax

/- Wide: which sets are tried. -/
namespace Go.Proofs.YtahlinekbllkaaaGreatDoor.Tr
open Go.RowKit Go.Proofs.YtahlinekbllkaaaGreatDoor.Ba Go.Lib
open Go.Proofs.YtahlinekbllkaaaGreatDoor.Se (RawAt SetAt ofL flat flat_get flat_len flat_app raw_info news1 one_flat refof_any set_own mem_ofL rising_ofL Rising)

def wideC (c : C) : C := (c.1.tmod 2199023255552, c.2.1.tmod 2199023255552, c.2.2 % 2)
def wideL (L : List C) : List C := (L.take 30).map wideC
def wideS (L : List C) : List C := ofL (wideL L)
theorem wide_in {L : List C} {c : C} (h : c ∈ wideS L) : (-2199023255552 < c.1 ∧ c.1 < 2199023255552) ∧ (-2199023255552 < c.2.1 ∧ c.2.1 < 2199023255552) ∧ (c.2.2 = 0 ∨ c.2.2 = 1) := by
  have h := (mem_ofL _ _).1 h
  obtain ⟨d, _, rfl⟩ := List.mem_map.1 h
  unfold wideC
  have h1 := Ax.tmod_bd d.1 2199023255552 (by decide)
  have h2 := Ax.tmod_bd d.2.1 2199023255552 (by decide)
  exact ⟨h1, h2, by dsimp only; omega⟩
theorem wide_len (L : List C) : (wideS L).length ≤ 30 := by
  have h1 := Se.ofL_len (wideL L)
  have h2 : (wideL L).length ≤ 30 := by unfold wideL; rw [List.length_map, List.length_take]; omega
  unfold wideS
  omega
def WiR (w : World) (L : List C) (s i : Value) (wr : World) : Prop :=
  ∃ k : Nat, k ≤ L.length ∧ k ≤ 30 ∧ i = .int .i64 k ∧ wr.ownsRow w.heap.size 24 3 s k (flat ((L.take k).map wideC)) ∧ Below w.heap.size w wr
set_option maxRecDepth 100000 in
set_option maxHeartbeats 4000000 in
theorem wide_any (v : Value) (L : List C) (w : World) (h : RawAt w v L) (hL : L.length ≤ maxLen) :
    Calls Tryz.prog 8 #[v] w fun e w' => ∃ v', e = .returned v' ∧ SetAt w' v' (wideS L) ∧ Below w.heap.size w w' := by
  obtain ⟨i0, hi0, hz0, hz1, hz2⟩ := info_parts raw_info
  unfold maxLen at hL
  have HR := Lib.hid h
  have key : ∃ p cap, v = .slice p L.length cap := by
    rcases h with ⟨p, cap, rfl, rfl⟩ | ⟨g, o, cap, rfl, _, _⟩
    · exact ⟨p, cap, rfl⟩
    · exact ⟨_, _, rfl⟩
  obtain ⟨p, cap, rfl⟩ := key
  clear h
  have hown0 := World.ownsRow_made (base := w.heap.size) (e := 24) (size := 3) w #[] 0 (Nat.le_refl _) (Nat.zero_le _) (by simp)
  have HO := Lib.hid hown0
  clear hown0
  go_enter Tryz.func8, Tryz.ntmps8
  go_wp2_with fail
  go_loopw [3, 4] (fun s i wr => WiR w L s i wr) (fun _ i _ => 30 - (intOf i).toNat)
  case atStart => exact ⟨0, Nat.zero_le _, by omega, rfl, by simpa [flat] using HO.out, by go_grown⟩
  case round =>
    obtain ⟨k, hk, hk30, rfl, hown, hb⟩ := hrel
    have hz := hb.size
    have hfin : ∀ u, wr.ownsRow w.heap.size 24 3 u k (flat ((L.take k).map wideC)) → (L.take k).map wideC = wideL L → SetAt wr u (wideL L) ∧ (wideL L).length ≤ 1000 := fun u hu he => by
      have hlk : ((L.take k).map wideC).length = k := by rw [List.length_map, List.length_take]; omega
      rw [he] at hu hlk
      exact ⟨set_own (by rw [hlk]; exact hu), by omega⟩
    have HFin := Lib.hid hfin
    clear hfin
    by_cases hlt : k < L.length
    · by_cases hl30 : k < 30
      · obtain ⟨x, hx⟩ : ∃ x, L[k]? = some x := ⟨_, List.getElem?_eq_getElem hlt⟩
        have hraw := HR.out.below hb
        rcases hraw with ⟨_, _, _, hnil⟩ | ⟨g, o, cap', hv, hcs, hg⟩
        · subst hnil; simp at hlt
        · injection hv with hv1 hv2 hv3
          subst hv1 hv3
          clear hv2
          obtain ⟨f0, f1, f2⟩ := flat_get L k x hx
          have c0 := hcs _ _ f0
          have c1 := hcs _ _ f1
          have c2 := hcs _ _ f2
          rw [show o + (k * 3 + 1) = o + k * 3 + 1 by omega] at c1
          rw [show o + (k * 3 + 1 + 1) = o + k * 3 + 1 + 1 by omega] at c2
          have HT := Lib.hid (show (L.take (k + 1)).map wideC = (L.take k).map wideC ++ [wideC x] by rw [List.take_add_one, hx]; simp)
          obtain ⟨y, hyy⟩ : ∃ y, wideC x = y := ⟨_, rfl⟩
          have HY := Lib.hid hyy
          have e0 : x.1.tmod 2199023255552 = y.1 := by rw [← hyy]; rfl
          have e1 : x.2.1.tmod 2199023255552 = y.2.1 := by rw [← hyy]; rfl
          have e2 : bits .and .i64 x.2.2 1 = y.2.2 := by rw [← hyy, Ax.i64_and1]; rfl
          clear hcs f0 f1 f2 hx hyy
          have hown2 := (hown.alloc (.cells #[.int .i64 x.1, .int .i64 x.2.1, .int .i64 x.2.2] 24)).alloc (.cells #[.int .i64 y.1, .int .i64 y.2.1, .int .i64 y.2.2] 24)
          have hnew := news1 (wr.alloc (.cells #[.int .i64 x.1, .int .i64 x.2.1, .int .i64 x.2.2] 24)) 24 y
          have hba := (hb.alloc hz (.cells #[.int .i64 x.1, .int .i64 x.2.1, .int .i64 x.2.2] 24)).alloc (by simp; omega) (.cells #[.int .i64 y.1, .int .i64 y.2.1, .int .i64 y.2.2] 24)
          have hd1 : decide ((k : Int) < 30) = true := by simp; omega
          have hd2 : (k : Int) < 30 := by omega
          have hnew' : ∀ j u, (flat [y])[j]? = some u → ((wr.alloc (.cells #[.int .i64 x.1, .int .i64 x.2.1, .int .i64 x.2.2] 24)).alloc (.cells #[.int .i64 y.1, .int .i64 y.2.1, .int .i64 y.2.2] 24)).cell? ((⟨wr.heap.size + 1, 0, none⟩ : Addr).add j) = some u := fun j u hu => by
            have := hnew j u hu
            rwa [show (wr.alloc (.cells #[.int .i64 x.1, .int .i64 x.2.1, .int .i64 x.2.2] 24)).heap.size = wr.heap.size + 1 by simp] at this
          clear hnew
          go_wp2_with (at_builtin; refine wpList_append_own _ rfl _ _ 22 rfl w.heap.size 24 i0 _ 3 24 Tryz.underlying22 hi0 hz0 hz1 hz2 rfl (by decide) _ _ _ rfl hown2 ⟨wr.heap.size + 1, 0, none⟩ 1 1 (flat [y]) rfl (by simp [flat_len]) hnew' (one_flat _) (by unfold maxLen; omega) (by omega) (by simp; omega) ?_)
          intro v' w' hown' hgr _
          have HOw : Hid (w'.ownsRow w.heap.size 24 3 v' (k + 1) (flat ((L.take (k + 1)).map wideC))) := Lib.hid (by rw [HT.out, HY.out, flat_app, List.map_take]; exact hown')
          have HB' := Lib.hid (hba.grown hgr hba.size (fun q hq => (hown2.lt q hq).1))
          clear hown2 hnew' hba hown' hgr hown c0 c1 c2
          go_wp2_with fail
          exact ⟨⟨k + 1, by omega, by omega, by go_num, HOw.out, HB'.out⟩, by simp [intOf]; omega⟩
      · obtain rfl : k = 30 := by omega
        obtain ⟨hs, hl⟩ := HFin.out _ hown rfl
        have hof := fun (u : Value) (W : World) hW => refof_any u (wideL L) W hW hl
        have hd0 : decide (((30 : Nat) : Int) < (L.length : Int)) = true := by simp; omega
        go_wp2_with fail
        refine (hof _ _ hs).mono ?_
        rintro e w3 ⟨v3, rfl, hs3, hb3⟩
        have HB3 := Lib.hid (hb.trans (hb3.mono hz))
        have HS3 := Lib.hid hs3
        clear hs hs3 hof hb3
        go_wp2_with fail
        go_ret
        exact ⟨v3, rfl, HS3.out, HB3.out⟩
    · obtain rfl : k = L.length := by omega
      obtain ⟨hs, hl⟩ := HFin.out _ hown (by unfold wideL; rw [List.take_length, List.take_of_length_le (by omega)])
      have hof := fun (u : Value) (W : World) hW => refof_any u (wideL L) W hW hl
      go_wp2_with fail
      refine (hof _ _ hs).mono ?_
      rintro e w3 ⟨v3, rfl, hs3, hb3⟩
      have HB3 := Lib.hid (hb.trans (hb3.mono hz))
      have HS3 := Lib.hid hs3
      clear hs hs3 hof hb3
      go_wp2_with fail
      go_ret
      exact ⟨v3, rfl, HS3.out, HB3.out⟩
end Go.Proofs.YtahlinekbllkaaaGreatDoor.Tr
