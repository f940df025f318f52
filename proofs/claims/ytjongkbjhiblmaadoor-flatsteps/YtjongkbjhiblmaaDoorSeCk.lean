/- set's Check, where nothing is wrong (as in SetB2, over fewer texts). -/
import Derived.Test.YtjongkbjhiblmaaDoorSeW4
import Derived.Test.YtjongkbjhiblmaaDoorCeW1
import Derived.Deep.RegionHeld3
namespace Go.Proofs.YtjongkbjhiblmaaDoor.Se
open Go.RowKit Go.Proofs.YtjongkbjhiblmaaDoor.Ax Go.Proofs.YtjongkbjhiblmaaDoor.Ba Go.Shelf Go.Lib Go.Sort
open Go.Proofs.YtjongkbjhiblmaaDoor.Ce (halvesV latB lgood_any check_nil)

/-- Of a lattice, and of small coordinates. -/
def Fine (l : Int) (c : C) : Prop := (-274877906944 ≤ c.1 ∧ c.1 ≤ 274877906944) ∧ (-274877906944 ≤ c.2.1 ∧ c.2.1 ≤ 274877906944) ∧ 0 ≤ c.2.2 ∧ c.2.2 < halvesV l
/-! Check. -/
theorem keep6 {W w' : World} {g o B : Nat} {t : TypeId} {y : C} {a b h : Value} (hg : g < W.heap.size) (p0 : W.cell? ⟨g, o, none⟩ = some (.int .i64 y.1)) (p1 : W.cell? ⟨g, o + 1, none⟩ = some (.int .i64 y.2.1)) (p2 : W.cell? ⟨g, o + 1 + 1, none⟩ = some (.int .i64 y.2.2)) (k : Blk W B t #[a, b, h]) (hb : Below W.heap.size W w') :
    w'.cell? ⟨g, o, none⟩ = some (.int .i64 y.1) ∧ w'.cell? ⟨g, o + 1, none⟩ = some (.int .i64 y.2.1) ∧ w'.cell? ⟨g, o + 1 + 1, none⟩ = some (.int .i64 y.2.2) ∧ w'.cell? ⟨B, 0, none⟩ = some a ∧ w'.cell? ⟨B, 1, none⟩ = some b ∧ w'.cell? ⟨B, 2, none⟩ = some h :=
  ⟨(hb.cell (p := ⟨g, o, none⟩) hg).trans p0, (hb.cell (p := ⟨g, o + 1, none⟩) hg).trans p1, (hb.cell (p := ⟨g, o + 1 + 1, none⟩) hg).trans p2, (keepB k hb).1, (keepB k hb).2.1, (keepB k hb).2.2⟩
def ChR (w : World) (L : List C) (i : Value) (wr : World) : Prop := ∃ k : Nat, k ≤ L.length ∧ i = .int .i64 k ∧ Below w.heap.size w wr
theorem keep33b {W w' : World} {g o B : Nat} {t : TypeId} {x : C} {a b h : Value} (hg : g < W.heap.size) (p0 : W.cell? ⟨g, o, none⟩ = some (.int .i64 x.1)) (p1 : W.cell? ⟨g, o + 1, none⟩ = some (.int .i64 x.2.1)) (p2 : W.cell? ⟨g, o + 1 + 1, none⟩ = some (.int .i64 x.2.2)) (k : Blk W B t #[a, b, h]) (hb : Below W.heap.size W w') :
    w'.cell? ⟨g, o, none⟩ = some (.int .i64 x.1) ∧ w'.cell? ⟨g, o + 1, none⟩ = some (.int .i64 x.2.1) ∧ w'.cell? ⟨g, o + 1 + 1, none⟩ = some (.int .i64 x.2.2) ∧ w'.cell? ⟨B, 0, none⟩ = some a ∧ w'.cell? ⟨B, 1, none⟩ = some b ∧ w'.cell? ⟨B, 2, none⟩ = some h := keep6 hg p0 p1 p2 k hb
set_option maxRecDepth 100000 in
set_option maxHeartbeats 4000000 in
theorem check_set (v : Value) (L : List C) (l : Int) (w : World) (h : SetAt w v L) (hR : Rising L) (hL : L.length ≤ 1000000) (hl : l = 1 ∨ l = 2 ∨ l = 3) (hc : ∀ c ∈ L, Fine l c) :
    Calls Tryd.prog 35 #[v, .int .i64 l] w fun e w' => e = .returned .nilIface ∧ Below w.heap.size w w' := by
  have hlat : latB l = true := by rcases hl with rfl | rfl | rfl <;> decide
  have HU := Lib.hid h
  have key : ∀ v, SetAt w v L → ∃ p cap, v = .slice p L.length cap := by
    rintro v (⟨rfl, rfl⟩ | ⟨g, cap, rfl, _, _⟩)
    · exact ⟨none, 0, rfl⟩
    · exact ⟨_, _, rfl⟩
  obtain ⟨p, cap, rfl⟩ := key v h
  clear h key
  have hlg := lgood_any l
  rw [hlat] at hlg
  go_enter Tryd.func35, Tryd.ntmps35
  go_wp2_with (go_at_call 48; refine (hlg _).mono ?_; rintro e w' ⟨rfl, rfl⟩)
  go_loopw [14] (fun i wr => ChR w L i wr) (fun i _ => L.length - (intOf i).toNat)
  case atStart => exact ⟨0, Nat.zero_le _, rfl, Below.refl _ _⟩
  case round =>
    obtain ⟨k, hk, rfl, hb⟩ := hrel
    have hz := hb.size
    by_cases hlt : k < L.length
    · obtain ⟨x, hx⟩ : ∃ x, L[k]? = some x := ⟨_, List.getElem?_eq_getElem hlt⟩
      rcases HU.out.below hb with ⟨_, hnil⟩ | ⟨g, cp, hv, _, hr⟩
      · subst hnil; simp at hlt
      · injection hv with hv1 hv2 hv3
        subst hv1 hv3
        clear hv2
        obtain ⟨c0, c1, c2⟩ := hr.1 k x hx
        have hgl := hr.2
        obtain ⟨g1, g2, g3, g4⟩ := hc x (List.mem_of_getElem? hx)
        have hck := fun W => check_nil l x.1 x.2.1 x.2.2 W hlat g3 g4 (goodB_iff.2 (by omega))
        have hb2 := hb.alloc hz (.cells #[.int .i64 x.1, .int .i64 x.2.1, .int .i64 x.2.2] 56)
        have kx := Blk.newAt wr 56 #[.int .i64 x.1, .int .i64 x.2.1, .int .i64 x.2.2] _ rfl
        clear g1 g2 g3 g4
        go_wp2_with fail
        refine (hck _).mono ?_
        rintro e w3 ⟨rfl, hb3⟩
        have kx3 := kx.under hb3
        have hr3 := (hr.below ((Below.refl _ _).alloc (Nat.le_refl _) (.cells #[.int .i64 x.1, .int .i64 x.2.1, .int .i64 x.2.2] 56))).below hb3
        have hb4 := hb2.trans (hb3.mono hb2.size)
        have hz4 := hb4.size
        clear hck c0 c1 c2 hgl hb2 hb3 kx hr
        rcases Nat.eq_zero_or_pos k with hk0 | hk0
        · subst hk0
          clear hx hr3 kx3
          rw [show ((0 : Nat) : Int) = 0 from rfl]
          go_wp2_with fail
          go_quiet (fail)
          go_wp2_with fail
          go_roundw
          case rel => exact ⟨1, by omega, rfl, Ba.below_dr _ hb4⟩
          case measure => simp [intOf]; omega
        · obtain ⟨m, rfl⟩ : ∃ m, k = m + 1 := ⟨k - 1, by omega⟩
          obtain ⟨y, hy⟩ : ∃ y, L[m]? = some y := ⟨_, List.getElem?_eq_getElem (by omega)⟩
          obtain ⟨d0, d1, d2⟩ := hr3.1 m y hy
          have hgl := hr3.2
          have hlt' : lt y x = true := by
            obtain ⟨_, rfl⟩ := List.getElem?_eq_some_iff.1 hx
            obtain ⟨_, rfl⟩ := List.getElem?_eq_some_iff.1 hy
            exact List.pairwise_iff_getElem.1 hR _ _ _ _ (by omega)
          have hcm := compare_below y x
          rw [show cf y x = -1 by unfold cf; rw [hlt']; rfl] at hcm
          clear hx hy hr3 hlt'
          have hki1 : (0 : Int) ≤ (m : Int) := by omega
          have hki2 : (m : Int) < (L.length : Int) := by omega
          have hki3 : IntKind.i64.wrap (((m : Int) + 1) - 1) = (m : Int) := by rw [IntKind.wrap_i64]; omega
          have hki4 : (0 : Int) < (m : Int) + 1 := by omega
          have hki5 : wrap64 ((m : Int) + 1 - 1) = (m : Int) := by unfold wrap64; omega
          have hki6 : (m : Int) + 1 - 1 = (m : Int) := by omega
          have hki7 : wrap64 (m : Int) = (m : Int) := by unfold wrap64; omega
          have hki8 : IntKind.i64.wrap (m : Int) = (m : Int) := by rw [IntKind.wrap_i64]; omega
          rw [show ((m + 1 : Nat) : Int) = (m : Int) + 1 from rfl]
          have hkl := kx3.lt
          go_upto_region 9 with fail
          go_cut [38] (fun v wx => v = .bool false ∧ Below w3.heap.size w3 wx)
          case first =>
            obtain ⟨e0, e1, e2⟩ := keepB kx3 (Below.refl _ _)
            have hkb : Below w3.heap.size w3 w3 := Below.refl _ _
            go_region_held3 (fun w' => w'.cell? ⟨g, m * 3, none⟩ = some (.int .i64 y.1) ∧ w'.cell? ⟨g, m * 3 + 1, none⟩ = some (.int .i64 y.2.1) ∧ w'.cell? ⟨g, m * 3 + 1 + 1, none⟩ = some (.int .i64 y.2.2) ∧ w'.cell? ⟨wr.heap.size, 0, none⟩ = some (.int .i64 x.1) ∧ w'.cell? ⟨wr.heap.size, 1, none⟩ = some (.int .i64 x.2.1) ∧ w'.cell? ⟨wr.heap.size, 2, none⟩ = some (.int .i64 x.2.2)) (first | (refine keep6 hgl d0 d1 d2 kx3 ?_; go_grown; done))
              (first | (go_at_call 31; refine (hcm _).mono ?_; rintro e w6 ⟨rfl, hb'⟩; have hkb : Below w3.heap.size w3 w6 := Ba.below_call hb' (by go_grown) (by simp); clear hb'))
            all_goals go_wp2_with fail
            all_goals go_meet
            all_goals exact ⟨rfl, by go_grown⟩
          case rest =>
            obtain ⟨rfl, hbw⟩ := hcut
            clear d0 d1 d2 hcm
            go_wp2_with fail
            go_roundw
            case rel => exact ⟨m + 1 + 1, by omega, by go_num, hb4.trans (hbw.mono hz4)⟩
            case measure => simp [intOf]; omega
    · obtain rfl : k = L.length := by omega
      go_wp2_with fail
      go_ret
      exact ⟨rfl, hb⟩
end Go.Proofs.YtjongkbjhiblmaaDoor.Se
