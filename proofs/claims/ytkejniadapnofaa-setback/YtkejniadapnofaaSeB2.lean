/- set's Turn and Check, where nothing is wrong; the laws' Some of a list. -/
import Derived.Test.YtkejniadapnofaaSeB1
import Derived.Test.YtkejniadapnofaaCeS0
import Derived.Test.YtkejniadapnofaaCeLat
namespace Go.Proofs.Ytkejniadapnofaa.Se
open Go.RowKit Go.Proofs.Ytkejniadapnofaa.Ax Go.Proofs.Ytkejniadapnofaa.Ba Go.Shelf Go.Lib Go.Sort
open Go.Proofs.Ytkejniadapnofaa.Ce (onC onA onB onH halvesV con_yes latB lgood_any check_nil latV someH)

/-- Of a lattice, and of small coordinates. -/
def Fine (l : Int) (c : C) : Prop := (-274877906944 ≤ c.1 ∧ c.1 ≤ 274877906944) ∧ (-274877906944 ≤ c.2.1 ∧ c.2.1 ≤ 274877906944) ∧ 0 ≤ c.2.2 ∧ c.2.2 < halvesV l
theorem turn1_any (P R : Nat) (l o : Int) (c : C) (W : World) (hP : Blk W P 49 #[.int .i64 l]) (hR : Blk W R 52 #[.int .i64 o]) (hl : l = 1 ∨ l = 2 ∨ l = 3) (o0 : 0 ≤ o) (o1 : o < 12) (hc : Fine l c) :
    Calls Try.prog 40 #[Ce c, .pointer (some ⟨P, 0, none⟩), .pointer (some ⟨R, 0, none⟩)] W fun e w' => e = .returned (.tuple #[Ce (onC l o c), .nilIface]) ∧ Below W.heap.size W w' := by
  have p0 := hP.cell 0
  have q0 := hR.cell 0
  simp only [List.getElem?_toArray, List.getElem?_cons_zero] at p0 q0
  have hpl := hP.lt
  have hql := hR.lt
  have hon := fun w => con_yes l o c.1 c.2.1 c.2.2 w hl o0 o1 hc.2.2.1 hc.2.2.2 hc.1 hc.2.1
  obtain ⟨d, hd⟩ : ∃ d, onC l o c = d := ⟨_, rfl⟩
  have e1 : onA l o c.1 c.2.1 c.2.2 = d.1 := by rw [← hd]; rfl
  have e2 : onB l o c.1 c.2.1 c.2.2 = d.2.1 := by rw [← hd]; rfl
  have e3 : onH l o c.2.2 = d.2.2 := by rw [← hd]; rfl
  rw [e1, e2, e3] at hon
  rw [hd]
  clear hP hR hc hd e1 e2 e3
  go_enter Try.func40, Try.ntmps40
  go_wp2_with fail
  refine (hon _).mono ?_
  rintro e w1 ⟨rfl, hb⟩
  have k3 : Blk w1 (W.heap.size + 1) 37 #[.int .i64 0, .int .i64 0, .int .i64 0] := (Blk.newAt (W.alloc _) _ _ _ (by simp)).under hb
  have hb1 : Below W.heap.size W w1 := Ba.below_call hb (by go_grown) (by simp; omega)
  have hz := hb1.size
  have r0 := k3.cell 0
  have r1 := k3.cell 1
  have r2 := k3.cell 2
  have f0 := k3.frozen 0
  have f1 := k3.frozen 1
  have f2 := k3.frozen 2
  simp only [List.getElem?_toArray, List.getElem?_cons_zero, List.getElem?_cons_succ] at r0 r1 r2
  have hl3 := k3.lt
  clear hb hon
  go_wp2_with fail
  exact bodyPost_ret (v := .tuple #[Ce d, .nilIface]) (by simp [results, Try.results40, go_sem, *]) rfl ⟨rfl, by go_grown⟩
theorem turn_any (v : Value) (L : List C) (l o : Int) (w : World) (h : SetAt w v L) (hL : L.length ≤ 1000000) (hl : l = 1 ∨ l = 2 ∨ l = 3) (o0 : 0 ≤ o) (o1 : o < 12) (hc : ∀ c ∈ L, Fine l c) :
    Calls Try.prog 24 #[v, .int .i64 l, .int .i64 o] w fun e w' => ∃ v', e = .returned (.tuple #[v', .nilIface]) ∧ SetAt w' v' (ofL (L.map (onC l o))) ∧ Below w.heap.size w w' := by
  have hb0 : Below w.heap.size w ((w.alloc (.cells #[.int .i64 l] 49)).alloc (.cells #[.int .i64 o] 52)) := ((Below.refl _ _).alloc (Nat.le_refl _) _).alloc (by simp) _
  have kp := (Blk.newAt w 49 #[.int .i64 l] _ rfl).alloc (.cells #[.int .i64 o] 52)
  have kr := Blk.newAt (w.alloc (.cells #[.int .i64 l] 49)) 52 #[.int .i64 o] (w.heap.size + 1) (by simp)
  have hbr := bring_turn v L (onC l o) w.heap.size (w.heap.size + 1) _ (h.below hb0) hL (fun W hW c hcL => turn1_any _ _ l o c W (kp.under hW) (kr.under hW) hl o0 o1 (hc c hcL))
  go_enter Try.func24, Try.ntmps24
  go_wp2_with fail
  refine hbr.mono ?_
  rintro e w1 ⟨v1, rfl, hs, hb1⟩
  go_wp2_with fail
  exact bodyPost_ret (v := .tuple #[v1, .nilIface]) (by simp [results, Try.results24, go_sem]) rfl ⟨_, rfl, hs, hb0.trans (hb1.mono hb0.size)⟩
/-! Check. -/
def ChR (w : World) (L : List C) (i : Value) (wr : World) : Prop := ∃ k : Nat, k ≤ L.length ∧ i = .int .i64 k ∧ Below w.heap.size w wr
theorem keep33b {W w' : World} {g o B : Nat} {t : TypeId} {x : C} {a b h : Value} (hg : g < W.heap.size) (p0 : W.cell? ⟨g, o, none⟩ = some (.int .i64 x.1)) (p1 : W.cell? ⟨g, o + 1, none⟩ = some (.int .i64 x.2.1)) (p2 : W.cell? ⟨g, o + 1 + 1, none⟩ = some (.int .i64 x.2.2)) (k : Blk W B t #[a, b, h]) (hb : Below W.heap.size W w') :
    w'.cell? ⟨g, o, none⟩ = some (.int .i64 x.1) ∧ w'.cell? ⟨g, o + 1, none⟩ = some (.int .i64 x.2.1) ∧ w'.cell? ⟨g, o + 1 + 1, none⟩ = some (.int .i64 x.2.2) ∧ w'.cell? ⟨B, 0, none⟩ = some a ∧ w'.cell? ⟨B, 1, none⟩ = some b ∧ w'.cell? ⟨B, 2, none⟩ = some h := keep6 hg p0 p1 p2 k hb
set_option maxRecDepth 100000 in
set_option maxHeartbeats 4000000 in
theorem check_set (v : Value) (L : List C) (l : Int) (w : World) (h : SetAt w v L) (hR : Rising L) (hL : L.length ≤ 1000000) (hl : l = 1 ∨ l = 2 ∨ l = 3) (hc : ∀ c ∈ L, Fine l c) :
    Calls Try.prog 26 #[v, .int .i64 l] w fun e w' => e = .returned .nilIface ∧ Below w.heap.size w w' := by
  have hlat : latB l = true := by rcases hl with rfl | rfl | rfl <;> decide
  have HU := Lib.hid h
  have key : ∀ v, SetAt w v L → ∃ p cap, v = .slice p L.length cap := by
    rintro v (⟨rfl, rfl⟩ | ⟨g, cap, rfl, _, _⟩)
    · exact ⟨none, 0, rfl⟩
    · exact ⟨_, _, rfl⟩
  obtain ⟨p, cap, rfl⟩ := key v h
  clear h key
  have hlg := lgood_any l
  rw [hlat] at hlg
  go_enter Try.func26, Try.ntmps26
  go_wp2_with (go_at_call 45; refine (hlg _).mono ?_; rintro e w' ⟨rfl, rfl⟩)
  go_loopw [14] (fun i wr => ChR w L i wr) (fun i _ => L.length - (intOf i).toNat)
  case atStart => exact ⟨0, Nat.zero_le _, rfl, Below.refl _ _⟩
  case round =>
    obtain ⟨k, hk, rfl, hb⟩ := hrel
    have hz := hb.size
    by_cases hlt : k < L.length
    · obtain ⟨x, hx⟩ : ∃ x, L[k]? = some x := ⟨_, List.getElem?_eq_getElem hlt⟩
      rcases HU.out.below hb with ⟨_, hnil⟩ | ⟨g, cp, hv, _, hr⟩
      · subst hnil; simp at hlt
      · injection hv with hv1 hv2 hv3
        subst hv1 hv3
        clear hv2
        obtain ⟨c0, c1, c2⟩ := hr.1 k x hx
        have hgl := hr.2
        obtain ⟨g1, g2, g3, g4⟩ := hc x (List.mem_of_getElem? hx)
        have hck := fun W => check_nil l x.1 x.2.1 x.2.2 W hlat g3 g4 (goodB_iff.2 (by omega))
        have hb2 := hb.alloc hz (.cells #[.int .i64 x.1, .int .i64 x.2.1, .int .i64 x.2.2] 37)
        have kx := Blk.newAt wr 37 #[.int .i64 x.1, .int .i64 x.2.1, .int .i64 x.2.2] _ rfl
        clear g1 g2 g3 g4
        go_wp2_with fail
        refine (hck _).mono ?_
        rintro e w3 ⟨rfl, hb3⟩
        have kx3 := kx.under hb3
        have hr3 := (hr.below ((Below.refl _ _).alloc (Nat.le_refl _) (.cells #[.int .i64 x.1, .int .i64 x.2.1, .int .i64 x.2.2] 37))).below hb3
        have hb4 := hb2.trans (hb3.mono hb2.size)
        have hz4 := hb4.size
        clear hck c0 c1 c2 hgl hb2 hb3 kx hr
        rcases Nat.eq_zero_or_pos k with hk0 | hk0
        · subst hk0
          clear hx hr3 kx3
          rw [show ((0 : Nat) : Int) = 0 from rfl]
          go_wp2_with fail
          go_quiet (fail)
          go_wp2_with fail
          go_roundw
          case rel => exact ⟨1, by omega, rfl, Ba.below_dr _ hb4⟩
          case measure => simp [intOf]; omega
        · obtain ⟨m, rfl⟩ : ∃ m, k = m + 1 := ⟨k - 1, by omega⟩
          obtain ⟨y, hy⟩ : ∃ y, L[m]? = some y := ⟨_, List.getElem?_eq_getElem (by omega)⟩
          obtain ⟨d0, d1, d2⟩ := hr3.1 m y hy
          have hgl := hr3.2
          have hlt' : lt y x = true := by
            obtain ⟨_, rfl⟩ := List.getElem?_eq_some_iff.1 hx
            obtain ⟨_, rfl⟩ := List.getElem?_eq_some_iff.1 hy
            exact List.pairwise_iff_getElem.1 hR _ _ _ _ (by omega)
          have hcm := compare_below y x
          rw [show cf y x = -1 by unfold cf; rw [hlt']; rfl] at hcm
          clear hx hy hr3 hlt'
          have hki1 : (0 : Int) ≤ (m : Int) := by omega
          have hki2 : (m : Int) < (L.length : Int) := by omega
          have hki3 : IntKind.i64.wrap (((m : Int) + 1) - 1) = (m : Int) := by rw [IntKind.wrap_i64]; omega
          have hki4 : (0 : Int) < (m : Int) + 1 := by omega
          have hki5 : wrap64 ((m : Int) + 1 - 1) = (m : Int) := by unfold wrap64; omega
          have hki6 : (m : Int) + 1 - 1 = (m : Int) := by omega
          have hki7 : wrap64 (m : Int) = (m : Int) := by unfold wrap64; omega
          have hki8 : IntKind.i64.wrap (m : Int) = (m : Int) := by rw [IntKind.wrap_i64]; omega
          rw [show ((m + 1 : Nat) : Int) = (m : Int) + 1 from rfl]
          have hkl := kx3.lt
          go_upto_region 9 with fail
          go_cut [38] (fun v wx => v = .bool false ∧ Below w3.heap.size w3 wx)
          case first =>
            obtain ⟨e0, e1, e2⟩ := keepB kx3 (Below.refl _ _)
            have hkb : Below w3.heap.size w3 w3 := Below.refl _ _
            go_region_held3 (fun w' => w'.cell? ⟨g, m * 3, none⟩ = some (.int .i64 y.1) ∧ w'.cell? ⟨g, m * 3 + 1, none⟩ = some (.int .i64 y.2.1) ∧ w'.cell? ⟨g, m * 3 + 1 + 1, none⟩ = some (.int .i64 y.2.2) ∧ w'.cell? ⟨wr.heap.size, 0, none⟩ = some (.int .i64 x.1) ∧ w'.cell? ⟨wr.heap.size, 1, none⟩ = some (.int .i64 x.2.1) ∧ w'.cell? ⟨wr.heap.size, 2, none⟩ = some (.int .i64 x.2.2)) (first | (refine keep6 hgl d0 d1 d2 kx3 ?_; go_grown; done))
              (first | (go_at_call 29; refine (hcm _).mono ?_; rintro e w6 ⟨rfl, hb'⟩; have hkb : Below w3.heap.size w3 w6 := Ba.below_call hb' (by go_grown) (by simp); clear hb'))
            all_goals go_wp2_with fail
            all_goals go_meet
            all_goals exact ⟨rfl, by go_grown⟩
          case rest =>
            obtain ⟨rfl, hbw⟩ := hcut
            clear d0 d1 d2 hcm
            go_wp2_with fail
            go_roundw
            case rel => exact ⟨m + 1 + 1, by omega, by go_num, hb4.trans (hbw.mono hz4)⟩
            case measure => simp [intOf]; omega
    · obtain rfl : k = L.length := by omega
      go_wp2_with fail
      go_ret
      exact ⟨rfl, hb⟩
end Go.Proofs.Ytkejniadapnofaa.Se
