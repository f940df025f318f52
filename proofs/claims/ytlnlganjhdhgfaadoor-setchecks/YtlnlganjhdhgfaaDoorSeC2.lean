/- The check of a list: the document's, and set's. -/
import Derived.Test.YtlnlganjhdhgfaaDoorSeC1
import Derived.Test.YtlnlganjhdhgfaaDoorSeW4
import Derived.Test.YtlnlganjhdhgfaaDoorSeR1
namespace Go.Proofs.YtlnlganjhdhgfaaDoor.Se
open Go.RowKit Go.Proofs.YtlnlganjhdhgfaaDoor.Ax Go.Proofs.YtlnlganjhdhgfaaDoor.Ba Go.Lib
open Go.Proofs.YtlnlganjhdhgfaaDoor.Ck (latB chkV errOf check_v refcheck_any lgood_any)

theorem keep6 {W w' : World} {g o B : Nat} {t : TypeId} {y : C} {a b h : Value} (hg : g < W.heap.size) (p0 : W.cell? ⟨g, o, none⟩ = some (.int .i64 y.1)) (p1 : W.cell? ⟨g, o + 1, none⟩ = some (.int .i64 y.2.1)) (p2 : W.cell? ⟨g, o + 1 + 1, none⟩ = some (.int .i64 y.2.2)) (k : Blk W B t #[a, b, h]) (hb : Below W.heap.size W w') :
    w'.cell? ⟨g, o, none⟩ = some (.int .i64 y.1) ∧ w'.cell? ⟨g, o + 1, none⟩ = some (.int .i64 y.2.1) ∧ w'.cell? ⟨g, o + 1 + 1, none⟩ = some (.int .i64 y.2.2) ∧ w'.cell? ⟨B, 0, none⟩ = some a ∧ w'.cell? ⟨B, 1, none⟩ = some b ∧ w'.cell? ⟨B, 2, none⟩ = some h :=
  ⟨(hb.cell (p := ⟨g, o, none⟩) hg).trans p0, (hb.cell (p := ⟨g, o + 1, none⟩) hg).trans p1, (hb.cell (p := ⟨g, o + 1 + 1, none⟩) hg).trans p2, (keepB k hb).1, (keepB k hb).2.1, (keepB k hb).2.2⟩
def CkR (w : World) (l : Int) (L : List C) (i : Value) (wr : World) : Prop := ∃ k : Nat, k ≤ L.length ∧ i = .int .i64 k ∧ ckN (stC l L) k = none ∧ Below w.heap.size w wr
set_option maxRecDepth 100000 in
set_option maxHeartbeats 1000000 in
theorem refcheck4_any (l : Int) (v : Value) (L : List C) (w : World) (h : SetAt w v L) (hL : L.length ≤ 1000000) :
    Calls Tryd.prog 7 #[.int .i64 l, v] w fun e w' => e = .returned (.tuple #[.int .i64 (outI l L).1, .int .i64 (outI l L).2]) ∧ Below w.heap.size w w' := by
  have HU := Lib.hid h
  obtain ⟨p, cap, rfl⟩ : ∃ p cap, v = .slice p L.length cap := by
    rcases h with ⟨h1, h2⟩ | ⟨g, cap, h1, _, _⟩
    · exact ⟨none, 0, by rw [h1, h2]; rfl⟩
    · exact ⟨_, _, h1⟩
  clear h
  by_cases l1 : l < 1
  · rw [out_lat (show latB l = false by unfold latB; simp; omega)]
    clear HU
    go_enter Tryd.func7, Tryd.ntmps7
    go_wp2
    exact bodyPost_ret (v := .tuple #[.int .i64 11, .int .i64 (-1)]) (by simp [results, Tryd.results7, go_sem]) rfl ⟨rfl, Below.refl _ _⟩
  · by_cases l2 : 3 < l
    · rw [out_lat (show latB l = false by unfold latB; simp; omega)]
      clear HU
      go_enter Tryd.func7, Tryd.ntmps7
      go_wp2
      exact bodyPost_ret (v := .tuple #[.int .i64 11, .int .i64 (-1)]) (by simp [results, Tryd.results7, go_sem]) rfl ⟨rfl, Below.refl _ _⟩
    · have hlat : latB l = true := by unfold latB; simp; omega
      have d1 : decide (l < 1) = false := by simpa using l1
      have d2 : decide (3 < l) = false := by simpa using l2
      have HLT := Lib.hid hlat
      obtain ⟨O, hO⟩ : ∃ O, outI l L = O := ⟨_, rfl⟩
      rw [hO]
      have HO := Lib.hid hO
      clear hO hlat l1 l2
      go_enter Tryd.func7, Tryd.ntmps7
      go_wp2_with fail
      go_loopw [17] (fun i wr => CkR w l L i wr) (fun i _ => L.length - (intOf i).toNat)
      case atStart => exact ⟨0, Nat.zero_le _, rfl, rfl, Below.refl _ _⟩
      case round =>
        obtain ⟨k, hk, rfl, hn, hb⟩ := hrel
        have HN := Lib.hid hn
        clear hn
        have hz := hb.size
        by_cases hlt : k < L.length
        · obtain ⟨x, hx⟩ : ∃ x, L[k]? = some x := ⟨_, List.getElem?_eq_getElem hlt⟩
          have HX := Lib.hid hx
          rcases HU.out.below hb with ⟨_, hnil⟩ | ⟨g, cp, hv, _, hr⟩
          · subst hnil; simp at hlt
          · injection hv with hv1 hv2 hv3
            subst hv1 hv3
            clear hv2
            obtain ⟨c0, c1, c2⟩ := hr.1 k x hx
            have hgl := hr.2
            have hck := fun W => refcheck_any l x.1 x.2.1 x.2.2 W
            obtain ⟨q, hq⟩ : ∃ q, chkV l x.1 x.2.1 x.2.2 = q := ⟨_, rfl⟩
            rw [hq] at hck
            have HQ := Lib.hid hq
            have hb2 := hb.alloc hz (.cells #[.int .i64 x.1, .int .i64 x.2.1, .int .i64 x.2.2] 43)
            have kx := Blk.newAt wr 43 #[.int .i64 x.1, .int .i64 x.2.1, .int .i64 x.2.2] _ rfl
            clear hq hx
            go_wp2_with fail
            refine (hck _).mono ?_
            rintro e w3 ⟨rfl, hb3⟩
            have kx3 := kx.under hb3
            have hr3 := (hr.below ((Below.refl _ _).alloc (Nat.le_refl _) (.cells #[.int .i64 x.1, .int .i64 x.2.1, .int .i64 x.2.2] 43))).below hb3
            have hb4 := hb2.trans (hb3.mono hb2.size)
            have hz4 := hb4.size
            clear hck c0 c1 c2 hgl hb2 hb3 kx hr
            by_cases hq0 : q = 0
            · subst hq0
              rcases Nat.eq_zero_or_pos k with hk0 | hk0
              · subst hk0
                have H1 := Lib.hid (ckN_next HN.out (stC_first HX.out HQ.out))
                clear hr3 kx3
                rw [show ((0 : Nat) : Int) = 0 from rfl]
                go_wp2_with fail
                go_quiet (fail)
                go_wp2_with fail
                go_roundw
                case rel => exact ⟨1, by omega, rfl, H1.out, Ba.below_dr _ hb4⟩
                case measure => simp [intOf]; omega
              · obtain ⟨m, rfl⟩ : ∃ m, k = m + 1 := ⟨k - 1, by omega⟩
                obtain ⟨y, hy⟩ : ∃ y, L[m]? = some y := ⟨_, List.getElem?_eq_getElem (by omega)⟩
                obtain ⟨d0, d1', d2'⟩ := hr3.1 m y hy
                have hgl := hr3.2
                have hcm := ahead_any y x
                have hS := stC_pair (l := l) HX.out hy HQ.out
                have HS := Lib.hid hS
                obtain ⟨t, ht⟩ : ∃ t, lt y x = t := ⟨_, rfl⟩
                rw [ht] at hcm HS
                clear hy hS ht
                have hki1 : (0 : Int) ≤ (m : Int) := by omega
                have hki2 : (m : Int) < (L.length : Int) := by omega
                have hki3 : IntKind.i64.wrap (((m : Int) + 1) - 1) = (m : Int) := by rw [IntKind.wrap_i64]; omega
                have hki4 : (0 : Int) < (m : Int) + 1 := by omega
                have hki5 : wrap64 ((m : Int) + 1 - 1) = (m : Int) := by unfold wrap64; omega
                have hki6 : (m : Int) + 1 - 1 = (m : Int) := by omega
                have hki7 : wrap64 (m : Int) = (m : Int) := by unfold wrap64; omega
                have hki8 : IntKind.i64.wrap (m : Int) = (m : Int) := by rw [IntKind.wrap_i64]; omega
                rw [show ((m + 1 : Nat) : Int) = (m : Int) + 1 from rfl]
                have hkl := kx3.lt
                go_upto_region 9 with fail
                go_cut [40] (fun v wx => v = .bool (!t) ∧ Below w3.heap.size w3 wx)
                case first =>
                  obtain ⟨e0, e1, e2⟩ := keepB kx3 (Below.refl _ _)
                  have hkb : Below w3.heap.size w3 w3 := Below.refl _ _
                  go_region_held3 (fun w' => w'.cell? ⟨g, m * 3, none⟩ = some (.int .i64 y.1) ∧ w'.cell? ⟨g, m * 3 + 1, none⟩ = some (.int .i64 y.2.1) ∧ w'.cell? ⟨g, m * 3 + 1 + 1, none⟩ = some (.int .i64 y.2.2) ∧ w'.cell? ⟨wr.heap.size, 0, none⟩ = some (.int .i64 x.1) ∧ w'.cell? ⟨wr.heap.size, 1, none⟩ = some (.int .i64 x.2.1) ∧ w'.cell? ⟨wr.heap.size, 2, none⟩ = some (.int .i64 x.2.2)) (first | (refine keep6 hgl d0 d1' d2' kx3 ?_; go_grown; done))
                    (first | (go_at_call 19; refine (hcm _).mono ?_; rintro e w6 ⟨rfl, hb'⟩; have hkb : Below w3.heap.size w3 w6 := Ba.below_call hb' (by go_grown) (by simp); clear hb'))
                  all_goals go_wp2_with fail
                  all_goals go_meet
                  all_goals exact ⟨rfl, by go_grown⟩
                case rest =>
                  obtain ⟨rfl, hbw⟩ := hcut
                  clear d0 d1' d2' hcm
                  have hb5 := hb4.trans (hbw.mono hz4)
                  cases t
                  · have h1 : stC l L (m + 1) = 1 := by rw [HS.out]; rfl
                    have hout := out_some HLT.out HN.out (by rw [h1]; decide) hlt
                    rw [HO.out, h1] at hout
                    subst hout
                    clear HO hr3 kx3
                    go_wp2_with fail
                    exact bodyPost_ret (v := .tuple #[.int .i64 1, .int .i64 ((m : Int) + 1)]) (by simp [results, Tryd.results7, go_sem]) rfl ⟨rfl, hb5⟩
                  · have H1 := Lib.hid (ckN_next HN.out (show stC l L (m + 1) = 0 by rw [HS.out]; rfl))
                    clear hr3 kx3
                    go_wp2_with fail
                    go_roundw
                    case rel => exact ⟨m + 1 + 1, by omega, by go_num, H1.out, hb5⟩
                    case measure => simp [intOf]; omega
            · have hne : ((q : Int) != 0) = true := by simpa using hq0
              have hout := out_some HLT.out HN.out (by rw [stC_chk HX.out (by rw [HQ.out]; exact hq0), HQ.out]; exact hq0) hlt
              rw [HO.out, stC_chk HX.out (by rw [HQ.out]; exact hq0), HQ.out] at hout
              subst hout
              clear HO hr3 kx3
              go_wp2_with fail
              exact bodyPost_ret (v := .tuple #[.int .i64 q, .int .i64 k]) (by simp [results, Tryd.results7, go_sem]) rfl ⟨rfl, hb4⟩
        · obtain rfl : k = L.length := by omega
          have hout := out_none HLT.out HN.out
          rw [HO.out] at hout
          subst hout
          clear HO
          go_wp2_with fail
          exact bodyPost_ret (v := .tuple #[.int .i64 0, .int .i64 (-1)]) (by simp [results, Tryd.results7, go_sem]) rfl ⟨rfl, hb⟩
set_option maxRecDepth 100000 in
set_option maxHeartbeats 1000000 in
theorem check4_any (l : Int) (v : Value) (L : List C) (w : World) (h : SetAt w v L) (hL : L.length ≤ 1000000) :
    Calls Tryd.prog 10 #[v, .int .i64 l] w fun e w' => ∃ u, e = .returned u ∧ ErrAs w' u (outI l L) ∧ Below w.heap.size w w' := by
  have HU := Lib.hid h
  obtain ⟨p, cap, rfl⟩ : ∃ p cap, v = .slice p L.length cap := by
    rcases h with ⟨h1, h2⟩ | ⟨g, cap, h1, _, _⟩
    · exact ⟨none, 0, by rw [h1, h2]; rfl⟩
    · exact ⟨_, _, h1⟩
  clear h
  have hlg := lgood_any l
  cases hlat : latB l
  · rw [hlat] at hlg
    rw [out_lat hlat]
    clear HU hlat
    go_enter Tryd.func10, Tryd.ntmps10
    go_wp2_with (go_at_call 23; refine (hlg _).mono ?_; rintro e w' ⟨rfl, rfl⟩)
    go_ret
    exact ⟨_, rfl, .inr (.inl ⟨11, rfl, rfl⟩), Below.refl _ _⟩
  · rw [hlat] at hlg
    have HLT := Lib.hid hlat
    obtain ⟨O, hO⟩ : ∃ O, outI l L = O := ⟨_, rfl⟩
    rw [hO]
    have HO := Lib.hid hO
    clear hO hlat
    go_enter Tryd.func10, Tryd.ntmps10
    go_wp2_with (go_at_call 23; refine (hlg _).mono ?_; rintro e w' ⟨rfl, rfl⟩)
    clear hlg
    go_loopw [14] (fun i wr => CkR w l L i wr) (fun i _ => L.length - (intOf i).toNat)
    case atStart => exact ⟨0, Nat.zero_le _, rfl, rfl, Below.refl _ _⟩
    case round =>
        obtain ⟨k, hk, rfl, hn, hb⟩ := hrel
        have HN := Lib.hid hn
        clear hn
        have hz := hb.size
        by_cases hlt : k < L.length
        · obtain ⟨x, hx⟩ : ∃ x, L[k]? = some x := ⟨_, List.getElem?_eq_getElem hlt⟩
          have HX := Lib.hid hx
          rcases HU.out.below hb with ⟨_, hnil⟩ | ⟨g, cp, hv, _, hr⟩
          · subst hnil; simp at hlt
          · injection hv with hv1 hv2 hv3
            subst hv1 hv3
            clear hv2
            obtain ⟨c0, c1, c2⟩ := hr.1 k x hx
            have hgl := hr.2
            have hck := fun W => check_v l x.1 x.2.1 x.2.2 W
            obtain ⟨q, hq⟩ : ∃ q, chkV l x.1 x.2.1 x.2.2 = q := ⟨_, rfl⟩
            rw [hq] at hck
            have HQ := Lib.hid hq
            have hb2 := hb.alloc hz (.cells #[.int .i64 x.1, .int .i64 x.2.1, .int .i64 x.2.2] 40)
            have kx := Blk.newAt wr 40 #[.int .i64 x.1, .int .i64 x.2.1, .int .i64 x.2.2] _ rfl
            clear hq hx
            by_cases hq0 : q = 0
            · subst hq0
              rw [show errOf 0 = .nilIface from rfl] at hck
              go_wp2_with fail
              refine (hck _).mono ?_
              rintro e w3 ⟨rfl, hb3⟩
              have kx3 := kx.under hb3
              have hr3 := (hr.below ((Below.refl _ _).alloc (Nat.le_refl _) (.cells #[.int .i64 x.1, .int .i64 x.2.1, .int .i64 x.2.2] 40))).below hb3
              have hb4 := hb2.trans (hb3.mono hb2.size)
              have hz4 := hb4.size
              clear hck c0 c1 c2 hgl hb2 hb3 kx hr
              rcases Nat.eq_zero_or_pos k with hk0 | hk0
              · subst hk0
                have H1 := Lib.hid (ckN_next HN.out (stC_first HX.out HQ.out))
                clear hr3 kx3
                rw [show ((0 : Nat) : Int) = 0 from rfl]
                go_wp2_with fail
                go_quiet (fail)
                go_wp2_with fail
                go_roundw
                case rel => exact ⟨1, by omega, rfl, H1.out, Ba.below_dr _ hb4⟩
                case measure => simp [intOf]; omega
              · obtain ⟨m, rfl⟩ : ∃ m, k = m + 1 := ⟨k - 1, by omega⟩
                obtain ⟨y, hy⟩ : ∃ y, L[m]? = some y := ⟨_, List.getElem?_eq_getElem (by omega)⟩
                obtain ⟨d0, d1', d2'⟩ := hr3.1 m y hy
                have hgl := hr3.2
                have hcm := compare_below y x
                have hS := stC_pair (l := l) HX.out hy HQ.out
                have HS := Lib.hid hS
                obtain ⟨t, ht⟩ : ∃ t, lt y x = t := ⟨_, rfl⟩
                rw [ht] at HS
                obtain ⟨f, hf⟩ : ∃ f, cf y x = f := ⟨_, rfl⟩
                have HCF := Lib.hid (show decide (0 ≤ f) = !t by
                  rw [← hf, ← ht]; unfold cf
                  cases lt y x
                  · by_cases e : y = x <;> simp [e]
                  · simp)
                rw [hf] at hcm
                clear hy hS ht hf
                have hki1 : (0 : Int) ≤ (m : Int) := by omega
                have hki2 : (m : Int) < (L.length : Int) := by omega
                have hki3 : IntKind.i64.wrap (((m : Int) + 1) - 1) = (m : Int) := by rw [IntKind.wrap_i64]; omega
                have hki4 : (0 : Int) < (m : Int) + 1 := by omega
                have hki5 : wrap64 ((m : Int) + 1 - 1) = (m : Int) := by unfold wrap64; omega
                have hki6 : (m : Int) + 1 - 1 = (m : Int) := by omega
                have hki7 : wrap64 (m : Int) = (m : Int) := by unfold wrap64; omega
                have hki8 : IntKind.i64.wrap (m : Int) = (m : Int) := by rw [IntKind.wrap_i64]; omega
                rw [show ((m + 1 : Nat) : Int) = (m : Int) + 1 from rfl]
                have hkl := kx3.lt
                go_upto_region 9 with fail
                go_cut [38] (fun v wx => v = .bool (!t) ∧ Below w3.heap.size w3 wx)
                case first =>
                  obtain ⟨e0, e1, e2⟩ := keepB kx3 (Below.refl _ _)
                  have hkb : Below w3.heap.size w3 w3 := Below.refl _ _
                  go_region_held3 (fun w' => w'.cell? ⟨g, m * 3, none⟩ = some (.int .i64 y.1) ∧ w'.cell? ⟨g, m * 3 + 1, none⟩ = some (.int .i64 y.2.1) ∧ w'.cell? ⟨g, m * 3 + 1 + 1, none⟩ = some (.int .i64 y.2.2) ∧ w'.cell? ⟨wr.heap.size, 0, none⟩ = some (.int .i64 x.1) ∧ w'.cell? ⟨wr.heap.size, 1, none⟩ = some (.int .i64 x.2.1) ∧ w'.cell? ⟨wr.heap.size, 2, none⟩ = some (.int .i64 x.2.2)) (first | (refine keep6 hgl d0 d1' d2' kx3 ?_; go_grown; done))
                    (first | (go_at_call 16; refine (hcm _).mono ?_; rintro e w6 ⟨rfl, hb'⟩; have hkb : Below w3.heap.size w3 w6 := Ba.below_call hb' (by go_grown) (by simp); clear hb'))
                  all_goals go_wp2_with fail
                  all_goals go_meet
                  all_goals exact ⟨by rw [← HCF.out], by go_grown⟩
                case rest =>
                  obtain ⟨rfl, hbw⟩ := hcut
                  clear d0 d1' d2' hcm
                  have hb5 := hb4.trans (hbw.mono hz4)
                  cases t
                  · have h1 : stC l L (m + 1) = 1 := by rw [HS.out]; rfl
                    have hout := out_some HLT.out HN.out (by rw [h1]; decide) hlt
                    rw [HO.out, h1] at hout
                    subst hout
                    clear HO hr3 kx3 HCF
                    go_wp2_with fail
                    refine (wrap_any (m + 1) 1 _).mono ?_
                    rintro e w8 ⟨u, rfl, hu, hb8⟩
                    have hb9 := hb5.trans (hb8.mono hb5.size)
                    go_wp2_with fail
                    go_ret
                    exact ⟨_, rfl, hu, hb9⟩
                  · have H1 := Lib.hid (ckN_next HN.out (show stC l L (m + 1) = 0 by rw [HS.out]; rfl))
                    clear hr3 kx3 HCF
                    go_wp2_with fail
                    go_roundw
                    case rel => exact ⟨m + 1 + 1, by omega, by go_num, H1.out, hb5⟩
                    case measure => simp [intOf]; omega
            · rw [show errOf q = Er q from if_neg hq0] at hck
              have hout := out_some HLT.out HN.out (by rw [stC_chk HX.out (by rw [HQ.out]; exact hq0), HQ.out]; exact hq0) hlt
              rw [HO.out, stC_chk HX.out (by rw [HQ.out]; exact hq0), HQ.out] at hout
              subst hout
              clear HO
              go_wp2_with fail
              refine (hck _).mono ?_
              rintro e w3 ⟨rfl, hb3⟩
              have hb4 := hb2.trans (hb3.mono hb2.size)
              clear hck c0 c1 c2 hgl hb2 hb3 kx hr
              go_wp2_with fail
              refine (wrap_any k q _).mono ?_
              rintro e w8 ⟨u, rfl, hu, hb8⟩
              have hb9 := hb4.trans (hb8.mono hb4.size)
              go_wp2_with fail
              go_ret
              exact ⟨_, rfl, hu, hb9⟩
        · obtain rfl : k = L.length := by omega
          have hout := out_none HLT.out HN.out
          rw [HO.out] at hout
          subst hout
          clear HO
          go_wp2_with fail
          go_ret
          exact ⟨_, rfl, .inl ⟨rfl, rfl⟩, hb⟩
end Go.Proofs.YtlnlganjhdhgfaaDoor.Se
