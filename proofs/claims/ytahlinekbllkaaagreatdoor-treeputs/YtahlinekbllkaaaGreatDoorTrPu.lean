/-
  TreePuts: for any lists of cells and truths it answers true: cells are put into the root of a set, or taken out, one by one: each time just those live, in the node that building the set anew gives; what is outside, or of no Half, is told.
  Conditions: the listed variables (math/bits.deBruijn32tab) read as the card says.
-/
import Derived.Test.YtahlinekbllkaaaGreatDoorTrK2
import Derived.Test.YtahlinekbllkaaaGreatDoorTrK3
import Derived.Test.YtahlinekbllkaaaGreatDoorTrW14
import Derived.Test.YtahlinekbllkaaaGreatDoorTrPT2
import Derived.Test.YtahlinekbllkaaaGreatDoorTrO
import Derived.Test.YtahlinekbllkaaaGreatDoorSeR2
import Derived.Deep.DeepHandedRow
import Derived.Lib.SmallJoins
namespace Go.Proofs.YtahlinekbllkaaaGreatDoor.Tr
open Go.RowKit Go.Proofs.YtahlinekbllkaaaGreatDoor.Ba Go.Proofs.YtahlinekbllkaaaGreatDoor.Ar Go.Lib
open Go.Proofs.YtahlinekbllkaaaGreatDoor.Si (DebIs)
open Go.Proofs.YtahlinekbllkaaaGreatDoor.Se (RawAt SetAt ofL own3_any set_of_own are_any rising_ofL mem_ofL ofL_eq Rising flat_get refput_any less_any4 del_filter)

theorem neq_e44 (w : World) : (binOp .neq 34 (.iface 56 (.int .i64 4)) (.iface 56 (.int .i64 4))).run Tryz.prog w = .ok (.bool false) w := by kernel_rfl
theorem neq_e66 (w : World) : (binOp .neq 34 (.iface 56 (.int .i64 6)) (.iface 56 (.int .i64 6))).run Tryz.prog w = .ok (.bool false) w := by kernel_rfl
/-- The argument's lists stay, whatever the arena does. -/
def ArgS (w : World) (v1 : Value) (L : List C) (v2 : Value) (B : List Bool) : Prop := RawAt w v1 L ∧ BoAt w v2 B
set_option maxRecDepth 100000 in
set_option maxHeartbeats 2000000 in
theorem treePuts_walk (v0 : Value) (L0 : List C) (v1 : Value) (L1 : List C) (v2 : Value) (B : List Bool) (w : World) (hD : DebIs w) (h0 : RawAt w v0 L0) (hL0 : L0.length ≤ maxLen) (h1 : RawAt w v1 L1) (hL1 : L1.length ≤ maxLen) (h2 : BoAt w v2 B) (hB : B.length ≤ maxLen) :
    Calls Tryz.prog 4 #[v0, v1, v2] w fun e w' => e = .returned (.bool true) ∧ Below w.heap.size w w' := by
  have HD := Lib.hid hD
  have HR0 := Lib.hid h0
  have HL0 := Lib.hid hL0
  have HArg := Lib.hid (show ArgS w v1 L1 v2 B from ⟨h1, h2⟩)
  have e4 := neq_e44
  have e6 := neq_e66
  have k1 : ∃ p cap, v1 = .slice p L1.length cap := by
    rcases h1 with ⟨p, cap, rfl, rfl⟩ | ⟨g, o, cap, rfl, _, _⟩
    · exact ⟨p, cap, rfl⟩
    · exact ⟨_, _, rfl⟩
  have k2 : ∃ p cap, v2 = .slice p B.length cap := by
    rcases h2 with ⟨p, cap, rfl, rfl⟩ | ⟨g, o, cap, rfl, _, _⟩
    · exact ⟨p, cap, rfl⟩
    · exact ⟨_, _, rfl⟩
  obtain ⟨p1, c1, rfl⟩ := k1
  obtain ⟨p2, c2, rfl⟩ := k2
  unfold maxLen at hL1 hB
  clear hD h0 h1 h2 hL0
  go_enter Tryz.func4, Tryz.ntmps4
  go_wp2_with fail
  refine (awake_any _).mono ?_
  rintro e w1 ⟨rfl, hb1⟩
  have HB1 := Lib.hid hb1
  have hwi := wide_any v0 L0 w1 (HR0.out.below hb1) HL0.out
  clear hb1
  go_wp2_with fail
  refine hwi.mono ?_
  rintro e w3 ⟨vs, rfl, hs3, hb3⟩
  have HB3 := Lib.hid (HB1.out.trans (hb3.mono HB1.out.size))
  have HS := Lib.hid hs3
  have HKi : Hid (∀ c ∈ wideS L0, (-2199023255552 < c.1 ∧ c.1 < 2199023255552) ∧ (-2199023255552 < c.2.1 ∧ c.2.1 < 2199023255552) ∧ (c.2.2 = 0 ∨ c.2.2 = 1)) := Lib.hid fun c hc => wide_in hc
  have hKl := wide_len L0
  have HKr : Hid (Rising (wideS L0)) := Lib.hid (rising_ofL _)
  clear hwi hb3 hs3
  generalize wideS L0 = K at *
  have hmk := make_any vs K w3 (set_raw HS.out) (fun c hc => ins44 (by have := HKi.out c hc; omega) (by have := HKi.out c hc; omega)) (fun c hc => (HKi.out c hc).2.2) (by omega)
  go_wp2_with fail
  refine hmk.mono ?_
  rintro e w4 ⟨x, d, S1, rfl, hB1, hA4, hb4⟩
  obtain ⟨h, hh⟩ : ∃ h, w3.heap.size = h := ⟨_, rfl⟩
  rw [hh] at hA4 hb4 ⊢
  have HH := Lib.hid hh
  have HC4 := Lib.hid hb4
  have hwh : w.heap.size ≤ h := by have := HB3.out.size; omega
  have hz0 : ne (newS 1048576).N = 0 := by decide
  have hm1 : 800000 ≤ S1.more := by rw [hB1.ext.more]; decide
  have hn1 := hB1.len
  rw [hz0] at hn1
  have HRx : Hid (Rt S1 d x K) := Lib.hid (Rt.of hB1 HKr.out)
  have hd1 := hB1.pos
  have hd2 : d ≤ 42 := by have := hB1.lv.hi; omega
  have hN1 := bt_le hB1
  have hle := Ar.level_any h x S1 _ w4 hA4 (by have := lv_le HRx.out.lv; show _ < _; omega) (by omega)
  rw [show levelOf S1.N x = (d : Int) + 2 from HRx.out.lv] at hle
  have HA4 := Lib.hid hA4
  clear hmk hB1 hb4 hz0 hh hA4
  go_wp2_with fail
  refine hle.mono ?_
  rintro e w5 ⟨rfl, hb5⟩
  have hsz4 : h ≤ w4.heap.size := by have := HC4.out.size; have := HH.out; omega
  have HC5 := Lib.hid (HC4.out.trans (hb5.mono hsz4))
  have HI : Hid (PuI w3 h d 0 x vs w5) := Lib.hid ⟨S1, K, HRx.out, HS.out.below (by rw [HH.out]; exact HC5.out), HA4.out.under hb5, by omega, hm1, by omega, fun c hc => ⟨ins44 (by have := HKi.out c hc; omega) (by have := HKi.out c hc; omega), (HKi.out c hc).2.2⟩, HC5.out⟩
  clear hle hb5 HRx HA4 HC4 hn1 hN1 hm1 HKi HKr hKl
  go_wp2_with fail
  go_loopw [7, 9, 12] (fun t7 t9 t12 wr => PuR w3 h d L1.length B.length t7 t9 t12 wr) (fun _ _ t12 _ => 20 - (intOf t12).toNat)
  case atStart => exact ⟨0, x, by omega, by omega, by omega, rfl, rfl, HI.out⟩
  case round =>
    clear HI HC5
    obtain ⟨k, i, hk, hkL, hkB, rfl, rfl, hI⟩ := hrel
    have HI := Lib.hid hI
    clear hI
    by_cases hlt1 : k < L1.length
    · by_cases hlt2 : k < B.length
      · by_cases hlt3 : k < 20
        · obtain ⟨S, K, hRt, hsK, hA, hne, hmore, hKl, hKi, hbc⟩ := HI.out
          have hwr := hbc.size
          have hzr : h ≤ wr.heap.size := by have := HH.out; omega
          have hbW := HB3.out.trans ((show Below w3.heap.size w3 wr by rw [HH.out]; exact hbc).mono HB3.out.size)
          obtain ⟨hr1, hr2⟩ := HArg.out
          have hr1 := hr1.below hbW
          have hr2 := hr2.below hbW
          rcases hr1 with ⟨_, _, _, hnil⟩ | ⟨g1, o1, cp1, hv1, hcs1, hg1⟩
          · subst hnil; simp at hlt1
          rcases hr2 with ⟨_, _, _, hnil⟩ | ⟨g2, o2, cp2, hv2, hcs2, hg2⟩
          · subst hnil; simp at hlt2
          injection hv1 with hv1 hv3 hv4
          subst hv1 hv4
          injection hv2 with hv2 hv5 hv6
          subst hv2 hv6
          clear hv3 hv5
          obtain ⟨c, hc⟩ : ∃ c, L1[k]? = some c := ⟨_, List.getElem?_eq_getElem hlt1⟩
          obtain ⟨lv, hlv⟩ : ∃ lv, B[k]? = some lv := ⟨_, List.getElem?_eq_getElem hlt2⟩
          obtain ⟨f0, f1, f2⟩ := flat_get L1 k c hc
          have q0 := hcs1 _ _ f0
          have q1 := hcs1 _ _ f1
          have q2 := hcs1 _ _ f2
          rw [show o1 + (k * 3 + 1) = o1 + k * 3 + 1 by omega] at q1
          rw [show o1 + (k * 3 + 1 + 1) = o1 + k * 3 + 1 + 1 by omega] at q2
          have hb0 := hcs2 k lv hlv
          have hg2h : g2 < h := by
            obtain ⟨_, hr2⟩ := HArg.out
            rcases hr2 with ⟨_, _, _, hnil⟩ | ⟨g, o, cap, hv, _, hg⟩
            · subst hnil; simp at hlt2
            · injection hv with hv
              injection hv with hv
              injection hv with hv
              omega
          have hNn := lv_nonempty hRt.tw hRt.lv hd1
          obtain ⟨P0, hA0, hP0, hkeep⟩ := tight hA hNn hsK
          have hN1 : S.N.length ≤ 1000000 := by have := em_le hRt.tw; omega
          have HRt := Lib.hid hRt
          have HKeep := Lib.hid hkeep
          have HKi := Lib.hid hKi
          have HP0 := Lib.hid hP0
          obtain ⟨Pn, hPn⟩ : ∃ Pn : Nat → Prop, (fun b => P0 b ∨ wr.heap.size + 1 ≤ b) = Pn := ⟨_, rfl⟩
          have hpt := fun W hW hQ => put_all h i d c lv S Pn W hW hQ hRt.lv hd1 hd2 hRt.tw (by omega)
          have hon := fun W => own3_any c W
          have kc := Blk.newAt wr 24 #[.int .i64 c.1, .int .i64 c.2.1, .int .i64 c.2.2] _ rfl
          have hba : Below wr.heap.size wr (wr.alloc (.cells #[.int .i64 c.1, .int .i64 c.2.1, .int .i64 c.2.2] 24)) := by go_grown
          have hA1 := (hA0.under hba).weak (P' := Pn) fun b hb _ => by rw [← hPn]; exact .inl hb
          have hz1 : wr.heap.size + 1 ≤ (wr.alloc (.cells #[.int .i64 c.1, .int .i64 c.2.1, .int .i64 c.2.2] 24)).heap.size := by simp
          have hbb := (hba.cell (p := ⟨g2, o2 + k, none⟩) hg2).trans hb0
          have hnB : ¬ (P0 wr.heap.size ∨ wr.heap.size + 1 ≤ wr.heap.size) := fun h => by
            rcases h with h | h
            · have := (HP0.out _ h).2; omega
            · omega
          have hnG : ¬ (P0 g2 ∨ wr.heap.size + 1 ≤ g2) := fun h => by
            rcases h with h | h
            · have := (HP0.out _ h).1; omega
            · omega
          have HBa := Lib.hid hba
          have hd1' : decide (k < L1.length) = true := by simpa using hlt1
          have hd2' : decide (k < B.length) = true := by simpa using hlt2
          have hd3' : decide ((k : Int) < 20) = true := by simp; omega
          clear hr1 hr2 hcs1 hcs2 f0 f1 f2 hc hlv hb0 hRt hkeep hKi hP0 hA hA0 hsK hba hNn
          have hnB' : ¬ Pn wr.heap.size := by rw [← hPn]; exact hnB
          have hnG' : ¬ Pn g2 := by rw [← hPn]; exact hnG
          have HPw : Hid (∀ b, Pn b → P0 b ∨ wr.heap.size ≤ b) := Lib.hid (by rw [← hPn]; intro b hb; rcases hb with hb | hb; exact .inl hb; exact .inr (by omega))
          have HPh : Hid (∀ b, Pn b → h ≤ b) := Lib.hid (by rw [← hPn]; intro b hb; rcases hb with hb | hb; exact (HP0.out b hb).1; omega)
          have HPn : Hid (∀ b, wr.heap.size + 1 ≤ b → Pn b) := Lib.hid (by rw [← hPn]; intro b hb; exact .inr hb)
          clear hnB hnG hPn
          go_upto_region 12 with fail
          generalize wr.alloc (.cells #[.int .i64 c.1, .int .i64 c.2.1, .int .i64 c.2.2] 24) = W1 at *
          have hg2W : g2 < W1.heap.size := by omega
          go_cut [14, 15] (fun t14 t15 wx => PuP h d i c lv S Pn W1 t14 t15 wx)
          case first =>
            have hkb : Below W1.heap.size W1 W1 := Below.refl _ _
            go_region_held3 (fun w' => w'.cell? ⟨wr.heap.size, 0, none⟩ = some (.int .i64 c.1) ∧ w'.cell? ⟨wr.heap.size, 1, none⟩ = some (.int .i64 c.2.1) ∧ w'.cell? ⟨wr.heap.size, 2, none⟩ = some (.int .i64 c.2.2) ∧ w'.cell? ⟨g2, o2 + k, none⟩ = some (.bool lv)) (first | (refine keepP kc hg2W hbb ?_; go_grown; done) | exact hS6)
              (first
                | (go_at_call 19; refine (hon _).mono ?_; rintro e w5 ⟨rfl, hb5⟩; have hkb : Below W1.heap.size W1 w5 := Ba.below_call hb5 (by go_grown) (by first | exact hkb.size | go_size); clear hb5)
                | (go_at_call 21; have hz5 := hkb.size; refine (hpt _ (hA1.under (by go_grown)) (fun k hk => HPn.out k (by omega))).mono ?_; rintro e w6 ⟨j, er, S', rfl, hA6, hO6, hw6⟩; have hO2 : Off Pn W1 w6 := (Off.of_below (by go_grown)).trans hO6; have hS6 := keepPO kc hg2W hbb hO2 hnB' hnG'))
            all_goals go_wp2_with fail
            all_goals go_meet
            all_goals exact ⟨j, er, S', rfl, rfl, hA6, hO2, hw6⟩
          case rest =>
            obtain ⟨j, er, S', rfl, rfl, hA6, hO2, hw6⟩ := hcut
            generalize wc = w6 at *
            have HOw : Hid (Off (fun b => P0 b ∨ wr.heap.size ≤ b) wr w6) := Lib.hid ((Off.of_below HBa.out).trans (hO2.weak fun b _ hb => HPw.out b hb))
            have HB6 : Hid (Below h w3 w6) := Lib.hid (hbc.trans (HOw.out.below hzr (fun b hb => by rcases hb with hb | hb; exact (HP0.out b hb).1; omega)))
            have HS6 := Lib.hid (HKeep.out w6 HOw.out)
            have k6 := hO2.blk kc hnB'
            have hb6 := cell_off hO2 hbb hg2W hnG'
            have hl6 := k6.lt
            have hg6 : g2 < w6.heap.size := Nat.lt_of_lt_of_le hg2W hO2.size
            have hz6 : h ≤ w6.heap.size := by have := HOw.out.size; omega
            clear hpt hon hA1 kc hbb hO2 hbc q0 q1 q2
            obtain ⟨c0, c1, c2⟩ := Go.Proofs.YtahlinekbllkaaaGreatDoor.Se.keepB k6 (Below.refl _ _)
            rcases hw6 with ⟨hh, rfl, rfl, rfl⟩ | ⟨hh, hin, rfl, rfl, rfl⟩ | ⟨hh, hin, hPd⟩
            · -- no Half
              have HIn : Hid (PuI w3 h d (k + 1) i u7 w6) := Lib.hid ⟨S', K, HRt.out, HS6.out, hA6.weak fun b hb _ => HPh.out b hb, by omega, hmore, by omega, HKi.out, HB6.out⟩
              have hz0 : ((((0 : Nat) : Int)) != 0) = false := rfl
              unfold errV
              clear hA6 k6 hb6
              by_cases hneg : c.2.2 < 0
              · have hdn : decide (c.2.2 < 0) = true := by simpa using hneg
                go_wp2_with fail
                go_roundw
                case rel => exact ⟨k + 1, i, by omega, by omega, by omega, by go_num, rfl, HIn.out⟩
                case measure => simp [intOf]; omega
              · have hdn : decide (c.2.2 < 0) = false := by simpa using hneg
                have hgt : 1 < c.2.2 := by omega
                have hdg : decide (1 < c.2.2) = true := by simpa using hgt
                go_wp2_with fail
                go_roundw
                case rel => exact ⟨k + 1, i, by omega, by omega, by omega, by go_num, rfl, HIn.out⟩
                case measure => simp [intOf]; omega
            · -- outside
              have HIn : Hid (PuI w3 h d (k + 1) i u7 w6) := Lib.hid ⟨S', K, HRt.out, HS6.out, hA6.weak fun b hb _ => HPh.out b hb, by omega, hmore, by omega, HKi.out, HB6.out⟩
              have hrf := fun W => refinside_any ((d : Int) + 2) c.1 c.2.1 W
              have how := out_ways hin
              unfold errV
              have hneg : ¬ c.2.2 < 0 := by omega
              have hdn : decide (c.2.2 < 0) = false := by simpa using hneg
              have hgt : ¬ 1 < c.2.2 := by omega
              have hdg : decide (1 < c.2.2) = false := by simpa using hgt
              clear hA6 k6 hb6 hin hh
              rcases hrb : refB ((d : Int) + 2) c.1 c.2.1 with _ | _
              · rw [hrb] at hrf
                clear how hrb
                go_wp2_with fail
                refine (hrf _).mono ?_
                rintro e w' ⟨rfl, rfl⟩
                go_wp2_with fail
                go_roundw
                case rel => exact ⟨k + 1, i, by omega, by omega, by omega, by go_num, rfl, HIn.out⟩
                case measure => simp [intOf]; omega
              · rw [hrb] at hrf how
                clear hrb
                by_cases ha : c.1 < -1125899906842624
                · have hda : decide (c.1 < -1125899906842624) = true := by simpa using ha
                  clear how
                  go_wp2_with fail
                  refine (hrf _).mono ?_
                  rintro e w' ⟨rfl, rfl⟩
                  go_wp2_with fail
                  go_roundw
                  case rel => exact ⟨k + 1, i, by omega, by omega, by omega, by go_num, rfl, HIn.out⟩
                  case measure => simp [intOf]; omega
                · have hb : c.2.1 < -1125899906842624 := by
                    rcases how with how | how | how
                    · cases how
                    · exact absurd how ha
                    · exact how
                  have hda : decide (c.1 < -1125899906842624) = false := by simpa using ha
                  have hdb : decide (c.2.1 < -1125899906842624) = true := by simpa using hb
                  clear how
                  go_wp2_with fail
                  refine (hrf _).mono ?_
                  rintro e w' ⟨rfl, rfl⟩
                  go_wp2_with fail
                  go_roundw
                  case rel => exact ⟨k + 1, i, by omega, by omega, by omega, by go_num, rfl, HIn.out⟩
                  case measure => simp [intOf]; omega
            · obtain ⟨rfl, hRn⟩ := HRt.out.put hPd (by omega) hmore
              have hnn := hPd.len
              have hmn : 800000 ≤ S'.more := by rw [hPd.ext.more]; exact hmore
              have hway := in_ways hin
              have hrf := fun W => refinside_any ((d : Int) + 2) c.1 c.2.1 W
              rw [hway.1] at hrf
              have hneg : ¬ c.2.2 < 0 := by omega
              have hdn : decide (c.2.2 < 0) = false := by simpa using hneg
              have hgt : ¬ 1 < c.2.2 := by omega
              have hdg : decide (1 < c.2.2) = false := by simpa using hgt
              have hna : ¬ c.1 < -1125899906842624 := hway.2.1
              have hnb : ¬ c.2.1 < -1125899906842624 := hway.2.2
              have hda : decide (c.1 < -1125899906842624) = false := by simpa using hna
              have hdb : decide (c.2.1 < -1125899906842624) = false := by simpa using hnb
              have HKn : Hid (∀ b ∈ putK lv K c, insB 44 b.1 b.2.1 = true ∧ (b.2.2 = 0 ∨ b.2.2 = 1)) := Lib.hid (putK_in HKi.out ⟨ins_mono hin (by omega), hh⟩)
              have hKn := putK_len (live := lv) (c := c) HRt.out.ris
              have HRn := Lib.hid hRn
              have HAn := Lib.hid (hA6.weak fun b hb _ => HPh.out b hb)
              have hNn : S'.N.length ≤ 1000000 := by have := em_le hRn.tw; omega
              have hpa := fun u W hW => refput_any u K c W hW HRt.out.ris (by omega)
              have hla := fun u W hW => less_any4 u K c W hW (by omega)
              clear hPd hway hin hh hA6 hRn
              go_upto_if 111 with (first | (go_at_call 22; refine (hrf _).mono ?_; rintro e w' ⟨rfl, rfl⟩))
              go_cut [7] (fun t7 wx => SetAt wx t7 (putK lv K c) ∧ Below w6.heap.size w6 wx)
              case first =>
                rcases lv with _ | _
                · go_wp2_with fail
                  refine (hla _ _ HS6.out).mono ?_
                  rintro e w7 ⟨v7, rfl, hs7, hb7⟩
                  have HS7 := Lib.hid hs7
                  clear hla hpa
                  go_wp2_with fail
                  go_meet
                  exact ⟨HS7.out, hb7⟩
                · go_wp2_with fail
                  refine (hpa _ _ HS6.out).mono ?_
                  rintro e w7 ⟨v7, rfl, hs7, hb7⟩
                  have HS7 := Lib.hid hs7
                  clear hla hpa
                  go_wp2_with fail
                  go_meet
                  exact ⟨HS7.out, hb7⟩
              case rest =>
                obtain ⟨hs7, hb7⟩ := hcut
                generalize wc = w7 at *
                have HS7 := Lib.hid hs7
                have HA7 := Lib.hid (HAn.out.under hb7)
                have HB7 := Lib.hid (HB6.out.trans (hb7.mono hz6))
                have hz7 : h ≤ w7.heap.size := Nat.le_trans hz6 hb7.size
                have hce := cells_root h j d 100 S' (fun b => h ≤ b) w7 HA7.out HRn.out.lv hd1 hd2 HRn.out.tw hNn (HD.out.below (HB3.out.trans ((show Below w3.heap.size w3 w7 by rw [HH.out]; exact HB7.out).mono HB3.out.size))) (by decide) (by decide) (by have := HRn.out.count; omega) (by have := HRn.out.len; omega)
                rw [HRn.out.ofL] at hce
                have hle := fun W hW => Ar.level_any h j S' (fun b => h ≤ b) W hW (by have := lv_le HRn.out.lv; show _ < _; omega) hNn
                rw [show levelOf S'.N j = (d : Int) + 2 from HRn.out.lv] at hle
                clear hs7 hb7 c0 c1 c2 k6 hb6 hl6 hg6 hrf hpa hla
                generalize putK lv K c = Kn at *
                unfold errV
                go_wp2_with fail
                refine hce.mono ?_
                rintro e w8 ⟨got, rfl, hs8, hb8⟩
                have HS8 := Lib.hid (HS7.out.below hb8)
                have HG8 := Lib.hid hs8
                have HA8 := Lib.hid (HA7.out.under hb8)
                have HB8 := Lib.hid (HB7.out.trans (hb8.mono hz7))
                have hz8 : h ≤ w8.heap.size := Nat.le_trans hz7 hb8.size
                clear hce hs8 hb8
                go_wp2_with fail
                refine (hle _ HA8.out).mono ?_
                rintro e w9 ⟨rfl, hb9⟩
                have HS9 := Lib.hid (HS8.out.below hb9)
                have HG9 := Lib.hid (HG8.out.below hb9)
                have HA9 := Lib.hid (HA8.out.under hb9)
                have HB9 := Lib.hid (HB8.out.trans (hb9.mono hz8))
                have hz9 : h ≤ w9.heap.size := Nat.le_trans hz8 hb9.size
                have har := are_any got _ Kn w9 HG9.out HS9.out (by omega)
                clear hle hb9
                go_wp2_with fail
                refine har.mono ?_
                rintro e wA ⟨rfl, hbA⟩
                have HSA := Lib.hid (HS9.out.below hbA)
                have HGA := Lib.hid (HG9.out.below hbA)
                have HAA := Lib.hid (HA9.out.under hbA)
                have HBA := Lib.hid (HB9.out.trans (hbA.mono hz9))
                have hzA : h ≤ wA.heap.size := Nat.le_trans hz9 hbA.size
                obtain ⟨P1, hA1, hP1, hkeep1⟩ := tight HAA.out (lv_nonempty HRn.out.tw HRn.out.lv hd1) HSA.out
                have hbu := build_top got Kn h S' (fun b => P1 b ∨ wA.heap.size ≤ b) wA HGA.out (fun b hb => (HKn.out b hb).1) (fun b hb => (HKn.out b hb).2) (by omega) (hA1.weak fun b hb _ => .inl hb) (fun b hb => .inr hb) HRn.out.tw (by omega)
                have HP1 := Lib.hid hP1
                have HKeep1 := Lib.hid hkeep1
                clear har hbA hA1 hP1 hkeep1
                go_wp2_with fail
                refine hbu.mono ?_
                rintro e wB ⟨i2, er, S2, d2, rfl, hB2, hAB, hoB⟩
                obtain rfl : er = none := bt_room hB2 (by omega) hmn
                have HSB := Lib.hid (HKeep1.out wB hoB)
                have HPB : ∀ b, (P1 b ∨ wA.heap.size ≤ b) → h ≤ b := fun b hb => by rcases hb with hb | hb; exact (HP1.out b hb).1; omega
                have HBB := Lib.hid (HBA.out.trans (hoB.below hzA HPB))
                have HAB := Lib.hid (hAB.weak (P' := fun b => h ≤ b) fun b hb _ => HPB b hb)
                have hzB : h ≤ wB.heap.size := Nat.le_trans hzA hoB.size
                have hn2 := hB2.len
                have hN2 : S2.N.length ≤ 1000000 := by have := em_le hB2.ext.tw; omega
                have hl2 := (bt_lv hB2).1
                have hle2 := Ar.level_any h i2 S2 (fun b => h ≤ b) wB HAB.out (by have := lv_le hl2; show _ < _; omega) hN2
                rw [show levelOf S2.N i2 = (d2 : Int) + 2 from hl2] at hle2
                have HR2 := Lib.hid (HRn.out.ext hB2.ext)
                have hm2 : 800000 ≤ S2.more := by rw [hB2.ext.more]; exact hmn
                have hag : d2 = d → i2 = j := fun e => by subst e; exact HRn.out.again hB2
                have hl2' := hl2
                have hKn' := hKn
                clear hbu hB2 hAB hoB HPB hl2 hl2'
                unfold errV
                by_cases hdd : d2 = d
                · obtain rfl := hag hdd
                  subst hdd
                  clear hag
                  go_wp2_with fail
                  refine hle2.mono ?_
                  rintro e wC ⟨rfl, hbC⟩
                  have HIn : Hid (PuI w3 h d2 (k + 1) i2 _ wC) := Lib.hid ⟨S2, Kn, HR2.out, HSB.out.below hbC, HAB.out.under hbC, by omega, hm2, by omega, HKn.out, HBB.out.trans (hbC.mono hzB)⟩
                  clear hle2 hbC
                  go_wp2_with fail
                  go_roundw
                  case rel => exact ⟨k + 1, i2, by omega, by omega, by omega, by go_num, rfl, HIn.out⟩
                  case measure => simp [intOf]; omega
                · have hd0 : (((d2 : Int) + 2) == ((d : Int) + 2)) = false := by rw [beq_eq_false_iff_ne]; omega
                  have hd00 : ¬ (d2 : Int) = (d : Int) := by omega
                  clear hag
                  go_wp2_with fail
                  refine hle2.mono ?_
                  rintro e wC ⟨rfl, hbC⟩
                  have HIn : Hid (PuI w3 h d (k + 1) j _ wC) := Lib.hid ⟨S2, Kn, HR2.out, HSB.out.below hbC, HAB.out.under hbC, by omega, hm2, by omega, HKn.out, HBB.out.trans (hbC.mono hzB)⟩
                  clear hle2 hbC
                  go_wp2_with fail
                  go_roundw
                  case rel => exact ⟨k + 1, j, by omega, by omega, by omega, by go_num, rfl, HIn.out⟩
                  case measure => simp [intOf]; omega
        · have hd1' : decide (k < L1.length) = true := by simpa using hlt1
          have hd2' : decide (k < B.length) = true := by simpa using hlt2
          have hd3' : decide ((k : Int) < 20) = false := by simp; omega
          obtain ⟨_, _, _, _, _, _, _, _, _, hbc⟩ := HI.out
          have HZ := Lib.hid (HB3.out.trans ((show Below w3.heap.size w3 wr by rw [HH.out]; exact hbc).mono HB3.out.size))
          clear hbc
          go_wp2_with fail
          go_ret
          exact ⟨rfl, HZ.out⟩
      · have hd1' : decide (k < L1.length) = true := by simpa using hlt1
        have hd2' : decide (k < B.length) = false := by simpa using hlt2
        obtain ⟨_, _, _, _, _, _, _, _, _, hbc⟩ := HI.out
        have HZ := Lib.hid (HB3.out.trans ((show Below w3.heap.size w3 wr by rw [HH.out]; exact hbc).mono HB3.out.size))
        clear hbc
        go_wp2_with fail
        go_ret
        exact ⟨rfl, HZ.out⟩
    · have hd1' : decide (k < L1.length) = false := by simpa using hlt1
      obtain ⟨_, _, _, _, _, _, _, _, _, hbc⟩ := HI.out
      have HZ := Lib.hid (HB3.out.trans ((show Below w3.heap.size w3 wr by rw [HH.out]; exact hbc).mono HB3.out.size))
      clear hbc
      go_wp2_with fail
      go_ret
      exact ⟨rfl, HZ.out⟩
open Go.Proofs.YtahlinekbllkaaaGreatDoor.Si Go.Proofs.YtahlinekbllkaaaGreatDoor.Se
section treePutsFrame
open Go.ChangeShapes Go.WideShapes Go.ChangeAt Go.RowKit Go.Joins
set_option maxRecDepth 100000 in
theorem treePuts_contract (H : Type) (enc : TypeId × Value → H) (W : World) (base : Nat) (args : Array Value) (ds gs : List (DataW H)) (before : List MemPlace)
    (hval : ∀ (j : Nat) t v, Tryz.f4.params[j]? = some t → args[j]? = some v → Value.okWide Tryz.prog W .any base t v)
    (hW : DataW.Whole enc Tryz.prog Tryz.f4.params.toList Rows.treePutsSpec.vars false W args.toList ds gs before) (hL : laidMetH Tryz.prog Rows.treePutsRow.laid W) :
    Calls Tryz.prog 4 args W fun e W' => ∃ v, e = .returned v ∧ Rows.treePutsSpec.post enc Tryz.prog Tryz.f4 false true false false W args v W' := by
  have hW' := hW
  obtain ⟨p, q, hA0, hV, rfl, hfz, hnd⟩ := hW
  have hA : DataW.TrodAll enc Tryz.prog W 0 (fun _ => true) true Tryz.f4.params.toList args.toList ds p := hA0
  rw [Tryz.params4] at hA hval
  obtain ⟨v0, vs0, d0, ds0, p0, q0, hargs, rfl, rfl, h0, r0⟩ := trodAll_cons hA
  obtain ⟨v1, vs1, d1, ds1, p1, q1, rfl, rfl, rfl, h1, r1⟩ := trodAll_cons r0
  obtain ⟨v2, vs2, d2, ds2, p2, q2, rfl, rfl, rfl, h2, r2⟩ := trodAll_cons r1
  obtain ⟨rfl, rfl, rfl⟩ := trodAll_nil r2
  obtain rfl : args = #[v0, v1, v2] := by cases args; simp_all
  obtain ⟨rfl, rfl⟩ := trodVars_none hV
  obtain ⟨L0, hraw0, hlen0⟩ := open_cells (hval 0 22 v0 rfl rfl) h0
  obtain ⟨L1, hraw1, hlen1⟩ := open_cells (hval 1 22 v1 rfl rfl) h1
  obtain ⟨B2, hraw2, hlen2⟩ := open_bools (hval 2 58 v2 rfl rfl) h2
  refine (treePuts_walk v0 L0 v1 L1 v2 B2 W (deb_of_laid hL) hraw0 hlen0 hraw1 hlen1 hraw2 hlen2).mono fun e W' ⟨he, hb⟩ => ?_
  exact ⟨_, he, law_post laidOut rfl rfl Tryz.underlying4 (by kernel_rfl) hW' hb ⟨rfl, rfl, rfl⟩⟩
theorem treePuts_met (os : Os) : laidMet Tryz.prog Rows.treePutsRow.laid ((laidWorldT os).forCall (fun _ _ => 0) ⟨#[], #[.slice none 0 0, .slice none 0 0, .slice none 0 0], []⟩).memory :=
  laidMet_of_run' 8 (by kernel_rfl) (by kernel_rfl)
theorem treePuts_reads (os : Os) {H : Type} (enc : TypeId × Value → H) : ∃ places, DataW.whole enc Tryz.prog ((laidWorldT os).forCall (fun _ _ => 0) ⟨#[], #[.slice none 0 0, .slice none 0 0, .slice none 0 0], []⟩).memory Tryz.f4.params.toList Rows.treePutsSpec.vars false #[(.slice none 0 0 : Value), (.slice none 0 0 : Value), (.slice none 0 0 : Value)].toList 8 = some ([.nil, .nil, .nil], [], places) :=
  ⟨[], by kernel_rfl⟩
set_option maxRecDepth 100000 in
theorem treePuts_lifted (os : Os) (started : os.Started) (H : Type) (enc : TypeId × Value → H) (F : Stop.Interp) :
    ReturnsInHanded {} Tryz.checked os 4 .any ((OpenSpec.ofChange Rows.treePutsSpec).preRow enc Tryz.prog Tryz.f4 Rows.treePutsRow.domain false Rows.treePutsRow.laid) (((OpenSpec.ofChange Rows.treePutsSpec).at F).post enc Tryz.prog Tryz.f4 false true false false) := by
  obtain ⟨places, hx⟩ := treePuts_reads os enc
  refine returnsInHanded_of_row (C := Tryz.checked) (s := OpenSpec.ofChange Rows.treePutsSpec) own started (by kernel_rfl) Tryz.func4
    (witness_row_at (enc := enc) (C := Tryz.checked) false (laidWorldT os) #[.slice none 0 0, .slice none 0 0, .slice none 0 0] rfl (by kernel_rfl) (by kernel_rfl) (by kernel_rfl)
      (OpenSpec.preRow_of_cond 8 hx (by kernel_rfl) (fun k hk => by cases hk) (by kernel_rfl) (treePuts_met os))) ?_
  intro W base args ds gs before hval hW _ _ _ hL _ _
  exact treePuts_contract H enc W base args ds gs before hval hW hL
theorem treePuts_said : Rows.TreePutsSaid :=
  OpenClaim.holds_of_cond 4 Tryz.f4 rfl rfl rfl rfl rfl rfl rfl ⟨rfl, rfl, rfl, rfl, rfl⟩ rfl rfl rfl rfl rfl (by kernel_rfl) Tryz.func4 (by kernel_rfl)
    (of_decide_eq_true (by kernel_rfl)) (by unfold Func.isWrapper; first | (rw [if_pos (by decide +kernel)]; kernel_rfl) | (rw [if_neg (by decide +kernel)]; exact ⟨rfl, rfl⟩))
    (fun os started H enc _ F => by rw [OpenClaim.pre_eq_preRow]; exact treePuts_lifted os started H enc F)
theorem treePuts_plain (f : FuncId) (fn : Func) (hf : Tryz.pinned.checked.prog.funcNamed "honeycomb/honeycomblaw13.TreePuts" = some f) (hfn : Tryz.pinned.checked.prog.funcs[f]? = some fn) :
    true = Tryz.pinned.checked.prog.looks [] ∧ ∀ (j : Nat) t, fn.params[j]? = some t → Tryz.pinned.checked.prog.wantsStandIn t = false := by
  obtain rfl : f = 4 := Option.some.inj ((show Tryz.prog.funcNamed "honeycomb/honeycomblaw13.TreePuts" = some 4 by kernel_rfl).symm.trans hf) |>.symm
  obtain rfl : fn = Tryz.f4 := (Option.some.inj (Tryz.func4.symm.trans hfn)).symm
  refine ⟨by kernel_rfl, fun j t ht => ?_⟩
  have hall : (Tryz.f4.params.toList.all fun t => !Tryz.prog.wantsStandIn t) = true := by kernel_rfl
  have hm : t ∈ Tryz.f4.params.toList := by simpa using Array.mem_of_getElem? ht
  have := List.all_eq_true.1 hall t hm
  exact (show Tryz.prog.wantsStandIn t = false by simpa using this)
end treePutsFrame
/-- TreePuts: the card: for every input the law answers true. -/
theorem treePuts_card : Rows.TreePutsCardSaid :=
  Claim7.holds_tied_plain_at .later [] _ _ _ _ treePuts_said (fun _ h => by cases h) (by kernel_rfl) (fun _ h => by cases h) treePuts_row_tie rfl ⟨rfl, rfl⟩ (by kernel_rfl) rfl treePuts_plain (by kernel_rfl)
end Go.Proofs.YtahlinekbllkaaaGreatDoor.Tr
namespace Go.Proofs.YtahlinekbllkaaaGreatDoor
theorem treePuts_proved : Rows.TreePutsCardSaid := Tr.treePuts_card
#print axioms treePuts_proved
end Go.Proofs.YtahlinekbllkaaaGreatDoor
