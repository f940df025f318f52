/- SiteBack: of any set of at most 40 cells: its leaves have just its cells; none is empty. No conditions. -/
import Derived.Test.YtnabbeconabbnaaDoorSiW3
import Derived.Test.YtnabbeconabbnaaDoorSiB
import Derived.Test.YtnabbeconabbnaaDoorSeA
import Derived.Test.YtnabbeconabbnaaDoorBsT
import Derived.Deep.DeepHandedRow
import Derived.Lib.SmallJoins
namespace Go.Proofs.YtnabbeconabbnaaDoor.Si
open Go.RowKit Go.Proofs.YtnabbeconabbnaaDoor.Ba Go.Proofs.YtnabbeconabbnaaDoor.Se Go.Proofs.YtnabbeconabbnaaDoor.Ax Go.Lib Go.Maps
open Go.Proofs.YtnabbeconabbnaaDoor.Ce (someH latV lattice_any)

abbrev Rg (w : World) (B r n : Nat) (D : DataW Unit) (left : Lit → Bool) (cnt : Nat) : Prop := w.ranges Tryd.prog 24 (plainElem Tryd.prog 26) B r n D left cnt
def BaR (w : World) (B r n : Nat) (D : DataW Unit) (S : List C) (vS : Value) (s c : Value) (wr : World) : Prop :=
  ∃ (left : Lit → Bool) (cnt : Nat) (A : List C), Rg wr B r n D left cnt ∧ (∀ l, left l = true → has D l = true) ∧ Done S A left ∧ SetAt wr s A ∧ c = .int .i64 A.length ∧ SetAt wr vS S ∧ A.length ≤ 40 ∧ Below w.heap.size w wr
def BbR (wx : World) (A K : List C) (s i : Value) (wr : World) : Prop :=
  ∃ (j : Nat) (A' : List C), j ≤ K.length ∧ i = .int .i64 j ∧ SetAt wr s A' ∧ Rising A' ∧ (∀ c, c ∈ A' ↔ c ∈ A ∨ c ∈ K.take j) ∧ A'.length ≤ A.length + j ∧ Below wx.heap.size wx wr
set_option maxRecDepth 100000 in
set_option maxHeartbeats 1000000 in
theorem siteBack_walk (n : Int) (_w0 : (Lit.int .i64 n).wf = true) (v : Value) (L : List C) (w : World) (hD : DebIs w) (h : RawAt w v L) (hL : L.length ≤ maxLen) :
    Calls Tryd.prog 5 #[.int .i64 n, v] w fun e w' => e = .returned (.bool true) ∧ Below w.heap.size w w' := by
  have HD := Lib.hid hD
  clear hD _w0
  obtain ⟨S, hSe⟩ : ∃ S, S = ofL ((L.take 40).map (someC (latV n))) := ⟨_, rfl⟩
  have hSR : Rising S := by rw [hSe]; exact rising_ofL _
  have hS40 : S.length ≤ 40 := by
    rw [hSe]
    refine Nat.le_trans (ofL_len _) ?_
    rw [List.length_map, List.length_take]
    omega
  have hSm : ∀ c ∈ S, Sm c := fun c hc => by
    rw [hSe, mem_ofL] at hc
    obtain ⟨d, _, rfl⟩ := List.mem_map.1 hc
    exact sm_some _ _
  have HSR := Lib.hid hSR
  have HSm := Lib.hid hSm
  have HSe := Lib.hid hSe
  clear hSR hSm hSe
  have HH := Lib.hid h
  have HL := Lib.hid hL
  clear h hL
  go_enter Tryd.func5, Tryd.ntmps5
  go_wp2_with fail
  refine (awake_any _).mono ?_
  rintro e w1 ⟨rfl, hb1⟩
  go_wp2_with fail
  refine (lattice_any n _).mono ?_
  rintro e w' ⟨rfl, rfl⟩
  go_wp2_with fail
  refine (some4_any (latV n) v L _ (HH.out.below hb1) HL.out).mono ?_
  rintro e w2 ⟨vS, rfl, hsS, hb⟩
  rw [← HSe.out] at hsS
  have hbw2 := hb1.trans (hb.mono hb1.size)
  clear hb hb1 HH HL HSe
  have HO := Lib.hid (set_own (L := []) (World.ownsRow_made (base := w2.heap.size) (e := 45) (size := 3) w2 #[] 0 (Nat.le_refl _) (Nat.zero_le _) (by simp)))
  have hsS3 := hsS.below ((Below.refl _ _).alloc (Nat.le_refl _) (.cells #[] 45))
  have hbw3 := hbw2.alloc hbw2.size (.cells #[] 45)
  go_wp2_with fail
  refine (leaves_any vS S _ hsS3 HSm.out (by omega)).mono ?_
  rintro e w4 ⟨rfl, ⟨D, hown, hrd⟩, hb4⟩
  have HRD := Lib.hid hrd
  have hsS4 := hsS3.below hb4
  have hA4 := HO.out.below hb4
  have hbw4 := hbw3.trans (hb4.mono hbw3.size)
  have hown' : OwnP w4 _ _ D := hown
  clear hb4 hbw3 hbw2 hsS hsS3 HO hrd
  generalize hBB : (w2.alloc (.cells #[] 45)).heap.size = B at *
  clear hBB
  go_wp2_with (first
    | (at_range; refine wpList_range_own _ rfl _ 53 rfl 24 26 keyedPt Tryd.underlying53 _ B S.length D rfl hown ?_; intro w5 hrg0 hg0 hs0)
    | go_in)
  go_frame
  have hbg0 : Below w4.heap.size w4 w5 := ⟨hg0.os, hg0.tape, hg0.output, hg0.size, fun k hk => hg0.block k hk (by simp)⟩
  have hsS5 := hsS4.below hbg0
  have hA5 := hA4.below hbg0
  have hbw5 := hbw4.trans (hbg0.mono hbw4.size)
  have hrB : Below w.heap.size w w4 := hbw4
  clear hbg0 hsS4 hA4 hbw4 hown hown' hg0
  generalize hrr : w4.heap.size = r at *
  go_loopw [6, 7] (fun s c wr => BaR w B r S.length D S vS s c wr) (fun _ _ wr => wr.rangeLeft B r)
  case atStart => exact ⟨_, _, [], hrg0, fun _ h => h, done_none D HSm.out HRD.out, hA5, rfl, hsS5, by simp, hbw5⟩
  case round =>
    clear hsS5 hA5 hbw5 hrg0 hs0
    obtain ⟨left, cnt, A, hrg, hlh, hdn, hA, rfl, hsS, hA40, hbw⟩ := hrel
    have HDn := Lib.hid hdn
    have HLH := Lib.hid hlh
    clear hdn hlh
    have hwr : w.heap.size ≤ r := by rw [← hrr]; exact hrB.size
    go_wp2_with (first
      | (at_next; refine wpList_next_ranges _ rfl _ rfl 24 keyedPt _ (fun x : Value => x) (fun x : Value => x) (fun key kl _ => ⟨key, rfl⟩) (fun v y _ => ⟨v, rfl⟩) B r S.length D left cnt rfl hrg ?_ ?_)
      | go_in)
    · intro hc0 hl0
      obtain rfl := done_all HSR.out HDn.out hl0
      obtain ⟨pS, cS, hv⟩ := set_slice hsS
      have hare := are_any vS _ _ wr hsS hA (by omega)
      have HS := Lib.hid hsS
      clear hsS hA hrg HDn HLH
      subst hv
      go_wp2_with fail
      with_reducible refine hare.mono ?_
      rintro e w6 ⟨rfl, hb6⟩
      have hbw6 := hbw.trans (hb6.mono hbw.size)
      clear hare hb6 hbw
      go_wp2_with fail
      have hempty : SetAt (w6.alloc (.cells #[] 42)) (.slice (some ⟨w6.heap.size, 0, none⟩) 0 0) [] :=
        set_own (L := []) (World.ownsRow_made (base := w6.heap.size) (e := 42) (size := 3) w6 #[] 0 (Nat.le_refl _) (Nat.zero_le _) (by simp))
      refine (leaves_any _ [] _ hempty (fun c hc => by cases hc) (by simp)).mono ?_
      rintro e w7 ⟨rfl, ⟨D2, hown2, _⟩, hb7⟩
      have hlen := World.ownsMap.len hown2 Tryd.underlying53 3
      have hsz := World.ownsMap.size_le hown2
      rw [show Maps.size D2 = 0 by simpa using hsz, show (w6.alloc (.cells #[] 42)).heap.size = w6.heap.size + 1 by simp] at hlen
      have hbw7 := (hbw6.alloc hbw6.size (.cells #[] 42)).trans (hb7.mono (by have := hbw6.size; simp; omega))
      clear hown2 hb7 hempty hsz hbw6
      go_wp2_with fail
      go_ret
      exact ⟨rfl, hbw7⟩
    · intro key val kl y ps w6 cnt6 hkey hlk hval hat hrg6 hlt hg6 hs6 hen
      obtain ⟨p, hok, rfl⟩ := HRD.out.2.2 kl (HLH.out kl hlk)
      obtain rfl := keyedPt.inj hkey (key_pt hok)
      obtain ⟨c, rfl, hy, hwc⟩ := plainElem_int_inv Tryd.underlying26 hval
      have hc : c = ((lm S p : Nat) : Int) := by
        have h1 := hat (.lit (.int .u32 0))
        rw [HRD.out.2.1 p hok] at h1
        have h2 : y = .lit (.int .u32 c) := congrArg Prod.fst hy
        rw [h2] at h1
        injection h1 with h1
        injection h1 with _ h1
        exact h1.symm
      subst hc
      have hnz : lm S p ≠ 0 := by
        have h1 := HLH.out _ hlk
        rw [HRD.out.1 p hok] at h1
        simpa using h1
      have hf := lm_lt S p HSm.out
      obtain ⟨c0, hc0, hlow⟩ := lm_zero hnz
      have hsc := HSm.out c0 hc0
      have hp1 : p.1 % 4 = 0 ∧ -1000004 ≤ p.1 ∧ p.1 ≤ 1000000 := by
        rw [← hlow]; unfold lowP; have := hsc.1; dsimp only; omega
      have hp2 : p.2 % 4 = 0 ∧ -1000004 ≤ p.2 ∧ p.2 ≤ 1000000 := by
        rw [← hlow]; unfold lowP; have := hsc.2.1; dsimp only; omega
      have HDS := Lib.hid (fun A' hR hm => done_step (A' := A') HSm.out HDn.out hnz hok hlk hR hm)
      have hsS6 := set_kept hsS hg6 hrg
      have hA6 := set_kept hA hg6 hrg
      have hbw6 := hbw.grown hg6 hbw.size (fun q hq => by simp at hq; omega)
      have hlow1 : p.1 - p.1 % 4 = p.1 := by omega
      have hlow2 : p.2 - p.2 % 4 = p.2 := by omega
      have hlw := fun W => low_any p.1 p.2 (by omega) (by omega) W
      rw [hlow1, hlow2] at hlw
      have hneq : ∀ W, (binOp .neq 24 (.agg #[.int .i64 p.1, .int .i64 p.2]) (.agg #[.int .i64 p.1, .int .i64 p.2])).run Tryd.prog W = .ok (.bool false) W := fun W => by rw [neq_pt]; simp
      have hpl := pos_le (lm S p)
      rw [pos_len] at hpl
      have hcn := fun W => count_any (lm S p) hf W
      clear hsS hA hbw hlow hc0 hsc hkey hat hval hy hlk hg6 hs6 hlow1 hlow2 hwc
      generalize hfe : lm S p = f at *
      have hne0 : ((f : Int) == 0) = false := by simp; omega
      obtain ⟨p1, p2⟩ := p
      dsimp only [PtV] at hlw hneq hen hp1 hp2 HDS
      clear hfe
      go_upto_region 9 with fail
      have kb := Blk.newAt w6 24 #[.int .i64 p1, .int .i64 p2] _ rfl
      have hrg7 := hrg6.alloc (.cells #[.int .i64 p1, .int .i64 p2] 24)
      have hbe : Below w6.heap.size w6 (w6.alloc (.cells #[.int .i64 p1, .int .i64 p2] 24)) := (Below.refl _ _).alloc (Nat.le_refl _) _
      have hsS7 := hsS6.below hbe
      have hA7 := hA6.below hbe
      have hbw7 := hbw6.trans (hbe.mono hbw6.size)
      clear hbe hsS6 hA6 hbw6 hrg6 hen
      generalize w6.alloc (.cells #[.int .i64 p1, .int .i64 p2] 24) = w7 at *
      generalize w6.heap.size = Z at *
      obtain ⟨l0, l1⟩ := keep2 kb (Below.refl _ _)
      have hll := kb.lt
      go_cut [34] (fun v wx => v = .bool false ∧ Below w7.heap.size w7 wx)
      case first =>
        have hkb : Below w7.heap.size w7 w7 := Below.refl _ _
        go_region_held3 (fun w' => w'.cell? ⟨Z, 0, none⟩ = some (.int .i64 p1) ∧ w'.cell? ⟨Z, 1, none⟩ = some (.int .i64 p2)) (first | (refine keep2 kb ?_; go_grown; done))
          (first | (go_at_call 16; with_reducible refine (hlw _).mono ?_; rintro e w8 ⟨rfl, hb⟩; have hkb : Below w7.heap.size w7 w8 := below_call hb (by go_grown) (by first | exact Nat.le_refl _ | exact hkb.size | go_size); clear hb))
        all_goals go_wp2_with fail
        all_goals go_meet
        all_goals exact ⟨rfl, by go_grown⟩
      case rest =>
        obtain ⟨rfl, hb8⟩ := hcut
        have kb8 := kb.under hb8
        have hrg8 := hrg7.kept (grown_of_below hb8) (by simp) (by simp)
        have hsS8 := hsS7.below hb8
        have hA8 := hA7.below hb8
        have hbw8 := hbw7.trans (hb8.mono hbw7.size)
        clear hb8 kb hrg7 hsS7 hA7 hbw7 hlw hneq l0 l1 hll
        generalize wc = w8 at *
        obtain ⟨l0, l1⟩ := keep2 kb8 (Below.refl _ _)
        have hll := kb8.lt
        go_wp2_with fail
        with_reducible refine (hcn _).mono ?_
        rintro e w9 ⟨rfl, m, rfl⟩
        clear hcn
        go_wp2_with fail
        have hdm : Below w8.heap.size w8 (w8.drewN m) := below_dr m (Below.refl _ _)
        refine (cells_any f p1 p2 hf (by omega) (by omega) _ ((HD.out.below hbw8).dr m)).mono ?_
        rintro e w10 ⟨vK, rfl, hK, hb10⟩
        have hb810 : Below w8.heap.size w8 w10 := hdm.trans hb10
        have hrgA := hrg8.kept (grown_of_below hb810) (by simp) (by simp)
        have hsSA := hsS8.below hb810
        have hAA := hA8.below hb810
        have hbwA := hbw8.trans (hb810.mono hbw8.size)
        clear hb10 hdm hb810 hrg8 hsS8 hA8 hbw8 kb8 l0 l1 hll
        have HK := Lib.hid hK
        obtain ⟨pK, cK, hv⟩ := set_slice hK
        clear hK
        have hKl := pos_le f
        rw [← List.length_map (f := cAt p1 p2)] at hKl
        have HF := Lib.hid (show ((Si.pos f 32).map (cAt p1 p2)).length = pcn f 32 by rw [List.length_map, pos_len])
        generalize hKe : (Si.pos f 32).map (cAt p1 p2) = K at *
        clear hKe
        subst hv
        have hAR := HDn.out.1
        have HAR := Lib.hid hAR
        clear hAR
        go_wp2_with fail
        go_loopw [6, 43] (fun s i wr => BbR w10 A K s i wr) (fun _ i _ => K.length - (intOf i).toNat)
        case atStart => exact ⟨0, A, Nat.zero_le _, rfl, hAA, HAR.out, fun c => by simp, Nat.le_refl _, Below.refl _ _⟩
        case round =>
          clear hAA
          obtain ⟨j, A', hj, rfl, hA', hR', hm', hl', hb⟩ := hrel
          have hz := hb.size
          by_cases hlt2 : j < K.length
          · obtain ⟨x, hx⟩ : ∃ x, K[j]? = some x := ⟨_, List.getElem?_eq_getElem hlt2⟩
            rcases HK.out.below hb with ⟨_, hnil⟩ | ⟨g, cap', hv, _, hr⟩
            · subst hnil; simp at hlt2
            · injection hv with hv1 hv2 hv3
              subst hv1 hv3
              clear hv2
              obtain ⟨c0, c1, c2⟩ := hr.1 j x hx
              have hgl := hr.2
              have HM := Lib.hid (show ∀ c, c ∈ ins A' x ↔ c ∈ A ∨ c ∈ K.take (j + 1) from fun c => by
                rw [mem_ins, hm', List.take_add_one, hx, Option.toList_some, List.mem_append, List.mem_singleton]
                constructor
                · rintro (h | h | h)
                  · exact .inr (.inr h)
                  · exact .inl h
                  · exact .inr (.inl h)
                · rintro (h | h | h)
                  · exact .inr (.inl h)
                  · exact .inr (.inr h)
                  · exact .inl h)
              have HR := Lib.hid (rising_ins hR' x)
              have HLn := Lib.hid (ins_len hR' x)
              have HR' := Lib.hid hR'
              have hbe : Below wr.heap.size wr (wr.alloc (.cells #[.int .i64 x.1, .int .i64 x.2.1, .int .i64 x.2.2] 42)) := (Below.refl _ _).alloc (Nat.le_refl _) _
              clear hx hr hm' hR'
              go_wp2_with fail
              refine (told3_any x _).mono ?_
              rintro e w11 ⟨rfl, hb11⟩
              have hA11 := (hA'.below hbe).below hb11
              have hb12 : Below w10.heap.size w10 w11 := (hb.trans (hbe.mono hz)).trans (hb11.mono (by simp; omega))
              clear hb11 c0 c1 c2 hgl hA' hbe hb
              go_wp2_with fail
              refine (refput_any _ A' x _ hA11 HR'.out (by omega)).mono ?_
              rintro e w13 ⟨v13, rfl, hA13, hb13⟩
              have hb14 := hb12.trans (hb13.mono hb12.size)
              clear hb13 hb12 hA11
              go_wp2_with fail
              exact ⟨⟨j + 1, ins A' x, by omega, by go_num, hA13, HR.out, HM.out, by have := HLn.out; omega, hb14⟩, by simp [intOf]; omega⟩
          · obtain rfl : j = K.length := by omega
            rw [List.take_length] at hm'
            obtain ⟨hdn', hln'⟩ := HDS.out A' hR' hm'
            have hrgB := hrgA.kept (grown_of_below hb) (by simp) (by simp)
            have hsSB := hsSA.below hb
            have hbwB := hbwA.trans (hb.mono hbwA.size)
            have hl40 := Nat.le_trans (done_len HSR.out hdn') hS40
            have HDN := Lib.hid hdn'
            have HLN := Lib.hid hln'
            have HRG := Lib.hid hrgB
            clear hdn' hln' hm' hR' hrgA hsSA hbwA hb hz hl'
            go_wp2_with fail
            refine ⟨⟨_, cnt6, A', HRG.out, fun l h => HLH.out l (by simp at h; exact h.1), HDN.out, hA', by rw [HLN.out]; go_num, hsSB, hl40, hbwB⟩, ?_⟩
            rw [HRG.out.left_eq, hrg.left_eq]
            exact hlt
section siteBackFrame
open Go.ChangeShapes Go.WideShapes Go.ChangeAt Go.RowKit Go.Joins
set_option maxRecDepth 100000 in
theorem siteBack_contract (H : Type) (enc : TypeId × Value → H) (W : World) (base : Nat) (args : Array Value) (ds gs : List (DataW H)) (before : List MemPlace)
    (hval : ∀ (j : Nat) t v, Tryd.f5.params[j]? = some t → args[j]? = some v → Value.okWide Tryd.prog W .any base t v)
    (hW : DataW.Whole enc Tryd.prog Tryd.f5.params.toList Rows.siteBackSpec.vars false W args.toList ds gs before) (hL : laidMetH Tryd.prog Rows.siteBackRow.laid W) :
    Calls Tryd.prog 5 args W fun e W' => ∃ v, e = .returned v ∧ Rows.siteBackSpec.post enc Tryd.prog Tryd.f5 false true false false W args v W' := by
  have hW' := hW
  obtain ⟨p, q, hA0, hV, rfl, hfz, hnd⟩ := hW
  have hA : DataW.TrodAll enc Tryd.prog W 0 (fun _ => true) true Tryd.f5.params.toList args.toList ds p := hA0
  rw [Tryd.params5] at hA hval
  obtain ⟨v0, vs0, d0, ds0, p0, q0, hargs, rfl, rfl, h0, r0⟩ := trodAll_cons hA
  obtain ⟨v1, vs1, d1, ds1, p1, q1, rfl, rfl, rfl, h1, r1⟩ := trodAll_cons r0
  obtain ⟨rfl, rfl, rfl⟩ := trodAll_nil r1
  obtain rfl : args = #[v0, v1] := by cases args; simp_all
  obtain ⟨rfl, rfl⟩ := trodVars_none hV
  obtain ⟨n, rfl, rfl, rfl, w_n⟩ := open_int Tryd.underlying3 (hval 0 3 v0 rfl rfl) h0
  obtain ⟨L1, hraw1, hlen1⟩ := open_cells (hval 1 32 v1 rfl rfl) h1
  refine (siteBack_walk n w_n v1 L1 W (deb_of_laid hL) hraw1 hlen1).mono fun e W' ⟨he, hb⟩ => ?_
  exact ⟨_, he, law_post laidOut rfl rfl Tryd.underlying4 (by kernel_rfl) hW' hb ⟨rfl, rfl, rfl⟩⟩
theorem siteBack_met (os : Os) : laidMet Tryd.prog Rows.siteBackRow.laid ((laidWorldT os).forCall (fun _ _ => 0) ⟨#[], #[.int .i64 0, .slice none 0 0], []⟩).memory :=
  laidMet_of_run' 8 (by kernel_rfl) (by kernel_rfl)
theorem siteBack_reads (os : Os) {H : Type} (enc : TypeId × Value → H) : ∃ places, DataW.whole enc Tryd.prog ((laidWorldT os).forCall (fun _ _ => 0) ⟨#[], #[.int .i64 0, .slice none 0 0], []⟩).memory Tryd.f5.params.toList Rows.siteBackSpec.vars false #[(.int .i64 0 : Value), (.slice none 0 0 : Value)].toList 8 = some ([.lit (.int .i64 0), .nil], [], places) :=
  ⟨[], by kernel_rfl⟩
set_option maxRecDepth 100000 in
theorem siteBack_lifted (os : Os) (started : os.Started) (H : Type) (enc : TypeId × Value → H) (F : Stop.Interp) :
    ReturnsInHanded {} Tryd.checked os 5 .any ((OpenSpec.ofChange Rows.siteBackSpec).preRow enc Tryd.prog Tryd.f5 Rows.siteBackRow.domain false Rows.siteBackRow.laid) (((OpenSpec.ofChange Rows.siteBackSpec).at F).post enc Tryd.prog Tryd.f5 false true false false) := by
  obtain ⟨places, hx⟩ := siteBack_reads os enc
  refine returnsInHanded_of_row (C := Tryd.checked) (s := OpenSpec.ofChange Rows.siteBackSpec) own started (by kernel_rfl) Tryd.func5
    (witness_row_at (enc := enc) (C := Tryd.checked) false (laidWorldT os) #[.int .i64 0, .slice none 0 0] rfl (by kernel_rfl) (by kernel_rfl) (by kernel_rfl)
      (OpenSpec.preRow_of_cond 8 hx (by kernel_rfl) (fun k hk => by cases hk) (by kernel_rfl) (siteBack_met os))) ?_
  intro W base args ds gs before hval hW _ _ _ hL _ _
  exact siteBack_contract H enc W base args ds gs before hval hW hL
theorem siteBack_said : Rows.SiteBackSaid :=
  OpenClaim.holds_of_cond 5 Tryd.f5 rfl rfl rfl rfl rfl rfl rfl ⟨rfl, rfl, rfl, rfl, rfl⟩ rfl rfl rfl rfl rfl (by kernel_rfl) Tryd.func5 (by kernel_rfl)
    (of_decide_eq_true (by kernel_rfl)) (by unfold Func.isWrapper; first | (rw [if_pos (by decide +kernel)]; kernel_rfl) | (rw [if_neg (by decide +kernel)]; exact ⟨rfl, rfl⟩))
    (fun os started H enc _ F => by rw [OpenClaim.pre_eq_preRow]; exact siteBack_lifted os started H enc F)
theorem siteBack_plain (f : FuncId) (fn : Func) (hf : Tryd.pinned.checked.prog.funcNamed "honeycomb/honeycomblaw09.SiteBack" = some f) (hfn : Tryd.pinned.checked.prog.funcs[f]? = some fn) :
    false = Tryd.pinned.checked.prog.looks [] ∧ ∀ (j : Nat) t, fn.params[j]? = some t → Tryd.pinned.checked.prog.wantsStandIn t = false := by
  obtain rfl : f = 5 := Option.some.inj ((show Tryd.prog.funcNamed "honeycomb/honeycomblaw09.SiteBack" = some 5 by kernel_rfl).symm.trans hf) |>.symm
  obtain rfl : fn = Tryd.f5 := (Option.some.inj (Tryd.func5.symm.trans hfn)).symm
  refine ⟨by kernel_rfl, fun j t ht => ?_⟩
  have hall : (Tryd.f5.params.toList.all fun t => !Tryd.prog.wantsStandIn t) = true := by kernel_rfl
  have hm : t ∈ Tryd.f5.params.toList := by simpa using Array.mem_of_getElem? ht
  have := List.all_eq_true.1 hall t hm
  exact (show Tryd.prog.wantsStandIn t = false by simpa using this)
end siteBackFrame
/-- SiteBack: the card: for every input the law answers true. -/
theorem siteBack_card : Rows.SiteBackCardSaid :=
  Claim7.holds_tied_plain_at .later [] _ _ _ _ siteBack_said (fun _ h => by cases h) (by kernel_rfl) (fun _ h => by cases h) siteBack_row_tie rfl ⟨rfl, rfl⟩ (by kernel_rfl) rfl siteBack_plain (by kernel_rfl)
end Go.Proofs.YtnabbeconabbnaaDoor.Si
namespace Go.Proofs.YtnabbeconabbnaaDoor
theorem siteBack_proved : Rows.SiteBackCardSaid := Si.siteBack_card
#print axioms siteBack_proved
end Go.Proofs.YtnabbeconabbnaaDoor
