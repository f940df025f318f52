/- Several texts, joined. -/
import Derived.Test.YtcmfkdhadmfgkaaDoorFlG
import Derived.Test.YtcmfkdhadmfgkaaDoorTbC5
import Derived.Test.YtcmfkdhadmfgkaaDoorCeW13
import Derived.Test.YtcmfkdhadmfgkaaDoorFlS1
import Derived.Test.YtcmfkdhadmfgkaaDoorSeR2
import Derived.Test.YtcmfkdhadmfgkaaDoorCeW12
import Derived.Deep.RegionHeld3
import Derived.Deep.DeepCutAuto
import Derived.Test.YtcmfkdhadmfgkaaDoorFlS3
/- The neighbourhood of a hexagon, one of the six after the other; the document's Next and ours. -/
namespace Go.Proofs.YtcmfkdhadmfgkaaDoor.Fl
open Go.RowKit Go.Proofs.YtcmfkdhadmfgkaaDoor.Ax Go.Lib
open Go.Proofs.YtcmfkdhadmfgkaaDoor.Ce (sh allG besAll sX sY)
open Go.Proofs.YtcmfkdhadmfgkaaDoor.Tb (nextB)

theorem sum_ite (f : C → Nat) (p : C → Bool) : ∀ L : List C, ((L.filter p).map f).sum = (L.map fun e => if p e = true then f e else 0).sum
  | [] => rfl
  | c :: L => by
    rw [List.filter_cons]
    cases h : p c
    · simp [h, sum_ite f p L]
    · simp [h, sum_ite f p L]
/-- The hexagons' ring, the first of them counted. -/
def hexN (S : List C) (a b : Int) : Nat → Nat
  | 0 => 0
  | k + 1 => hexN S a b k + if decide ((a + sX k, b + sY k, (0 : Int)) ∈ S) = true then 2 ^ k else 0
theorem hexN_lt (S : List C) (a b : Int) : ∀ k, hexN S a b k < 2 ^ k
  | 0 => by simp [hexN]
  | k + 1 => by
    have := hexN_lt S a b k
    rw [Nat.pow_succ]
    unfold hexN
    split <;> omega
theorem bes_hex : besAll 1 0 0 0 = [(0, -1, 0), (1, -1, 0), (-1, 0, 0), (1, 0, 0), (-1, 1, 0), (0, 1, 0)] := by decide +kernel
theorem nb_hex (S : List C) (a b : Int) : nbC 1 S (a, b, 0) = hexN S a b 6 := by
  unfold nbC
  rw [besC_at, bes_hex, sum_ite]
  simp only [List.map_cons, List.map_nil, sh, List.sum_cons, List.sum_nil, hexN]
  have e : ∀ x y : Int, shareN 1 (a + x, b + y, 0) (a, b, 0) = 2 ^ sixIx x y := fun x y => by
    unfold shareN
    rw [if_pos rfl, show a + x - a = x by omega, show b + y - b = y by omega]
  rw [e, e, e, e, e, e]
  rw [show sixIx 0 (-1) = 4 by decide, show sixIx 1 (-1) = 5 by decide, show sixIx (-1) 0 = 3 by decide, show sixIx 1 0 = 0 by decide, show sixIx (-1) 1 = 2 by decide, show sixIx 0 1 = 1 by decide]
  rw [show sX 0 = 1 from rfl, show sX 1 = 0 from rfl, show sX 2 = -1 from rfl, show sX 3 = -1 from rfl, show sX 4 = 0 from rfl, show sX 5 = 1 from rfl, show sY 0 = 0 from rfl, show sY 1 = 1 from rfl, show sY 2 = 1 from rfl, show sY 3 = 0 from rfl, show sY 4 = -1 from rfl, show sY 5 = -1 from rfl]
  omega
theorem next_nx {b0 b1 s0 s1 : Nat} {l : Int} {c : C} (hc : valid l c) (live : Bool) {n : Nat} (hn : n < 64) : nextB b0 b1 s0 s1 c.2.2 live (n : Int) = nxT b0 b1 s0 s1 c.2.2 live n := by
  have h0 := hc.1
  have h1 := hc.2
  unfold nextB nxT
  rw [if_neg (by split at h1 <;> omega), show ((n : Int)).toNat = n by omega]
end Go.Proofs.YtcmfkdhadmfgkaaDoor.Fl

/- The document's own neighbourhood. -/
namespace Go.Proofs.YtcmfkdhadmfgkaaDoor.Fl
open Go.RowKit Go.Proofs.YtcmfkdhadmfgkaaDoor.Ax Go.Lib
open Go.Proofs.YtcmfkdhadmfgkaaDoor.Ba (Blk)
open Go.Proofs.YtcmfkdhadmfgkaaDoor.Ce (sX sY nearB near_any)
open Go.Proofs.YtcmfkdhadmfgkaaDoor.Se (SetAt Rising refhas_any)

/-- The six differences, as rows of two. -/
structure SixRows (w : World) (B : Nat) : Prop where
  row : ∀ i, i < 6 → Blk w (B + i) 2 #[.int .i64 (sX i), .int .i64 (sY i)]
  all : Blk w (B + 6) 123 #[.slice (some ⟨B, 0, none⟩) 2 2, .slice (some ⟨B + 1, 0, none⟩) 2 2, .slice (some ⟨B + 2, 0, none⟩) 2 2, .slice (some ⟨B + 3, 0, none⟩) 2 2, .slice (some ⟨B + 4, 0, none⟩) 2 2, .slice (some ⟨B + 5, 0, none⟩) 2 2]
theorem SixRows.under {w w' : World} {B : Nat} (h : SixRows w B) (hb : Below w.heap.size w w') : SixRows w' B := ⟨fun i hi => (h.row i hi).under hb, h.all.under hb⟩
theorem SixRows.at_ {w : World} {B i : Nat} (h : SixRows w B) (hi : i < 6) : w.cell? ⟨B + 6, i, none⟩ = some (.slice (some ⟨B + i, 0, none⟩) 2 2) := by
  rw [h.all.cell]
  have : i = 0 ∨ i = 1 ∨ i = 2 ∨ i = 3 ∨ i = 4 ∨ i = 5 := by omega
  rcases this with rfl | rfl | rfl | rfl | rfl | rfl <;> rfl
theorem SixRows.lt {w : World} {B : Nat} (h : SixRows w B) : B + 6 < w.heap.size := h.all.lt
theorem six_made (w : World) (n : Nat) (hn : n = w.heap.size) : SixRows (((((((w.alloc (.cells #[.int .i64 1, .int .i64 0] 2)).alloc (.cells #[.int .i64 0, .int .i64 1] 2)).alloc (.cells #[.int .i64 (-1), .int .i64 1] 2)).alloc (.cells #[.int .i64 (-1), .int .i64 0] 2)).alloc (.cells #[.int .i64 0, .int .i64 (-1)] 2)).alloc (.cells #[.int .i64 1, .int .i64 (-1)] 2)).alloc
    (.cells #[.slice (some ⟨n, 0, none⟩) 2 2, .slice (some ⟨n + 1, 0, none⟩) 2 2, .slice (some ⟨n + 2, 0, none⟩) 2 2, .slice (some ⟨n + 3, 0, none⟩) 2 2, .slice (some ⟨n + 4, 0, none⟩) 2 2, .slice (some ⟨n + 5, 0, none⟩) 2 2] 123)) n := by
  subst hn
  refine ⟨fun i hi => ?_, Blk.newAt _ _ _ _ (by simp)⟩
  have : i = 0 ∨ i = 1 ∨ i = 2 ∨ i = 3 ∨ i = 4 ∨ i = 5 := by omega
  rcases this with rfl | rfl | rfl | rfl | rfl | rfl
  · exact ((((((Blk.newAt _ _ _ _ (by simp)).alloc _).alloc _).alloc _).alloc _).alloc _).alloc _
  · exact (((((Blk.newAt _ _ _ _ (by simp)).alloc _).alloc _).alloc _).alloc _).alloc _
  · exact ((((Blk.newAt _ _ _ _ (by simp)).alloc _).alloc _).alloc _).alloc _
  · exact (((Blk.newAt _ _ _ _ (by simp)).alloc _).alloc _).alloc _
  · exact ((Blk.newAt _ _ _ _ (by simp)).alloc _).alloc _
  · exact (Blk.newAt _ _ _ _ (by simp)).alloc _
theorem six_bd2 (i : Nat) : (-1 ≤ sX i ∧ sX i ≤ 1) ∧ (-1 ≤ sY i ∧ sY i ≤ 1) := by
  unfold sX sY
  split <;> decide
theorem keepRow {W w' : World} {B i P : Nat} {a b h x y : Int} (kr : Blk W (B + i) 2 #[.int .i64 x, .int .i64 y]) (kp : Blk W P 67 #[.int .i64 a, .int .i64 b, .int .i64 h]) (hb : Below W.heap.size W w') :
    w'.cell? ⟨B + i, 0, none⟩ = some (.int .i64 x) ∧ w'.cell? ⟨B + i, 1, none⟩ = some (.int .i64 y) ∧ w'.cell? ⟨P, 0, none⟩ = some (.int .i64 a) ∧ w'.cell? ⟨P, 1, none⟩ = some (.int .i64 b) ∧ w'.cell? ⟨P, 2, none⟩ = some (.int .i64 h) :=
  ⟨(kr.under hb).cell 0, (kr.under hb).cell 1, (kp.under hb).cell 0, (kp.under hb).cell 1, (kp.under hb).cell 2⟩
def HnR (w : World) (S : List C) (a b : Int) (t7 t9 t25 : Value) (wr : World) : Prop :=
  ∃ i : Nat, i ≤ 6 ∧ t25 = .int .i64 i ∧ t9 = .int .i64 ((2 ^ i : Nat) : Int) ∧ t7 = .int .i64 (hexN S a b i) ∧ Below w.heap.size w wr
theorem pow6 {i : Nat} (h : i ≤ 6) : 1 ≤ 2 ^ i ∧ 2 ^ i ≤ 64 := by
  have : i = 0 ∨ i = 1 ∨ i = 2 ∨ i = 3 ∨ i = 4 ∨ i = 5 ∨ i = 6 := by omega
  rcases this with rfl | rfl | rfl | rfl | rfl | rfl | rfl <;> decide
set_option maxRecDepth 100000 in
set_option maxHeartbeats 4000000 in
theorem refnb_hex (v : Value) (S : List C) (a b : Int) (w : World) (h : SetAt w v S) (hL : S.length ≤ 2000) (ha : -1000000 ≤ a ∧ a ≤ 1000000) (hb : -1000000 ≤ b ∧ b ≤ 1000000) :
    Calls Tryd.prog 63 #[.int .i64 1, v, .agg #[.int .i64 a, .int .i64 b, .int .i64 0]] w fun e w' => e = .returned (.int .i64 (nbC 1 S (a, b, 0) : Nat)) ∧ Below w.heap.size w w' := by
  rw [nb_hex]
  go_enter Tryd.func63, Tryd.ntmps63
  go_upto_region 3 with fail
  have kc := Blk.newAt w 67 #[.int .i64 a, .int .i64 b, .int .i64 0] _ rfl
  have hb0 : Below w.heap.size w (w.alloc (.cells #[.int .i64 a, .int .i64 b, .int .i64 0] 67)) := (Below.refl _ _).alloc (Nat.le_refl _) _
  have h0 := h.below hb0
  clear h
  generalize w.alloc (.cells #[.int .i64 a, .int .i64 b, .int .i64 0] 67) = w0 at *
  go_cut [8] (fun t8 wx => t8 = .slice (some ⟨w0.heap.size + 6, 0, none⟩) 6 6 ∧ SixRows wx w0.heap.size ∧ Below w0.heap.size w0 wx)
  case first =>
    go_wp2
    go_meet
    exact ⟨rfl, six_made w0 _ rfl, by go_grown⟩
  case rest =>
    obtain ⟨rfl, hr, hbc⟩ := hcut
    have h1 := h0.below hbc
    have kc1 := kc.under hbc
    have hb1 := hb0.trans (hbc.mono hb0.size)
    have hbw := hb1.size
    generalize wc = w1 at *
    clear hb0 kc h0 hbc
    go_wp2_with fail
    go_loopw [7, 9, 25] (fun t7 t9 t25 wr => HnR w1 S a b t7 t9 t25 wr) (fun _ _ t25 _ => 6 - (intOf t25).toNat)
    case atStart => exact ⟨0, by omega, rfl, rfl, rfl, Below.refl _ _⟩
    case round =>
      obtain ⟨i, hi, rfl, rfl, rfl, hbr⟩ := hrel
      have hz := hbr.size
      by_cases hlt : i < 6
      · have hr2 := hr.under hbr
        have kc2 := kc1.under hbr
        have c25 := hr2.at_ hlt
        have hrl := hr2.lt
        have kr := hr2.row i hlt
        obtain ⟨r0, r1, p0, p1, p2⟩ := keepRow kr kc2 (Below.refl _ _)
        have hkl := kr.lt
        have hpl := kc2.lt
        obtain ⟨⟨x1, x2⟩, y1, y2⟩ := six_bd2 i
        have hha := fun W hW => refhas_any v S (a + sX i, b + sY i, 0) W hW (by omega)
        have hpw := pow6 hi
        have hx := hexN_lt S a b i
        have HN1 := Lib.hid (show hexN S a b (i + 1) = hexN S a b i + if decide ((a + sX i, b + sY i, (0 : Int)) ∈ S) = true then 2 ^ i else 0 from rfl)
        have HP := Lib.hid (show (2 ^ (i + 1) : Nat) = 2 * 2 ^ i by rw [Nat.pow_succ, Nat.mul_comm])
        have h2 := h1.below hbr
        generalize hexN S a b i = N at *
        generalize (2 ^ i : Nat) = E at *
        generalize sX i = x at *
        generalize sY i = y at *
        generalize w0.heap.size = B at *
        have e1 : IntKind.i64.wrap (a + x) = a + x := IntWalk.i64_in _ (by omega)
        have e2 : IntKind.i64.wrap (b + y) = b + y := IntWalk.i64_in _ (by omega)
        clear hr2 kc1 hr h1 x1 x2 y1 y2
        go_wp2_with fail
        have hkb : Below wr.heap.size wr wr := Below.refl _ _
        cases g : decide ((a + x, b + y, (0 : Int)) ∈ S)
        all_goals
          rw [g] at hha HN1
          have G := Lib.hid g
          clear g
          go_region_held3 (fun w' => w'.cell? ⟨B + i, 0, none⟩ = some (.int .i64 x) ∧ w'.cell? ⟨B + i, 1, none⟩ = some (.int .i64 y) ∧ w'.cell? ⟨w.heap.size, 0, none⟩ = some (.int .i64 a) ∧ w'.cell? ⟨w.heap.size, 1, none⟩ = some (.int .i64 b) ∧ w'.cell? ⟨w.heap.size, 2, none⟩ = some (.int .i64 0)) (first | (refine keepRow kr kc2 ?_; go_grown; done))
            (first | (go_at_call 45; refine (hha _ (h2.below (by go_grown))).mono ?_; rintro e wH ⟨rfl, hbH⟩; have hkb : Below wr.heap.size wr wH := Ba.below_call hbH (by go_grown) (by first | exact hkb.size | go_size); clear hbH))
          all_goals
            go_wp2_with fail
            go_roundw
            case rel => exact ⟨i + 1, by omega, by go_num, by rw [HP.out]; go_num, by rw [HN1.out]; go_num, hbr.trans (hkb.mono hz)⟩
            case measure => simp [intOf]; omega
      · obtain rfl : i = 6 := by omega
        clear hr kc1 h1
        go_wp2_with fail
        go_ret
        exact ⟨rfl, hb1.trans (hbr.mono hb1.size)⟩
def CnR (w : World) (l : Int) (S : List C) (c : C) (t7 t53 : Value) (wr : World) : Prop :=
  ∃ k : Nat, k ≤ S.length ∧ t53 = .int .i64 k ∧ t7 = .int .i64 (cntN l S c k : Nat) ∧ Blk wr w.heap.size 67 #[.int .i64 c.1, .int .i64 c.2.1, .int .i64 c.2.2] ∧ Below w.heap.size w wr
theorem not_bes {l : Int} (hl : l = 1 ∨ l = 2 ∨ l = 3) {c d : C} (hc : valid l c) (h : ¬ ((-1 ≤ d.1 - c.1 ∧ d.1 - c.1 ≤ 1) ∧ (-1 ≤ d.2.1 - c.2.1 ∧ d.2.1 - c.2.1 ≤ 1))) : decide (d ∈ besC l c) = false := by
  rw [decide_eq_false_iff_not]
  exact fun hm => h (bes_mem hl hc hm).2.2
set_option maxRecDepth 100000 in
set_option maxHeartbeats 4000000 in
theorem refnb_tri (l : Int) (hl : l = 2 ∨ l = 3) (v : Value) (S : List C) (c : C) (w : World) (h : SetAt w v S) (hL : S.length ≤ 2000) (hc : valid l c) (hv : ∀ d ∈ S, valid l d) (hn : S.Nodup) (hw : Wi 1000 S) (ha : -1000000 ≤ c.1 ∧ c.1 ≤ 1000000) (hb : -1000000 ≤ c.2.1 ∧ c.2.1 ≤ 1000000) :
    Calls Tryd.prog 63 #[.int .i64 l, v, .agg #[.int .i64 c.1, .int .i64 c.2.1, .int .i64 c.2.2]] w fun e w' => e = .returned (.int .i64 (nbC l S c : Nat)) ∧ Below w.heap.size w w' := by
  rw [nb_cnt hl hn hv hc]
  have HU := Lib.hid h
  have hl3 : l = 1 ∨ l = 2 ∨ l = 3 := by omega
  have hl1 : (l == 1) = false := by simp; omega
  have key : ∀ v, SetAt w v S → ∃ p cap, v = .slice p S.length cap := by
    rintro v (⟨rfl, rfl⟩ | ⟨g, cap, rfl, _, _⟩)
    · exact ⟨none, 0, rfl⟩
    · exact ⟨_, _, rfl⟩
  obtain ⟨p, cap, rfl⟩ := key v h
  have HL := Lib.hid hl3
  have HV := Lib.hid hv
  have HW := Lib.hid hw
  have HC0 := Lib.hid hc
  clear h key hl hl3 hv hn hw hc
  go_enter Tryd.func63, Tryd.ntmps63
  go_wp2_with fail
  have k0 := Blk.newAt w 67 #[.int .i64 c.1, .int .i64 c.2.1, .int .i64 c.2.2] _ rfl
  have hb0 : Below w.heap.size w (w.alloc (.cells #[.int .i64 c.1, .int .i64 c.2.1, .int .i64 c.2.2] 67)) := (Below.refl _ _).alloc (Nat.le_refl _) _
  go_loopw [7, 53] (fun t7 t53 wr => CnR w l S c t7 t53 wr) (fun _ t53 _ => S.length - (intOf t53).toNat)
  case atStart => exact ⟨0, Nat.zero_le _, rfl, by simp [cntN], k0, hb0⟩
  case round =>
    clear k0 hb0
    obtain ⟨k, hk, rfl, rfl, kc, hbr⟩ := hrel
    have hz := hbr.size
    by_cases hlt : k < S.length
    · obtain ⟨d, hd⟩ : ∃ d, S[k]? = some d := ⟨_, List.getElem?_eq_getElem hlt⟩
      rcases HU.out.below hbr with ⟨_, hnil⟩ | ⟨g, cp, hv, _, hr⟩
      · subst hnil; simp at hlt
      · injection hv with hv1 hv2 hv3
        subst hv1 hv3
        clear hv2
        obtain ⟨c0, c1, c2⟩ := hr.1 k d hd
        obtain ⟨d0, d1, d2⟩ := Se.keepB kc (Below.refl _ _)
        have hgl := hr.2
        have hcl := kc.lt
        have hdm := List.mem_of_getElem? hd
        obtain ⟨⟨m1, m2⟩, m3, m4⟩ := HW.out d hdm
        have HC := Lib.hid (cntN_succ (l := l) (c := c) hd)
        have hcl2 := cntN_le l S c k
        have HD := Lib.hid (HV.out d hdm)
        clear hd hr hdm
        by_cases h1 : d.1 - c.1 ≤ 1
        · by_cases h2 : c.1 - d.1 ≤ 1
          · by_cases h3 : d.2.1 - c.2.1 ≤ 1
            · by_cases h4 : c.2.1 - d.2.1 ≤ 1
              · have hne := near_bes HL.out HC0.out HD.out (by omega) (by omega)
                have hnr := fun W => near_any l c.1 c.2.1 c.2.2 d.1 d.2.1 d.2.2 W HL.out (by omega) (by omega) (by omega) (by omega) _ hne
                clear hne
                cases g2 : decide (d ∈ besC l c)
                all_goals
                  rw [g2] at hnr
                  have G := Lib.hid g2
                  clear g2
                  go_wp2_with fail
                  refine (hnr _).mono ?_
                  rintro e wN ⟨rfl, hbN⟩
                  have hbx := Ba.below_call (B := w.heap.size) (w := w) hbN (by go_grown) (by go_size)
                  have kcx := (kc.alloc (.cells #[.int .i64 d.1, .int .i64 d.2.1, .int .i64 d.2.2] 67)).under hbN
                  clear hnr hbN
                  go_wp2_with fail
                  go_roundw
                  case rel => exact ⟨k + 1, by omega, by go_num, by rw [HC.out, G.out]; go_num, kcx, hbx⟩
                  case measure => simp [intOf]; omega
              · have G := Lib.hid (not_bes HL.out HC0.out (d := d) (by omega))
                (go_wp2_with fail; go_roundw; (case rel => exact ⟨k + 1, by omega, by go_num, by rw [HC.out, G.out]; simp, kc.alloc _, by go_grown⟩); (case measure => simp [intOf]; omega))
            · have G := Lib.hid (not_bes HL.out HC0.out (d := d) (by omega))
              (go_wp2_with fail; go_roundw; (case rel => exact ⟨k + 1, by omega, by go_num, by rw [HC.out, G.out]; simp, kc.alloc _, by go_grown⟩); (case measure => simp [intOf]; omega))
          · have G := Lib.hid (not_bes HL.out HC0.out (d := d) (by omega))
            (go_wp2_with fail; go_roundw; (case rel => exact ⟨k + 1, by omega, by go_num, by rw [HC.out, G.out]; simp, kc.alloc _, by go_grown⟩); (case measure => simp [intOf]; omega))
        · have G := Lib.hid (not_bes HL.out HC0.out (d := d) (by omega))
          (go_wp2_with fail; go_roundw; (case rel => exact ⟨k + 1, by omega, by go_num, by rw [HC.out, G.out]; simp, kc.alloc _, by go_grown⟩); (case measure => simp [intOf]; omega))
    · obtain rfl : k = S.length := by omega
      go_wp2_with fail
      go_ret
      exact ⟨rfl, hbr⟩
end Go.Proofs.YtcmfkdhadmfgkaaDoor.Fl

/- The document's own next generation, and so many. -/
namespace Go.Proofs.YtcmfkdhadmfgkaaDoor.Fl
open Go.RowKit Go.Proofs.YtcmfkdhadmfgkaaDoor.Ax Go.Lib
open Go.Proofs.YtcmfkdhadmfgkaaDoor.Ba (Blk)
open Go.Proofs.YtcmfkdhadmfgkaaDoor.Se (SetAt Rising ofL flat set_own flat_app one_flat flat_len news1 refof_any refhas_any)
open Go.Proofs.YtcmfkdhadmfgkaaDoor.Tb (RT nextB refnext_any)

theorem refnb_any (l : Int) (hl : l = 1 ∨ l = 2 ∨ l = 3) (v : Value) (S : List C) (c : C) (w : World) (h : SetAt w v S) (hL : S.length ≤ 2000) (hc : valid l c) (hv : ∀ d ∈ S, valid l d) (hn : S.Nodup) (hw : Wi 1000 S) (ha : -1000000 ≤ c.1 ∧ c.1 ≤ 1000000) (hb : -1000000 ≤ c.2.1 ∧ c.2.1 ≤ 1000000) :
    Calls Tryd.prog 63 #[.int .i64 l, v, .agg #[.int .i64 c.1, .int .i64 c.2.1, .int .i64 c.2.2]] w fun e w' => e = .returned (.int .i64 (nbC l S c : Nat)) ∧ Below w.heap.size w w' := by
  by_cases h1 : l = 1
  · subst h1
    obtain ⟨a, b, k⟩ := c
    obtain rfl : k = 0 := by unfold valid at hc; simp at hc; omega
    exact refnb_hex v S a b w h hL ha hb
  · exact refnb_tri l (by omega) v S c w h hL hc hv hn hw ha hb
theorem PlAt.grown {w w' : World} {base n size B : Nat} {v u : Value} {Q : List PL} {xs : List Value} (h : PlAt w base v Q) (ho : w.ownsRow B 67 size u n xs) (hgr : w.grownBy w' u.ownBlock) : PlAt w' base v Q := by
  obtain ⟨G, h1, h2, h3⟩ := h
  refine ⟨G, h1, ?_, fun i g p hg hp => (h3 i g p hg hp).grown hgr (Ba.own_blk_ne ho (h3 i g p hg hp) (by decide))⟩
  refine ⟨h2.1, ?_⟩
  rcases h2.2 with hn | ⟨g, cap, cur, hv, hbs, hg, rest⟩
  · exact .inl hn
  · have hlt : g < w.heap.size := by
      rcases Nat.lt_or_ge g w.heap.size with h' | h'
      · exact h'
      · rw [Array.getElem?_eq_none h'] at hg; cases hg
    refine .inr ⟨g, cap, cur, hv, hbs, (hgr.block g hlt (fun he => ?_)).trans hg, rest⟩
    rcases ho.2 with ⟨rfl, _⟩ | ⟨g', cap', cur', rfl, _, hh, _⟩
    · simp [Value.ownBlock] at he
    · have : g = g' := by simpa [Value.ownBlock] using he
      subst this
      rw [hg] at hh
      injection hh with hh
      injection hh with _ ht
      exact absurd ht (by decide)
theorem gen_yes {nx : Int → Bool → Nat → Bool} {l : Int} {S : List C} {c : C} (h : c.2.2 = 0 ∨ 1 < l) : genB nx l S c = nx c.2.2 (decide (c ∈ S)) (nbC l S c) := by
  unfold genB
  rcases h with h | h <;> simp [h]
theorem gen_no {nx : Int → Bool → Nat → Bool} {l : Int} {S : List C} {c : C} (h0 : c.2.2 ≠ 0) (h : ¬ 1 < l) : genB nx l S c = false := by
  unfold genB
  simp [h0, h]
theorem keep11 {W w' : World} {A B l g : Nat} {a b h : Int} (kt : Blk W A 57 #[.int .i64 l, .slice (some ⟨g, 1, none⟩) 2 2, .slice (some ⟨g, 3, none⟩) 2 2]) (kp : Blk W B 67 #[.int .i64 a, .int .i64 b, .int .i64 h]) (hb : Below W.heap.size W w') :
    (w'.cell? ⟨A, 0, none⟩ = some (.int .i64 l) ∧ w'.cell? ⟨A, 1, none⟩ = some (.slice (some ⟨g, 1, none⟩) 2 2) ∧ w'.cell? ⟨A, 2, none⟩ = some (.slice (some ⟨g, 3, none⟩) 2 2)) ∧ w'.cell? ⟨B, 0, none⟩ = some (.int .i64 a) ∧ w'.cell? ⟨B, 1, none⟩ = some (.int .i64 b) ∧ w'.cell? ⟨B, 2, none⟩ = some (.int .i64 h) :=
  ⟨⟨(kt.under hb).cell 0, (kt.under hb).cell 1, (kt.under hb).cell 2⟩, (kp.under hb).cell 0, (kp.under hb).cell 1, (kp.under hb).cell 2⟩
/-- The table's box, as the document's Step has it. -/
abbrev TB (l g : Nat) : Array Value := #[.int .i64 l, .slice (some ⟨g, 1, none⟩) 2 2, .slice (some ⟨g, 3, none⟩) 2 2]
def So1 (w : World) (nx : Int → Bool → Nat → Bool) (l g : Nat) (S : List C) (Q : List PL) (v16 t5 t18 : Value) (wr : World) : Prop :=
  ∃ k : Nat, k ≤ Q.length ∧ t18 = .int .i64 k ∧ wr.ownsRow (w.heap.size + 1) 67 3 t5 (outP nx l S (Q.take k)).length (flat (outP nx l S (Q.take k))) ∧ Blk wr w.heap.size 57 (TB l g) ∧ PlAt wr 0 v16 Q ∧ Below w.heap.size w wr
def So2 (w : World) (nx : Int → Bool → Nat → Bool) (l g : Nat) (S : List C) (Q : List PL) (p : PL) (O : List C) (v16 : Value) (qg : Nat) (t5 t8 : Value) (wr : World) : Prop :=
  ∃ m : Nat, m ≤ 2 ∧ t8 = .int .i64 m ∧ wr.ownsRow (w.heap.size + 1) 67 3 t5 (O ++ ptP nx l S p m).length (flat (O ++ ptP nx l S p m)) ∧ Blk wr w.heap.size 57 (TB l g) ∧ PlAt wr 0 v16 Q ∧ Blk wr qg 2 #[.int .i64 p.1, .int .i64 p.2] ∧ Below w.heap.size w wr
set_option maxRecDepth 100000 in
set_option maxHeartbeats 8000000 in
theorem refstep_any (l b0 b1 s0 s1 : Nat) (hg : Good l b0 b1 s0 s1) (g : Nat) (v : Value) (S : List C) (w : World) (kg : Blk w g 47 (TabC l b0 b1 s0 s1)) (h : SetAt w v S) (hR : Rising S) (hv : ∀ d ∈ S, valid l d) (hL : S.length ≤ 2000) (hw : Wi 13 S) :
    Calls Tryd.prog 32 #[RT l g, v] w fun e w' => ∃ v' R, e = .returned v' ∧ SetAt w' v' R ∧ Stp (nxT b0 b1 s0 s1) l S R ∧ R.length ≤ 2000 ∧ Below w.heap.size w w' := by
  obtain ⟨i0, hi0, hz0, hz1, hz2⟩ := info_parts Se.raw_info
  have HU := Lib.hid h
  have key : ∀ v, SetAt w v S → ∃ p cap, v = .slice p S.length cap := by
    rintro v (⟨rfl, rfl⟩ | ⟨g, cap, rfl, _, _⟩)
    · exact ⟨none, 0, rfl⟩
    · exact ⟨_, _, rfl⟩
  obtain ⟨p, cap, rfl⟩ := key v h
  clear h key
  have hbare := bare_of hg.ok
  have HB := Lib.hid hbare
  have hown0 := World.ownsRow_made (base := w.heap.size + 1) (e := 67) (size := 3) (w.alloc (.cells (TB l g) 57)) #[] 0 (by simp) (Nat.zero_le _) (by simp)
  have kt0 := (Blk.newAt w 57 (TB l g) _ rfl).alloc (.cells #[] 67)
  have hb0 : Below w.heap.size w ((w.alloc (.cells (TB l g) 57)).alloc (.cells #[] 67)) := ((Below.refl _ _).alloc (Nat.le_refl _) _).alloc (by simp) _
  clear hbare
  by_cases hS : S.length = 0
  · obtain rfl : S = [] := List.eq_nil_of_length_eq_zero hS
    have hset := Se.set_own (L := []) (by simpa [flat] using hown0)
    go_enter Tryd.func32, Tryd.ntmps32
    go_wp2_with fail
    go_ret
    exact ⟨_, [], rfl, hset, stp_nil HB.out, by simp, hb0⟩
  · obtain ⟨s, hs⟩ : ∃ s, S[0]? = some s := ⟨_, List.getElem?_eq_getElem (by omega)⟩
    have hpl := fun W hW => places_any (.slice p S.length cap) S s W hW hs hL hw
    have hz0' : ((S.length : Int) == 0) = false := by rw [beq_eq_false_iff_ne]; omega
    have hsm := List.mem_of_getElem? hs
    have hql := plS_len hsm hw
    have hpb : ∀ q ∈ plS s S, (-100 ≤ q.1 ∧ q.1 ≤ 100) ∧ (-100 ≤ q.2 ∧ q.2 ≤ 100) := fun q hq => by
      have h1 := mem_plS.1 hq
      have h0 := hw s hsm
      have a1 := mnL_bd fA S s.1 (m := -13) (fun c hc => (hw c hc).1.1) (by omega)
      have a2 := mxL_bd fA S s.1 (m := 13) (fun c hc => (hw c hc).1.2) (by omega)
      have b1 := mnL_bd fB S s.2.1 (m := -13) (fun c hc => (hw c hc).2.1) (by omega)
      have b2 := mxL_bd fB S s.2.1 (m := 13) (fun c hc => (hw c hc).2.2) (by omega)
      omega
    have hst := stp_out (S := S) hg.latI HB.out s
    have HST := Lib.hid hst
    have HPB := Lib.hid hpb
    generalize plS s S = Q at *
    have HV := Lib.hid hv
    have HW := Lib.hid hw
    have HR := Lib.hid hR
    have HG := Lib.hid hg
    have HK := Lib.hid kg
    clear hs hsm hst hpb hv hw hR hg
    go_enter Tryd.func32, Tryd.ntmps32
    go_wp2_with fail
    refine (hpl _ (HU.out.below hb0)).mono ?_
    rintro e w1 ⟨v16, rfl, hq, hb1⟩
    have hb2 := hb0.trans (hb1.mono hb0.size)
    have kt1 := kt0.under hb1
    have hown1 := Ba.own_below hown0 hb1
    have hq1 := hq.low (Nat.zero_le _)
    clear hpl hb0 hb1 kt0 hown0 hq
    have key : ∃ p cap, v16 = .slice p Q.length cap := by
      obtain ⟨G, _, h2, _⟩ := hq1
      rcases h2.2 with ⟨rfl, h3⟩ | ⟨g, cap, cur, rfl, _⟩
      · have : Q = [] := List.eq_nil_of_length_eq_zero h3
        subst this
        exact ⟨_, _, rfl⟩
      · exact ⟨_, _, rfl⟩
    obtain ⟨p16, cap16, rfl⟩ := key
    go_wp2_with fail
    go_loopw [5, 7, 8, 9, 18] (fun t5 _ _ _ t18 wr => So1 w (nxT b0 b1 s0 s1) l g S Q (.slice p16 Q.length cap16) t5 t18 wr) (fun _ _ _ _ t18 _ => Q.length - (intOf t18).toNat)
    case atStart => exact ⟨0, Nat.zero_le _, rfl, by simpa [outP, flat] using hown1, kt1, hq1, hb2⟩
    case round =>
      clear kt1 hown1 hq1 hb2
      obtain ⟨k, hk, rfl, hown, kt, hq, hb⟩ := hrel
      by_cases hlt : k < Q.length
      · obtain ⟨q, hqk⟩ : ∃ q, Q[k]? = some q := ⟨_, List.getElem?_eq_getElem hlt⟩
        obtain ⟨qa, qc, qg, hqv, hqal, hqc, kq⟩ := hq.at_ hqk
        injection hqv with hq1 hq2 hq3
        subst hq1 hq3
        have HPQ := Lib.hid (HPB.out q (List.mem_of_getElem? hqk))
        have HOA := Lib.hid (show outP (nxT b0 b1 s0 s1) l S (Q.take (k + 1)) = outP (nxT b0 b1 s0 s1) l S (Q.take k) ++ ptP (nxT b0 b1 s0 s1) l S q 2 by rw [List.take_add_one, hqk]; exact outP_app _ _)
        have HOL := Lib.hid (show (outP (nxT b0 b1 s0 s1) l S (Q.take k)).length ≤ 1682 from Nat.le_trans (outP_len _) (by rw [List.length_take]; omega))
        clear hqk
        generalize hO : outP (nxT b0 b1 s0 s1) l S (Q.take k) = O at *
        clear hO
        go_wp2_with fail
        go_loopw [5, 8, 9] (fun t5 t8 _ wr => So2 w (nxT b0 b1 s0 s1) l g S Q q O (.slice (some ⟨qa, 0, none⟩) Q.length cap16) qg t5 t8 wr) (fun _ t8 _ _ => 2 - (intOf t8).toNat)
        case atStart => exact ⟨0, by omega, rfl, by simpa [ptP] using hown, kt, hq, kq, hb⟩
        case round =>
          clear hown kt hq kq hb hqc hqal
          obtain ⟨m, hm, rfl, hown, kt, hq, kq, hb⟩ := hrel
          have hz := hb.size
          by_cases hm2 : m < 2
          · have r0 := kq.cell 0
            have r1 := kq.cell 1
            have q0 := kt.cell 0
            have q1 := kt.cell 1
            have q2 := kt.cell 2
            simp only [List.getElem?_toArray, List.getElem?_cons_zero, List.getElem?_cons_succ] at r0 r1 q0 q1 q2
            have ql := kq.lt
            have tl := kt.lt
            go_upto_region 10 with fail
            go_cut [9] (fun t9 wx => t9 = .pointer (some ⟨wr.heap.size, 0, none⟩) ∧ wx.heap.size = wr.heap.size + 1 ∧ Blk wx wr.heap.size 67 #[.int .i64 q.1, .int .i64 q.2, .int .i64 m] ∧ Below wr.heap.size wr wx)
            case first =>
              have n0 := World.new_ne wr _ r0
              have n1 := World.new_ne wr _ r1
              go_region_held3 (fun w' => w'.cell? ⟨qg, 0, none⟩ = some (.int .i64 q.1) ∧ w'.cell? ⟨qg, 1, none⟩ = some (.int .i64 q.2)) (go_keep) (fail)
              all_goals go_wp2_with fail
              all_goals go_meet
              all_goals exact ⟨rfl, by simp, (Blk.newAt wr _ _ _ rfl : Blk (wr.alloc _) _ _ _), by go_grown⟩
            case rest =>
              obtain ⟨rfl, hsz9, kc, hbc⟩ := hcut
              generalize wc = w3 at *
              have hown3 := Ba.own_below hown hbc
              have kt3 := kt.under hbc
              have hq3 := hq.under hbc
              have kq3 := kq.under hbc
              have hb3 := hb.trans (hbc.mono hz)
              clear hown kt hq kq hb r0 r1 q0 q1 q2 ql tl hbc
              go_upto_region 11 with fail
              generalize wr.heap.size = B at *
              obtain ⟨⟨q0, q1, q2⟩, r0, r1, r2⟩ := keep11 kt3 kc (Below.refl _ _)
              have ql := kc.lt
              have tl := kt3.lt
              have hcl := HPQ.out
              obtain ⟨⟨x1, x2⟩, x3, x4⟩ := hcl
              have hH01 : (m : Int) = 0 ∨ (m : Int) = 1 := by omega
              generalize hH : (m : Int) = H at *
              have HH := Lib.hid hH
              clear hH
              go_cut [53] (fun t53 wx => t53 = .bool (genB (nxT b0 b1 s0 s1) l S (q.1, q.2, H)) ∧ Below w3.heap.size w3 wx)
              case first =>
                have hcase : (H = 0) ∨ (H = 1 ∧ 1 < (l : Int)) ∨ (H = 1 ∧ (l : Int) = 1) := by have := HG.out.latI; omega
                clear hH01
                rcases hcase with rfl | ⟨rfl, hl1⟩ | ⟨rfl, hl1⟩
                · have hva : valid l (q.1, q.2, (0 : Int)) := ⟨by simp, by split <;> simp⟩
                  have hgen := Lib.hid (gen_yes (nx := nxT b0 b1 s0 s1) (l := (l : Int)) (S := S) (c := (q.1, q.2, (0 : Int))) (.inl rfl))
                  have hnn := next_nx (b0 := b0) (b1 := b1) (s0 := s0) (s1 := s1) hva (decide ((q.1, q.2, (0 : Int)) ∈ S)) (nb_lt HG.out.latI S hva)
                  have hm0 : ((0 : Int) == 0) = true := rfl
                  (have hha := (fun W hW => refhas_any (.slice p S.length cap) S (q.1, q.2, (0 : Int)) W hW (by omega)); have hnb := (fun W hW => refnb_any l HG.out.latI (.slice p S.length cap) S (q.1, q.2, (0 : Int)) W hW (by omega) hva HV.out (rising_nodup HR.out) (fun c hc => by have := HW.out c hc; omega) (by dsimp only; omega) (by dsimp only; omega)); have hne := (fun W hW => refnext_any b0 b1 s0 s1 HG.out.h0 HG.out.h1 HG.out.h2 HG.out.h3 (0 : Int) (decide ((q.1, q.2, (0 : Int)) ∈ S)) ((nbC l S (q.1, q.2, (0 : Int)) : Nat) : Int) l g W hW); dsimp only at hnn; rw [hnn] at hne; have hkb : Below w3.heap.size w3 w3 := Below.refl _ _; clear hnn hva)
                  refine wp_region_held_drew (S := fun w' => (w'.cell? ⟨w.heap.size, 0, none⟩ = some (.int .i64 l) ∧ w'.cell? ⟨w.heap.size, 1, none⟩ = some (.slice (some ⟨g, 1, none⟩) 2 2) ∧ w'.cell? ⟨w.heap.size, 2, none⟩ = some (.slice (some ⟨g, 3, none⟩) 2 2)) ∧ w'.cell? ⟨B, 0, none⟩ = some (.int .i64 q.1) ∧ w'.cell? ⟨B, 1, none⟩ = some (.int .i64 q.2) ∧ w'.cell? ⟨B, 2, none⟩ = some (.int .i64 (0 : Int))) (by kernel_rfl) (keep11 kt3 kc (by go_grown)) (fun hHeld => ?_)
                  (refine wpAnyH_take (i := 0) (v := ?_) rfl (by kernel_rfl) (by kernel_rfl) (by kernel_rfl) (fun _ _ _ h => h) (Or.inl ⟨by kernel_rfl, ?_⟩) (by assumption) ?_; rotate_left; (focus (intro wq hSw; (try dsimp only at hSw); go_simp; (try with_reducible rfl))); (try simp only [Act.put]))
                  (refine wpAnyH_take (i := 1) (v := ?_) rfl (by kernel_rfl) (by kernel_rfl) (by kernel_rfl) (fun _ _ _ h => h) (Or.inl ⟨by kernel_rfl, ?_⟩) (by assumption) ?_; rotate_left; (focus (intro wq hSw; (try dsimp only at hSw); go_simp; (try with_reducible rfl))); (try simp only [Act.put]))
                  (refine wpAnyH_take (i := 2) (v := ?_) rfl (by kernel_rfl) (by kernel_rfl) (by kernel_rfl) (fun _ _ _ h => h) (Or.inl ⟨by kernel_rfl, ?_⟩) (by assumption) ?_; rotate_left; (focus (intro wq hSw; (try dsimp only at hSw); go_simp; (try with_reducible rfl))); (try simp only [Act.put]))
                  (refine wpAnyH_take (i := 3) (v := undef) rfl (by kernel_rfl) (by kernel_rfl) (by kernel_rfl) (fun _ _ _ h => h) (Or.inr ⟨by kernel_rfl, rfl⟩) (by assumption) ?_; (try simp only [Act.put]))
                  (refine wpAnyH_take (i := 4) (v := undef) rfl (by kernel_rfl) (by kernel_rfl) (by kernel_rfl) (fun _ _ _ h => h) (Or.inr ⟨by kernel_rfl, rfl⟩) (by assumption) ?_; (try simp only [Act.put]))
                  (refine wpAnyH_take (i := 5) (v := undef) rfl (by kernel_rfl) (by kernel_rfl) (by kernel_rfl) (fun _ _ _ h => h) (Or.inr ⟨by kernel_rfl, rfl⟩) (by assumption) ?_; (try simp only [Act.put]))
                  (refine wpAnyH_take (i := 6) (v := ?_) rfl (by kernel_rfl) (by kernel_rfl) (by kernel_rfl) (fun _ _ _ h => h) (Or.inl ⟨by kernel_rfl, ?_⟩) (by assumption) ?_; rotate_left; (focus (intro wq hSw; (try dsimp only at hSw); go_simp; (try with_reducible rfl))); (try simp only [Act.put]))
                  (refine wpAnyH_take (i := 7) (v := ?_) rfl (by kernel_rfl) (by kernel_rfl) (by kernel_rfl) (fun _ _ _ h => h) (Or.inl ⟨by kernel_rfl, ?_⟩) (by assumption) ?_; rotate_left; (focus (intro wq hSw; (try dsimp only at hSw); go_simp; (try with_reducible rfl))); (try simp only [Act.put]))
                  (refine wpAnyH_take (i := 8) (v := ?_) rfl (by kernel_rfl) (by kernel_rfl) (by kernel_rfl) (fun _ _ _ h => h) (Or.inl ⟨by kernel_rfl, ?_⟩) (by assumption) ?_; rotate_left; (focus (intro wq hSw; (try dsimp only at hSw); go_simp; (try with_reducible rfl))); (try simp only [Act.put]))
                  (refine wpAnyH_take (i := 9) (v := ?_) rfl (by kernel_rfl) (by kernel_rfl) (by kernel_rfl) (fun _ _ _ h => h) (Or.inl ⟨by kernel_rfl, ?_⟩) (by assumption) ?_; rotate_left; (focus (intro wq hSw; (try dsimp only at hSw); go_simp; (try with_reducible rfl))); (try simp only [Act.put]))
                  (refine wpAnyH_take (i := 10) (v := ?_) rfl (by kernel_rfl) (by kernel_rfl) (by kernel_rfl) (fun _ _ _ h => h) (Or.inl ⟨by kernel_rfl, ?_⟩) (by assumption) ?_; rotate_left; (focus (intro wq hSw; (try dsimp only at hSw); go_simp; (try with_reducible rfl))); (try simp only [Act.put]))
                  (refine wpAnyH_take (i := 11) (v := ?_) rfl (by kernel_rfl) (by kernel_rfl) (by kernel_rfl) (fun _ _ _ h => h) (Or.inl ⟨by kernel_rfl, ?_⟩) (by assumption) ?_; rotate_left; (focus (intro wq hSw; (try dsimp only at hSw); go_simp; (try with_reducible rfl))); (try simp only [Act.put]))
                  (refine wpAnyH_take (i := 13) (v := ?_) rfl (by kernel_rfl) (by kernel_rfl) (by kernel_rfl) (fun _ _ _ h => h) (Or.inl ⟨by kernel_rfl, ?_⟩) (by assumption) ?_; rotate_left; (focus (intro wq hSw; (try dsimp only at hSw); go_simp; (try with_reducible rfl))); (try simp only [Act.put]))
                  (refine wpAnyH_take (i := 14) (v := ?_) rfl (by kernel_rfl) (by kernel_rfl) (by kernel_rfl) (fun _ _ _ h => h) (Or.inl ⟨by kernel_rfl, ?_⟩) (by assumption) ?_; rotate_left; (focus (intro wq hSw; (try dsimp only at hSw); go_simp; (try with_reducible rfl))); (try simp only [Act.put]))
                  (refine wpAnyH_take (i := 15) (v := ?_) rfl (by kernel_rfl) (by kernel_rfl) (by kernel_rfl) (fun _ _ _ h => h) (Or.inl ⟨by kernel_rfl, ?_⟩) (by assumption) ?_; rotate_left; (focus (intro wq hSw; (try dsimp only at hSw); go_simp; (try with_reducible rfl))); (try simp only [Act.put]))
                  (refine wpAnyH_take (i := 16) (v := ?_) rfl (by kernel_rfl) (by kernel_rfl) (by kernel_rfl) (fun _ _ _ h => h) (Or.inl ⟨by kernel_rfl, ?_⟩) (by assumption) ?_; rotate_left; (focus (intro wq hSw; (try dsimp only at hSw); go_simp; (try with_reducible rfl))); (try simp only [Act.put]))
                  (refine wpAnyH_ready (rs := [12]) (by kernel_rfl) (by simp) ?_; refine AllReadyH.cons rfl (fun K hK => ?_) AllReadyH.nil; go_simp; (with_reducible refine Calls.mono (hha _ (HU.out.below ?_)) ?_); (focus (exact hb3.trans (Below.mono (by go_grown) hb3.size))); rintro e w7 ⟨rfl, hbn⟩; have hkb : Below w3.heap.size w3 w7 := Ba.below_call hbn (by go_grown) (by have := hkb.size; first | omega | (simp; done) | (simp; omega)); clear hbn; dsimp only; refine hK.out _ _ ?_ (fun hHeld => ?_); (focus (exact keep11 kt3 kc hkb)); clear hK K; (try simp only [Act.put, List.setIfInBounds_toArray, List.set_cons_zero, List.set_cons_succ]))
                  (refine wpAnyH_ready (rs := [17]) (by kernel_rfl) (by simp) ?_; refine AllReadyH.cons rfl (fun K hK => ?_) AllReadyH.nil; go_simp; (with_reducible refine Calls.mono (hnb _ (HU.out.below ?_)) ?_); (focus (exact hb3.trans (Below.mono (by go_grown) hb3.size))); rintro e w7 ⟨rfl, hbn⟩; have hkb : Below w3.heap.size w3 w7 := Ba.below_call hbn (by go_grown) (by have := hkb.size; first | omega | (simp; done) | (simp; omega)); clear hbn; dsimp only; refine hK.out _ _ ?_ (fun hHeld => ?_); (focus (exact keep11 kt3 kc hkb)); clear hK K; (try simp only [Act.put, List.setIfInBounds_toArray, List.set_cons_zero, List.set_cons_succ]))
                  (refine wpAnyH_ready (rs := [18]) (by kernel_rfl) (by simp) ?_; refine AllReadyH.cons rfl (fun K hK => ?_) AllReadyH.nil; go_simp; (with_reducible refine Calls.mono (hne _ (HK.out.below ?_ HK.out.lt)) ?_); (focus (exact hb3.trans (Below.mono (by go_grown) hb3.size))); rintro e w7 ⟨rfl, hbn⟩; have hkb : Below w3.heap.size w3 w7 := Ba.below_call hbn (by go_grown) (by have := hkb.size; first | omega | (simp; done) | (simp; omega)); clear hbn; dsimp only; refine hK.out _ _ ?_ (fun hHeld => ?_); (focus (exact keep11 kt3 kc hkb)); clear hK K; (try simp only [Act.put, List.setIfInBounds_toArray, List.set_cons_zero, List.set_cons_succ]))
                  (refine wpAnyH_take (i := 19) (v := ?_) rfl (by kernel_rfl) (by kernel_rfl) (by kernel_rfl) (fun _ _ _ h => h) (Or.inl ⟨by kernel_rfl, ?_⟩) (by assumption) ?_; rotate_left; (focus (intro wq hSw; (try dsimp only at hSw); go_simp; (try with_reducible rfl))); (try simp only [Act.put]))
                  refine wpAnyH_done (by kernel_rfl) ?_ _
                  go_wp2_with fail
                  go_meet
                  exact ⟨by rw [hgen.out], hkb⟩
                · have hva : valid l (q.1, q.2, (1 : Int)) := ⟨by simp, by rw [if_neg (by omega)]; simp⟩
                  have hgen := Lib.hid (gen_yes (nx := nxT b0 b1 s0 s1) (l := (l : Int)) (S := S) (c := (q.1, q.2, (1 : Int))) (.inr hl1))
                  have hnn := next_nx (b0 := b0) (b1 := b1) (s0 := s0) (s1 := s1) hva (decide ((q.1, q.2, (1 : Int)) ∈ S)) (nb_lt HG.out.latI S hva)
                  have hm0 : ((1 : Int) == 0) = false := rfl
                  have hl2 : decide (1 < (l : Int)) = true := by simpa using hl1
                  (have hha := (fun W hW => refhas_any (.slice p S.length cap) S (q.1, q.2, (1 : Int)) W hW (by omega)); have hnb := (fun W hW => refnb_any l HG.out.latI (.slice p S.length cap) S (q.1, q.2, (1 : Int)) W hW (by omega) hva HV.out (rising_nodup HR.out) (fun c hc => by have := HW.out c hc; omega) (by dsimp only; omega) (by dsimp only; omega)); have hne := (fun W hW => refnext_any b0 b1 s0 s1 HG.out.h0 HG.out.h1 HG.out.h2 HG.out.h3 (1 : Int) (decide ((q.1, q.2, (1 : Int)) ∈ S)) ((nbC l S (q.1, q.2, (1 : Int)) : Nat) : Int) l g W hW); dsimp only at hnn; rw [hnn] at hne; have hkb : Below w3.heap.size w3 w3 := Below.refl _ _; clear hnn hva; (go_region_held3 (fun w' => (w'.cell? ⟨w.heap.size, 0, none⟩ = some (.int .i64 l) ∧ w'.cell? ⟨w.heap.size, 1, none⟩ = some (.slice (some ⟨g, 1, none⟩) 2 2) ∧ w'.cell? ⟨w.heap.size, 2, none⟩ = some (.slice (some ⟨g, 3, none⟩) 2 2)) ∧ w'.cell? ⟨B, 0, none⟩ = some (.int .i64 q.1) ∧ w'.cell? ⟨B, 1, none⟩ = some (.int .i64 q.2) ∧ w'.cell? ⟨B, 2, none⟩ = some (.int .i64 (1 : Int))) (first | (refine keep11 kt3 kc ?_; go_grown; done)) (first | (go_at_call 62; refine (hne _ (HK.out.below (hb3.trans (Below.mono (by go_grown) hb3.size)) HK.out.lt)).mono ?_; rintro e wN ⟨rfl, hbn⟩; have hkb : Below w3.heap.size w3 wN := Ba.below_call hbn (by go_grown) (by first | exact hkb.size | go_size); clear hbn) | (go_at_call 45; refine (hha _ (HU.out.below (hb3.trans (Below.mono (by go_grown) hb3.size)))).mono ?_; rintro e wN ⟨rfl, hbn⟩; have hkb : Below w3.heap.size w3 wN := Ba.below_call hbn (by go_grown) (by first | exact hkb.size | go_size); clear hbn) | (go_at_call 63; refine (hnb _ (HU.out.below (hb3.trans (Below.mono (by go_grown) hb3.size)))).mono ?_; rintro e wN ⟨rfl, hbn⟩; have hkb : Below w3.heap.size w3 wN := Ba.below_call hbn (by go_grown) (by first | exact hkb.size | go_size); clear hbn))); all_goals (go_wp2_with fail; go_meet; exact ⟨by rw [hgen.out], by go_grown⟩))
                · have hgen := Lib.hid (gen_no (nx := nxT b0 b1 s0 s1) (l := (l : Int)) (S := S) (c := (q.1, q.2, (1 : Int))) (by simp) (by omega))
                  have hm0 : ((1 : Int) == 0) = false := rfl
                  have hl2 : decide (1 < (l : Int)) = false := by simp; omega
                  have hl3 : ¬ 1 < (l : Int) := by omega
                  clear hl1
                  go_quiet (fail)
                  go_wp2_with fail
                  go_meet
                  exact ⟨by rw [hgen.out], Ba.below_dr _ (Below.refl _ _)⟩
              case rest =>
                obtain ⟨rfl, hbc⟩ := hcut
                generalize wc = w4 at *
                have hb4 := hb3.trans (hbc.mono hb3.size)
                have hown4 := Ba.own_below hown3 hbc
                have kt4 := kt3.under hbc
                have hq4 := hq3.under hbc
                have kq4 := kq3.under hbc
                have kc4 := kc.under hbc
                have hz4 := hb4.size
                have HPT := Lib.hid (show ptP (nxT b0 b1 s0 s1) l S q (m + 1) = ptP (nxT b0 b1 s0 s1) l S q m ++ if genB (nxT b0 b1 s0 s1) l S (q.1, q.2, H) = true then [(q.1, q.2, H)] else [] by rw [← HH.out]; rfl)
                have hpl := ptP_len (nx := nxT b0 b1 s0 s1) (l := (l : Int)) (S := S) q m
                clear hown3 kt3 hq3 kq3 kc hbc q0 q1 q2 r0 r1 r2 ql tl
                obtain ⟨⟨q0, q1, q2⟩, r0, r1, r2⟩ := keep11 kt4 kc4 (Below.refl _ _)
                have ql := kc4.lt
                have hlen : (O ++ ptP (nxT b0 b1 s0 s1) l S q m).length ≤ 2000 := by rw [List.length_append]; have := HOL.out; omega
                generalize hX : O ++ ptP (nxT b0 b1 s0 s1) l S q m = X at *
                have HX := Lib.hid hX
                clear hX
                cases hgn : genB (nxT b0 b1 s0 s1) l S (q.1, q.2, H)
                · have HGN := Lib.hid hgn
                  clear hgn
                  go_wp2_with fail
                  go_roundw
                  case rel => exact ⟨m + 1, by omega, by rw [← HH.out]; go_num, by rw [HPT.out, HGN.out, if_neg (by simp), List.append_nil, HX.out]; exact hown4, kt4, hq4, kq4, hb4⟩
                  case measure => rw [← HH.out]; simp [intOf]; omega
                · have HGN := Lib.hid hgn
                  clear hgn
                  have hown5 := hown4.alloc (.cells #[.int .i64 q.1, .int .i64 q.2, .int .i64 H] 67)
                  have hnew := news1 w4 67 (q.1, q.2, H)
                  go_wp2_with (at_builtin; refine wpList_append_own _ rfl _ _ 36 rfl (w.heap.size + 1) 67 i0 _ 3 24 Tryd.underlying36 hi0 hz0 hz1 hz2 rfl (by decide) _ _ _ rfl hown5 ⟨w4.heap.size, 0, none⟩ 1 1 (flat [(q.1, q.2, H)]) rfl (by simp [flat_len]) hnew (one_flat [(q.1, q.2, H)]) (by unfold maxLen; omega) (by omega) (by simp; omega) ?_)
                  intro v' w' hown' hgr _
                  have hb' : Below w.heap.size w w' := (hb4.alloc hz4 (.cells #[.int .i64 q.1, .int .i64 q.2, .int .i64 H] 67)).grown hgr (by simp; omega) (fun q hq => by have := (hown5.lt q hq).1; omega)
                  have kt' := (kt4.alloc (.cells #[.int .i64 q.1, .int .i64 q.2, .int .i64 H] 67)).grown hgr (Ba.own_low_ne hown5 (by omega))
                  have kq' := (kq4.alloc (.cells #[.int .i64 q.1, .int .i64 q.2, .int .i64 H] 67)).grown hgr (Ba.own_blk_ne hown5 (kq4.alloc (.cells #[.int .i64 q.1, .int .i64 q.2, .int .i64 H] 67)) (by decide))
                  have hq' := (hq4.under ((Below.refl _ _).alloc (Nat.le_refl _) (.cells #[.int .i64 q.1, .int .i64 q.2, .int .i64 H] 67))).grown hown5 hgr
                  clear hown4 hown5 hgr kt4 kq4 hq4 hnew
                  go_wp2_with fail
                  go_roundw
                  case rel => exact ⟨m + 1, by omega, by rw [← HH.out]; go_num, by rw [HPT.out, HGN.out, if_pos rfl, ← List.append_assoc, HX.out, flat_app, List.length_append]; exact hown', kt', hq', kq', hb'⟩
                  case measure => rw [← HH.out]; simp [intOf]; omega
          · obtain rfl : m = 2 := by omega
            go_wp2_with fail
            go_roundw
            case rel => exact ⟨k + 1, by omega, by go_num, by rw [HOA.out]; exact hown, kt, hq, hb⟩
            case measure => simp [intOf]; omega
      · obtain rfl : k = Q.length := by omega
        rw [List.take_length] at hown
        have hol : (outP (nxT b0 b1 s0 s1) l S Q).length ≤ 2000 := Nat.le_trans (outP_len _) (by omega)
        have hof := refof_any u5 _ wr (Se.set_own hown) (Nat.le_trans hol (by decide))
        have HL2 := Lib.hid (Nat.le_trans (Se.ofL_len (outP (nxT b0 b1 s0 s1) l S Q)) hol)
        clear hown hol hq kt
        go_wp2_with fail
        refine hof.mono ?_
        rintro e w3 ⟨v3, rfl, hs3, hb3⟩
        go_wp2_with fail
        go_ret
        exact ⟨_, _, rfl, hs3, HST.out, HL2.out, hb.trans (hb3.mono hb.size)⟩
def SnR (w : World) (b0 b1 s0 s1 l g n : Nat) (S : List C) (t1 t7 : Value) (wr : World) : Prop :=
  ∃ (i : Nat) (M : List C), i ≤ n ∧ t7 = .int .i64 i ∧ SetAt wr t1 M ∧ StpN (nxT b0 b1 s0 s1) l i S M ∧ M.length ≤ 2000 ∧ Blk wr w.heap.size 57 (TB l g) ∧ Below w.heap.size w wr
end Go.Proofs.YtcmfkdhadmfgkaaDoor.Fl
