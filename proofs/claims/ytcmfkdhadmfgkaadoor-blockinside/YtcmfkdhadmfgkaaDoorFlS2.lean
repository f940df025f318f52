/- The document's own neighbourhood. -/
import Derived.Test.YtcmfkdhadmfgkaaDoorFlS1
import Derived.Test.YtcmfkdhadmfgkaaDoorFlHx
import Derived.Test.YtcmfkdhadmfgkaaDoorSeR2
import Derived.Test.YtcmfkdhadmfgkaaDoorCeW12
import Derived.Deep.RegionHeld3
import Derived.Deep.DeepCutAuto
namespace Go.Proofs.YtcmfkdhadmfgkaaDoor.Fl
open Go.RowKit Go.Proofs.YtcmfkdhadmfgkaaDoor.Ax Go.Lib
open Go.Proofs.YtcmfkdhadmfgkaaDoor.Ba (Blk)
open Go.Proofs.YtcmfkdhadmfgkaaDoor.Ce (sX sY nearB near_any)
open Go.Proofs.YtcmfkdhadmfgkaaDoor.Se (SetAt Rising refhas_any)

/-- The six differences, as rows of two. -/
structure SixRows (w : World) (B : Nat) : Prop where
  row : ∀ i, i < 6 → Blk w (B + i) 2 #[.int .i64 (sX i), .int .i64 (sY i)]
  all : Blk w (B + 6) 123 #[.slice (some ⟨B, 0, none⟩) 2 2, .slice (some ⟨B + 1, 0, none⟩) 2 2, .slice (some ⟨B + 2, 0, none⟩) 2 2, .slice (some ⟨B + 3, 0, none⟩) 2 2, .slice (some ⟨B + 4, 0, none⟩) 2 2, .slice (some ⟨B + 5, 0, none⟩) 2 2]
theorem SixRows.under {w w' : World} {B : Nat} (h : SixRows w B) (hb : Below w.heap.size w w') : SixRows w' B := ⟨fun i hi => (h.row i hi).under hb, h.all.under hb⟩
theorem SixRows.at_ {w : World} {B i : Nat} (h : SixRows w B) (hi : i < 6) : w.cell? ⟨B + 6, i, none⟩ = some (.slice (some ⟨B + i, 0, none⟩) 2 2) := by
  rw [h.all.cell]
  have : i = 0 ∨ i = 1 ∨ i = 2 ∨ i = 3 ∨ i = 4 ∨ i = 5 := by omega
  rcases this with rfl | rfl | rfl | rfl | rfl | rfl <;> rfl
theorem SixRows.lt {w : World} {B : Nat} (h : SixRows w B) : B + 6 < w.heap.size := h.all.lt
theorem six_made (w : World) (n : Nat) (hn : n = w.heap.size) : SixRows (((((((w.alloc (.cells #[.int .i64 1, .int .i64 0] 2)).alloc (.cells #[.int .i64 0, .int .i64 1] 2)).alloc (.cells #[.int .i64 (-1), .int .i64 1] 2)).alloc (.cells #[.int .i64 (-1), .int .i64 0] 2)).alloc (.cells #[.int .i64 0, .int .i64 (-1)] 2)).alloc (.cells #[.int .i64 1, .int .i64 (-1)] 2)).alloc
    (.cells #[.slice (some ⟨n, 0, none⟩) 2 2, .slice (some ⟨n + 1, 0, none⟩) 2 2, .slice (some ⟨n + 2, 0, none⟩) 2 2, .slice (some ⟨n + 3, 0, none⟩) 2 2, .slice (some ⟨n + 4, 0, none⟩) 2 2, .slice (some ⟨n + 5, 0, none⟩) 2 2] 123)) n := by
  subst hn
  refine ⟨fun i hi => ?_, Blk.newAt _ _ _ _ (by simp)⟩
  have : i = 0 ∨ i = 1 ∨ i = 2 ∨ i = 3 ∨ i = 4 ∨ i = 5 := by omega
  rcases this with rfl | rfl | rfl | rfl | rfl | rfl
  · exact ((((((Blk.newAt _ _ _ _ (by simp)).alloc _).alloc _).alloc _).alloc _).alloc _).alloc _
  · exact (((((Blk.newAt _ _ _ _ (by simp)).alloc _).alloc _).alloc _).alloc _).alloc _
  · exact ((((Blk.newAt _ _ _ _ (by simp)).alloc _).alloc _).alloc _).alloc _
  · exact (((Blk.newAt _ _ _ _ (by simp)).alloc _).alloc _).alloc _
  · exact ((Blk.newAt _ _ _ _ (by simp)).alloc _).alloc _
  · exact (Blk.newAt _ _ _ _ (by simp)).alloc _
theorem six_bd2 (i : Nat) : (-1 ≤ sX i ∧ sX i ≤ 1) ∧ (-1 ≤ sY i ∧ sY i ≤ 1) := by
  unfold sX sY
  split <;> decide
theorem keepRow {W w' : World} {B i P : Nat} {a b h x y : Int} (kr : Blk W (B + i) 2 #[.int .i64 x, .int .i64 y]) (kp : Blk W P 67 #[.int .i64 a, .int .i64 b, .int .i64 h]) (hb : Below W.heap.size W w') :
    w'.cell? ⟨B + i, 0, none⟩ = some (.int .i64 x) ∧ w'.cell? ⟨B + i, 1, none⟩ = some (.int .i64 y) ∧ w'.cell? ⟨P, 0, none⟩ = some (.int .i64 a) ∧ w'.cell? ⟨P, 1, none⟩ = some (.int .i64 b) ∧ w'.cell? ⟨P, 2, none⟩ = some (.int .i64 h) :=
  ⟨(kr.under hb).cell 0, (kr.under hb).cell 1, (kp.under hb).cell 0, (kp.under hb).cell 1, (kp.under hb).cell 2⟩
def HnR (w : World) (S : List C) (a b : Int) (t7 t9 t25 : Value) (wr : World) : Prop :=
  ∃ i : Nat, i ≤ 6 ∧ t25 = .int .i64 i ∧ t9 = .int .i64 ((2 ^ i : Nat) : Int) ∧ t7 = .int .i64 (hexN S a b i) ∧ Below w.heap.size w wr
theorem pow6 {i : Nat} (h : i ≤ 6) : 1 ≤ 2 ^ i ∧ 2 ^ i ≤ 64 := by
  have : i = 0 ∨ i = 1 ∨ i = 2 ∨ i = 3 ∨ i = 4 ∨ i = 5 ∨ i = 6 := by omega
  rcases this with rfl | rfl | rfl | rfl | rfl | rfl | rfl <;> decide
set_option maxRecDepth 100000 in
set_option maxHeartbeats 4000000 in
theorem refnb_hex (v : Value) (S : List C) (a b : Int) (w : World) (h : SetAt w v S) (hL : S.length ≤ 2000) (ha : -1000000 ≤ a ∧ a ≤ 1000000) (hb : -1000000 ≤ b ∧ b ≤ 1000000) :
    Calls Tryd.prog 63 #[.int .i64 1, v, .agg #[.int .i64 a, .int .i64 b, .int .i64 0]] w fun e w' => e = .returned (.int .i64 (nbC 1 S (a, b, 0) : Nat)) ∧ Below w.heap.size w w' := by
  rw [nb_hex]
  go_enter Tryd.func63, Tryd.ntmps63
  go_upto_region 3 with fail
  have kc := Blk.newAt w 67 #[.int .i64 a, .int .i64 b, .int .i64 0] _ rfl
  have hb0 : Below w.heap.size w (w.alloc (.cells #[.int .i64 a, .int .i64 b, .int .i64 0] 67)) := (Below.refl _ _).alloc (Nat.le_refl _) _
  have h0 := h.below hb0
  clear h
  generalize w.alloc (.cells #[.int .i64 a, .int .i64 b, .int .i64 0] 67) = w0 at *
  go_cut [8] (fun t8 wx => t8 = .slice (some ⟨w0.heap.size + 6, 0, none⟩) 6 6 ∧ SixRows wx w0.heap.size ∧ Below w0.heap.size w0 wx)
  case first =>
    go_wp2
    go_meet
    exact ⟨rfl, six_made w0 _ rfl, by go_grown⟩
  case rest =>
    obtain ⟨rfl, hr, hbc⟩ := hcut
    have h1 := h0.below hbc
    have kc1 := kc.under hbc
    have hb1 := hb0.trans (hbc.mono hb0.size)
    have hbw := hb1.size
    generalize wc = w1 at *
    clear hb0 kc h0 hbc
    go_wp2_with fail
    go_loopw [7, 9, 25] (fun t7 t9 t25 wr => HnR w1 S a b t7 t9 t25 wr) (fun _ _ t25 _ => 6 - (intOf t25).toNat)
    case atStart => exact ⟨0, by omega, rfl, rfl, rfl, Below.refl _ _⟩
    case round =>
      obtain ⟨i, hi, rfl, rfl, rfl, hbr⟩ := hrel
      have hz := hbr.size
      by_cases hlt : i < 6
      · have hr2 := hr.under hbr
        have kc2 := kc1.under hbr
        have c25 := hr2.at_ hlt
        have hrl := hr2.lt
        have kr := hr2.row i hlt
        obtain ⟨r0, r1, p0, p1, p2⟩ := keepRow kr kc2 (Below.refl _ _)
        have hkl := kr.lt
        have hpl := kc2.lt
        obtain ⟨⟨x1, x2⟩, y1, y2⟩ := six_bd2 i
        have hha := fun W hW => refhas_any v S (a + sX i, b + sY i, 0) W hW (by omega)
        have hpw := pow6 hi
        have hx := hexN_lt S a b i
        have HN1 := Lib.hid (show hexN S a b (i + 1) = hexN S a b i + if decide ((a + sX i, b + sY i, (0 : Int)) ∈ S) = true then 2 ^ i else 0 from rfl)
        have HP := Lib.hid (show (2 ^ (i + 1) : Nat) = 2 * 2 ^ i by rw [Nat.pow_succ, Nat.mul_comm])
        have h2 := h1.below hbr
        generalize hexN S a b i = N at *
        generalize (2 ^ i : Nat) = E at *
        generalize sX i = x at *
        generalize sY i = y at *
        generalize w0.heap.size = B at *
        have e1 : IntKind.i64.wrap (a + x) = a + x := IntWalk.i64_in _ (by omega)
        have e2 : IntKind.i64.wrap (b + y) = b + y := IntWalk.i64_in _ (by omega)
        clear hr2 kc1 hr h1 x1 x2 y1 y2
        go_wp2_with fail
        have hkb : Below wr.heap.size wr wr := Below.refl _ _
        cases g : decide ((a + x, b + y, (0 : Int)) ∈ S)
        all_goals
          rw [g] at hha HN1
          have G := Lib.hid g
          clear g
          go_region_held3 (fun w' => w'.cell? ⟨B + i, 0, none⟩ = some (.int .i64 x) ∧ w'.cell? ⟨B + i, 1, none⟩ = some (.int .i64 y) ∧ w'.cell? ⟨w.heap.size, 0, none⟩ = some (.int .i64 a) ∧ w'.cell? ⟨w.heap.size, 1, none⟩ = some (.int .i64 b) ∧ w'.cell? ⟨w.heap.size, 2, none⟩ = some (.int .i64 0)) (first | (refine keepRow kr kc2 ?_; go_grown; done))
            (first | (go_at_call 45; refine (hha _ (h2.below (by go_grown))).mono ?_; rintro e wH ⟨rfl, hbH⟩; have hkb : Below wr.heap.size wr wH := Ba.below_call hbH (by go_grown) (by first | exact hkb.size | go_size); clear hbH))
          all_goals
            go_wp2_with fail
            go_roundw
            case rel => exact ⟨i + 1, by omega, by go_num, by rw [HP.out]; go_num, by rw [HN1.out]; go_num, hbr.trans (hkb.mono hz)⟩
            case measure => simp [intOf]; omega
      · obtain rfl : i = 6 := by omega
        clear hr kc1 h1
        go_wp2_with fail
        go_ret
        exact ⟨rfl, hb1.trans (hbr.mono hb1.size)⟩
def CnR (w : World) (l : Int) (S : List C) (c : C) (t7 t53 : Value) (wr : World) : Prop :=
  ∃ k : Nat, k ≤ S.length ∧ t53 = .int .i64 k ∧ t7 = .int .i64 (cntN l S c k : Nat) ∧ Blk wr w.heap.size 67 #[.int .i64 c.1, .int .i64 c.2.1, .int .i64 c.2.2] ∧ Below w.heap.size w wr
theorem not_bes {l : Int} (hl : l = 1 ∨ l = 2 ∨ l = 3) {c d : C} (hc : valid l c) (h : ¬ ((-1 ≤ d.1 - c.1 ∧ d.1 - c.1 ≤ 1) ∧ (-1 ≤ d.2.1 - c.2.1 ∧ d.2.1 - c.2.1 ≤ 1))) : decide (d ∈ besC l c) = false := by
  rw [decide_eq_false_iff_not]
  exact fun hm => h (bes_mem hl hc hm).2.2
set_option maxRecDepth 100000 in
set_option maxHeartbeats 4000000 in
theorem refnb_tri (l : Int) (hl : l = 2 ∨ l = 3) (v : Value) (S : List C) (c : C) (w : World) (h : SetAt w v S) (hL : S.length ≤ 2000) (hc : valid l c) (hv : ∀ d ∈ S, valid l d) (hn : S.Nodup) (hw : Wi 1000 S) (ha : -1000000 ≤ c.1 ∧ c.1 ≤ 1000000) (hb : -1000000 ≤ c.2.1 ∧ c.2.1 ≤ 1000000) :
    Calls Tryd.prog 63 #[.int .i64 l, v, .agg #[.int .i64 c.1, .int .i64 c.2.1, .int .i64 c.2.2]] w fun e w' => e = .returned (.int .i64 (nbC l S c : Nat)) ∧ Below w.heap.size w w' := by
  rw [nb_cnt hl hn hv hc]
  have HU := Lib.hid h
  have hl3 : l = 1 ∨ l = 2 ∨ l = 3 := by omega
  have hl1 : (l == 1) = false := by simp; omega
  have key : ∀ v, SetAt w v S → ∃ p cap, v = .slice p S.length cap := by
    rintro v (⟨rfl, rfl⟩ | ⟨g, cap, rfl, _, _⟩)
    · exact ⟨none, 0, rfl⟩
    · exact ⟨_, _, rfl⟩
  obtain ⟨p, cap, rfl⟩ := key v h
  have HL := Lib.hid hl3
  have HV := Lib.hid hv
  have HW := Lib.hid hw
  have HC0 := Lib.hid hc
  clear h key hl hl3 hv hn hw hc
  go_enter Tryd.func63, Tryd.ntmps63
  go_wp2_with fail
  have k0 := Blk.newAt w 67 #[.int .i64 c.1, .int .i64 c.2.1, .int .i64 c.2.2] _ rfl
  have hb0 : Below w.heap.size w (w.alloc (.cells #[.int .i64 c.1, .int .i64 c.2.1, .int .i64 c.2.2] 67)) := (Below.refl _ _).alloc (Nat.le_refl _) _
  go_loopw [7, 53] (fun t7 t53 wr => CnR w l S c t7 t53 wr) (fun _ t53 _ => S.length - (intOf t53).toNat)
  case atStart => exact ⟨0, Nat.zero_le _, rfl, by simp [cntN], k0, hb0⟩
  case round =>
    clear k0 hb0
    obtain ⟨k, hk, rfl, rfl, kc, hbr⟩ := hrel
    have hz := hbr.size
    by_cases hlt : k < S.length
    · obtain ⟨d, hd⟩ : ∃ d, S[k]? = some d := ⟨_, List.getElem?_eq_getElem hlt⟩
      rcases HU.out.below hbr with ⟨_, hnil⟩ | ⟨g, cp, hv, _, hr⟩
      · subst hnil; simp at hlt
      · injection hv with hv1 hv2 hv3
        subst hv1 hv3
        clear hv2
        obtain ⟨c0, c1, c2⟩ := hr.1 k d hd
        obtain ⟨d0, d1, d2⟩ := Se.keepB kc (Below.refl _ _)
        have hgl := hr.2
        have hcl := kc.lt
        have hdm := List.mem_of_getElem? hd
        obtain ⟨⟨m1, m2⟩, m3, m4⟩ := HW.out d hdm
        have HC := Lib.hid (cntN_succ (l := l) (c := c) hd)
        have hcl2 := cntN_le l S c k
        have HD := Lib.hid (HV.out d hdm)
        clear hd hr hdm
        by_cases h1 : d.1 - c.1 ≤ 1
        · by_cases h2 : c.1 - d.1 ≤ 1
          · by_cases h3 : d.2.1 - c.2.1 ≤ 1
            · by_cases h4 : c.2.1 - d.2.1 ≤ 1
              · have hne := near_bes HL.out HC0.out HD.out (by omega) (by omega)
                have hnr := fun W => near_any l c.1 c.2.1 c.2.2 d.1 d.2.1 d.2.2 W HL.out (by omega) (by omega) (by omega) (by omega) _ hne
                clear hne
                cases g2 : decide (d ∈ besC l c)
                all_goals
                  rw [g2] at hnr
                  have G := Lib.hid g2
                  clear g2
                  go_wp2_with fail
                  refine (hnr _).mono ?_
                  rintro e wN ⟨rfl, hbN⟩
                  have hbx := Ba.below_call (B := w.heap.size) (w := w) hbN (by go_grown) (by go_size)
                  have kcx := (kc.alloc (.cells #[.int .i64 d.1, .int .i64 d.2.1, .int .i64 d.2.2] 67)).under hbN
                  clear hnr hbN
                  go_wp2_with fail
                  go_roundw
                  case rel => exact ⟨k + 1, by omega, by go_num, by rw [HC.out, G.out]; go_num, kcx, hbx⟩
                  case measure => simp [intOf]; omega
              · have G := Lib.hid (not_bes HL.out HC0.out (d := d) (by omega))
                (go_wp2_with fail; go_roundw; (case rel => exact ⟨k + 1, by omega, by go_num, by rw [HC.out, G.out]; simp, kc.alloc _, by go_grown⟩); (case measure => simp [intOf]; omega))
            · have G := Lib.hid (not_bes HL.out HC0.out (d := d) (by omega))
              (go_wp2_with fail; go_roundw; (case rel => exact ⟨k + 1, by omega, by go_num, by rw [HC.out, G.out]; simp, kc.alloc _, by go_grown⟩); (case measure => simp [intOf]; omega))
          · have G := Lib.hid (not_bes HL.out HC0.out (d := d) (by omega))
            (go_wp2_with fail; go_roundw; (case rel => exact ⟨k + 1, by omega, by go_num, by rw [HC.out, G.out]; simp, kc.alloc _, by go_grown⟩); (case measure => simp [intOf]; omega))
        · have G := Lib.hid (not_bes HL.out HC0.out (d := d) (by omega))
          (go_wp2_with fail; go_roundw; (case rel => exact ⟨k + 1, by omega, by go_num, by rw [HC.out, G.out]; simp, kc.alloc _, by go_grown⟩); (case measure => simp [intOf]; omega))
    · obtain rfl : k = S.length := by omega
      go_wp2_with fail
      go_ret
      exact ⟨rfl, hbr⟩
end Go.Proofs.YtcmfkdhadmfgkaaDoor.Fl
