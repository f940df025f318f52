/- The document's own places. -/
import Derived.Test.YtcmfkdhadmfgkaaDoorFlS1
import Derived.Test.YtcmfkdhadmfgkaaDoorSeR2
import Derived.Deep.RegionHeld3
import Derived.StillTailTactics
import Derived.Deep.DeepCutAuto
namespace Go.Proofs.YtcmfkdhadmfgkaaDoor.Fl
open Go.RowKit Go.Proofs.YtcmfkdhadmfgkaaDoor.Ax Go.Lib
open Go.Proofs.YtcmfkdhadmfgkaaDoor.Ba (Blk)
open Go.Proofs.YtcmfkdhadmfgkaaDoor.Se (SetAt Rising)

theorem pl_info : (Tryd.prog.info? 123).map (fun i => (i.zero, i.size, i.bytes)) = some (some (.slice none 0 0), 1, 24) := by kernel_rfl
abbrev rowV (g : Nat) : Value := .slice (some ⟨g, 0, none⟩) 2 2
/-- A list of places, as rows of two. -/
def PlAt (w : World) (base : Nat) (v : Value) (Q : List PL) : Prop :=
  ∃ G : List Nat, G.length = Q.length ∧ w.ownsRow base 123 1 v Q.length (G.map rowV) ∧ ∀ (i g : Nat) (p : PL), G[i]? = some g → Q[i]? = some p → Blk w g 2 #[.int .i64 p.1, .int .i64 p.2]
section
variable {w w' : World} {base : Nat} {v : Value} {Q : List PL}
theorem PlAt.under (h : PlAt w base v Q) (hb : Below w.heap.size w w') : PlAt w' base v Q := by
  obtain ⟨G, h1, h2, h3⟩ := h
  exact ⟨G, h1, Ba.own_below h2 hb, fun i g p hg hp => (h3 i g p hg hp).under hb⟩
theorem PlAt.at_ (h : PlAt w base v Q) {i : Nat} {p : PL} (hp : Q[i]? = some p) : ∃ a cap g, v = .slice (some ⟨a, 0, none⟩) Q.length cap ∧ a < w.heap.size ∧ w.cell? ⟨a, i, none⟩ = some (rowV g) ∧ Blk w g 2 #[.int .i64 p.1, .int .i64 p.2] := by
  obtain ⟨G, h1, h2, h3⟩ := h
  have hi : i < Q.length := (List.getElem?_eq_some_iff.1 hp).1
  obtain ⟨g, hg⟩ : ∃ g, G[i]? = some g := ⟨_, List.getElem?_eq_getElem (by omega)⟩
  obtain ⟨a, cap, hv, _, hlt⟩ := h2.form (by omega)
  have hu : (G.map rowV)[i]? = some (rowV g) := by rw [List.getElem?_map, hg]; rfl
  have := h2.cells (g := a) (by rw [hv]; rfl) i (rowV g) hu
  exact ⟨a, cap, g, hv, hlt, by rw [Addr.add_lit, Nat.zero_add] at this; exact this, h3 i g p hg hp⟩
theorem PlAt.low {base' : Nat} (h : PlAt w base v Q) (hb : base' ≤ base) : PlAt w base' v Q := by
  obtain ⟨G, h1, h2, h3⟩ := h
  exact ⟨G, h1, Ba.owns_base hb h2, h3⟩
theorem pl_nil (w : World) : PlAt (w.alloc (.cells #[] 123)) w.heap.size (.slice (some ⟨w.heap.size, 0, none⟩) 0 0) [] :=
  ⟨[], rfl, World.ownsRow_made (base := w.heap.size) (e := 123) (size := 1) w #[] 0 (Nat.le_refl _) (Nat.zero_le _) (by simp), fun i g p hg _ => by simp at hg⟩
end
/-- One more row, and append's step. -/
theorem pl_snoc' {w w' : World} {base g : Nat} {v v' : Value} {Q : List PL} {p : PL} {G : List Nat} (h2 : w.ownsRow base 123 1 v Q.length (G.map rowV)) (h1 : G.length = Q.length)
    (h3 : ∀ (i g : Nat) (p : PL), G[i]? = some g → Q[i]? = some p → Blk w g 2 #[.int .i64 p.1, .int .i64 p.2]) (hk : Blk w g 2 #[.int .i64 p.1, .int .i64 p.2])
    (hown' : w'.ownsRow base 123 1 v' (Q.length + 1) (G.map rowV ++ [rowV g])) (hgr : w.grownBy w' v.ownBlock) : PlAt w' base v' (Q ++ [p]) := by
  have hkeep : ∀ {g : Nat} {p : PL}, Blk w g 2 #[.int .i64 p.1, .int .i64 p.2] → Blk w' g 2 #[.int .i64 p.1, .int .i64 p.2] := fun hg => hg.grown hgr (Ba.own_blk_ne h2 hg (by decide))
  refine ⟨G ++ [g], by simp [h1], by simpa using hown', fun i g' p' hg hp => ?_⟩
  by_cases hi : i < Q.length
  · rw [List.getElem?_append_left (by omega)] at hg
    rw [List.getElem?_append_left hi] at hp
    exact hkeep (h3 i g' p' hg hp)
  · have hlt : i < (G ++ [g]).length := (List.getElem?_eq_some_iff.1 hg).1
    simp only [List.length_append, List.length_singleton] at hlt
    obtain rfl : i = Q.length := by omega
    rw [← h1, List.getElem?_append_right (Nat.le_refl _), Nat.sub_self] at hg
    rw [List.getElem?_append_right (Nat.le_refl _), Nat.sub_self] at hp
    simp only [List.getElem?_cons_zero, Option.some.injEq] at hg hp
    subst hg hp
    exact hkeep hk
def LoHi (w : World) (A : Nat) (s : C) (L : List C) : Prop :=
  Blk w A 2 #[.int .i64 (mnL fA L s.1), .int .i64 (mnL fB L s.2.1)] ∧ Blk w (A + 1) 2 #[.int .i64 (mxL fA L s.1), .int .i64 (mxL fB L s.2.1)]
/-- The two rows, and the cell at work. -/
structure Min4 (w : World) (A B : Nat) (a0 a1 b0 b1 : Int) (d : C) (wx : World) : Prop where
  lo : Blk wx A 2 #[.int .i64 a0, .int .i64 a1]
  hi : Blk wx (A + 1) 2 #[.int .i64 b0, .int .i64 b1]
  at_ : Blk wx B 67 #[.int .i64 d.1, .int .i64 d.2.1, .int .i64 d.2.2]
  below : Below w.heap.size w wx
theorem Min4.cells {w wx : World} {A B : Nat} {a0 a1 b0 b1 : Int} {d : C} (h : Min4 w A B a0 a1 b0 b1 d wx) : (wx.cell? ⟨A, 0, none⟩ = some (.int .i64 a0) ∧ wx.cell? ⟨A, 1, none⟩ = some (.int .i64 a1)) ∧ (wx.cell? ⟨A + 1, 0, none⟩ = some (.int .i64 b0) ∧ wx.cell? ⟨A + 1, 1, none⟩ = some (.int .i64 b1)) ∧ wx.cell? ⟨B, 0, none⟩ = some (.int .i64 d.1) ∧ wx.cell? ⟨B, 1, none⟩ = some (.int .i64 d.2.1) :=
  ⟨⟨h.lo.cell 0, h.lo.cell 1⟩, ⟨h.hi.cell 0, h.hi.cell 1⟩, h.at_.cell 0, h.at_.cell 1⟩
theorem mm_next {w w3 : World} {A B : Nat} {a0 a1 b0 b1 v : Int} {d s : C} {L : List C} (h : Min4 w A B a0 a1 b0 b1 d w3) (e0 : mnL fA L s.1 = a0) (e1 : mnL fB L s.2.1 = a1) (e2 : mxL fA L s.1 = b0) (e3 : mxL fB L s.2.1 = v) : LoHi (w3.drew.setCell ⟨A + 1, 1, none⟩ (.int .i64 v)) A s L := by
  unfold LoHi
  rw [e0, e1, e2, e3]
  exact ⟨Blk.far (w := w3.drew) h.lo (by simp) _, Blk.set_ (w := w3.drew) h.hi 1 _⟩
theorem box_of {wr : World} {A : Nat} {s : C} {S : List C} (hs : s ∈ S) (hw : Wi 13 S) (h : LoHi wr A s S) : ∃ (a0 a1 b0 b1 : Int) (na nb : Nat), plS s S = boxP (a0 - 1) (a1 - 1) na nb ∧ b0 = a0 - 3 + (na : Int) ∧ b1 = a1 - 3 + (nb : Int) ∧ 3 ≤ na ∧ na ≤ 29 ∧ 3 ≤ nb ∧ nb ≤ 29 ∧ (-13 ≤ a0 ∧ a0 ≤ 13) ∧ (-13 ≤ a1 ∧ a1 ≤ 13) ∧
    Blk wr A 2 #[.int .i64 a0, .int .i64 a1] ∧ Blk wr (A + 1) 2 #[.int .i64 b0, .int .i64 b1] := by
  obtain ⟨kl, kh⟩ := h
  have hs0 := hw s hs
  have x1 := (mnL_le fA S s.1).1
  have x2 := mnL_bd fA S s.1 (m := -13) (fun c hc => (hw c hc).1.1) hs0.1.1
  have x3 := (mxL_le fA S s.1).1
  have x4 := mxL_bd fA S s.1 (m := 13) (fun c hc => (hw c hc).1.2) hs0.1.2
  have y1 := (mnL_le fB S s.2.1).1
  have y2 := mnL_bd fB S s.2.1 (m := -13) (fun c hc => (hw c hc).2.1) hs0.2.1
  have y3 := (mxL_le fB S s.2.1).1
  have y4 := mxL_bd fB S s.2.1 (m := 13) (fun c hc => (hw c hc).2.2) hs0.2.2
  exact ⟨_, _, _, _, _, _, rfl, by omega, by omega, by omega, by omega, by omega, by omega, by omega, by omega, kl, kh⟩
def Bx1 (w : World) (a0 a1 b0 b1 : Int) (na nb : Nat) (t7 t8 : Value) (wq : World) : Prop :=
  ∃ j : Nat, j ≤ nb ∧ t8 = .int .i64 (a1 - 1 + (j : Int)) ∧ PlAt wq w.heap.size t7 (boxP (a0 - 1) (a1 - 1) na j) ∧ Blk wq w.heap.size 2 #[.int .i64 a0, .int .i64 a1] ∧ Blk wq (w.heap.size + 1) 2 #[.int .i64 b0, .int .i64 b1] ∧ Below w.heap.size w wq
def Bx2 (w : World) (a0 a1 b0 b1 : Int) (na j : Nat) (t7 t9 : Value) (wq : World) : Prop :=
  ∃ i : Nat, i ≤ na ∧ t9 = .int .i64 (a0 - 1 + (i : Int)) ∧ PlAt wq w.heap.size t7 (boxP (a0 - 1) (a1 - 1) na j ++ rowP (a0 - 1) (a1 - 1 + (j : Int)) i) ∧ Blk wq w.heap.size 2 #[.int .i64 a0, .int .i64 a1] ∧ Blk wq (w.heap.size + 1) 2 #[.int .i64 b0, .int .i64 b1] ∧ Below w.heap.size w wq
def MmR (w : World) (s : C) (S : List C) (t37 : Value) (wr : World) : Prop :=
  ∃ k : Nat, k ≤ S.length ∧ t37 = .int .i64 k ∧ LoHi wr w.heap.size s (S.take k) ∧ Below w.heap.size w wr
set_option maxRecDepth 100000 in
set_option maxHeartbeats 4000000 in
theorem places_any (v : Value) (S : List C) (s : C) (w : World) (h : SetAt w v S) (hs : S[0]? = some s) (hL : S.length ≤ 2000) (hw : Wi 13 S) :
    Calls Tryd.prog 61 #[v] w fun e w' => ∃ v', e = .returned v' ∧ PlAt w' w.heap.size v' (plS s S) ∧ Below w.heap.size w w' := by
  obtain ⟨i0, hi0, hz0, hz1, hz2'⟩ := info_parts pl_info
  have HU := Lib.hid h
  rcases h with ⟨_, rfl⟩ | ⟨g, cap, rfl, hcap, hr⟩
  · simp at hs
  obtain ⟨c0, c1, c2⟩ := hr.1 0 s hs
  have hgl := hr.2
  have hpos : 0 < S.length := (List.getElem?_eq_some_iff.1 hs).1
  simp only [Nat.zero_mul, Nat.zero_add] at c0 c1 c2
  have hb0 : Below w.heap.size w w := Below.refl _ _
  have HW := Lib.hid hw
  have HS := Lib.hid hs
  clear hr hw hs
  go_enter Tryd.func61, Tryd.ntmps61
  go_upto_region 1 with fail
  go_cut [3] (fun t3 wx => t3 = rowV w.heap.size ∧ Blk wx w.heap.size 2 #[.int .i64 s.1, .int .i64 s.2.1] ∧ w.heap.size + 1 = wx.heap.size ∧ Below w.heap.size w wx)
  case first =>
    go_region_held3 (fun w' => w'.cell? ⟨g, 0, none⟩ = some (.int .i64 s.1) ∧ w'.cell? ⟨g, 1, none⟩ = some (.int .i64 s.2.1)) (go_keep) (fail)
    all_goals go_wp2_with fail
    all_goals go_meet
    all_goals exact ⟨rfl, Blk.newAt _ _ _ _ rfl, by simp, by go_grown⟩
  case rest =>
    obtain ⟨rfl, ka, hsz, hb1⟩ := hcut
    generalize wc = w1 at *
    have d0 := (hb1.cell (p := ⟨g, 0, none⟩) hgl).trans c0
    have d1 := (hb1.cell (p := ⟨g, 1, none⟩) hgl).trans c1
    have hgl1 : g < w1.heap.size := by omega
    clear c0 c1 c2 hb0
    go_upto_region 2 with fail
    go_cut [4] (fun t4 wx => t4 = rowV (w.heap.size + 1) ∧ LoHi wx w.heap.size s [] ∧ Below w.heap.size w wx)
    case first =>
      go_region_held3 (fun w' => w'.cell? ⟨g, 0, none⟩ = some (.int .i64 s.1) ∧ w'.cell? ⟨g, 1, none⟩ = some (.int .i64 s.2.1)) (go_keep) (fail)
      all_goals go_wp2_with fail
      all_goals go_meet
      all_goals exact ⟨by rw [hsz], ⟨ka.alloc _, Blk.newAt _ _ _ _ hsz⟩, by go_grown⟩
    case rest =>
      obtain ⟨rfl, hlh, hb2⟩ := hcut
      generalize wc = w2 at *
      clear ka hsz hb1 d0 d1 hgl1
      go_wp2_with fail
      go_loopw [37] (fun t37 wr => MmR w s S t37 wr) (fun t37 _ => S.length - (intOf t37).toNat)
      case atStart => exact ⟨0, Nat.zero_le _, rfl, hlh, hb2⟩
      case round =>
        clear hlh hb2
        obtain ⟨k, hk, rfl, hlh, hb⟩ := hrel
        have hz := hb.size
        by_cases hlt : k < S.length
        · obtain ⟨d, hd⟩ : ∃ d, S[k]? = some d := ⟨_, List.getElem?_eq_getElem hlt⟩
          rcases HU.out.below hb with ⟨_, hnil⟩ | ⟨g', cp, hv, _, hr⟩
          · subst hnil; simp at hlt
          · injection hv with hv1 hv2 hv3
            injection hv1 with hv1
            injection hv1 with hv1 hv4 hv5
            subst hv1 hv3
            clear hv2 hv4 hv5
            obtain ⟨c0, c1, c2⟩ := hr.1 k d hd
            have HT := Lib.hid (show S.take (k + 1) = S.take k ++ [d] by rw [List.take_add_one, hd]; rfl)
            clear hd hr
            generalize S.take k = K at *
            obtain ⟨kl, kh⟩ := hlh
            generalize hq0 : mnL fA K s.1 = a0 at *
            have Q0 := Lib.hid hq0
            clear hq0
            generalize hq1 : mnL fB K s.2.1 = a1 at *
            have Q1 := Lib.hid hq1
            clear hq1
            generalize hq2 : mxL fA K s.1 = b0 at *
            have Q2 := Lib.hid hq2
            clear hq2
            generalize hq3 : mxL fB K s.2.1 = b1 at *
            have Q3 := Lib.hid hq3
            clear hq3
            go_upto_region 6 with fail
            have hm : Min4 w w.heap.size wr.heap.size a0 a1 b0 b1 d (wr.alloc (.cells #[.int .i64 d.1, .int .i64 d.2.1, .int .i64 d.2.2] 67)) := ⟨kl.alloc _, kh.alloc _, Blk.newAt _ _ _ _ rfl, by go_grown⟩
            have hAB : w.heap.size + 1 < wr.heap.size := kh.lt
            generalize wr.alloc (.cells #[.int .i64 d.1, .int .i64 d.2.1, .int .i64 d.2.2] 67) = w3 at *
            generalize wr.heap.size = B at *
            clear kl kh c0 c1 c2 hb
            obtain ⟨⟨m0, m1⟩, ⟨m2, m3⟩, m4, m5⟩ := hm.cells
            have fr0 := hm.lo.frozen 0
            have fr1 := hm.lo.frozen 1
            have fr2 := hm.hi.frozen 0
            have fr3 := hm.hi.frozen 1
            have l0 := hm.lo.lt
            have l1 := hm.hi.lt
            have l2 := hm.at_.lt
            go_cut [] (fun wx => Min4 w w.heap.size B (min a0 d.1) a1 b0 b1 d wx)
            case first =>
              by_cases hc : d.1 < a0
              · (go_still_tail 8, (by kernel_rfl); change wpList _ _ _ _ _ _; go_wp2_with fail; go_meet; (rw [show min a0 d.1 = d.1 by omega]; exact ⟨hm.lo.set_ 0 _, hm.hi.far (by simp) _, hm.at_.far (by simp; omega) _, by have := hm.below; go_grown⟩))
              · (go_still_tail 8, (by kernel_rfl); change wpList _ _ _ _ _ _; go_wp2_with fail; go_meet; (rw [show min a0 d.1 = a0 by omega]; exact ⟨hm.lo.set_ 0 _, hm.hi.far (by simp) _, hm.at_.far (by simp; omega) _, by have := hm.below; go_grown⟩))
            case rest =>
              replace hm := hcut
              generalize ha0 : min a0 d.1 = a0' at *
              have Ha0 := Lib.hid ha0
              clear ha0 m0 m1 m2 m3 m4 m5 l0 l1 l2 fr0 fr1 fr2 fr3
              generalize wc = w3 at *
              obtain ⟨⟨m0, m1⟩, ⟨m2, m3⟩, m4, m5⟩ := hm.cells
              have fr0 := hm.lo.frozen 0
              have fr1 := hm.lo.frozen 1
              have fr2 := hm.hi.frozen 0
              have fr3 := hm.hi.frozen 1
              have l0 := hm.lo.lt
              have l1 := hm.hi.lt
              have l2 := hm.at_.lt
              go_upto_region 7 with fail
              go_cut [] (fun wx => Min4 w w.heap.size B a0' (min a1 d.2.1) b0 b1 d wx)
              case first =>
                by_cases hc : d.2.1 < a1
                · (go_still_tail 8, (by kernel_rfl); change wpList _ _ _ _ _ _; go_wp2_with fail; go_meet; (rw [show min a1 d.2.1 = d.2.1 by omega]; exact ⟨hm.lo.set_ 1 _, hm.hi.far (by simp) _, hm.at_.far (by simp; omega) _, by have := hm.below; go_grown⟩))
                · (go_still_tail 8, (by kernel_rfl); change wpList _ _ _ _ _ _; go_wp2_with fail; go_meet; (rw [show min a1 d.2.1 = a1 by omega]; exact ⟨hm.lo.set_ 1 _, hm.hi.far (by simp) _, hm.at_.far (by simp; omega) _, by have := hm.below; go_grown⟩))
              case rest =>
                replace hm := hcut
                generalize ha1 : min a1 d.2.1 = a1' at *
                have Ha1 := Lib.hid ha1
                clear ha1 m0 m1 m2 m3 m4 m5 l0 l1 l2 fr0 fr1 fr2 fr3
                generalize wc = w3 at *
                obtain ⟨⟨m0, m1⟩, ⟨m2, m3⟩, m4, m5⟩ := hm.cells
                have fr0 := hm.lo.frozen 0
                have fr1 := hm.lo.frozen 1
                have fr2 := hm.hi.frozen 0
                have fr3 := hm.hi.frozen 1
                have l0 := hm.lo.lt
                have l1 := hm.hi.lt
                have l2 := hm.at_.lt
                go_upto_region 8 with fail
                go_cut [] (fun wx => Min4 w w.heap.size B a0' a1' (max b0 d.1) b1 d wx)
                case first =>
                  by_cases hc : b0 < d.1
                  · (go_still_tail 8, (by kernel_rfl); change wpList _ _ _ _ _ _; go_wp2_with fail; go_meet; (rw [show max b0 d.1 = d.1 by omega]; exact ⟨hm.lo.far (by simp) _, hm.hi.set_ 0 _, hm.at_.far (by simp; omega) _, by have := hm.below; go_grown⟩))
                  · (go_still_tail 8, (by kernel_rfl); change wpList _ _ _ _ _ _; go_wp2_with fail; go_meet; (rw [show max b0 d.1 = b0 by omega]; exact ⟨hm.lo.far (by simp) _, hm.hi.set_ 0 _, hm.at_.far (by simp; omega) _, by have := hm.below; go_grown⟩))
                case rest =>
                  replace hm := hcut
                  generalize hb0 : max b0 d.1 = b0' at *
                  have Hb0 := Lib.hid hb0
                  clear hb0 m0 m1 m2 m3 m4 m5 l0 l1 l2 fr0 fr1 fr2 fr3
                  generalize wc = w3 at *
                  obtain ⟨⟨m0, m1⟩, ⟨m2, m3⟩, m4, m5⟩ := hm.cells
                  have fr0 := hm.lo.frozen 0
                  have fr1 := hm.lo.frozen 1
                  have fr2 := hm.hi.frozen 0
                  have fr3 := hm.hi.frozen 1
                  have l0 := hm.lo.lt
                  have l1 := hm.hi.lt
                  have l2 := hm.at_.lt
                  have hmb := hm.below
                  have HH := Lib.hid hm
                  clear hm
                  by_cases hc : b1 < d.2.1
                  all_goals
                    go_upto_region 9 with fail
                    go_still_tail 8, (by kernel_rfl)
                    change wpList _ _ _ _ _ _
                    go_wp2_with fail
                    go_roundw
                    case rel => exact ⟨k + 1, by omega, by go_num, mm_next HH.out (by rw [HT.out, mnL_app, Q0.out]; exact Ha0.out) (by rw [HT.out, mnL_app, Q1.out]; exact Ha1.out) (by rw [HT.out, mxL_app, Q2.out]; exact Hb0.out) (by rw [HT.out, mxL_app, Q3.out]; show max _ d.2.1 = _; omega), by go_grown⟩
                    case measure => simp [intOf]; omega
        · obtain rfl : k = S.length := by omega
          rw [List.take_length] at hlh
          obtain ⟨a0, a1, b0, b1, na, nb, hbox, hb0, hb1, na1, na2, nb1, nb2, ⟨x1, x2⟩, ⟨x3, x4⟩, kl, kh⟩ := box_of (List.mem_of_getElem? HS.out) HW.out hlh
          have HP := Lib.hid hbox
          have HB0 := Lib.hid hb0
          have HB1 := Lib.hid hb1
          have y1 : a0 ≤ b0 := by omega
          have y2 : b0 ≤ 13 + 28 := by omega
          have y3 : a1 ≤ b1 := by omega
          have y4 : b1 ≤ 13 + 28 := by omega
          have c0 := kl.cell 0
          have c1 := kl.cell 1
          have c2 := kh.cell 0
          have c3 := kh.cell 1
          simp only [List.getElem?_toArray, List.getElem?_cons_zero, List.getElem?_cons_succ] at c0 c1 c2 c3
          have l0 := kl.lt
          have l1 := kh.lt
          clear hbox hb0 hb1 hlh hlt
          go_upto_region 12 with fail
          have e1 : IntKind.i64.wrap (b0 - a0) = b0 - a0 := IntWalk.i64_in _ (by omega)
          have e2 : IntKind.i64.wrap (b1 - a1) = b1 - a1 := IntWalk.i64_in _ (by omega)
          have e3 : decide (b0 - a0 < 60) = true := by simp; omega
          have e4 : decide (b1 - a1 < 60) = true := by simp; omega
          have e5 : b0 - a0 < 60 := by omega
          have e6 : b1 - a1 < 60 := by omega
          go_quiet (fail)
          clear e1 e2 e3 e4 e5 e6
          go_wp2_with fail
          have kl2 := kl.alloc (.cells #[] 123)
          have kh2 := kh.alloc (.cells #[] 123)
          have hpn : PlAt (wr.alloc (.cells #[] 123)) w.heap.size (.slice (some ⟨wr.heap.size, 0, none⟩) 0 0) [] := (pl_nil wr).low hz
          clear kl kh c0 c1 c2 c3 l0 l1
          go_loopw [7, 8, 9] (fun t7 t8 t9 wq => Bx1 w a0 a1 b0 b1 na nb t7 t8 wq) (fun _ t8 _ _ => (b1 + 2 - intOf t8).toNat)
          case atStart => exact ⟨0, Nat.zero_le _, by simp, hpn, kl2, kh2, Ba.below_dr _ (by go_grown)⟩
          case round =>
            clear kl2 kh2 hpn hb
            obtain ⟨j, hj, rfl, hpl, kl, kh, hb⟩ := hrel
            have c0 := kl.cell 0
            have c1 := kl.cell 1
            have c2 := kh.cell 0
            have c3 := kh.cell 1
            simp only [List.getElem?_toArray, List.getElem?_cons_zero, List.getElem?_cons_succ] at c0 c1 c2 c3
            have l0 := kl.lt
            have l1 := kh.lt
            by_cases hlt : j < nb
            · have hd : decide (a1 - 1 + (j : Int) ≤ b1 + 1) = true := by have := HB1.out; simp; omega
              go_wp2_with fail
              clear hd
              go_loopw [7, 9] (fun t7 t9 wq => Bx2 w a0 a1 b0 b1 na j t7 t9 wq) (fun _ t9 _ => (b0 + 2 - intOf t9).toNat)
              case atStart => exact ⟨0, Nat.zero_le _, by simp, by simpa [rowP] using hpl, kl, kh, hb⟩
              case round =>
                clear kl kh hpl hb c0 c1 c2 c3 l0 l1
                obtain ⟨i, hi, rfl, hpl, kl, kh, hb⟩ := hrel
                have c0 := kl.cell 0
                have c1 := kl.cell 1
                have c2 := kh.cell 0
                have c3 := kh.cell 1
                simp only [List.getElem?_toArray, List.getElem?_cons_zero, List.getElem?_cons_succ] at c0 c1 c2 c3
                have l0 := kl.lt
                have l1 := kh.lt
                by_cases hlt2 : i < na
                · have hd : decide (a0 - 1 + (i : Int) ≤ b0 + 1) = true := by have := HB0.out; simp; omega
                  have hz2 := hb.size
                  have HPL := Lib.hid hpl
                  generalize hX : a0 - 1 + (i : Int) = X at *
                  generalize hY : a1 - 1 + (j : Int) = Y at *
                  have HX := Lib.hid hX
                  have HY := Lib.hid hY
                  have hX1 : -20 ≤ X ∧ X ≤ 60 := by omega
                  have hblen := boxP_len (a0 - 1) (a1 - 1) na j
                  have hrlen := rowP_len (a0 - 1) Y i
                  have hjn : j * na ≤ 841 := Nat.mul_le_mul (show j ≤ 29 by omega) (show na ≤ 29 by omega)
                  have hlen : (boxP (a0 - 1) (a1 - 1) na j ++ rowP (a0 - 1) Y i).length ≤ 2000 := by rw [List.length_append, hblen, hrlen]; omega
                  have HR := Lib.hid (show boxP (a0 - 1) (a1 - 1) na j ++ rowP (a0 - 1) Y (i + 1) = (boxP (a0 - 1) (a1 - 1) na j ++ rowP (a0 - 1) Y i) ++ [(X, Y)] by rw [rowP_succ, List.append_assoc, hX])
                  clear hX hY hblen hrlen hjn hpl
                  generalize boxP (a0 - 1) (a1 - 1) na j ++ rowP (a0 - 1) Y i = Q at *
                  have hpl1 := (HPL.out.under ((Below.refl _ _).alloc (Nat.le_refl _) (.cells #[.int .i64 X, .int .i64 Y] 2))).under ((Below.refl _ _).alloc (Nat.le_refl _) (.cells #[rowV wr.heap.size] 123))
                  have kr := (Blk.newAt wr 2 #[.int .i64 X, .int .i64 Y] _ rfl).alloc (.cells #[rowV wr.heap.size] 123)
                  have hnew : ∀ j u, [rowV wr.heap.size][j]? = some u → ((wr.alloc (.cells #[.int .i64 X, .int .i64 Y] 2)).alloc (.cells #[rowV wr.heap.size] 123)).cell? ((⟨wr.heap.size + 1, 0, none⟩ : Addr).add j) = some u := fun j u hu => by
                    rw [Addr.add_lit, Nat.zero_add, (Blk.newAt (wr.alloc (.cells #[.int .i64 X, .int .i64 Y] 2)) 123 #[rowV wr.heap.size] (wr.heap.size + 1) (by simp)).cell j]
                    simpa using hu
                  obtain ⟨G, hGl, hown, hrows⟩ := hpl1
                  have hpl2 := hrows
                  clear HPL hd
                  have hd : decide (X ≤ b0 + 1) = true := by have := HB0.out; have := HX.out; simp; omega
                  go_wp2_with (at_builtin; refine wpList_append_own _ rfl _ _ 121 rfl w.heap.size 123 i0 _ 1 24 Tryd.underlying121 hi0 hz0 hz1 hz2' rfl (by decide) _ _ _ rfl hown ⟨wr.heap.size + 1, 0, none⟩ 1 1 [rowV wr.heap.size] rfl rfl hnew (by simp [rowV, Value.oneCell']) (by unfold maxLen; omega) (by omega) (by simp; omega) ?_)
                  intro v' w' hown' hgr _
                  have hb2 : Below w.heap.size w w' := ((hb.alloc hz2 (.cells #[.int .i64 X, .int .i64 Y] 2)).alloc (by simp; omega) (.cells #[rowV wr.heap.size] 123)).grown hgr (by simp; omega) (fun q hq => (hown.lt q hq).1)
                  have hpl3 : PlAt w' w.heap.size v' (Q ++ [(X, Y)]) := pl_snoc' hown hGl hrows kr hown' hgr
                  have kl' := ((kl.alloc (.cells #[.int .i64 X, .int .i64 Y] 2)).alloc (.cells #[rowV wr.heap.size] 123)).grown hgr (Ba.own_blk_ne hown ((kl.alloc (.cells #[.int .i64 X, .int .i64 Y] 2)).alloc (.cells #[rowV wr.heap.size] 123)) (by decide))
                  have kh' := ((kh.alloc (.cells #[.int .i64 X, .int .i64 Y] 2)).alloc (.cells #[rowV wr.heap.size] 123)).grown hgr (Ba.own_blk_ne hown ((kh.alloc (.cells #[.int .i64 X, .int .i64 Y] 2)).alloc (.cells #[rowV wr.heap.size] 123)) (by decide))
                  clear hown hrows hown' hgr kl kh
                  go_wp2_with fail
                  go_roundw
                  case rel => exact ⟨i + 1, by omega, by have := HX.out; go_num, by rw [HY.out, HR.out]; exact hpl3, kl', kh', hb2⟩
                  case measure => have := HX.out; have := HB0.out; simp [intOf]; omega
                · obtain rfl : i = na := by omega
                  have hd : decide (a0 - 1 + (i : Int) ≤ b0 + 1) = false := by have := HB0.out; simp; omega
                  go_wp2_with fail
                  clear hd
                  go_roundw
                  case rel => exact ⟨j + 1, by omega, by go_num, hpl, kl, kh, hb⟩
                  case measure => simp [intOf]; have := HB1.out; omega
            · obtain rfl : j = nb := by omega
              have hd : decide (a1 - 1 + (j : Int) ≤ b1 + 1) = false := by have := HB1.out; simp; omega
              go_wp2_with fail
              go_ret
              exact ⟨_, rfl, by rw [HP.out]; exact hpl, hb⟩
end Go.Proofs.YtcmfkdhadmfgkaaDoor.Fl
