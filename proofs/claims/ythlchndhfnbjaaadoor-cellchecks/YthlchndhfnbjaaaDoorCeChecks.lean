/- CellChecks: any number as a lattice, any cells, any word: may it be one, their order, words, as the document says. No conditions. -/
import Derived.Test.YthlchndhfnbjaaaDoorCeW9
import Derived.Test.YthlchndhfnbjaaaDoorAxR3
import Derived.Test.YthlchndhfnbjaaaDoorCeW7
import Derived.Deep.RegionHeld3
import Derived.Deep.DeepCutAuto
namespace Go.Proofs.YthlchndhfnbjaaaDoor.Ce
open Go.RowKit Go.Proofs.YthlchndhfnbjaaaDoor.Ax

theorem keep33 {W w' : World} {G E : Nat} {x y z p q r : Int} (kg : Box3 G W x y z) (kx : Box3 E W p q r) (hb : Below W.heap.size W w') :
    w'.cell? ⟨G, 0, none⟩ = some (.int .i64 x) ∧ w'.cell? ⟨G, 1, none⟩ = some (.int .i64 y) ∧ w'.cell? ⟨G, 2, none⟩ = some (.int .i64 z) ∧ w'.cell? ⟨E, 0, none⟩ = some (.int .i64 p) ∧ w'.cell? ⟨E, 1, none⟩ = some (.int .i64 q) ∧ w'.cell? ⟨E, 2, none⟩ = some (.int .i64 r) :=
  ⟨(box3_below kg hb).1.1, (box3_below kg hb).1.2.1, (box3_below kg hb).1.2.2, (box3_below kx hb).1.1, (box3_below kx hb).1.2.1, (box3_below kx hb).1.2.2⟩
theorem codeOf_any (n : Int) (w : World) (hE : ErrIs w) :
    Calls Tryd.prog 14 #[errOf n] w fun e w' => e = .returned (.int .i64 n) ∧ Below w.heap.size w w' := by
  unfold errOf
  by_cases h : n = 0
  · subst h; rw [if_pos rfl]; exact codeOf_nil w
  · rw [if_neg h]; exact codeOf_er n w hE
/-- Is a text this lattice's word? The lattice among the first k words. -/
def isW1 (s : ByteArray) : Bool := [104, 101, 120] == s.toList
def isW2 (s : ByteArray) : Bool := [101, 100, 103, 101] == s.toList
def isW3 (s : ByteArray) : Bool := [118, 101, 114, 116, 101, 120] == s.toList
def nmK (s : ByteArray) : Nat → Int
  | 0 => 0
  | 1 => 0
  | 2 => if isW1 s = true then 1 else 0
  | 3 => if isW2 s = true then 2 else if isW1 s = true then 1 else 0
  | _ => if isW3 s = true then 3 else if isW2 s = true then 2 else if isW1 s = true then 1 else 0
theorem nm1 : (nameB 1).toList = [104, 101, 120] := by decide +kernel
theorem nm2 : (nameB 2).toList = [101, 100, 103, 101] := by decide +kernel
theorem nm3 : (nameB 3).toList = [118, 101, 114, 116, 101, 120] := by decide +kernel
theorem nmK_all (s : ByteArray) : nmK s 4 = namedV s := by
  unfold namedV
  rw [nm1, nm2, nm3]
  show (if isW3 s = true then (3 : Int) else if isW2 s = true then 2 else if isW1 s = true then 1 else 0) = if isW1 s = true then 1 else if isW2 s = true then 2 else if isW3 s = true then 3 else 0
  cases h1 : isW1 s <;> cases h2 : isW2 s <;> cases h3 : isW3 s <;> simp
  all_goals (unfold isW1 isW2 isW3 at *; simp only [beq_iff_eq] at h1 h2 h3)
  · rw [← h2] at h3; simp at h3
  · rw [← h1] at h3; simp at h3
  · rw [← h1] at h2; simp at h2
  · rw [← h1] at h2; simp at h2
abbrev words4 : Array Value := #[.string ⟨#[]⟩, .string ⟨#[104, 101, 120]⟩, .string ⟨#[101, 100, 103, 101]⟩, .string ⟨#[118, 101, 114, 116, 101, 120]⟩]
def ChRel (w : World) (NB : Nat) (a b h c d k : Int) (s : ByteArray) (n i : Value) (wr : World) : Prop :=
  ∃ m : Nat, m ≤ 4 ∧ i = .int .i64 m ∧ n = .int .i64 (nmK s m) ∧ Below w.heap.size w wr ∧ Box3 w.heap.size wr a b h ∧ Box3 (w.heap.size + 1) wr c d k ∧ Blk wr NB 9 words4
def WantRel (w : World) (a b h c d k V : Int) (v : Value) (wx : World) : Prop :=
  v = .int .i64 V ∧ Below w.heap.size w wx ∧ Box3 w.heap.size wx a b h ∧ Box3 (w.heap.size + 1) wx c d k
set_option maxRecDepth 100000 in
set_option maxHeartbeats 16000000 in
theorem cellChecks_walk (l : Int) (_wl : (Lit.int .i64 l).wf = true) (a : Int) (_wa : (Lit.int .i64 a).wf = true) (b : Int) (_wb : (Lit.int .i64 b).wf = true) (h : Int) (_wh : (Lit.int .i64 h).wf = true)
    (c : Int) (_wc : (Lit.int .i64 c).wf = true) (d : Int) (_wd : (Lit.int .i64 d).wf = true) (k : Int) (_wk : (Lit.int .i64 k).wf = true) (s : ByteArray) (_ws : s.size ≤ maxLen) (w : World) (hs : SixIs w) (hE : ErrIs w) :
    Calls Tryd.prog 3 #[.int .i64 l, Ce a b h, Ce c d k, .string s] w fun e w' => e = .returned (.bool true) ∧ Below w.heap.size w w' := by
  have HC := Lib.hid (cmp_ahead a b h c d k)
  obtain ⟨V, hV⟩ : ∃ V, ceCmp a b h c d k = V := ⟨_, rfl⟩
  have hcp := compare_any a b h c d k
  rw [hV] at hcp
  have HV := Lib.hid hV
  clear hV
  have nr := neq_rc a b h c d k
  go_enter Tryd.func3, Tryd.ntmps3
  go_wp2_with fail
  refine (awake_any _ (hs.below (by go_grown))).mono ?_
  rintro e w1 ⟨rfl, hb⟩
  have k1 : Box3 w.heap.size w1 a b h := box3_below (by simp [Box3, go_sem]) hb
  have k2 : Box3 (w.heap.size + 1) w1 c d k := box3_below (by simp [Box3, go_sem]) hb
  have hb1 := below_call (B := w.heap.size) (w := w) hb (by go_grown) (by go_size)
  clear hb
  obtain ⟨⟨a0, a1, a2⟩, _, al⟩ := id k1
  obtain ⟨⟨b0, b1, b2⟩, _, bl⟩ := id k2
  go_upto_if 21 with (go_at_call 13; refine (ahead_any _ _ _ _ _ _ _).mono ?_; rintro e w2 ⟨rfl, hb2⟩)
  have k3 := box3_below k1 hb2
  have k4 := box3_below k2 hb2
  have hb3 := below_call (B := w.heap.size) (w := w) hb2 hb1 hb1.size
  clear hb2 k1 k2 hb1 a0 a1 a2 al b0 b1 b2 bl
  go_cut [10] (fun v wx => WantRel w a b h c d k V v wx)
  case first =>
    obtain ⟨⟨a0, a1, a2⟩, _, al⟩ := id k3
    obtain ⟨⟨b0, b1, b2⟩, _, bl⟩ := id k4
    have E1 := HV.out
    rw [HC.out] at E1
    cases g1 : aheadB a b h c d k
    · rw [g1, if_neg (by simp)] at E1
      cases g2 : (!(a == c && (b == d && h == k)))
      · rw [g2, if_neg (by simp)] at E1
        rw [g2] at nr
        have HE1 := Lib.hid E1
        clear g2 E1 g1
        go_wp2_with fail
        go_meet
        exact ⟨by rw [HE1.out], hb3, k3, k4⟩
      · rw [g2, if_pos rfl] at E1
        rw [g2] at nr
        have HE1 := Lib.hid E1
        clear g2 E1 g1
        go_wp2_with fail
        go_meet
        exact ⟨by rw [HE1.out], hb3, k3, k4⟩
    · rw [g1, if_pos rfl] at E1
      have HE1 := Lib.hid E1
      clear E1 g1
      go_wp2_with fail
      go_meet
      exact ⟨by rw [HE1.out], hb3, k3, k4⟩
  case rest =>
    obtain ⟨rfl, hb4, k5, k6⟩ := hcut
    clear k3 k4 hb3 HC HV nr
    have hz4 := hb4.size
    go_wp2_with fail
    have hd : Below wc.heap.size wc (wc.alloc (.cells words4 9)) := by go_grown
    have kn : Blk (wc.alloc (.cells words4 9)) wc.heap.size 9 words4 := Blk.newAt _ _ _ _ rfl
    replace k5 := box3_below k5 hd
    replace k6 := box3_below k6 hd
    replace hb4 := hb4.trans (hd.mono hz4)
    clear hd hz4
    generalize wc.heap.size = NB at *
    go_loopw [12, 28] (fun n i wr => ChRel w NB a b h c d k s n i wr) (fun _ i _ => 4 - (intOf i).toNat)
    case atStart => exact ⟨0, by omega, rfl, rfl, hb4, k5, k6, kn⟩
    case round =>
      clear hb4 k5 k6 kn
      obtain ⟨m, hm, rfl, rfl, hb4, k5, k6, kn⟩ := hrel
      have q0 := kn.cell 0
      have q1 := kn.cell 1
      have q2 := kn.cell 2
      have q3 := kn.cell 3
      simp only [List.getElem?_toArray, List.getElem?_cons_zero, List.getElem?_cons_succ] at q0 q1 q2 q3
      have hm5 : m = 0 ∨ m = 1 ∨ m = 2 ∨ m = 3 ∨ m = 4 := by omega
      rcases hm5 with rfl | rfl | rfl | rfl | rfl
      · go_wp2
        go_roundw
        case rel => exact ⟨1, by omega, by go_num, rfl, hb4, k5, k6, kn⟩
        case measure => simp [intOf]
      · cases g : isW1 s
        all_goals
          have HG := Lib.hid g
          unfold isW1 at g
          go_wp2
          go_roundw
          case rel => exact ⟨2, by omega, by go_num, by simp [nmK, HG.out], hb4, k5, k6, kn⟩
          case measure => simp [intOf]
      · cases g : isW2 s
        all_goals
          have HG := Lib.hid g
          unfold isW2 at g
          go_wp2
          go_roundw
          case rel => exact ⟨3, by omega, by go_num, by simp [nmK, HG.out], hb4, k5, k6, kn⟩
          case measure => simp [intOf]
      · cases g : isW3 s
        all_goals
          have HG := Lib.hid g
          unfold isW3 at g
          go_wp2
          go_roundw
          case rel => exact ⟨4, by omega, by go_num, by simp [nmK, HG.out], hb4, k5, k6, kn⟩
          case measure => simp [intOf]
      · rw [nmK_all]
        have hE4 := hE.below hb4
        have hnn : (chkV l a b h != chkV l a b h) = false := by simp
        have hvv : (V != V) = false := by simp
        have hdd : (namedV s != namedV s) = false := by simp
        have hkb : Below wr.heap.size wr wr := Below.refl _ _
        have hnl := kn.lt
        have hz := hb4.size
        by_cases l1 : l < 1
        · have hlat : latB l = false := by simp [latB]; omega
          have nb : nameB l = ⟨#[]⟩ := by unfold nameB; rw [if_neg (by omega), if_neg (by omega), if_neg (by omega)]
          have hd1 : decide (1 ≤ l) = false := by simp; omega
          have nma := name_any l
          rw [nb] at nma
          clear nb
          go_wp2_with fail
          (go_region_held3 (fun w' => w'.cell? ⟨w.heap.size, 0, none⟩ = some (.int .i64 a) ∧ w'.cell? ⟨w.heap.size, 1, none⟩ = some (.int .i64 b) ∧ w'.cell? ⟨w.heap.size, 2, none⟩ = some (.int .i64 h) ∧ w'.cell? ⟨w.heap.size + 1, 0, none⟩ = some (.int .i64 c) ∧ w'.cell? ⟨w.heap.size + 1, 1, none⟩ = some (.int .i64 d) ∧ w'.cell? ⟨w.heap.size + 1, 2, none⟩ = some (.int .i64 k)) (first | (refine keep33 k5 k6 ?_; go_grown; done)) (first | (go_at_call 16; refine (own_any _ _ _ _).mono ?_; rintro e w7 ⟨rfl, hb⟩; have hkb : Below wr.heap.size wr w7 := below_call hb (by go_grown) (by have := hkb.size; first | omega | (simp; done) | (simp; omega)); clear hb) | (go_at_call 15; refine (check_v _ _ _ _ _).mono ?_; rintro e w7 ⟨rfl, hb⟩; have hkb : Below wr.heap.size wr w7 := below_call hb (by go_grown) (by have := hkb.size; first | omega | (simp; done) | (simp; omega)); clear hb) | (go_at_call 14; refine (codeOf_any _ _ (hE4.below (by go_grown))).mono ?_; rintro e w7 ⟨rfl, hb⟩; have hkb : Below wr.heap.size wr w7 := below_call hb (by go_grown) (by have := hkb.size; first | omega | (simp; done) | (simp; omega)); clear hb) | (go_at_call 17; refine (refcheck_any _ _ _ _ _).mono ?_; rintro e w7 ⟨rfl, hb⟩; have hkb : Below wr.heap.size wr w7 := below_call hb (by go_grown) (by have := hkb.size; first | omega | (simp; done) | (simp; omega)); clear hb) | (go_at_call 18; refine (hcp _).mono ?_; rintro e w7 ⟨rfl, hb⟩; have hkb : Below wr.heap.size wr w7 := below_call hb (by go_grown) (by have := hkb.size; first | omega | (simp; done) | (simp; omega)); clear hb) | (go_at_call 19; refine (lgood_any _ _).mono ?_; rintro e w' ⟨rfl, rfl⟩) | (go_at_call 20; refine (named_any _ _).mono ?_; rintro e w' ⟨rfl, rfl⟩)))
          all_goals
            have kn7 := kn.below hkb hnl
            have hb7 := hb4.trans (hkb.mono hz)
            clear hkb
            go_wp2_with fail
            go_quiet ((go_at_call 21; exact q_first nma))
            go_wp2
            go_ret
            exact ⟨rfl, below_dr _ hb7⟩
        · by_cases l2 : 3 < l
          · have hlat : latB l = false := by simp [latB]; omega
            have nb : nameB l = ⟨#[]⟩ := by unfold nameB; rw [if_neg (by omega), if_neg (by omega), if_neg (by omega)]
            have hd1 : decide (1 ≤ l) = true := by simp; omega
            have hd2 : decide (l ≤ 3) = false := by simp; omega
            have nma := name_any l
            rw [nb] at nma
            clear nb
            go_wp2_with fail
            (go_region_held3 (fun w' => w'.cell? ⟨w.heap.size, 0, none⟩ = some (.int .i64 a) ∧ w'.cell? ⟨w.heap.size, 1, none⟩ = some (.int .i64 b) ∧ w'.cell? ⟨w.heap.size, 2, none⟩ = some (.int .i64 h) ∧ w'.cell? ⟨w.heap.size + 1, 0, none⟩ = some (.int .i64 c) ∧ w'.cell? ⟨w.heap.size + 1, 1, none⟩ = some (.int .i64 d) ∧ w'.cell? ⟨w.heap.size + 1, 2, none⟩ = some (.int .i64 k)) (first | (refine keep33 k5 k6 ?_; go_grown; done)) (first | (go_at_call 16; refine (own_any _ _ _ _).mono ?_; rintro e w7 ⟨rfl, hb⟩; have hkb : Below wr.heap.size wr w7 := below_call hb (by go_grown) (by have := hkb.size; first | omega | (simp; done) | (simp; omega)); clear hb) | (go_at_call 15; refine (check_v _ _ _ _ _).mono ?_; rintro e w7 ⟨rfl, hb⟩; have hkb : Below wr.heap.size wr w7 := below_call hb (by go_grown) (by have := hkb.size; first | omega | (simp; done) | (simp; omega)); clear hb) | (go_at_call 14; refine (codeOf_any _ _ (hE4.below (by go_grown))).mono ?_; rintro e w7 ⟨rfl, hb⟩; have hkb : Below wr.heap.size wr w7 := below_call hb (by go_grown) (by have := hkb.size; first | omega | (simp; done) | (simp; omega)); clear hb) | (go_at_call 17; refine (refcheck_any _ _ _ _ _).mono ?_; rintro e w7 ⟨rfl, hb⟩; have hkb : Below wr.heap.size wr w7 := below_call hb (by go_grown) (by have := hkb.size; first | omega | (simp; done) | (simp; omega)); clear hb) | (go_at_call 18; refine (hcp _).mono ?_; rintro e w7 ⟨rfl, hb⟩; have hkb : Below wr.heap.size wr w7 := below_call hb (by go_grown) (by have := hkb.size; first | omega | (simp; done) | (simp; omega)); clear hb) | (go_at_call 19; refine (lgood_any _ _).mono ?_; rintro e w' ⟨rfl, rfl⟩) | (go_at_call 20; refine (named_any _ _).mono ?_; rintro e w' ⟨rfl, rfl⟩)))
            all_goals
              have kn7 := kn.below hkb hnl
              have hb7 := hb4.trans (hkb.mono hz)
              clear hkb
              go_wp2_with fail
              go_quiet ((go_at_call 21; exact q_first nma))
              go_wp2
              go_ret
              exact ⟨rfl, below_dr _ hb7⟩
          · have hl : l = 1 ∨ l = 2 ∨ l = 3 := by omega
            clear l1 l2
            rcases hl with rfl | rfl | rfl
            · have hlat : latB 1 = true := by decide
              have nb : nameB 1 = ⟨#[104, 101, 120]⟩ := by decide
              have nma := name_any 1
              rw [nb] at nma
              clear nb
              have hva := halves_any 1
              rw [show halvesV 1 = 1 by decide] at hva
              go_wp2_with fail
              (go_region_held3 (fun w' => w'.cell? ⟨w.heap.size, 0, none⟩ = some (.int .i64 a) ∧ w'.cell? ⟨w.heap.size, 1, none⟩ = some (.int .i64 b) ∧ w'.cell? ⟨w.heap.size, 2, none⟩ = some (.int .i64 h) ∧ w'.cell? ⟨w.heap.size + 1, 0, none⟩ = some (.int .i64 c) ∧ w'.cell? ⟨w.heap.size + 1, 1, none⟩ = some (.int .i64 d) ∧ w'.cell? ⟨w.heap.size + 1, 2, none⟩ = some (.int .i64 k)) (first | (refine keep33 k5 k6 ?_; go_grown; done)) (first | (go_at_call 16; refine (own_any _ _ _ _).mono ?_; rintro e w7 ⟨rfl, hb⟩; have hkb : Below wr.heap.size wr w7 := below_call hb (by go_grown) (by have := hkb.size; first | omega | (simp; done) | (simp; omega)); clear hb) | (go_at_call 15; refine (check_v _ _ _ _ _).mono ?_; rintro e w7 ⟨rfl, hb⟩; have hkb : Below wr.heap.size wr w7 := below_call hb (by go_grown) (by have := hkb.size; first | omega | (simp; done) | (simp; omega)); clear hb) | (go_at_call 14; refine (codeOf_any _ _ (hE4.below (by go_grown))).mono ?_; rintro e w7 ⟨rfl, hb⟩; have hkb : Below wr.heap.size wr w7 := below_call hb (by go_grown) (by have := hkb.size; first | omega | (simp; done) | (simp; omega)); clear hb) | (go_at_call 17; refine (refcheck_any _ _ _ _ _).mono ?_; rintro e w7 ⟨rfl, hb⟩; have hkb : Below wr.heap.size wr w7 := below_call hb (by go_grown) (by have := hkb.size; first | omega | (simp; done) | (simp; omega)); clear hb) | (go_at_call 18; refine (hcp _).mono ?_; rintro e w7 ⟨rfl, hb⟩; have hkb : Below wr.heap.size wr w7 := below_call hb (by go_grown) (by have := hkb.size; first | omega | (simp; done) | (simp; omega)); clear hb) | (go_at_call 19; refine (lgood_any _ _).mono ?_; rintro e w' ⟨rfl, rfl⟩) | (go_at_call 20; refine (named_any _ _).mono ?_; rintro e w' ⟨rfl, rfl⟩)))
              all_goals
                have kn7 := kn.below hkb hnl
                have hl7 := kn7.lt
                have q1 := kn7.cell 1
                have q2 := kn7.cell 2
                have q3 := kn7.cell 3
                simp only [List.getElem?_toArray, List.getElem?_cons_zero, List.getElem?_cons_succ] at q1 q2 q3
                have hb7 := hb4.trans (hkb.mono hz)
                clear hkb
                go_wp2_with fail
                go_quiet ((first | (go_at_call 21; exact q_first nma) | (go_at_call 22; exact q_first hva)))
                go_wp2
                go_ret
                exact ⟨rfl, below_dr _ hb7⟩
            · have hlat : latB 2 = true := by decide
              have nb : nameB 2 = ⟨#[101, 100, 103, 101]⟩ := by decide
              have nma := name_any 2
              rw [nb] at nma
              clear nb
              have hva := halves_any 2
              rw [show halvesV 2 = 2 by decide] at hva
              go_wp2_with fail
              (go_region_held3 (fun w' => w'.cell? ⟨w.heap.size, 0, none⟩ = some (.int .i64 a) ∧ w'.cell? ⟨w.heap.size, 1, none⟩ = some (.int .i64 b) ∧ w'.cell? ⟨w.heap.size, 2, none⟩ = some (.int .i64 h) ∧ w'.cell? ⟨w.heap.size + 1, 0, none⟩ = some (.int .i64 c) ∧ w'.cell? ⟨w.heap.size + 1, 1, none⟩ = some (.int .i64 d) ∧ w'.cell? ⟨w.heap.size + 1, 2, none⟩ = some (.int .i64 k)) (first | (refine keep33 k5 k6 ?_; go_grown; done)) (first | (go_at_call 16; refine (own_any _ _ _ _).mono ?_; rintro e w7 ⟨rfl, hb⟩; have hkb : Below wr.heap.size wr w7 := below_call hb (by go_grown) (by have := hkb.size; first | omega | (simp; done) | (simp; omega)); clear hb) | (go_at_call 15; refine (check_v _ _ _ _ _).mono ?_; rintro e w7 ⟨rfl, hb⟩; have hkb : Below wr.heap.size wr w7 := below_call hb (by go_grown) (by have := hkb.size; first | omega | (simp; done) | (simp; omega)); clear hb) | (go_at_call 14; refine (codeOf_any _ _ (hE4.below (by go_grown))).mono ?_; rintro e w7 ⟨rfl, hb⟩; have hkb : Below wr.heap.size wr w7 := below_call hb (by go_grown) (by have := hkb.size; first | omega | (simp; done) | (simp; omega)); clear hb) | (go_at_call 17; refine (refcheck_any _ _ _ _ _).mono ?_; rintro e w7 ⟨rfl, hb⟩; have hkb : Below wr.heap.size wr w7 := below_call hb (by go_grown) (by have := hkb.size; first | omega | (simp; done) | (simp; omega)); clear hb) | (go_at_call 18; refine (hcp _).mono ?_; rintro e w7 ⟨rfl, hb⟩; have hkb : Below wr.heap.size wr w7 := below_call hb (by go_grown) (by have := hkb.size; first | omega | (simp; done) | (simp; omega)); clear hb) | (go_at_call 19; refine (lgood_any _ _).mono ?_; rintro e w' ⟨rfl, rfl⟩) | (go_at_call 20; refine (named_any _ _).mono ?_; rintro e w' ⟨rfl, rfl⟩)))
              all_goals
                have kn7 := kn.below hkb hnl
                have hl7 := kn7.lt
                have q1 := kn7.cell 1
                have q2 := kn7.cell 2
                have q3 := kn7.cell 3
                simp only [List.getElem?_toArray, List.getElem?_cons_zero, List.getElem?_cons_succ] at q1 q2 q3
                have hb7 := hb4.trans (hkb.mono hz)
                clear hkb
                go_wp2_with fail
                go_quiet ((first | (go_at_call 21; exact q_first nma) | (go_at_call 22; exact q_first hva)))
                go_wp2
                go_ret
                exact ⟨rfl, below_dr _ hb7⟩
            · have hlat : latB 3 = true := by decide
              have nb : nameB 3 = ⟨#[118, 101, 114, 116, 101, 120]⟩ := by decide
              have nma := name_any 3
              rw [nb] at nma
              clear nb
              have hva := halves_any 3
              rw [show halvesV 3 = 2 by decide] at hva
              go_wp2_with fail
              (go_region_held3 (fun w' => w'.cell? ⟨w.heap.size, 0, none⟩ = some (.int .i64 a) ∧ w'.cell? ⟨w.heap.size, 1, none⟩ = some (.int .i64 b) ∧ w'.cell? ⟨w.heap.size, 2, none⟩ = some (.int .i64 h) ∧ w'.cell? ⟨w.heap.size + 1, 0, none⟩ = some (.int .i64 c) ∧ w'.cell? ⟨w.heap.size + 1, 1, none⟩ = some (.int .i64 d) ∧ w'.cell? ⟨w.heap.size + 1, 2, none⟩ = some (.int .i64 k)) (first | (refine keep33 k5 k6 ?_; go_grown; done)) (first | (go_at_call 16; refine (own_any _ _ _ _).mono ?_; rintro e w7 ⟨rfl, hb⟩; have hkb : Below wr.heap.size wr w7 := below_call hb (by go_grown) (by have := hkb.size; first | omega | (simp; done) | (simp; omega)); clear hb) | (go_at_call 15; refine (check_v _ _ _ _ _).mono ?_; rintro e w7 ⟨rfl, hb⟩; have hkb : Below wr.heap.size wr w7 := below_call hb (by go_grown) (by have := hkb.size; first | omega | (simp; done) | (simp; omega)); clear hb) | (go_at_call 14; refine (codeOf_any _ _ (hE4.below (by go_grown))).mono ?_; rintro e w7 ⟨rfl, hb⟩; have hkb : Below wr.heap.size wr w7 := below_call hb (by go_grown) (by have := hkb.size; first | omega | (simp; done) | (simp; omega)); clear hb) | (go_at_call 17; refine (refcheck_any _ _ _ _ _).mono ?_; rintro e w7 ⟨rfl, hb⟩; have hkb : Below wr.heap.size wr w7 := below_call hb (by go_grown) (by have := hkb.size; first | omega | (simp; done) | (simp; omega)); clear hb) | (go_at_call 18; refine (hcp _).mono ?_; rintro e w7 ⟨rfl, hb⟩; have hkb : Below wr.heap.size wr w7 := below_call hb (by go_grown) (by have := hkb.size; first | omega | (simp; done) | (simp; omega)); clear hb) | (go_at_call 19; refine (lgood_any _ _).mono ?_; rintro e w' ⟨rfl, rfl⟩) | (go_at_call 20; refine (named_any _ _).mono ?_; rintro e w' ⟨rfl, rfl⟩)))
              all_goals
                have kn7 := kn.below hkb hnl
                have hl7 := kn7.lt
                have q1 := kn7.cell 1
                have q2 := kn7.cell 2
                have q3 := kn7.cell 3
                simp only [List.getElem?_toArray, List.getElem?_cons_zero, List.getElem?_cons_succ] at q1 q2 q3
                have hb7 := hb4.trans (hkb.mono hz)
                clear hkb
                go_wp2_with fail
                go_quiet ((first | (go_at_call 21; exact q_first nma) | (go_at_call 22; exact q_first hva)))
                go_wp2
                go_ret
                exact ⟨rfl, below_dr _ hb7⟩
section cellChecksFrame
open Go.ChangeShapes Go.WideShapes Go.ChangeAt Go.RowKit Go.Joins
set_option maxRecDepth 100000 in
theorem cellChecks_contract (H : Type) (enc : TypeId × Value → H) (W : World) (base : Nat) (args : Array Value) (ds gs : List (DataW H)) (before : List MemPlace)
    (hval : ∀ (j : Nat) t v, Tryd.f3.params[j]? = some t → args[j]? = some v → Value.okWide Tryd.prog W .any base t v)
    (hW : DataW.Whole enc Tryd.prog Tryd.f3.params.toList Rows.cellChecksSpec.vars false W args.toList ds gs before) (hL : laidMetH Tryd.prog Rows.cellChecksRow.laid W) :
    Calls Tryd.prog 3 args W fun e W' => ∃ v, e = .returned v ∧ Rows.cellChecksSpec.post enc Tryd.prog Tryd.f3 false true false false W args v W' := by
  have hW' := hW
  obtain ⟨p, q, hA0, hV, rfl, hfz, hnd⟩ := hW
  have hA : DataW.TrodAll enc Tryd.prog W 0 (fun _ => true) true Tryd.f3.params.toList args.toList ds p := hA0
  rw [Tryd.params3] at hA hval
  obtain ⟨v0, vs0, d0, ds0, p0, q0, hargs, rfl, rfl, h0, r0⟩ := trodAll_cons hA
  obtain ⟨v1, vs1, d1, ds1, p1, q1, rfl, rfl, rfl, h1, r1⟩ := trodAll_cons r0
  obtain ⟨v2, vs2, d2, ds2, p2, q2, rfl, rfl, rfl, h2, r2⟩ := trodAll_cons r1
  obtain ⟨v3, vs3, d3, ds3, p3, q3, rfl, rfl, rfl, h3, r3⟩ := trodAll_cons r2
  obtain ⟨rfl, rfl, rfl⟩ := trodAll_nil r3
  obtain rfl : args = #[v0, v1, v2, v3] := by cases args; simp_all
  obtain ⟨rfl, rfl⟩ := trodVars_none hV
  obtain ⟨l, rfl, rfl, rfl, w_l⟩ := open_int Tryd.underlying3 (hval 0 3 v0 rfl rfl) h0
  obtain ⟨c10, c11, c12, y10, y11, y12, m1, rfl, rfl, rfl, hy10, hy11, hy12⟩ := open_agg3 Tryd.underlying23 (by kernel_rfl) (by kernel_rfl) (hval 1 23 v1 rfl rfl) h1
  obtain ⟨cA, e10, rfl, w_cA⟩ := DataW.trod_int Tryd.underlying2 hy10
  simp at e10; subst e10
  obtain ⟨cB, e11, rfl, w_cB⟩ := DataW.trod_int Tryd.underlying2 hy11
  simp at e11; subst e11
  obtain ⟨cH, e12, rfl, w_cH⟩ := DataW.trod_int Tryd.underlying3 hy12
  simp at e12; subst e12
  obtain ⟨c20, c21, c22, y20, y21, y22, m2, rfl, rfl, rfl, hy20, hy21, hy22⟩ := open_agg3 Tryd.underlying23 (by kernel_rfl) (by kernel_rfl) (hval 2 23 v2 rfl rfl) h2
  obtain ⟨dA, e20, rfl, w_dA⟩ := DataW.trod_int Tryd.underlying2 hy20
  simp at e20; subst e20
  obtain ⟨dB, e21, rfl, w_dB⟩ := DataW.trod_int Tryd.underlying2 hy21
  simp at e21; subst e21
  obtain ⟨dH, e22, rfl, w_dH⟩ := DataW.trod_int Tryd.underlying3 hy22
  simp at e22; subst e22
  obtain ⟨s, rfl, rfl, rfl, w_s⟩ := Go.ChangeMaps.open_string Tryd.underlying9 (hval 3 9 v3 rfl rfl) h3
  refine (cellChecks_walk l w_l cA w_cA cB w_cB cH w_cH dA w_dA dB w_dB dH w_dH s w_s W (two_of_laid hL).1 (two_of_laid hL).2).mono fun e W' ⟨he, hb⟩ => ?_
  exact ⟨_, he, law_post laidOut rfl rfl Tryd.underlying4 (by kernel_rfl) hW' hb ⟨rfl, rfl, rfl⟩⟩
theorem cellChecks_met (os : Os) : laidMetH Tryd.prog Rows.cellChecksRow.laid ((laidWorld2 os).forCall (fun _ _ => 0) ⟨#[], #[.int .i64 0, .agg #[.int .i64 0, .int .i64 0, .int .i64 0], .agg #[.int .i64 0, .int .i64 0, .int .i64 0], .string ⟨#[]⟩], []⟩).memory :=
  laidMetH_of_parts (laidMet_of_run' 8 (by kernel_rfl) (by kernel_rfl)) (by kernel_rfl)
theorem cellChecks_reads (os : Os) {H : Type} (enc : TypeId × Value → H) : ∃ places, DataW.whole enc Tryd.prog ((laidWorld2 os).forCall (fun _ _ => 0) ⟨#[], #[.int .i64 0, .agg #[.int .i64 0, .int .i64 0, .int .i64 0], .agg #[.int .i64 0, .int .i64 0, .int .i64 0], .string ⟨#[]⟩], []⟩).memory Tryd.f3.params.toList Rows.cellChecksSpec.vars false #[(.int .i64 0 : Value), (.agg #[.int .i64 0, .int .i64 0, .int .i64 0] : Value), (.agg #[.int .i64 0, .int .i64 0, .int .i64 0] : Value), (.string ⟨#[]⟩ : Value)].toList 8 = some ([.lit (.int .i64 0), .agg [.lit (.int .i64 0), .lit (.int .i64 0), .lit (.int .i64 0)], .agg [.lit (.int .i64 0), .lit (.int .i64 0), .lit (.int .i64 0)], .lit (.string [])], [], places) :=
  ⟨[], by kernel_rfl⟩
set_option maxRecDepth 100000 in
theorem cellChecks_lifted (os : Os) (started : os.Started) (H : Type) (enc : TypeId × Value → H) (F : Stop.Interp) :
    ReturnsInHanded {} Tryd.checked os 3 .any ((OpenSpec.ofChange Rows.cellChecksSpec).preRow enc Tryd.prog Tryd.f3 Rows.cellChecksRow.domain false Rows.cellChecksRow.laid) (((OpenSpec.ofChange Rows.cellChecksSpec).at F).post enc Tryd.prog Tryd.f3 false true false false) := by
  obtain ⟨places, hx⟩ := cellChecks_reads os enc
  refine returnsInHanded_of_row (C := Tryd.checked) (s := OpenSpec.ofChange Rows.cellChecksSpec) own started (by kernel_rfl) Tryd.func3
    (witness_row_at (enc := enc) (C := Tryd.checked) false (laidWorld2 os) #[.int .i64 0, .agg #[.int .i64 0, .int .i64 0, .int .i64 0], .agg #[.int .i64 0, .int .i64 0, .int .i64 0], .string ⟨#[]⟩] rfl (by kernel_rfl) (by kernel_rfl) (by kernel_rfl)
      (OpenSpec.preRow_of_cond 8 hx (by kernel_rfl) (fun k hk => by cases hk) (by kernel_rfl) (cellChecks_met os))) ?_
  intro W base args ds gs before hval hW _ _ _ hL _ _
  exact cellChecks_contract H enc W base args ds gs before hval hW hL
theorem cellChecks_said : Rows.CellChecksSaid :=
  OpenClaim.holds_of_cond 3 Tryd.f3 rfl rfl rfl rfl rfl rfl rfl ⟨rfl, rfl, rfl, rfl, rfl⟩ rfl rfl rfl rfl rfl (by kernel_rfl) Tryd.func3 (by kernel_rfl)
    (of_decide_eq_true (by kernel_rfl)) (by unfold Func.isWrapper; first | (rw [if_pos (by decide +kernel)]; kernel_rfl) | (rw [if_neg (by decide +kernel)]; exact ⟨rfl, rfl⟩))
    (fun os started H enc _ F => by rw [OpenClaim.pre_eq_preRow]; exact cellChecks_lifted os started H enc F)
theorem cellChecks_plain (f : FuncId) (fn : Func) (hf : Tryd.pinned.checked.prog.funcNamed "honeycomb/honeycomblaw03.CellChecks" = some f) (hfn : Tryd.pinned.checked.prog.funcs[f]? = some fn) :
    true = Tryd.pinned.checked.prog.looks [] ∧ ∀ (j : Nat) t, fn.params[j]? = some t → Tryd.pinned.checked.prog.wantsStandIn t = false := by
  obtain rfl : f = 3 := Option.some.inj ((show Tryd.prog.funcNamed "honeycomb/honeycomblaw03.CellChecks" = some 3 by kernel_rfl).symm.trans hf) |>.symm
  obtain rfl : fn = Tryd.f3 := (Option.some.inj (Tryd.func3.symm.trans hfn)).symm
  refine ⟨by kernel_rfl, fun j t ht => ?_⟩
  have hall : (Tryd.f3.params.toList.all fun t => !Tryd.prog.wantsStandIn t) = true := by kernel_rfl
  have hm : t ∈ Tryd.f3.params.toList := by simpa using Array.mem_of_getElem? ht
  have := List.all_eq_true.1 hall t hm
  exact (show Tryd.prog.wantsStandIn t = false by simpa using this)
end cellChecksFrame
/-- CellChecks: the card: for every input the law answers true. -/
theorem cellChecks_card : Rows.CellChecksCardSaid :=
  Claim7.holds_tied_plain_at .later [] _ _ _ _ cellChecks_said (fun _ h => by cases h) (by kernel_rfl) (fun _ h => by cases h) cellChecks_row_tie rfl ⟨rfl, rfl⟩ (by kernel_rfl) rfl cellChecks_plain (by kernel_rfl)
end Go.Proofs.YthlchndhfnbjaaaDoor.Ce
namespace Go.Proofs.YthlchndhfnbjaaaDoor
theorem cellChecks_proved : Rows.CellChecksCardSaid := Ce.cellChecks_card
#print axioms cellChecks_proved
end Go.Proofs.YthlchndhfnbjaaaDoor
