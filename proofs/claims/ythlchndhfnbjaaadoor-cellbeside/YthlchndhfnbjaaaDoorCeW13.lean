/- The document's own Beside. -/
import Derived.Test.YthlchndhfnbjaaaDoorCeW12
namespace Go.Proofs.YthlchndhfnbjaaaDoor.Ce
open Go.RowKit Go.Proofs.YthlchndhfnbjaaaDoor.Ax

/-- The n-th cell at the twenty-five points around a point; those of the first n that are near. -/
def cr (a b : Int) (n : Nat) : C := (a - 2 + ((n / 2 % 5 : Nat) : Int), b - 2 + ((n / 10 : Nat) : Int), ((n % 2 : Nat) : Int))
def selB (l a b h : Int) (d : C) : Bool := (decide (1 < l) || d.2.2 == 0) && nearB l a b h d.1 d.2.1 d.2.2
def rb (l a b h : Int) (n : Nat) : List C := ((List.range n).map (cr a b)).filter (selB l a b h)
theorem cr_at (a b : Int) (i j m : Nat) (hj : j < 5) (hm : m < 2) : cr a b (i * 10 + j * 2 + m) = (a - 2 + (j : Int), b - 2 + (i : Int), (m : Int)) := by
  unfold cr
  simp only [Prod.mk.injEq]
  omega
theorem cr_shift (a b : Int) (n : Nat) : cr a b n = sh a b (cr 0 0 n) := by
  unfold cr sh
  simp only [Prod.mk.injEq, and_true]
  omega
theorem sel_shift (l a b h : Int) (d : C) : selB l a b h (sh a b d) = selB l 0 0 h d := by
  unfold selB sh
  dsimp only
  rw [nearB_shift]
theorem rb_yes (l a b h : Int) (n : Nat) (ht : selB l a b h (cr a b n) = true) : rb l a b h (n + 1) = rb l a b h n ++ [cr a b n] := by
  simp [rb, List.range_succ, List.filter_append, ht]
theorem rb_no (l a b h : Int) (n : Nat) (ht : selB l a b h (cr a b n) = false) : rb l a b h (n + 1) = rb l a b h n := by
  simp [rb, List.range_succ, List.filter_append, ht]
theorem rb_shift (l a b h : Int) (n : Nat) : rb l a b h n = (rb l 0 0 h n).map (sh a b) := by
  induction n with
  | zero => rfl
  | succ n ih =>
    have e : selB l a b h (cr a b n) = selB l 0 0 h (cr 0 0 n) := by rw [cr_shift]; exact sel_shift ..
    cases ht : selB l 0 0 h (cr 0 0 n)
    · rw [rb_no _ _ _ _ _ ht, rb_no _ _ _ _ _ (e.trans ht), ih]
    · rw [rb_yes _ _ _ _ _ ht, rb_yes _ _ _ _ _ (e.trans ht), ih, List.map_append, cr_shift]; rfl
theorem rb_len (l a b h : Int) (n : Nat) : (rb l a b h n).length ≤ n := by
  unfold rb; exact Nat.le_trans (List.length_filter_le _ _) (by simp)
theorem rb_fin : ∀ l ∈ [(1 : Int), 2, 3], ∀ h ∈ [(0 : Int), 1], h < (if l = 1 then 1 else 2) → rb l 0 0 h 50 = besAll l 0 0 h := by decide +kernel
theorem rb_all {l a b h : Int} (hl : l = 1 ∨ l = 2 ∨ l = 3) (h0 : 0 ≤ h) (h1 : h < halvesV l) : rb l a b h 50 = besAll l a b h := by
  have hh : h = 0 ∨ h = 1 := by unfold halvesV at h1; split at h1 <;> omega
  rw [rb_shift, besAll_shift, rb_fin l (by rcases hl with rfl | rfl | rfl <;> simp) h (by rcases hh with rfl | rfl <;> simp) h1]
def RbRel (w : World) (B0 : Nat) (l a b h : Int) (n : Nat) (v f : Value) (wq : World) : Prop :=
  f = .bool (allG (rb l a b h n)) ∧ wq.ownsRow B0 23 3 v (rb l a b h n).length (flat (rb l a b h n)) ∧ Below w.heap.size w wq ∧ Blk wq w.heap.size 23 #[.int .i64 a, .int .i64 b, .int .i64 h] ∧ B0 ≤ wq.heap.size
def Rb1 (w : World) (B0 : Nat) (l a b h : Int) (v f y : Value) (wq : World) : Prop := ∃ i : Nat, i ≤ 5 ∧ y = .int .i64 (b - 2 + (i : Int)) ∧ RbRel w B0 l a b h (i * 10) v f wq
def Rb2 (w : World) (B0 : Nat) (l a b h : Int) (i : Nat) (v f x : Value) (wq : World) : Prop := ∃ j : Nat, j ≤ 5 ∧ x = .int .i64 (a - 2 + (j : Int)) ∧ RbRel w B0 l a b h (i * 10 + j * 2) v f wq
def Rb3 (w : World) (B0 : Nat) (l a b h : Int) (i j : Nat) (v f z : Value) (wq : World) : Prop := ∃ m : Nat, m ≤ 2 ∧ z = .int .i64 (m : Int) ∧ RbRel w B0 l a b h (i * 10 + j * 2 + m) v f wq
theorem rcell_info : (Tryd.prog.info? 23).map (fun i => (i.zero, i.size, i.bytes)) = some (some (.agg #[.int .i64 0, .int .i64 0, .int .i64 0]), 3, 24) := by kernel_rfl
def RBesPost (w : World) (l a b h : Int) (e : Ending) (w' : World) : Prop :=
  ∃ v, e = .returned (.tuple #[v, .bool (allG (rb l a b h 50))]) ∧ w'.ownsRow w.heap.size 23 3 v (rb l a b h 50).length (flat (rb l a b h 50)) ∧ Below w.heap.size w w'
set_option maxRecDepth 100000 in
set_option maxHeartbeats 8000000 in
theorem refbeside_any (l a b h : Int) (w : World) (hl : l = 1 ∨ l = 2 ∨ l = 3) (hg : goodB a b = true) :
    Calls Tryd.prog 24 #[.int .i64 l, Ce a b h] w (RBesPost w l a b h) := by
  obtain ⟨⟨a1, a2⟩, b1, b2⟩ := goodB_iff.1 hg
  have hA : -8796093022208 ≤ a ∧ a ≤ 8796093022208 := by omega
  have hB8 : -8796093022208 ≤ b ∧ b ≤ 8796093022208 := by omega
  obtain ⟨i0, hi0, hz0, hz1, hz2⟩ := info_parts rcell_info
  go_enter Tryd.func24, Tryd.ntmps24
  go_wp2
  have own0 := World.ownsRow_lit (base := w.heap.size + 1) (e := 23) (size := 3) (w.alloc (.cells #[.int .i64 a, .int .i64 b, .int .i64 h] 23)) #[] 0 (by simp) (by decide) rfl
  have kc0 := (Blk.newAt w 23 #[.int .i64 a, .int .i64 b, .int .i64 h] _ rfl).alloc (.cells #[] 23)
  have hb0 : Below w.heap.size w ((w.alloc (.cells #[.int .i64 a, .int .i64 b, .int .i64 h] 23)).alloc (.cells #[] 23)) := by go_grown
  go_loopw [6, 7, 8] (fun v f y wr => Rb1 w (w.heap.size + 1) l a b h v f y wr) (fun _ _ y _ => (b + 3 - intOf y).toNat)
  case atStart => exact ⟨0, by omega, by simp, by simp [rb, allG], by simpa [rb, flat] using own0, hb0, kc0, by simp⟩
  case round =>
    clear own0 kc0 hb0
    obtain ⟨i, hi, rfl, rfl, own, hb0, kc, hB⟩ := hrel
    obtain ⟨c0, c1, c2, cl⟩ := kc.ce
    by_cases hi5 : i < 5
    · have hd1 : decide (b - 2 + (i : Int) ≤ b + 2) = true := by simp; omega
      go_wp2_with fail
      clear hd1
      go_loopw [6, 7, 9] (fun v f x wr => Rb2 w (w.heap.size + 1) l a b h i v f x wr) (fun _ _ x _ => (a + 3 - intOf x).toNat)
      case atStart => exact ⟨0, by omega, by simp, rfl, own, hb0, kc, hB⟩
      case round =>
        clear own kc hb0 hB c0 c1 c2 cl
        obtain ⟨j, hj, rfl, rfl, own, hb0, kc, hB⟩ := hrel
        obtain ⟨c0, c1, c2, cl⟩ := kc.ce
        by_cases hj5 : j < 5
        · have hd2 : decide (a - 2 + (j : Int) ≤ a + 2) = true := by simp; omega
          go_wp2_with fail
          clear hd2
          go_loopw [6, 7, 10] (fun v f z wr => Rb3 w (w.heap.size + 1) l a b h i j v f z wr) (fun _ _ z _ => 2 - (intOf z).toNat)
          case atStart => exact ⟨0, by omega, rfl, rfl, own, hb0, kc, hB⟩
          case round =>
            clear own kc hb0 hB c0 c1 c2 cl
            obtain ⟨m, hm, rfl, rfl, own, hb0, kc, hB⟩ := hrel
            obtain ⟨c0, c1, c2, cl⟩ := kc.ce
            by_cases hm2 : m < 2
            · have hcr := cr_at a b i j m hj5 hm2
              have n0 := rb_no l a b h (i * 10 + j * 2 + m)
              have n1 := rb_yes l a b h (i * 10 + j * 2 + m)
              rw [hcr] at n0 n1
              have N0 := Lib.hid n0
              have N1 := Lib.hid n1
              clear hcr n0 n1
              have hlen := rb_len l a b h (i * 10 + j * 2 + m)
              have hn60 : i * 10 + j * 2 + m < 60 := by omega
              generalize hnn : i * 10 + j * 2 + m = n at *
              have HNN := Lib.hid hnn
              clear hnn
              generalize hpx : a - 2 + (j : Int) = px at *
              generalize hpy : b - 2 + (i : Int) = py at *
              have x1 : -8796093022208 ≤ px ∧ px ≤ 8796093022208 := by omega
              have x2 : -8796093022208 ≤ py ∧ py ≤ 8796093022208 := by omega
              have HX := Lib.hid hpx
              have HY := Lib.hid hpy
              clear hpx hpy
              have hsz := hb0.size
              have hcase : (1 < l) ∨ (l = 1 ∧ m = 0) ∨ (l = 1 ∧ m = 1) := by omega
              have HL := Lib.hid hl
              clear hl
              rcases hcase with hd | ⟨rfl, hm0⟩ | ⟨rfl, hm0⟩
              · have HD := Lib.hid hd
                (have hsel : selB l a b h (px, py, ((m : Nat) : Int)) = nearB l a b h px py ((m : Nat) : Int) := (by have := HD.out; simp [selB, this]); have HSel := Lib.hid hsel; clear hsel; cases ht : nearB l a b h px py ((m : Nat) : Int)); (· have HT := Lib.hid ht; clear ht; go_wp2_with fail; (have hn := fun W => near_any l a b h px py ((m : Nat) : Int) W (by first | exact HL.out | decide) hA hB8 x1 x2 _ HT.out); (with_reducible refine (hn _).mono ?_); clear hn; rintro e w6 ⟨rfl, hb⟩; go_wp2_with fail; go_roundw; (case rel => exact ⟨m + 1, by omega, by go_num, by rw [show i * 10 + j * 2 + (m + 1) = n + 1 by have := HNN.out; omega, N0.out (HSel.out.trans HT.out)], by rw [show i * 10 + j * 2 + (m + 1) = n + 1 by have := HNN.out; omega, N0.out (HSel.out.trans HT.out)]; exact own_below (own.alloc _) hb, below_call hb (by go_grown) (by go_size), (kc.alloc _).below hb (by simp; omega), by have := hb.size; simp at this; omega⟩); (case measure => simp [intOf] <;> omega)); (· have HT := Lib.hid ht; clear ht; cases hf : allG (rb l a b h n) <;> (go_wp2_with fail; (have hn := fun W => near_any l a b h px py ((m : Nat) : Int) W (by first | exact HL.out | decide) hA hB8 x1 x2 _ HT.out); (with_reducible refine (hn _).mono ?_); clear hn; rintro e w6 ⟨rfl, hb⟩; have hb6 := below_call (B := w.heap.size) (w := w) hb (by go_grown) (by go_size); have kc6 := (kc.alloc _).below hb (by simp; omega); have kd6 := (Blk.newAt wr 23 #[.int .i64 px, .int .i64 py, .int .i64 ((m : Nat) : Int)] _ rfl).below hb (by simp); have own6 := own_below (own.alloc _) hb; have hs6 := hb.size; simp at hs6; obtain ⟨q0, q1, q2, hql⟩ := kd6.ce; clear hb; go_wp2_with (first | (at_builtin; refine wpList_append_own _ rfl (.tmp 53) (.tmp 55) _ rfl (w.heap.size + 1) 23 i0 _ 3 24 Tryd.underlying47 hi0 hz0 hz1 hz2 rfl (by omega) _ _ _ rfl (own6.alloc _) ⟨w6.heap.size, 0, none⟩ 1 1 [.int .i64 px, .int .i64 py, .int .i64 ((m : Nat) : Int)] rfl rfl (news3 _ _ _ _ _) (by simp [Value.oneCell']) (by simp only [maxLen]; omega) (by omega) (by simp; omega) ?_; intro v' w8 hown8 hgr8 _) | (go_at_call 40; refine (refgood_any _ _ _).mono ?_; rintro e w' ⟨rfl, rfl⟩)); (have hx8 : Below w.heap.size w (w6.alloc (.cells #[.int .i64 px, .int .i64 py, .int .i64 ((m : Nat) : Int)] 23)) := by (have := hb6.size; go_grown)); go_roundw; (case rel => exact ⟨m + 1, by omega, by go_num, by rw [show i * 10 + j * 2 + (m + 1) = n + 1 by have := HNN.out; omega, N1.out (HSel.out.trans HT.out), allG_app, hf]; simp [allG], by rw [show i * 10 + j * 2 + (m + 1) = n + 1 by have := HNN.out; omega, N1.out (HSel.out.trans HT.out), flat_app, flat_one, List.length_append]; exact hown8, hx8.grown hgr8 hx8.size (fun g hg => by have := (own6.lt g hg).1; omega), (kc6.alloc _).grown hgr8 (own_low_ne own6 (by omega)), by have := hgr8.size; simp at this; omega⟩); (case measure => simp [intOf] <;> omega)))
              · have hmz : ((m : Int) == 0) = true := by simp [hm0]
                have HM := Lib.hid hm0
                clear hm0
                (have hsel : selB 1 a b h (px, py, ((m : Nat) : Int)) = nearB 1 a b h px py ((m : Nat) : Int) := (by have := HM.out; simp [selB, this]); have HSel := Lib.hid hsel; clear hsel; cases ht : nearB 1 a b h px py ((m : Nat) : Int)); (· have HT := Lib.hid ht; clear ht; go_wp2_with fail; (have hn := fun W => near_any 1 a b h px py ((m : Nat) : Int) W (by first | exact HL.out | decide) hA hB8 x1 x2 _ HT.out); (with_reducible refine (hn _).mono ?_); clear hn; rintro e w6 ⟨rfl, hb⟩; go_wp2_with fail; go_roundw; (case rel => exact ⟨m + 1, by omega, by go_num, by rw [show i * 10 + j * 2 + (m + 1) = n + 1 by have := HNN.out; omega, N0.out (HSel.out.trans HT.out)], by rw [show i * 10 + j * 2 + (m + 1) = n + 1 by have := HNN.out; omega, N0.out (HSel.out.trans HT.out)]; exact own_below (own.alloc _) hb, below_call hb (by go_grown) (by go_size), (kc.alloc _).below hb (by simp; omega), by have := hb.size; simp at this; omega⟩); (case measure => simp [intOf] <;> omega)); (· have HT := Lib.hid ht; clear ht; cases hf : allG (rb 1 a b h n) <;> (go_wp2_with fail; (have hn := fun W => near_any 1 a b h px py ((m : Nat) : Int) W (by first | exact HL.out | decide) hA hB8 x1 x2 _ HT.out); (with_reducible refine (hn _).mono ?_); clear hn; rintro e w6 ⟨rfl, hb⟩; have hb6 := below_call (B := w.heap.size) (w := w) hb (by go_grown) (by go_size); have kc6 := (kc.alloc _).below hb (by simp; omega); have kd6 := (Blk.newAt wr 23 #[.int .i64 px, .int .i64 py, .int .i64 ((m : Nat) : Int)] _ rfl).below hb (by simp); have own6 := own_below (own.alloc _) hb; have hs6 := hb.size; simp at hs6; obtain ⟨q0, q1, q2, hql⟩ := kd6.ce; clear hb; go_wp2_with (first | (at_builtin; refine wpList_append_own _ rfl (.tmp 53) (.tmp 55) _ rfl (w.heap.size + 1) 23 i0 _ 3 24 Tryd.underlying47 hi0 hz0 hz1 hz2 rfl (by omega) _ _ _ rfl (own6.alloc _) ⟨w6.heap.size, 0, none⟩ 1 1 [.int .i64 px, .int .i64 py, .int .i64 ((m : Nat) : Int)] rfl rfl (news3 _ _ _ _ _) (by simp [Value.oneCell']) (by simp only [maxLen]; omega) (by omega) (by simp; omega) ?_; intro v' w8 hown8 hgr8 _) | (go_at_call 40; refine (refgood_any _ _ _).mono ?_; rintro e w' ⟨rfl, rfl⟩)); (have hx8 : Below w.heap.size w (w6.alloc (.cells #[.int .i64 px, .int .i64 py, .int .i64 ((m : Nat) : Int)] 23)) := by (have := hb6.size; go_grown)); go_roundw; (case rel => exact ⟨m + 1, by omega, by go_num, by rw [show i * 10 + j * 2 + (m + 1) = n + 1 by have := HNN.out; omega, N1.out (HSel.out.trans HT.out), allG_app, hf]; simp [allG], by rw [show i * 10 + j * 2 + (m + 1) = n + 1 by have := HNN.out; omega, N1.out (HSel.out.trans HT.out), flat_app, flat_one, List.length_append]; exact hown8, hx8.grown hgr8 hx8.size (fun g hg => by have := (own6.lt g hg).1; omega), (kc6.alloc _).grown hgr8 (own_low_ne own6 (by omega)), by have := hgr8.size; simp at this; omega⟩); (case measure => simp [intOf] <;> omega)))
              · have hmz : ((m : Int) == 0) = false := by simp [hm0]
                have hsel : selB 1 a b h (px, py, ((m : Nat) : Int)) = false := by simp [selB, hm0]
                have HSel := Lib.hid hsel
                clear hsel hm0
                go_wp2_with fail
                go_roundw
                case rel => exact ⟨m + 1, by omega, by go_num, by rw [show i * 10 + j * 2 + (m + 1) = n + 1 by have := HNN.out; omega, N0.out HSel.out], by rw [show i * 10 + j * 2 + (m + 1) = n + 1 by have := HNN.out; omega, N0.out HSel.out]; exact own.alloc _, by go_grown, kc.alloc _, by simp; omega⟩
                case measure => simp [intOf]; omega
            · have em : m = 2 := by omega
              subst em
              go_wp2_with fail
              go_roundw
              case rel => exact ⟨j + 1, by omega, by go_num, by rw [show i * 10 + (j + 1) * 2 = i * 10 + j * 2 + 2 by omega], by rw [show i * 10 + (j + 1) * 2 = i * 10 + j * 2 + 2 by omega]; exact own, hb0, kc, hB⟩
              case measure => simp [intOf]; omega
        · have ej : j = 5 := by omega
          subst ej
          go_wp2_with fail
          go_roundw
          case rel => exact ⟨i + 1, by omega, by go_num, by rw [show (i + 1) * 10 = i * 10 + 5 * 2 by omega], by rw [show (i + 1) * 10 = i * 10 + 5 * 2 by omega]; exact own, hb0, kc, hB⟩
          case measure => simp [intOf]; omega
    · have e5 : i = 5 := by omega
      subst e5
      go_wp2_with fail
      go_ret2
      exact ⟨_, rfl, owns_base (by omega) own, hb0⟩
end Go.Proofs.YthlchndhfnbjaaaDoor.Ce
