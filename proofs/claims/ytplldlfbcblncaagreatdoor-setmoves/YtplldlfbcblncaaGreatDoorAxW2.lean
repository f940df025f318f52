/- Contracts of the operators of package axis. -/
import Derived.Test.YtplldlfbcblncaaGreatDoorAxW1
import Derived.LoopTactic
namespace Go.Proofs.YtplldlfbcblncaaGreatDoor.Ax
open Go.RowKit

def lessB (a b c d : Int) : Bool := decide (b < d ∨ b = d ∧ a < c)
theorem less_any (a b c d : Int) (w : World) :
    Calls Tryz.prog 37 #[Pt a b, Pt c d] w fun e w' => e = .returned (.bool (lessB a b c d)) ∧ Below w.heap.size w w' := by
  by_cases h : b = d
  · have h1 : (b != d) = false := by simp [h]
    have e : lessB a b c d = decide (a < c) := by unfold lessB; simp [h]
    rw [e]
    have H := Lib.hid h
    clear h e
    go_enter Tryz.func37, Tryz.ntmps37
    go_wp2
    go_ret
    exact ⟨rfl, by go_grown⟩
  · have h1 : (b != d) = true := by simp [h]
    have e : lessB a b c d = decide (b < d) := by unfold lessB; simp [h]
    rw [e]
    clear h e
    go_enter Tryz.func37, Tryz.ntmps37
    go_wp2
    go_ret
    exact ⟨rfl, by go_grown⟩
theorem opgood_yes (o : Int) (w : World) (h0 : 0 ≤ o) (h1 : o < 12) :
    Calls Tryz.prog 79 #[.int .i64 o] w fun e w' => e = .returned (.bool true) ∧ w = w' := by
  go_enter Tryz.func79, Tryz.ntmps79
  go_wp2
  go_ret
  exact ⟨rfl, rfl⟩
theorem opgood_no (o : Int) (w : World) (h : o < 0 ∨ 11 < o) :
    Calls Tryz.prog 79 #[.int .i64 o] w fun e w' => e = .returned (.bool false) ∧ w = w' := by
  rcases h with h | h
  · have h' : ¬ 0 ≤ o := by omega
    go_enter Tryz.func79, Tryz.ntmps79
    go_wp2
    go_ret
    exact ⟨rfl, rfl⟩
  · have h0 : 0 ≤ o := by omega
    have h' : ¬ o < 12 := by omega
    go_enter Tryz.func79, Tryz.ntmps79
    go_wp2
    go_ret
    exact ⟨rfl, rfl⟩
def swB (o : Int) : Bool := decide (6 ≤ o)
theorem swaps_any (o : Int) (w : World) :
    Calls Tryz.prog 80 #[.int .i64 o] w fun e w' => e = .returned (.bool (swB o)) ∧ w = w' := by
  unfold swB
  go_enter Tryz.func80, Tryz.ntmps80
  go_wp2
  go_ret
  exact ⟨rfl, rfl⟩
theorem turns_any (o : Int) (w : World) (h0 : 0 ≤ o) (h1 : o < 12) :
    Calls Tryz.prog 82 #[.int .i64 o] w fun e w' => e = .returned (.int .i64 (o % 6)) ∧ w = w' := by
  go_enter Tryz.func82, Tryz.ntmps82
  go_wp2
  go_ret
  exact ⟨rfl, rfl⟩

theorem swap_any (a b : Int) (w : World) :
    Calls Tryz.prog 81 #[Pt a b] w fun e w' => e = .returned (Pt b a) ∧ Below w.heap.size w w' := by
  go_enter Tryz.func81, Tryz.ntmps81
  go_wp2
  exact bodyPost_ret (v := Pt b a) (by simp [results, Tryz.results81, go_sem, *]) rfl ⟨rfl, by go_grown⟩
theorem turn_any (a b : Int) (w : World) (a0 : -8796093022208 ≤ a) (a1 : a ≤ 8796093022208) (b0 : -8796093022208 ≤ b) (b1 : b ≤ 8796093022208) :
    Calls Tryz.prog 83 #[Pt a b] w fun e w' => e = .returned (Pt (-b) (a + b)) ∧ Below w.heap.size w w' := by
  go_enter Tryz.func83, Tryz.ntmps83
  go_wp2
  exact bodyPost_ret (v := Pt (-b) (a + b)) (by simp [results, Tryz.results83, go_sem, *]) rfl ⟨rfl, by go_grown⟩

/-- So many turns of a point. -/
def tn : Nat → Int → Int → Int × Int
  | 0, a, b => (a, b)
  | k + 1, a, b => (-(tn k a b).2, (tn k a b).1 + (tn k a b).2)
theorem tn_bd (k : Nat) (a b : Int) (hk : k ≤ 6) (ha : -1099511627776 ≤ a ∧ a ≤ 1099511627776) (hb : -1099511627776 ≤ b ∧ b ≤ 1099511627776) :
    (-2199023255552 ≤ (tn k a b).1 ∧ (tn k a b).1 ≤ 2199023255552) ∧ (-2199023255552 ≤ (tn k a b).2 ∧ (tn k a b).2 ≤ 2199023255552) := by
  have : k = 0 ∨ k = 1 ∨ k = 2 ∨ k = 3 ∨ k = 4 ∨ k = 5 ∨ k = 6 := by omega
  rcases this with rfl | rfl | rfl | rfl | rfl | rfl | rfl <;> simp only [tn] <;> omega
/-- Where an operator brings a point. -/
def opA (o a b : Int) : Int := (tn (o % 6).toNat (if 6 ≤ o then b else a) (if 6 ≤ o then a else b)).1
def opB (o a b : Int) : Int := (tn (o % 6).toNat (if 6 ≤ o then b else a) (if 6 ≤ o then a else b)).2

theorem on_arg (o a b : Int) (w : World) (h : o < 0 ∨ 11 < o) :
    Calls Tryz.prog 66 #[.int .i64 o, Pt a b] w fun e w' => e = .returned (.tuple #[Pt 0 0, Er 4]) ∧ Below w.heap.size w w' := by
  go_enter Tryz.func66, Tryz.ntmps66
  go_wp2_with (go_at_call 79; refine (opgood_no _ _ h).mono ?_; rintro e w' ⟨rfl, rfl⟩)
  exact bodyPost_ret (v := .tuple #[Pt 0 0, Er 4]) (by simp [results, Tryz.results66, go_sem, *]) rfl ⟨rfl, by go_grown⟩
theorem on_range (o a b : Int) (w : World) (h0 : 0 ≤ o) (h1 : o < 12) (h : goodB a b = false) :
    Calls Tryz.prog 66 #[.int .i64 o, Pt a b] w fun e w' => e = .returned (.tuple #[Pt 0 0, Er 6]) ∧ Below w.heap.size w w' := by
  go_enter Tryz.func66, Tryz.ntmps66
  go_wp2_with (first | (go_at_call 79; refine (opgood_yes _ _ h0 h1).mono ?_; rintro e w' ⟨rfl, rfl⟩) | (go_at_call 39; refine (pgood_any _ _ _).mono ?_; rintro e w1 ⟨rfl, hb⟩; obtain ⟨hc_w1, hf_w1⟩ := bcell hb; have hz_w1 := hb.size; (try simp at hz_w1); have hb_w1 := below_call (B := w.heap.size) (w := w) hb (by go_grown) (by go_size); clear hb; (try have hy0_w1 : w.heap.size < w1.heap.size := by omega); (try have hy1_w1 : w.heap.size + 1 < w1.heap.size := by omega); (try have hy2_w1 : w.heap.size + 1 + 1 < w1.heap.size := by omega)))
  exact bodyPost_ret (v := .tuple #[Pt 0 0, Er 6]) (by simp [results, Tryz.results66, go_sem, *]) rfl ⟨rfl, by go_grown⟩
/-- A point's box: its two cells, which may be written. -/
def Box2 (B : Nat) (w : World) (x y : Int) : Prop := w.cell? ⟨B, 0, none⟩ = some (.int .i64 x) ∧ w.cell? ⟨B, 1, none⟩ = some (.int .i64 y) ∧ w.frozen? ⟨B, 0, none⟩ = false ∧ w.frozen? ⟨B, 1, none⟩ = false ∧ B < w.heap.size
theorem box2_set {B : Nat} {w : World} {x y : Int} (h : Box2 B w x y) (x' y' : Int) : Box2 B ((w.setCell ⟨B, 0, none⟩ (.int .i64 x')).setCell ⟨B, 1, none⟩ (.int .i64 y')) x' y' := by
  obtain ⟨h1, h2, h3, h4, h5⟩ := h
  simp [Box2, go_sem, *]
theorem box2_below {B : Nat} {W w1 : World} {x y : Int} (h : Box2 B W x y) (hb : Below W.heap.size W w1) : Box2 B w1 x y := by
  obtain ⟨h1, h2, h3, h4, h5⟩ := h
  exact ⟨(hb.cell (p := ⟨B, 0, none⟩) h5).trans h1, (hb.cell (p := ⟨B, 1, none⟩) h5).trans h2, (hb.frozen (p := ⟨B, 0, none⟩) h5).trans h3, (hb.frozen (p := ⟨B, 1, none⟩) h5).trans h4, Nat.lt_of_lt_of_le h5 hb.size⟩
/-- What holds behind so many rounds of the turns' loop. -/
def OnRel (w : World) (T : Nat) (x y : Int) (i : Value) (wr : World) : Prop :=
  ∃ k : Nat, k ≤ T ∧ i = .int .i64 k ∧ Below w.heap.size w wr ∧ Box2 w.heap.size wr (tn k x y).1 (tn k x y).2 ∧ Box2 (w.heap.size + 1) wr 0 0

theorem on_yes (o a b : Int) (w : World) (h0 : 0 ≤ o) (h1 : o < 12) (h : goodB a b = true) (hg : goodB (opA o a b) (opB o a b) = true) :
    Calls Tryz.prog 66 #[.int .i64 o, Pt a b] w fun e w' => e = .returned (.tuple #[Pt (opA o a b) (opB o a b), .nilIface]) ∧ Below w.heap.size w w' := by
  obtain ⟨⟨a1, a2⟩, b1, b2⟩ := goodB_iff.1 h
  cases hs : swB o
  · have hx : opA o a b = (tn (o % 6).toNat a b).1 := by unfold opA; rw [if_neg (by simpa [swB] using hs), if_neg (by simpa [swB] using hs)]
    have hy : opB o a b = (tn (o % 6).toNat a b).2 := by unfold opB; rw [if_neg (by simpa [swB] using hs), if_neg (by simpa [swB] using hs)]
    rw [hx, hy] at hg ⊢
    have Hg := Lib.hid hg
    clear hx hy hg
    go_enter Tryz.func66, Tryz.ntmps66
    go_wp2_with (first | (go_at_call 79; refine (opgood_yes _ _ h0 h1).mono ?_; rintro e w' ⟨rfl, rfl⟩) | (go_at_call 39; refine (pgood_any _ _ _).mono ?_; rintro e w1 ⟨rfl, hb⟩; obtain ⟨hc_w1, hf_w1⟩ := bcell hb; have hz_w1 := hb.size; (try simp at hz_w1); have hb_w1 := below_call (B := w.heap.size) (w := w) hb (by go_grown) (by go_size); clear hb; (try have hy0_w1 : w.heap.size < w1.heap.size := by omega); (try have hy1_w1 : w.heap.size + 1 < w1.heap.size := by omega); (try have hy2_w1 : w.heap.size + 1 + 1 < w1.heap.size := by omega)) | (go_at_call 80; refine (swaps_any _ _).mono ?_; rintro e w' ⟨rfl, rfl⟩) | (go_at_call 81; refine (swap_any _ _ _).mono ?_; rintro e w1 ⟨rfl, hb⟩; obtain ⟨hc_w1, hf_w1⟩ := bcell hb; have hz_w1 := hb.size; (try simp at hz_w1); have hb_w1 := below_call (B := w.heap.size) (w := w) hb (by go_grown) (by go_size); clear hb; (try have hy0_w1 : w.heap.size < w1.heap.size := by omega); (try have hy1_w1 : w.heap.size + 1 < w1.heap.size := by omega); (try have hy2_w1 : w.heap.size + 1 + 1 < w1.heap.size := by omega)) | (go_at_call 82; refine (turns_any _ _ h0 h1).mono ?_; rintro e w' ⟨rfl, rfl⟩))
    go_loopw [22] (fun i wr => OnRel w (o % 6).toNat a b i wr) (fun i _ => (o % 6).toNat - (intOf i).toNat)
    case atStart =>
      have c0 : Box2 w.heap.size w1 a b := by simp [Box2, go_sem, *]
      exact ⟨0, Nat.zero_le _, rfl, by go_grown, by first | exact c0 | exact box2_set c0 _ _, by simp [Box2, go_sem, *]⟩
    case round =>
      obtain ⟨k, hk, rfl, hb0, ⟨p1, p2, p3, p4, p5⟩, q1, q2, q3, q4, q5⟩ := hrel
      have hbd := tn_bd k a b (by omega) (by omega) (by omega)
      obtain ⟨⟨x1, x2⟩, y1, y2⟩ := hbd
      clear hc_w1 hf_w1 hz_w1 hb_w1 hy0_w1 hy1_w1
      by_cases hlt : (k : Int) < o % 6
      · have hsA : (tn (k + 1) a b).1 = -(tn k a b).2 := rfl
        have hsB : (tn (k + 1) a b).2 = (tn k a b).1 + (tn k a b).2 := rfl
        have HA := Lib.hid hsA
        have HB := Lib.hid hsB
        clear hsA hsB
        generalize (tn k a b).1 = x at *
        generalize (tn k a b).2 = y at *
        go_wp2_with (go_at_call 83; refine (turn_any _ _ _ (by omega) (by omega) (by omega) (by omega)).mono ?_; rintro e w2 ⟨rfl, hb⟩; obtain ⟨hc_w2, hf_w2⟩ := bcell hb; have hz_w2 := hb.size; (try simp at hz_w2); have hb_w2 := below_call (B := w.heap.size) (w := w) hb (by go_grown) (by go_size); clear hb; (try have hy0_w2 : w.heap.size < w2.heap.size := by omega); (try have hy1_w2 : w.heap.size + 1 < w2.heap.size := by omega); (try have hy2_w2 : w.heap.size + 1 + 1 < w2.heap.size := by omega))
        go_roundw
        case rel => exact ⟨k + 1, by omega, by go_num, by go_grown, by rw [HA.out, HB.out]; simp [Box2, go_sem, *], by simp [Box2, go_sem, *]⟩
        case measure => simp [intOf]; omega
      · have e : k = (o % 6).toNat := by omega
        subst e
        go_wp2_with (go_at_call 40; refine (goodOnly_yes _ _ _ Hg.out).mono ?_; rintro e w2 ⟨rfl, hb⟩; obtain ⟨hc_w2, hf_w2⟩ := bcell hb; have hz_w2 := hb.size; (try simp at hz_w2); have hb_w2 := below_call (B := w.heap.size) (w := w) hb (by go_grown) (by go_size); clear hb; (try have hy0_w2 : w.heap.size < w2.heap.size := by omega); (try have hy1_w2 : w.heap.size + 1 < w2.heap.size := by omega); (try have hy2_w2 : w.heap.size + 1 + 1 < w2.heap.size := by omega))
        exact bodyPost_ret (v := .tuple #[Pt (tn (o % 6).toNat a b).1 (tn (o % 6).toNat a b).2, .nilIface]) (by simp [results, Tryz.results66, go_sem, *]) rfl ⟨rfl, by go_grown⟩
  · have hx : opA o a b = (tn (o % 6).toNat b a).1 := by unfold opA; rw [if_pos (by simpa [swB] using hs), if_pos (by simpa [swB] using hs)]
    have hy : opB o a b = (tn (o % 6).toNat b a).2 := by unfold opB; rw [if_pos (by simpa [swB] using hs), if_pos (by simpa [swB] using hs)]
    rw [hx, hy] at hg ⊢
    have Hg := Lib.hid hg
    clear hx hy hg
    go_enter Tryz.func66, Tryz.ntmps66
    go_wp2_with (first | (go_at_call 79; refine (opgood_yes _ _ h0 h1).mono ?_; rintro e w' ⟨rfl, rfl⟩) | (go_at_call 39; refine (pgood_any _ _ _).mono ?_; rintro e w1 ⟨rfl, hb⟩; obtain ⟨hc_w1, hf_w1⟩ := bcell hb; have hz_w1 := hb.size; (try simp at hz_w1); have hb_w1 := below_call (B := w.heap.size) (w := w) hb (by go_grown) (by go_size); clear hb; (try have hy0_w1 : w.heap.size < w1.heap.size := by omega); (try have hy1_w1 : w.heap.size + 1 < w1.heap.size := by omega); (try have hy2_w1 : w.heap.size + 1 + 1 < w1.heap.size := by omega)) | (go_at_call 80; refine (swaps_any _ _).mono ?_; rintro e w' ⟨rfl, rfl⟩) | (go_at_call 81; refine (swap_any _ _ _).mono ?_; rintro e w1 ⟨rfl, hb⟩; obtain ⟨hc_w1, hf_w1⟩ := bcell hb; have hz_w1 := hb.size; (try simp at hz_w1); have hb_w1 := below_call (B := w.heap.size) (w := w) hb (by go_grown) (by go_size); clear hb; (try have hy0_w1 : w.heap.size < w1.heap.size := by omega); (try have hy1_w1 : w.heap.size + 1 < w1.heap.size := by omega); (try have hy2_w1 : w.heap.size + 1 + 1 < w1.heap.size := by omega)) | (go_at_call 82; refine (turns_any _ _ h0 h1).mono ?_; rintro e w' ⟨rfl, rfl⟩))
    go_loopw [22] (fun i wr => OnRel w (o % 6).toNat b a i wr) (fun i _ => (o % 6).toNat - (intOf i).toNat)
    case atStart =>
      have c0 : Box2 w.heap.size w1 a b := by simp [Box2, go_sem, *]
      exact ⟨0, Nat.zero_le _, rfl, by go_grown, by first | exact c0 | exact box2_set c0 _ _, by simp [Box2, go_sem, *]⟩
    case round =>
      obtain ⟨k, hk, rfl, hb0, ⟨p1, p2, p3, p4, p5⟩, q1, q2, q3, q4, q5⟩ := hrel
      have hbd := tn_bd k b a (by omega) (by omega) (by omega)
      obtain ⟨⟨x1, x2⟩, y1, y2⟩ := hbd
      clear hc_w1 hf_w1 hz_w1 hb_w1 hy0_w1 hy1_w1
      by_cases hlt : (k : Int) < o % 6
      · have hsA : (tn (k + 1) b a).1 = -(tn k b a).2 := rfl
        have hsB : (tn (k + 1) b a).2 = (tn k b a).1 + (tn k b a).2 := rfl
        have HA := Lib.hid hsA
        have HB := Lib.hid hsB
        clear hsA hsB
        generalize (tn k b a).1 = x at *
        generalize (tn k b a).2 = y at *
        go_wp2_with (go_at_call 83; refine (turn_any _ _ _ (by omega) (by omega) (by omega) (by omega)).mono ?_; rintro e w2 ⟨rfl, hb⟩; obtain ⟨hc_w2, hf_w2⟩ := bcell hb; have hz_w2 := hb.size; (try simp at hz_w2); have hb_w2 := below_call (B := w.heap.size) (w := w) hb (by go_grown) (by go_size); clear hb; (try have hy0_w2 : w.heap.size < w2.heap.size := by omega); (try have hy1_w2 : w.heap.size + 1 < w2.heap.size := by omega); (try have hy2_w2 : w.heap.size + 1 + 1 < w2.heap.size := by omega))
        go_roundw
        case rel => exact ⟨k + 1, by omega, by go_num, by go_grown, by rw [HA.out, HB.out]; simp [Box2, go_sem, *], by simp [Box2, go_sem, *]⟩
        case measure => simp [intOf]; omega
      · have e : k = (o % 6).toNat := by omega
        subst e
        go_wp2_with (go_at_call 40; refine (goodOnly_yes _ _ _ Hg.out).mono ?_; rintro e w2 ⟨rfl, hb⟩; obtain ⟨hc_w2, hf_w2⟩ := bcell hb; have hz_w2 := hb.size; (try simp at hz_w2); have hb_w2 := below_call (B := w.heap.size) (w := w) hb (by go_grown) (by go_size); clear hb; (try have hy0_w2 : w.heap.size < w2.heap.size := by omega); (try have hy1_w2 : w.heap.size + 1 < w2.heap.size := by omega); (try have hy2_w2 : w.heap.size + 1 + 1 < w2.heap.size := by omega))
        exact bodyPost_ret (v := .tuple #[Pt (tn (o % 6).toNat b a).1 (tn (o % 6).toNat b a).2, .nilIface]) (by simp [results, Tryz.results66, go_sem, *]) rfl ⟨rfl, by go_grown⟩

theorem on_out (o a b : Int) (w : World) (h0 : 0 ≤ o) (h1 : o < 12) (h : goodB a b = true) (hg : goodB (opA o a b) (opB o a b) = false) :
    Calls Tryz.prog 66 #[.int .i64 o, Pt a b] w fun e w' => e = .returned (.tuple #[Pt 0 0, Er 6]) ∧ Below w.heap.size w w' := by
  obtain ⟨⟨a1, a2⟩, b1, b2⟩ := goodB_iff.1 h
  cases hs : swB o
  · have hx : opA o a b = (tn (o % 6).toNat a b).1 := by unfold opA; rw [if_neg (by simpa [swB] using hs), if_neg (by simpa [swB] using hs)]
    have hy : opB o a b = (tn (o % 6).toNat a b).2 := by unfold opB; rw [if_neg (by simpa [swB] using hs), if_neg (by simpa [swB] using hs)]
    rw [hx, hy] at hg
    have Hg := Lib.hid hg
    clear hx hy hg
    go_enter Tryz.func66, Tryz.ntmps66
    go_wp2_with (first | (go_at_call 79; refine (opgood_yes _ _ h0 h1).mono ?_; rintro e w' ⟨rfl, rfl⟩) | (go_at_call 39; refine (pgood_any _ _ _).mono ?_; rintro e w1 ⟨rfl, hb⟩; obtain ⟨hc_w1, hf_w1⟩ := bcell hb; have hz_w1 := hb.size; (try simp at hz_w1); have hb_w1 := below_call (B := w.heap.size) (w := w) hb (by go_grown) (by go_size); clear hb; (try have hy0_w1 : w.heap.size < w1.heap.size := by omega); (try have hy1_w1 : w.heap.size + 1 < w1.heap.size := by omega); (try have hy2_w1 : w.heap.size + 1 + 1 < w1.heap.size := by omega)) | (go_at_call 80; refine (swaps_any _ _).mono ?_; rintro e w' ⟨rfl, rfl⟩) | (go_at_call 81; refine (swap_any _ _ _).mono ?_; rintro e w1 ⟨rfl, hb⟩; obtain ⟨hc_w1, hf_w1⟩ := bcell hb; have hz_w1 := hb.size; (try simp at hz_w1); have hb_w1 := below_call (B := w.heap.size) (w := w) hb (by go_grown) (by go_size); clear hb; (try have hy0_w1 : w.heap.size < w1.heap.size := by omega); (try have hy1_w1 : w.heap.size + 1 < w1.heap.size := by omega); (try have hy2_w1 : w.heap.size + 1 + 1 < w1.heap.size := by omega)) | (go_at_call 82; refine (turns_any _ _ h0 h1).mono ?_; rintro e w' ⟨rfl, rfl⟩))
    go_loopw [22] (fun i wr => OnRel w (o % 6).toNat a b i wr) (fun i _ => (o % 6).toNat - (intOf i).toNat)
    case atStart =>
      have c0 : Box2 w.heap.size w1 a b := by simp [Box2, go_sem, *]
      exact ⟨0, Nat.zero_le _, rfl, by go_grown, by first | exact c0 | exact box2_set c0 _ _, by simp [Box2, go_sem, *]⟩
    case round =>
      obtain ⟨k, hk, rfl, hb0, ⟨p1, p2, p3, p4, p5⟩, q1, q2, q3, q4, q5⟩ := hrel
      have hbd := tn_bd k a b (by omega) (by omega) (by omega)
      obtain ⟨⟨x1, x2⟩, y1, y2⟩ := hbd
      clear hc_w1 hf_w1 hz_w1 hb_w1 hy0_w1 hy1_w1
      by_cases hlt : (k : Int) < o % 6
      · have hsA : (tn (k + 1) a b).1 = -(tn k a b).2 := rfl
        have hsB : (tn (k + 1) a b).2 = (tn k a b).1 + (tn k a b).2 := rfl
        have HA := Lib.hid hsA
        have HB := Lib.hid hsB
        clear hsA hsB
        generalize (tn k a b).1 = x at *
        generalize (tn k a b).2 = y at *
        go_wp2_with (go_at_call 83; refine (turn_any _ _ _ (by omega) (by omega) (by omega) (by omega)).mono ?_; rintro e w2 ⟨rfl, hb⟩; obtain ⟨hc_w2, hf_w2⟩ := bcell hb; have hz_w2 := hb.size; (try simp at hz_w2); have hb_w2 := below_call (B := w.heap.size) (w := w) hb (by go_grown) (by go_size); clear hb; (try have hy0_w2 : w.heap.size < w2.heap.size := by omega); (try have hy1_w2 : w.heap.size + 1 < w2.heap.size := by omega); (try have hy2_w2 : w.heap.size + 1 + 1 < w2.heap.size := by omega))
        go_roundw
        case rel => exact ⟨k + 1, by omega, by go_num, by go_grown, by rw [HA.out, HB.out]; simp [Box2, go_sem, *], by simp [Box2, go_sem, *]⟩
        case measure => simp [intOf]; omega
      · have e : k = (o % 6).toNat := by omega
        subst e
        go_wp2_with (go_at_call 40; refine (goodOnly_no _ _ _ Hg.out).mono ?_; rintro e w2 ⟨rfl, hb⟩; obtain ⟨hc_w2, hf_w2⟩ := bcell hb; have hz_w2 := hb.size; (try simp at hz_w2); have hb_w2 := below_call (B := w.heap.size) (w := w) hb (by go_grown) (by go_size); clear hb; (try have hy0_w2 : w.heap.size < w2.heap.size := by omega); (try have hy1_w2 : w.heap.size + 1 < w2.heap.size := by omega); (try have hy2_w2 : w.heap.size + 1 + 1 < w2.heap.size := by omega))
        exact bodyPost_ret (v := .tuple #[Pt 0 0, Er 6]) (by simp [results, Tryz.results66, go_sem, *]) rfl ⟨rfl, by go_grown⟩
  · have hx : opA o a b = (tn (o % 6).toNat b a).1 := by unfold opA; rw [if_pos (by simpa [swB] using hs), if_pos (by simpa [swB] using hs)]
    have hy : opB o a b = (tn (o % 6).toNat b a).2 := by unfold opB; rw [if_pos (by simpa [swB] using hs), if_pos (by simpa [swB] using hs)]
    rw [hx, hy] at hg
    have Hg := Lib.hid hg
    clear hx hy hg
    go_enter Tryz.func66, Tryz.ntmps66
    go_wp2_with (first | (go_at_call 79; refine (opgood_yes _ _ h0 h1).mono ?_; rintro e w' ⟨rfl, rfl⟩) | (go_at_call 39; refine (pgood_any _ _ _).mono ?_; rintro e w1 ⟨rfl, hb⟩; obtain ⟨hc_w1, hf_w1⟩ := bcell hb; have hz_w1 := hb.size; (try simp at hz_w1); have hb_w1 := below_call (B := w.heap.size) (w := w) hb (by go_grown) (by go_size); clear hb; (try have hy0_w1 : w.heap.size < w1.heap.size := by omega); (try have hy1_w1 : w.heap.size + 1 < w1.heap.size := by omega); (try have hy2_w1 : w.heap.size + 1 + 1 < w1.heap.size := by omega)) | (go_at_call 80; refine (swaps_any _ _).mono ?_; rintro e w' ⟨rfl, rfl⟩) | (go_at_call 81; refine (swap_any _ _ _).mono ?_; rintro e w1 ⟨rfl, hb⟩; obtain ⟨hc_w1, hf_w1⟩ := bcell hb; have hz_w1 := hb.size; (try simp at hz_w1); have hb_w1 := below_call (B := w.heap.size) (w := w) hb (by go_grown) (by go_size); clear hb; (try have hy0_w1 : w.heap.size < w1.heap.size := by omega); (try have hy1_w1 : w.heap.size + 1 < w1.heap.size := by omega); (try have hy2_w1 : w.heap.size + 1 + 1 < w1.heap.size := by omega)) | (go_at_call 82; refine (turns_any _ _ h0 h1).mono ?_; rintro e w' ⟨rfl, rfl⟩))
    go_loopw [22] (fun i wr => OnRel w (o % 6).toNat b a i wr) (fun i _ => (o % 6).toNat - (intOf i).toNat)
    case atStart =>
      have c0 : Box2 w.heap.size w1 a b := by simp [Box2, go_sem, *]
      exact ⟨0, Nat.zero_le _, rfl, by go_grown, by first | exact c0 | exact box2_set c0 _ _, by simp [Box2, go_sem, *]⟩
    case round =>
      obtain ⟨k, hk, rfl, hb0, ⟨p1, p2, p3, p4, p5⟩, q1, q2, q3, q4, q5⟩ := hrel
      have hbd := tn_bd k b a (by omega) (by omega) (by omega)
      obtain ⟨⟨x1, x2⟩, y1, y2⟩ := hbd
      clear hc_w1 hf_w1 hz_w1 hb_w1 hy0_w1 hy1_w1
      by_cases hlt : (k : Int) < o % 6
      · have hsA : (tn (k + 1) b a).1 = -(tn k b a).2 := rfl
        have hsB : (tn (k + 1) b a).2 = (tn k b a).1 + (tn k b a).2 := rfl
        have HA := Lib.hid hsA
        have HB := Lib.hid hsB
        clear hsA hsB
        generalize (tn k b a).1 = x at *
        generalize (tn k b a).2 = y at *
        go_wp2_with (go_at_call 83; refine (turn_any _ _ _ (by omega) (by omega) (by omega) (by omega)).mono ?_; rintro e w2 ⟨rfl, hb⟩; obtain ⟨hc_w2, hf_w2⟩ := bcell hb; have hz_w2 := hb.size; (try simp at hz_w2); have hb_w2 := below_call (B := w.heap.size) (w := w) hb (by go_grown) (by go_size); clear hb; (try have hy0_w2 : w.heap.size < w2.heap.size := by omega); (try have hy1_w2 : w.heap.size + 1 < w2.heap.size := by omega); (try have hy2_w2 : w.heap.size + 1 + 1 < w2.heap.size := by omega))
        go_roundw
        case rel => exact ⟨k + 1, by omega, by go_num, by go_grown, by rw [HA.out, HB.out]; simp [Box2, go_sem, *], by simp [Box2, go_sem, *]⟩
        case measure => simp [intOf]; omega
      · have e : k = (o % 6).toNat := by omega
        subst e
        go_wp2_with (go_at_call 40; refine (goodOnly_no _ _ _ Hg.out).mono ?_; rintro e w2 ⟨rfl, hb⟩; obtain ⟨hc_w2, hf_w2⟩ := bcell hb; have hz_w2 := hb.size; (try simp at hz_w2); have hb_w2 := below_call (B := w.heap.size) (w := w) hb (by go_grown) (by go_size); clear hb; (try have hy0_w2 : w.heap.size < w2.heap.size := by omega); (try have hy1_w2 : w.heap.size + 1 < w2.heap.size := by omega); (try have hy2_w2 : w.heap.size + 1 + 1 < w2.heap.size := by omega))
        exact bodyPost_ret (v := .tuple #[Pt 0 0, Er 6]) (by simp [results, Tryz.results66, go_sem, *]) rfl ⟨rfl, by go_grown⟩

end Go.Proofs.YtplldlfbcblncaaGreatDoor.Ax
