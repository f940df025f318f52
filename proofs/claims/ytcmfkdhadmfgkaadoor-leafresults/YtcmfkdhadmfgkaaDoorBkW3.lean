/- Contracts of package block: choose, add: digits in a room of six. -/
import Derived.Test.YtcmfkdhadmfgkaaDoorBkP1
import Derived.Test.YtcmfkdhadmfgkaaDoorBkN
import Derived.ArgAppend
namespace Go.Proofs.YtcmfkdhadmfgkaaDoor.Bk
open Go.RowKit Go.Proofs.YtcmfkdhadmfgkaaDoor.Ba Go.Proofs.YtcmfkdhadmfgkaaDoor.Si Go.Lib

/-- A room of six with these digits in it. -/
def RmAt (w : World) (G : Nat) (D : List Nat) : Prop := D.length ≤ 6 ∧ ∃ cs : Array Value, cs.size = 6 ∧ Blk w G 152 cs ∧ ∀ (i d : Nat), D[i]? = some d → cs[i]? = some (Value.int .u64 d)
theorem RmAt.lt {w : World} {G : Nat} {D : List Nat} (h : RmAt w G D) : G < w.heap.size := by
  obtain ⟨_, cs, _, k, _⟩ := h
  exact k.lt
theorem RmAt.cell {w : World} {G : Nat} {D : List Nat} {i d : Nat} (h : RmAt w G D) (hd : D[i]? = some d) : w.cell? ⟨G, i, none⟩ = some (.int .u64 d) := by
  obtain ⟨_, cs, _, k, hc⟩ := h
  exact (k.cell i).trans (hc i d hd)
theorem RmAt.same {w w' : World} {G : Nat} {D : List Nat} (h : RmAt w G D) (hb : w'.heap[G]? = w.heap[G]?) : RmAt w' G D := by
  obtain ⟨hl, cs, hs, k, hc⟩ := h
  exact ⟨hl, cs, hs, hb.trans k, hc⟩
theorem RmAt.under {w w' : World} {G : Nat} {D : List Nat} (h : RmAt w G D) (hb : Below w.heap.size w w') : RmAt w' G D := h.same (hb.block G h.lt)
theorem RmAt.init {w : World} {G : Nat} {D : List Nat} {d : Nat} (h : RmAt w G (D ++ [d])) : RmAt w G D := by
  obtain ⟨hl, cs, hs, k, hc⟩ := h
  refine ⟨by rw [List.length_append] at hl; exact Nat.le_trans (Nat.le_add_right _ _) hl, cs, hs, k, fun i e he => hc i e ?_⟩
  have hi : i < D.length := by
    rcases Nat.lt_or_ge i D.length with h | h
    · exact h
    · rw [List.getElem?_eq_none h] at he; cases he
  rw [List.getElem?_append_left hi]
  exact he
theorem neg_one : IntKind.u64.wrap (-1) = 18446744073709551615 := by decide
theorem xor_ones (a : Nat) (h : a < 2 ^ 64) : bits .xor .u64 IntKind.u64.max (a : Int) = ((a ^^^ 18446744073709551615 : Nat) : Int) := by
  have := Tb.u64_xor (2 ^ 64 - 1) a (by decide) h
  rw [Nat.xor_comm] at this
  exact this
theorem and_pow (f k : Nat) (hf : f < 2 ^ 64) (hk : k ≤ 64) : bits .and .u64 (f : Int) ((2 ^ k - 1 : Nat) : Int) = ((f % 2 ^ k : Nat) : Int) := by
  have h1 : 2 ^ k ≤ 2 ^ 64 := Nat.pow_le_pow_right (by decide) hk
  have h0 : 0 < 2 ^ k := Nat.two_pow_pos k
  rw [Tb.u64_and f (2 ^ k - 1) hf (by omega), Nat.and_two_pow_sub_one_eq_mod]
theorem ch_facts (f m : Nat) (hf : f < 2 ^ 64) (hm : m ≤ 5) : bits .and .u64 (f : Int) ((2 ^ 2 ^ m - 1 : Nat) : Int) = ((f % 2 ^ 2 ^ m : Nat) : Int) ∧ (f : Int) / 2 ^ 2 ^ m = ((f / 2 ^ 2 ^ m : Nat) : Int) ∧ f / 2 ^ 2 ^ m < 2 ^ 64 ∧ f % 2 ^ 2 ^ m < 2 ^ 64 := by
  have h32 : 2 ^ m ≤ 2 ^ 5 := Nat.pow_le_pow_right (by decide) hm
  exact ⟨and_pow f _ hf (by omega), by simp, Nat.lt_of_le_of_lt (Nat.div_le_self _ _) hf, Nat.lt_of_le_of_lt (Nat.mod_le _ _) hf⟩
theorem mix_int (d lo hi : Nat) (hd : d < 2 ^ 64) (hl : lo < 2 ^ 64) (hh : hi < 2 ^ 64) : bits .or .u64 (bits .and .u64 ((d ^^^ 18446744073709551615 : Nat) : Int) lo) (bits .and .u64 d hi) = ((mixN d lo hi : Nat) : Int) := by
  have h1 : d ^^^ 18446744073709551615 < 2 ^ 64 := Nat.xor_lt_two_pow hd (by decide)
  rw [Tb.u64_and _ _ h1 hl, Tb.u64_and _ _ hd hh, Tb.u64_or _ _ (Nat.lt_of_le_of_lt Nat.and_le_right hl) (Nat.lt_of_le_of_lt Nat.and_le_right hh)]
  rfl
theorem choose_len : ∀ (n : Nat) (D : List Nat) (f G : Nat) (w : World), D.length = n → f < 2 ^ 64 → (∀ d ∈ D, d < 2 ^ 64) → RmAt w G D →
    Calls Tryd.prog 77 #[.int .u64 f, .slice (some ⟨G, 0, none⟩) n 6] w fun e w' => ∃ z : Nat, e = .returned (.int .u64 z) ∧ ChB f D z ∧ Below w.heap.size w w'
  | 0, D, f, G, w, hn, hf, hD, hR => by
    obtain rfl : D = [] := List.eq_nil_of_length_eq_zero hn
    go_enter Tryd.func77, Tryd.ntmps77
    by_cases h0 : f = 0
    · subst h0
      go_wp2
      go_ret
      exact ⟨0, rfl, ch_zero [], Below.refl _ _⟩
    · have hz : ((f : Int) == 0) = false := by rw [beq_eq_false_iff_ne]; omega
      have ha : bits .and .u64 (f : Int) 1 = ((f % 2 : Nat) : Int) := and_pow f 1 hf (by decide)
      have h2 : f % 2 = 0 ∨ f % 2 = 1 := by omega
      rcases h2 with h2 | h2
      · rw [h2] at ha
        go_wp2
        go_ret
        exact ⟨0, rfl, ch_nil0 h2, Below.refl _ _⟩
      · rw [h2] at ha
        have hn1 := neg_one
        go_wp2
        go_ret
        exact ⟨2 ^ 64 - 1, rfl, ch_nil1 h2, Below.refl _ _⟩
  | n + 1, D, f, G, w, hn, hf, hD, hR => by
    obtain ⟨R, d, rfl⟩ : ∃ R d, D = R ++ [d] := ⟨D.dropLast, D.getLast (by rintro rfl; simp at hn), (List.dropLast_concat_getLast _).symm⟩
    have hm : R.length = n := by rw [List.length_append] at hn; simpa using hn
    have h6 : n ≤ 5 := by have := hR.1; omega
    have hc := hR.cell (i := n) (d := d) (by rw [List.getElem?_append_right (by omega), hm]; simp)
    have hdl := hD d (by simp)
    have hi : ∀ (f' : Nat) (W : World), Below w.heap.size w W → f' < 2 ^ 64 → Calls Tryd.prog 77 #[.int .u64 f', .slice (some ⟨G, 0, none⟩) n 6] W fun e w' => ∃ z : Nat, e = .returned (.int .u64 z) ∧ ChB f' R z ∧ Below W.heap.size W w' := fun f' W hb hf' => choose_len n R f' G W hm hf' (fun e he => hD e (by simp [he])) (hR.init.under hb)
    have hx := xor_ones d hdl
    go_enter Tryd.func77, Tryd.ntmps77
    by_cases h0 : f = 0
    · subst h0
      go_wp2
      go_ret
      exact ⟨0, rfl, ch_zero _, Below.refl _ _⟩
    · have hz : ((f : Int) == 0) = false := by rw [beq_eq_false_iff_ne]; omega
      have hnn : (((n + 1 : Nat) : Int) == 0) = false := by rw [beq_eq_false_iff_ne]; omega
      obtain ⟨fa, fb, l1, l2⟩ := ch_facts f n hf h6
      have hst := fun lo hi => @ch_step f d lo hi R
      rw [hm] at hst
      have HS := Lib.hid hst
      have n6 : n = 0 ∨ n = 1 ∨ n = 2 ∨ n = 3 ∨ n = 4 ∨ n = 5 := by omega
      clear hst
      have hgl := hR.lt
      clear hR hD hn
      go_upto_region 5 with fail
      go_region
      generalize f % 2 ^ 2 ^ n = u at *
      generalize f / 2 ^ 2 ^ n = v at *
      have HI := Lib.hid hi
      have HL1 := Lib.hid l1
      have HL2 := Lib.hid l2
      have HD := Lib.hid hdl
      clear hi l1 l2 hdl hc hf hz hnn hgl hm
      rcases n6 with rfl | rfl | rfl | rfl | rfl | rfl
      all_goals
        try simp only [Nat.reducePow, Nat.reduceSub, Nat.pow_zero, Nat.pow_one] at fa fb
        clear h6
        go_upto_region 7 with fail
        go_region
      all_goals
        try simp only [show ((1 : Nat) : Int) = 1 from rfl, show ((3 : Nat) : Int) = 3 from rfl, show ((15 : Nat) : Int) = 15 from rfl, show ((255 : Nat) : Int) = 255 from rfl, show ((65535 : Nat) : Int) = 65535 from rfl, show ((4294967295 : Nat) : Int) = 4294967295 from rfl, Int.reducePow] at fa fb
        go_wp2_with fail
        refine (HI.out u _ (by go_grown) HL2.out).mono ?_
        rintro e w1 ⟨lo, rfl, hlo, hb1⟩
        have hb1 : Below w.heap.size w w1 := below_call hb1 (by go_grown) (by go_size)
        go_wp2_with fail
        refine (HI.out v _ hb1 HL1.out).mono ?_
        rintro e w2 ⟨hi, rfl, hhi, hb2⟩
        have hb2 : Below w.heap.size w w2 := hb1.trans (hb2.mono hb1.size)
        go_wp2_with fail
        go_ret
        refine ⟨mixN d lo hi, ?_, HS.out lo hi hlo hhi, hb2⟩
        rw [← mix_int d lo hi HD.out hlo.1 hhi.1]
        rfl
theorem choose_any (D : List Nat) (f G : Nat) (w : World) (hf : f < 2 ^ 64) (hD : ∀ d ∈ D, d < 2 ^ 64) (hR : RmAt w G D) :
    Calls Tryd.prog 77 #[.int .u64 f, .slice (some ⟨G, 0, none⟩) D.length 6] w fun e w' => ∃ z : Nat, e = .returned (.int .u64 z) ∧ ChB f D z ∧ Below w.heap.size w w' := choose_len D.length D f G w rfl hf hD hR
end Go.Proofs.YtcmfkdhadmfgkaaDoor.Bk
