/- Contracts for TableChecks: the program's Next at any half and number; the document's. -/
import Derived.Test.YtcmfkdhadmfgkaaDoorTbC4
import Derived.Test.YtcmfkdhadmfgkaaDoorTbW7
namespace Go.Proofs.YtcmfkdhadmfgkaaDoor.Tb
open Go.RowKit Go.Proofs.YtcmfkdhadmfgkaaDoor.Ba

/-- What becomes of a cell: not, if there is no such half or neighbourhood. -/
def nextB (b0 b1 s0 s1 : Nat) (half : Int) (live : Bool) (n : Int) : Bool :=
  if half < 0 ∨ 1 < half ∨ n < 0 ∨ 63 < n then false else (sel b0 b1 s0 s1 half.toNat live).testBit n.toNat
set_option maxHeartbeats 2000000 in
theorem refnext_any (b0 b1 s0 s1 : Nat) (h0 : b0 < 2 ^ 64) (h1 : b1 < 2 ^ 64) (h2 : s0 < 2 ^ 64) (h3 : s1 < 2 ^ 64) (half : Int) (live : Bool) (n : Int) (L : Int) (g : Nat) (w : World) (kg : Blk w g 47 #[.int .i64 L, .int .u64 b0, .int .u64 b1, .int .u64 s0, .int .u64 s1]) :
    Calls Tryd.prog 62 #[RT L g, .int .i64 half, .bool live, .int .i64 n] w fun e w' => e = .returned (.bool (nextB b0 b1 s0 s1 half live n)) ∧ Below w.heap.size w w' := by
  have hgl := kg.lt
  have kg0 := kg.alloc (.cells #[.int .i64 L, .slice (some ⟨g, 1, none⟩) 2 2, .slice (some ⟨g, 3, none⟩) 2 2] 57)
  have c1 := kg.cell 1
  have c2 := kg.cell 2
  have c3 := kg.cell 3
  have c4 := kg.cell 4
  simp only [List.getElem?_toArray, List.getElem?_cons_zero, List.getElem?_cons_succ] at c1 c2 c3 c4
  by_cases ha : half < 0
  · rw [show nextB b0 b1 s0 s1 half live n = false by unfold nextB; rw [if_pos (.inl ha)]]
    (go_enter Tryd.func62, Tryd.ntmps62; go_wp2; go_ret; exact ⟨rfl, by go_grown⟩)
  · by_cases hb : 1 < half
    · rw [show nextB b0 b1 s0 s1 half live n = false by unfold nextB; rw [if_pos (.inr (.inl hb))]]
      have g1 : decide (half < 0) = false := by simp; omega
      clear ha
      (go_enter Tryd.func62, Tryd.ntmps62; go_wp2; go_ret; exact ⟨rfl, by go_grown⟩)
    · have g1 : decide (half < 0) = false := by simp; omega
      have g2 : decide (1 < half) = false := by simp; omega
      by_cases hc : n < 0
      · rw [show nextB b0 b1 s0 s1 half live n = false by unfold nextB; rw [if_pos (.inr (.inr (.inl hc)))]]
        clear ha hb
        (go_enter Tryd.func62, Tryd.ntmps62; go_wp2; go_ret; exact ⟨rfl, by go_grown⟩)
      · have g3 : decide (n < 0) = false := by simp; omega
        by_cases hd : 63 < n
        · rw [show nextB b0 b1 s0 s1 half live n = false by unfold nextB; rw [if_pos (.inr (.inr (.inr hd)))]]
          clear ha hb hc
          (go_enter Tryd.func62, Tryd.ntmps62; go_wp2; go_ret; exact ⟨rfl, by go_grown⟩)
        · have g4 : decide (63 < n) = false := by simp; omega
          obtain ⟨k, rfl⟩ : ∃ k : Nat, half = k := ⟨half.toNat, by omega⟩
          obtain ⟨m, rfl⟩ : ∃ m : Nat, n = m := ⟨n.toNat, by omega⟩
          rw [show nextB b0 b1 s0 s1 k live m = (sel b0 b1 s0 s1 k live).testBit m by unfold nextB; rw [if_neg (by omega)]; simp]
          have hk : k = 0 ∨ k = 1 := by omega
          have hm : m ≤ 64 := by omega
          clear ha hb hc g1 g2 g3 g4
          have gm0 : decide ((m : Int) < 0) = false := by simp
          have gm1 : decide ((63 : Int) < (m : Int)) = false := by simp; omega
          clear hd
          rcases hk with rfl | rfl
          · cases live
            · cases hv : b0.testBit m
              · have cb := bit_0 b0 m h0 hm (by rw [bitB_test]; exact hv)
                rw [show (sel b0 b1 s0 s1 0 false).testBit m = false from hv]
                clear hv
                go_enter Tryd.func62, Tryd.ntmps62
                go_wp2_with (go_at_call 53; (with_reducible refine (cb _).mono ?_); rintro e w' ⟨rfl, rfl⟩)
                go_ret
                exact ⟨rfl, by go_grown⟩
              · have cb := bit_1 b0 m h0 hm (by rw [bitB_test]; exact hv)
                rw [show (sel b0 b1 s0 s1 0 false).testBit m = true from hv]
                clear hv
                go_enter Tryd.func62, Tryd.ntmps62
                go_wp2_with (go_at_call 53; (with_reducible refine (cb _).mono ?_); rintro e w' ⟨rfl, rfl⟩)
                go_ret
                exact ⟨rfl, by go_grown⟩
            · cases hv : s0.testBit m
              · have cb := bit_0 s0 m h2 hm (by rw [bitB_test]; exact hv)
                rw [show (sel b0 b1 s0 s1 0 true).testBit m = false from hv]
                clear hv
                go_enter Tryd.func62, Tryd.ntmps62
                go_wp2_with (go_at_call 53; (with_reducible refine (cb _).mono ?_); rintro e w' ⟨rfl, rfl⟩)
                go_ret
                exact ⟨rfl, by go_grown⟩
              · have cb := bit_1 s0 m h2 hm (by rw [bitB_test]; exact hv)
                rw [show (sel b0 b1 s0 s1 0 true).testBit m = true from hv]
                clear hv
                go_enter Tryd.func62, Tryd.ntmps62
                go_wp2_with (go_at_call 53; (with_reducible refine (cb _).mono ?_); rintro e w' ⟨rfl, rfl⟩)
                go_ret
                exact ⟨rfl, by go_grown⟩
          · cases live
            · cases hv : b1.testBit m
              · have cb := bit_0 b1 m h1 hm (by rw [bitB_test]; exact hv)
                rw [show (sel b0 b1 s0 s1 1 false).testBit m = false from hv]
                clear hv
                go_enter Tryd.func62, Tryd.ntmps62
                go_wp2_with (go_at_call 53; (with_reducible refine (cb _).mono ?_); rintro e w' ⟨rfl, rfl⟩)
                go_ret
                exact ⟨rfl, by go_grown⟩
              · have cb := bit_1 b1 m h1 hm (by rw [bitB_test]; exact hv)
                rw [show (sel b0 b1 s0 s1 1 false).testBit m = true from hv]
                clear hv
                go_enter Tryd.func62, Tryd.ntmps62
                go_wp2_with (go_at_call 53; (with_reducible refine (cb _).mono ?_); rintro e w' ⟨rfl, rfl⟩)
                go_ret
                exact ⟨rfl, by go_grown⟩
            · cases hv : s1.testBit m
              · have cb := bit_0 s1 m h3 hm (by rw [bitB_test]; exact hv)
                rw [show (sel b0 b1 s0 s1 1 true).testBit m = false from hv]
                clear hv
                go_enter Tryd.func62, Tryd.ntmps62
                go_wp2_with (go_at_call 53; (with_reducible refine (cb _).mono ?_); rintro e w' ⟨rfl, rfl⟩)
                go_ret
                exact ⟨rfl, by go_grown⟩
              · have cb := bit_1 s1 m h3 hm (by rw [bitB_test]; exact hv)
                rw [show (sel b0 b1 s0 s1 1 true).testBit m = true from hv]
                clear hv
                go_enter Tryd.func62, Tryd.ntmps62
                go_wp2_with (go_at_call 53; (with_reducible refine (cb _).mono ?_); rintro e w' ⟨rfl, rfl⟩)
                go_ret
                exact ⟨rfl, by go_grown⟩
theorem chk_any (L : Int) (b0 b1 s0 s1 : Nat) (h0 : b0 < 2 ^ 64) (h1 : b1 < 2 ^ 64) (h2 : s0 < 2 ^ 64) (h3 : s1 < 2 ^ 64) (w : World) :
    Calls Tryd.prog 49 #[Tab L b0 b1 s0 s1] w fun e w' => e = .returned (errV (chk L b0 b1 s0 s1)) ∧ Below w.heap.size w w' := by
  by_cases h : L < 1 ∨ 3 < L
  · rw [show chk L b0 b1 s0 s1 = 11 by unfold chk; rw [if_pos h]]
    exact check_no L h b0 b1 s0 s1 w
  · obtain ⟨l, rfl⟩ : ∃ l : Nat, L = l := ⟨L.toNat, by omega⟩
    have hc : chk l b0 b1 s0 s1 = if wrongT l b0 b1 s0 s1 = true then 5 else 0 := by unfold chk; rw [if_neg h]; simp
    rw [hc]
    refine (check_yes l (by omega) b0 b1 s0 s1 h0 h1 h2 h3 w).mono ?_
    rintro e w' ⟨rfl, hb⟩
    refine ⟨?_, hb⟩
    cases wrongT l b0 b1 s0 s1 <;> rfl
theorem refchk_any (L : Int) (b0 b1 s0 s1 : Nat) (h0 : b0 < 2 ^ 64) (h1 : b1 < 2 ^ 64) (h2 : s0 < 2 ^ 64) (h3 : s1 < 2 ^ 64) (g : Nat) (w : World) (kg : Blk w g 47 #[.int .i64 L, .int .u64 b0, .int .u64 b1, .int .u64 s0, .int .u64 s1]) :
    Calls Tryd.prog 21 #[RT L g] w fun e w' => e = .returned (.int .i64 (chk L b0 b1 s0 s1)) ∧ Below w.heap.size w w' := by
  by_cases h : L < 1 ∨ 3 < L
  · rw [show chk L b0 b1 s0 s1 = 11 by unfold chk; rw [if_pos h]]
    exact refcheck_no L h g w
  · obtain ⟨l, rfl⟩ : ∃ l : Nat, L = l := ⟨L.toNat, by omega⟩
    have hc : chk l b0 b1 s0 s1 = if wrongT l b0 b1 s0 s1 = true then 5 else 0 := by unfold chk; rw [if_neg h]; simp
    rw [hc]
    exact refcheck_yes l (by omega) b0 b1 s0 s1 h0 h1 h2 h3 g w kg
theorem codeOf_any (n : Int) (w : World) (hE : ErrIs w) :
    Calls Tryd.prog 23 #[errV n] w fun e w' => e = .returned (.int .i64 n) ∧ Below w.heap.size w w' := by
  by_cases h : n = 0
  · subst h
    exact codeOf_nil w
  · rw [show errV n = Er n by unfold errV; rw [if_neg h]]
    exact codeOf_er n w hE
theorem check_nil (l : Nat) (b0 b1 s0 s1 : Nat) (hl : l = 1 ∨ l = 2 ∨ l = 3) (h0 : b0 < 2 ^ 64) (h1 : b1 < 2 ^ 64) (h2 : s0 < 2 ^ 64) (h3 : s1 < 2 ^ 64) (hf : wrongT l b0 b1 s0 s1 = false) (w : World) :
    Calls Tryd.prog 49 #[Tab l b0 b1 s0 s1] w fun e w' => e = .returned .nilIface ∧ Below w.heap.size w w' := by
  refine (check_yes l hl b0 b1 s0 s1 h0 h1 h2 h3 w).mono ?_
  rintro e w' ⟨rfl, hb⟩
  rw [hf]
  exact ⟨rfl, hb⟩
theorem mask_fin : ∀ n : Fin 64, (18446744073709551614 : Nat).testBit n.val = ((18446744073709551615 : Nat).testBit n.val && !(n.val == 0)) ∧ (14 : Nat).testBit n.val = ((15 : Nat).testBit n.val && !(n.val == 0)) ∧ (8190 : Nat).testBit n.val = ((8191 : Nat).testBit n.val && !(n.val == 0)) := by decide +kernel
theorem fine_mask (m o x y : Nat) (hm : m < 2 ^ 64) (hx : x < 2 ^ 64) (hy : y < 2 ^ 64) (ho : ∀ n : Fin 64, o.testBit n.val = (m.testBit n.val && !(n.val == 0))) : wrongH m (x &&& o) (y &&& m) = false := by
  refine fine_wrong m _ _ hm (Nat.lt_of_le_of_lt Nat.and_le_left hx) (Nat.lt_of_le_of_lt Nat.and_le_left hy) fun n hn => ?_
  have := ho ⟨n, hn⟩
  dsimp only at this
  unfold badAt
  rw [bitB_test, bitB_test, Nat.testBit_and, Nat.testBit_and, this]
  cases m.testBit n <;> cases (n == 0) <;> simp
def SomeF (w : World) (e : Ending) (w' : World) : Prop :=
  ∃ l b0 b1 s0 s1 : Nat, (l = 1 ∨ l = 2 ∨ l = 3) ∧ b0 < 2 ^ 64 ∧ b1 < 2 ^ 64 ∧ s0 < 2 ^ 64 ∧ s1 < 2 ^ 64 ∧ wrongT l b0 b1 s0 s1 = false ∧ e = .returned (Tab l b0 b1 s0 s1) ∧ Below w.heap.size w w'
theorem and_l64 (a b : Nat) (h : a < 2 ^ 64) : a &&& b < 2 ^ 64 := Nat.lt_of_le_of_lt Nat.and_le_left h
theorem some_fine (L : Int) (b0 b1 s0 s1 : Nat) (h0 : b0 < 2 ^ 64) (h1 : b1 < 2 ^ 64) (h2 : s0 < 2 ^ 64) (h3 : s1 < 2 ^ 64) (w : World) :
    Calls Tryd.prog 24 #[Tab L b0 b1 s0 s1] w (SomeF w) := by
  have h : L % 256 % 3 = 0 ∨ L % 256 % 3 = 1 ∨ L % 256 % 3 = 2 := by omega
  rcases h with h | h | h
  · refine (some1 L h b0 b1 s0 s1 h0 h1 h2 h3 w).mono fun e w' ⟨he, hb⟩ => ⟨1, _, 0, _, 0, .inl rfl, and_l64 _ _ h0, by decide, and_l64 _ _ h2, by decide, ?_, he, hb⟩
    unfold wrongT
    rw [show nbv 1 0 = 18446744073709551615 from rfl, fine_mask 18446744073709551615 18446744073709551614 b0 s0 (by decide) h0 h2 (fun n => (mask_fin n).1)]
    decide
  · refine (some2 L h b0 b1 s0 s1 h0 h1 h2 h3 w).mono fun e w' ⟨he, hb⟩ => ⟨2, _, _, _, _, .inr (.inl rfl), and_l64 _ _ h0, and_l64 _ _ h1, and_l64 _ _ h2, and_l64 _ _ h3, ?_, he, hb⟩
    unfold wrongT
    rw [show nbv 2 0 = 15 from rfl, show nbv 2 1 = 15 from rfl, fine_mask 15 14 b0 s0 (by decide) h0 h2 (fun n => (mask_fin n).2.1), fine_mask 15 14 b1 s1 (by decide) h1 h3 (fun n => (mask_fin n).2.1)]
    rfl
  · refine (some3 L h b0 b1 s0 s1 h0 h1 h2 h3 w).mono fun e w' ⟨he, hb⟩ => ⟨3, _, _, _, _, .inr (.inr rfl), and_l64 _ _ h0, and_l64 _ _ h1, and_l64 _ _ h2, and_l64 _ _ h3, ?_, he, hb⟩
    unfold wrongT
    rw [show nbv 3 0 = 8191 from rfl, show nbv 3 1 = 8191 from rfl, fine_mask 8191 8190 b0 s0 (by decide) h0 h2 (fun n => (mask_fin n).2.2), fine_mask 8191 8190 b1 s1 (by decide) h1 h3 (fun n => (mask_fin n).2.2)]
    rfl
end Go.Proofs.YtcmfkdhadmfgkaaDoor.Tb
