/- The document's Half, Inside, Level. -/
import Derived.Test.YtcgkaghabgjjlaaTrW9
import Derived.Test.YtcgkaghabgjjlaaSeO
import Derived.Deep.RegionHeld3
namespace Go.Proofs.Ytcgkaghabgjjlaa.Tr
open Go.RowKit Go.Proofs.Ytcgkaghabgjjlaa.Ba Go.Lib
open Go.Proofs.Ytcgkaghabgjjlaa.Se (RawAt flat flat_get)

def RhR (n : Nat) (w : World) (t3 t4 : Value) (wr : World) : Prop := ∃ m x : Nat, m ≤ n ∧ Hid (x = 2 ^ m) ∧ t3 = .int .i64 (x : Int) ∧ t4 = .int .i64 ((m : Int) + 1) ∧ w = wr
set_option maxRecDepth 100000 in
theorem refhalf_any (l : Int) (w : World) :
    Calls Try.prog 8 #[.int .i64 l] w fun e w' => e = .returned (.int .i64 (hf l)) ∧ w = w' := by
  have HF := Lib.hid (hf_nat l)
  have hb := hfN_le l
  have HN := Lib.hid (show hfN l = (min (max l 1) 44 - 1).toNat from rfl)
  generalize hf l = H at *
  generalize hfN l = n at *
  go_enter Try.func8, Try.ntmps8
  go_wp2_with fail
  go_loopw [3, 4] (fun t3 t4 wr => RhR n w t3 t4 wr) (fun _ t4 _ => 45 - (intOf t4).toNat)
  case atStart => exact ⟨0, 1, Nat.zero_le _, Lib.hid rfl, rfl, rfl, rfl⟩
  case round =>
    obtain ⟨m, x, hm, HX, rfl, rfl, rfl⟩ := hrel
    by_cases hlt : m < n
    · have hn := HN.out
      have h1 : decide ((m : Int) + 1 < l) = true := by simp; omega
      have h1' : (m : Int) + 1 < l := by omega
      have h2 : decide ((m : Int) + 1 < 44) = true := by simp; omega
      have h2' : (m : Int) + 1 < 44 := by omega
      have h3 : (2 : Nat) ^ 42 = 4398046511104 := by decide
      have h4 := Nat.pow_le_pow_right (n := 2) (by decide) (show m ≤ 42 by omega)
      have hx : x ≤ 4398046511104 := by rw [HX.out]; omega
      clear h3 h4
      clear hn
      go_wp2
      exact ⟨⟨m + 1, 2 * x, by omega, Lib.hid (by rw [HX.out, Nat.pow_succ]; omega), by go_num, by go_num, rfl⟩, by simp [intOf]; omega⟩
    · obtain rfl : m = n := by omega
      have HE := Lib.hid (show (x : Int) = H by rw [HF.out, HX.out])
      have hn := HN.out
      by_cases h1 : (m : Int) + 1 < l
      · have h1' : decide ((m : Int) + 1 < l) = true := by simpa using h1
        have h2' : decide ((m : Int) + 1 < 44) = false := by simp; omega
        have h2 : ¬ (m : Int) + 1 < 44 := by omega
        clear hn
        go_wp2
        go_ret
        exact ⟨by rw [HE.out]; rfl, rfl⟩
      · have h1' : decide ((m : Int) + 1 < l) = false := by simpa using h1
        clear hn
        go_wp2
        go_ret
        exact ⟨by rw [HE.out]; rfl, rfl⟩
def refB (l a b : Int) : Bool := decide ((a < hf l ∧ b < hf l) ∧ (wrap64 (-a) ≤ hf l ∧ wrap64 (-b) ≤ hf l))
theorem refB_ins {l a b : Int} (ha : -4611686018427387904 ≤ a ∧ a ≤ 4611686018427387904) (hb : -4611686018427387904 ≤ b ∧ b ≤ 4611686018427387904) : refB l a b = insB l a b := by
  unfold refB insB
  have e1 : wrap64 (-a) = -a := by unfold wrap64; omega
  have e2 : wrap64 (-b) = -b := by unfold wrap64; omega
  rw [e1, e2]
  refine decide_eq_decide.2 ?_
  omega
set_option maxRecDepth 100000 in
theorem refinside_any (l a b : Int) (w : World) :
    Calls Try.prog 10 #[.int .i64 l, .int .i64 a, .int .i64 b] w fun e w' => e = .returned (.bool (refB l a b)) ∧ w = w' := by
  have hc := fun W => refhalf_any l W
  have HI2 : refB l a b = decide ((a < hf l ∧ b < hf l) ∧ (wrap64 (-a) ≤ hf l ∧ wrap64 (-b) ≤ hf l)) := rfl
  generalize refB l a b = r at *
  generalize hf l = H at *
  have HR := Lib.hid HI2
  clear HI2
  by_cases h1 : a < H
  · by_cases h2 : b < H
    · by_cases h3 : wrap64 (-a) ≤ H
      · by_cases h4 : wrap64 (-b) ≤ H
        · ((obtain rfl : r = true := (by rw [HR.out]; simp; try omega)); clear HR; go_enter Try.func10, Try.ntmps10; go_wp2_with (first | (go_at_call 8; refine (hc _).mono ?_; rintro e w' ⟨rfl, rfl⟩)); (exact bodyPost_ret (v := .bool true) (by simp [results, Try.results10, go_sem, *]) rfl ⟨rfl, rfl⟩))
        · ((obtain rfl : r = false := (by rw [HR.out]; simp; try omega)); clear HR; go_enter Try.func10, Try.ntmps10; go_wp2_with (first | (go_at_call 8; refine (hc _).mono ?_; rintro e w' ⟨rfl, rfl⟩)); (exact bodyPost_ret (v := .bool false) (by simp [results, Try.results10, go_sem, *]) rfl ⟨rfl, rfl⟩))
      · ((obtain rfl : r = false := (by rw [HR.out]; simp; try omega)); clear HR; go_enter Try.func10, Try.ntmps10; go_wp2_with (first | (go_at_call 8; refine (hc _).mono ?_; rintro e w' ⟨rfl, rfl⟩)); (exact bodyPost_ret (v := .bool false) (by simp [results, Try.results10, go_sem, *]) rfl ⟨rfl, rfl⟩))
    · ((obtain rfl : r = false := (by rw [HR.out]; simp; try omega)); clear HR; go_enter Try.func10, Try.ntmps10; go_wp2_with (first | (go_at_call 8; refine (hc _).mono ?_; rintro e w' ⟨rfl, rfl⟩)); (exact bodyPost_ret (v := .bool false) (by simp [results, Try.results10, go_sem, *]) rfl ⟨rfl, rfl⟩))
  · ((obtain rfl : r = false := (by rw [HR.out]; simp; try omega)); clear HR; go_enter Try.func10, Try.ntmps10; go_wp2_with (first | (go_at_call 8; refine (hc _).mono ?_; rintro e w' ⟨rfl, rfl⟩)); (exact bodyPost_ret (v := .bool false) (by simp [results, Try.results10, go_sem, *]) rfl ⟨rfl, rfl⟩))
/-- The least level that has all cells. -/
structure Rlv (L : List C) (n : Nat) : Prop where
  lo : 3 ≤ n
  hi : n ≤ 44
  no : ∀ m : Nat, 3 ≤ m → m < n → ∃ c ∈ L, insB m c.1 c.2.1 = false
  yes : n < 44 → ∀ c ∈ L, insB n c.1 c.2.1 = true
def RmC (c : C) : Prop := (-4611686018427387904 ≤ c.1 ∧ c.1 ≤ 4611686018427387904) ∧ (-4611686018427387904 ≤ c.2.1 ∧ c.2.1 ≤ 4611686018427387904)
theorem rlv_nil : Rlv [] 3 := ⟨by omega, by omega, fun m h1 h2 => by omega, fun _ c hc => by simp at hc⟩
theorem rlv_next {L : List C} {c : C} {n m : Nat} (h : Rlv L n) (hnm : n ≤ m) (hm : m ≤ 44) (hno : ∀ k : Nat, n ≤ k → k < m → insB k c.1 c.2.1 = false) (hyes : m < 44 → insB m c.1 c.2.1 = true) : Rlv (L ++ [c]) m := by
  refine ⟨Nat.le_trans h.lo hnm, hm, fun k h1 h2 => ?_, fun h1 d hd => ?_⟩
  · rcases Nat.lt_or_ge k n with hk | hk
    · obtain ⟨d, hd, e⟩ := h.no k h1 hk
      exact ⟨d, by simp [hd], e⟩
    · exact ⟨c, by simp, hno k hk h2⟩
  · rcases List.mem_append.1 hd with hd | hd
    · exact ins_mono (h.yes (by omega) d hd) (by omega)
    · rw [List.mem_singleton] at hd
      subst hd
      exact hyes h1
/-- A list of the document's cells in memory. -/
structure RowR (w : World) (v : Value) (L : List C) : Prop where
  is : ∃ g o cap : Nat, v = .slice (some ⟨g, o, none⟩) L.length cap ∧ (∀ i (c : C), L[i]? = some c → w.cell? ⟨g, o + i * 3, none⟩ = some (.int .i64 c.1) ∧ w.cell? ⟨g, o + (i * 3 + 1), none⟩ = some (.int .i64 c.2.1) ∧ w.cell? ⟨g, o + (i * 3 + 1 + 1), none⟩ = some (.int .i64 c.2.2)) ∧ g < w.heap.size
theorem raw_row {w : World} {v : Value} {L : List C} (h : RawAt w v L) (hL : L ≠ []) : RowR w v L := by
  rcases h with ⟨_, _, _, rfl⟩ | ⟨g, o, cap, hv, hc, hg⟩
  · exact absurd rfl hL
  · exact ⟨⟨g, o, cap, hv, fun i c hi => by
      obtain ⟨h0, h1, h2⟩ := flat_get L i c hi
      exact ⟨hc _ _ h0, hc _ _ h1, hc _ _ h2⟩, hg⟩⟩
def RvR (w : World) (L : List C) (t3 t8 : Value) (wr : World) : Prop := ∃ k n : Nat, k ≤ L.length ∧ t8 = .int .i64 k ∧ t3 = .int .i64 n ∧ Rlv (L.take k) n ∧ Below w.heap.size w wr
def RvI (w0 : World) (B n0 : Nat) (c : C) (t3 : Value) (wr : World) : Prop := ∃ n : Nat, n0 ≤ n ∧ n ≤ 44 ∧ t3 = .int .i64 n ∧ (∀ k : Nat, n0 ≤ k → k < n → insB k c.1 c.2.1 = false) ∧ Blk wr B 30 #[.int .i64 c.1, .int .i64 c.2.1, .int .i64 c.2.2] ∧ Below w0.heap.size w0 wr
set_option maxRecDepth 100000 in
set_option maxHeartbeats 1000000 in
theorem reflevel_any (v : Value) (L : List C) (w : World) (h : RawAt w v L) (hL : L.length ≤ 1000) (hm : ∀ c ∈ L, RmC c) :
    Calls Try.prog 6 #[v] w fun e w' => ∃ n : Nat, e = .returned (.int .i64 n) ∧ Rlv L n ∧ Below w.heap.size w w' := by
  have key : ∃ p cap, v = .slice p L.length cap := by
    rcases h with ⟨p, cap, rfl, rfl⟩ | ⟨g, o, cap, rfl, _, _⟩
    · exact ⟨p, cap, rfl⟩
    · exact ⟨_, _, rfl⟩
  obtain ⟨p, cap, rfl⟩ := key
  have HR := Lib.hid h
  have HM := Lib.hid hm
  clear h hm
  go_enter Try.func6, Try.ntmps6
  go_wp2_with fail
  go_loopw [3, 8] (fun t3 t8 wr => RvR w L t3 t8 wr) (fun _ t8 _ => L.length - (intOf t8).toNat)
  case atStart => exact ⟨0, 3, Nat.zero_le _, rfl, rfl, by simpa using rlv_nil, Below.refl _ _⟩
  case round =>
    obtain ⟨k, n, hk, rfl, rfl, hl, hb⟩ := hrel
    have HL := Lib.hid hl
    have h3 := hl.lo
    have h44 := hl.hi
    clear hl
    have hz := hb.size
    by_cases hlt : k < L.length
    · obtain ⟨c, hc⟩ : ∃ c, L[k]? = some c := ⟨_, List.getElem?_eq_getElem hlt⟩
      have hne : L ≠ [] := fun e => by rw [e] at hlt; simp at hlt
      obtain ⟨⟨g, o, cp, hv, hcs, hg⟩⟩ := raw_row (HR.out.below hb) hne
      injection hv with hv1 hv2 hv3
      subst hv1 hv3
      clear hv2
      obtain ⟨c0, c1, c2⟩ := hcs k c hc
      rw [← Nat.add_assoc] at c1 c2
      rw [← Nat.add_assoc] at c2
      have hrm := HM.out c (List.mem_of_getElem? hc)
      have hins := fun (m : Nat) W => refinside_any m c.1 c.2.1 W
      have hins' : ∀ (m : Nat) W, Calls Try.prog 10 #[.int .i64 m, .int .i64 c.1, .int .i64 c.2.1] W fun e w' => e = .returned (.bool (insB m c.1 c.2.1)) ∧ W = w' := fun m W => by
        have := hins m W
        rwa [refB_ins hrm.1 hrm.2] at this
      have HT := Lib.hid (show L.take (k + 1) = L.take k ++ [c] by rw [List.take_add_one, hc]; rfl)
      clear hins hrm hc hcs
      have kN := Blk.newAt wr 30 #[.int .i64 c.1, .int .i64 c.2.1, .int .i64 c.2.2] _ rfl
      have hb2 := hb.alloc hz (.cells #[.int .i64 c.1, .int .i64 c.2.1, .int .i64 c.2.2] 30)
      go_wp2_with fail
      go_loopw [3] (fun t3 wr' => RvI w wr.heap.size n c t3 wr') (fun t3 _ => 45 - (intOf t3).toNat)
      case atStart => exact ⟨n, Nat.le_refl _, h44, rfl, fun k h1 h2 => by omega, kN, hb2⟩
      case round =>
        clear kN hb2
        obtain ⟨m, hnm, hm, rfl, hno, kN, hb2⟩ := hrel
        have HNo := Lib.hid hno
        have n0 := kN.cell 0
        have n1 := kN.cell 1
        simp only [List.getElem?_toArray, List.getElem?_cons_zero, List.getElem?_cons_succ] at n0 n1
        have hnl := kN.lt
        have hi := hins' m
        clear hno
        by_cases hm4 : m < 44
        · have hd1 : decide ((m : Int) < 44) = true := by simp; omega
          rcases hs : insB m c.1 c.2.1 with _ | _
          · rw [hs] at hi
            have HS := Lib.hid hs
            have HNx := Lib.hid (show ∀ k : Nat, n ≤ k → k < m + 1 → insB k c.1 c.2.1 = false from fun k h1 h2 => by
              rcases Nat.lt_or_ge k m with h | h
              · exact HNo.out k h1 h
              · obtain rfl : k = m := by omega
                exact hs)
            clear hs
            go_wp2_with (first | (go_at_call 10; refine (hi _).mono ?_; rintro e w' ⟨rfl, rfl⟩))
            exact ⟨⟨m + 1, by omega, by omega, by go_num, HNx.out, kN, hb2⟩, by simp [intOf]; omega⟩
          · rw [hs] at hi
            have HS := Lib.hid hs
            clear hs
            have HN := Lib.hid (rlv_next HL.out hnm hm HNo.out (fun _ => HS.out))
            go_wp2_with (first | (go_at_call 10; refine (hi _).mono ?_; rintro e w' ⟨rfl, rfl⟩))
            exact ⟨⟨k + 1, m, by omega, by go_num, rfl, by rw [HT.out]; exact HN.out, hb2⟩, by simp [intOf]; omega⟩
        · obtain rfl : m = 44 := by omega
          have HN := Lib.hid (rlv_next HL.out hnm hm HNo.out (fun h => absurd h hm4))
          go_wp2_with (first | (go_at_call 10; refine (hi _).mono ?_; rintro e w' ⟨rfl, rfl⟩))
          exact ⟨⟨k + 1, 44, by omega, by go_num, rfl, by rw [HT.out]; exact HN.out, hb2⟩, by simp [intOf]; omega⟩
    · obtain rfl : k = L.length := by omega
      go_wp2
      go_ret
      exact ⟨n, rfl, by have := HL.out; rwa [List.take_length] at this, hb⟩
end Go.Proofs.Ytcgkaghabgjjlaa.Tr
