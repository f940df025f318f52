/- ArenaEmpties: for any number as a level: the node of it without cells. No condition on the number. -/
import Derived.Test.YtlmkakgbpdbeiaaDoorArL
import Derived.Test.YtlmkakgbpdbeiaaDoorBsE
namespace Go.Proofs.YtlmkakgbpdbeiaaDoor.Ar
open Go.RowKit Go.Proofs.YtlmkakgbpdbeiaaDoor.Ba Go.Proofs.YtlmkakgbpdbeiaaDoor.Mp Go.Lib Go.Maps

/-! The arena of empty nodes, level by level. -/
def eNd (i : Nat) : Nd := ⟨0, (i, i, i, i), 0, (i : Int) + 3⟩
def eS : Nat → Sta
  | 0 => newS 1000
  | n + 1 => joinS (eS n) (n, n, n, n) (eNd n)
theorem eS_N : ∀ n, (eS n).N = (List.range n).map eNd
  | 0 => rfl
  | n + 1 => by
    show (eS n).N ++ [eNd n] = _
    rw [eS_N n, List.range_succ, List.map_append]
    rfl
theorem eS_len (n : Nat) : (eS n).N.length = n := by rw [eS_N]; simp
theorem eS_more : ∀ n, (eS n).more = 936
  | 0 => rfl
  | n + 1 => by
    show (eS n).more = _
    exact eS_more n
theorem eS_J : ∀ n (k : K4), (eS n).J k = if (k = (k.1, k.1, k.1, k.1)) ∧ k.1 < n then some (k.1 + 1) else none
  | 0, k => by
    show none = _
    simp
  | n + 1, k => by
    show (if k = (n, n, n, n) then some ((eS n).N.length + 1) else (eS n).J k) = _
    by_cases h : k = (n, n, n, n)
    · subst h
      rw [if_pos rfl, eS_len, if_pos ⟨rfl, Nat.lt_succ_self n⟩]
    · rw [if_neg h, eS_J n k]
      by_cases h1 : k = (k.1, k.1, k.1, k.1)
      · have hne : k.1 ≠ n := fun e => h (by rw [h1, e])
        by_cases h2 : k.1 < n
        · rw [if_pos ⟨h1, h2⟩, if_pos ⟨h1, by omega⟩]
        · rw [if_neg (fun hh => h2 hh.2), if_neg (fun hh => h2 (by omega))]
      · rw [if_neg (fun hh => h1 hh.1), if_neg (fun hh => h1 hh.1)]
theorem eS_at (n i : Nat) (h : i ≤ n) : ndAt (eS n).N i = (if i = 0 then leaf0 else eNd (i - 1), true) := by
  unfold ndAt
  by_cases h0 : i = 0
  · rw [if_pos h0, if_pos h0]
  · rw [if_neg h0, if_neg h0, eS_N]
    have : ((List.range n).map eNd)[i - 1]? = some (eNd (i - 1)) := by
      rw [List.getElem?_map, List.getElem?_range (by omega)]
      rfl
    rw [this]
theorem eS_lv (n i : Nat) (h : i ≤ n) : levelOf (eS n).N i = (i : Int) + 2 := by
  unfold levelOf
  rw [eS_at n i h]
  dsimp only
  rw [if_pos rfl]
  by_cases h0 : i = 0
  · rw [if_pos h0, h0]; rfl
  · rw [if_neg h0]
    show (((i - 1 : Nat) : Int) + 3) = _
    omega
theorem eS_count (n i : Nat) (h : i ≤ n) : (ndAt (eS n).N i).1.count = 0 := by
  rw [eS_at n i h]
  dsimp only
  split <;> rfl
theorem eS_above (n i : Nat) (h : i ≤ n) : aboveR (eS n).N (i, i, i, i) = if 42 ≤ i then (nd0, some 7) else (eNd i, none) := by
  unfold aboveR
  have hk : kidOk (eS n).N (levelOf (eS n).N i) i = true := by
    unfold kidOk
    rw [eS_lv n i h, eS_at n i h]
    dsimp only
    by_cases h0 : i = 0
    · rw [if_pos h0, h0]; rfl
    · rw [if_neg h0]
      simp only [Bool.true_and, decide_eq_true_eq]
      show (((i - 1 : Nat) : Int) + 3) = _
      omega
  rw [if_pos (by simp [kli, hk])]
  dsimp only
  rw [eS_lv n i h]
  by_cases h4 : 42 ≤ i
  · rw [if_pos (by omega), if_pos h4]
  · rw [if_neg (by omega), if_neg h4]
    have hc : cntS (eS n).N (kli (i, i, i, i)) = 0 := by simp [cntS, kli, eS_count n i h]
    rw [hc]
    unfold eNd
    congr 1
theorem eS_full (n : Nat) (h : n < 900) : ¬ full (eS n) := by
  unfold full
  rw [eS_more, eS_len]
  omega
/-- Joins of the node of a level: what is there, what is new. -/
theorem eS_join_old (n i : Nat) (h : i < n) : joinR (eS n) (i, i, i, i) = (i + 1, none, eS n) := by
  unfold joinR
  rw [eS_J, if_pos ⟨rfl, h⟩]
theorem eS_join_new (n : Nat) (h : n < 42) : joinR (eS n) (n, n, n, n) = (n + 1, none, eS (n + 1)) := by
  unfold joinR
  rw [eS_J, if_neg (fun hh => Nat.lt_irrefl _ hh.2), eS_above n n (Nat.le_refl _), if_neg (by omega)]
  dsimp only
  rw [if_neg (eS_full n (by omega)), eS_len]
  rfl
theorem eS_join_top : joinR (eS 42) (42, 42, 42, 42) = (0, some 7, eS 42) := by
  unfold joinR
  rw [eS_J, if_neg (fun hh => Nat.lt_irrefl _ hh.2), eS_above 42 42 (Nat.le_refl _), if_pos (Nat.le_refl _)]
theorem eS_emp (n : Nat) : ∀ m, m ≤ n → n ≤ 42 → empL m (eS n) = (m, none, eS n)
  | 0, _, _ => rfl
  | m + 1, h, h4 => by
    unfold empL
    rw [eS_emp n m (by omega) h4]
    exact eS_join_old n m (by omega)
theorem eS_grow (m : Nat) : ∀ n, m + n ≤ 42 → empL (m + n) (eS m) = (m + n, none, eS (m + n))
  | 0, h => eS_emp m m (Nat.le_refl _) (by omega)
  | n + 1, h => by
    show empL (m + n + 1) (eS m) = _
    unfold empL
    rw [eS_grow m n (by omega)]
    exact eS_join_new (m + n) (by omega)
theorem eS_empty (n : Nat) (h : n ≤ 42) : empL n (eS 0) = (n, none, eS n) := by
  have := eS_grow 0 n (by omega)
  rwa [Nat.zero_add] at this
theorem eS_kids (n : Nat) (h : 0 < n) : (ndAt (eS n).N n).1.k = (n - 1, n - 1, n - 1, n - 1) := by
  rw [eS_at n n (Nat.le_refl _)]
  dsimp only
  rw [if_neg (by omega)]
  rfl
def eP (g : Nat) : Nat → Prop := fun b => g ≤ b
theorem e_mid (g n m : Nat) (S S' : Sta) (i : Nat) (c : Option Nat) (he : empL m S = (i, c, S')) (hm : m ≤ 42) (hN : S.N.length ≤ 1000) (w : World) (h : ArAt w g S (eP g)) (hg : g ≤ w.heap.size) (l : Int) (hl : l = (m : Int) + 2) :
    Calls Tryd.prog 18 #[Pt g, .int .i64 l] w fun e w' => e = .returned (.tuple #[.int .u32 i, errV c]) ∧ ArAt w' g S' (eP g) ∧ Below g w w' ∧ g ≤ w'.heap.size := by
  have := empty_mid g m S (eP g) w h (fun b hb => Nat.le_trans hg hb) hm (by omega)
  rw [he] at this
  subst hl
  refine this.mono ?_
  rintro e w' ⟨rfl, h1, o1⟩
  exact ⟨rfl, h1, o1.below hg (fun b hb => hb), Nat.le_trans hg o1.size⟩
theorem e_join (g : Nat) (S S' : Sta) (k : K4) (i : Nat) (c : Option Nat) (he : joinR S k = (i, c, S')) (hk : ok4 k) (hN : S.N.length ≤ 1000) (w : World) (h : ArAt w g S (eP g)) (hg : g ≤ w.heap.size) :
    Calls Tryd.prog 13 #[Pt g, KV k] w fun e w' => e = .returned (.tuple #[.int .u32 i, errV c]) ∧ ArAt w' g S' (eP g) ∧ Below g w w' ∧ g ≤ w'.heap.size := by
  have := join_any g k S (eP g) w h hk (fun b hb => Nat.le_trans hg hb) (by omega)
  rw [he] at this
  refine this.mono ?_
  rintro e w' ⟨rfl, h1, o1⟩
  exact ⟨rfl, h1, o1.below hg (fun b hb => hb), Nat.le_trans hg o1.size⟩
theorem e_new (w : World) : Calls Tryd.prog 7 #[.int .i64 1000] w fun e w' => e = .returned (Pt w.heap.size) ∧ ArAt w' w.heap.size (eS 0) (eP w.heap.size) ∧ Below w.heap.size w w' := by
  refine (new_any 1000 (by decide) w).mono ?_
  rintro e w' ⟨rfl, h, hb⟩
  exact ⟨rfl, h.weak (fun b hb _ => by rw [hb]; exact Nat.le_refl _), hb⟩
set_option maxRecDepth 100000 in
theorem empties_low (l : Int) (hl : l < 2) (w : World) (hE : ErrIs w) :
    Calls Tryd.prog 5 #[.int .i64 l] w fun e w' => e = .returned (.bool true) ∧ Below w.heap.size w w' := by
  go_enter Tryd.func5, Tryd.ntmps5
  go_wp2_with fail
  refine (awake_true _).mono ?_
  rintro e w1 ⟨rfl, hb1⟩
  go_wp2_with fail
  refine (e_new _).mono ?_
  rintro e w2 ⟨rfl, h2, hb2⟩
  have hb3 := hb1.trans (hb2.mono hb1.size)
  go_wp2_with fail
  refine (empty_low _ l hl _).mono ?_
  rintro e w' ⟨rfl, rfl⟩
  unfold errV
  go_wp2_with fail
  refine (codeOf_er 4 _ (hE.below hb3)).mono ?_
  rintro e w3 ⟨rfl, hb⟩
  have hb4 := hb3.trans (hb.mono hb3.size)
  go_wp2
  go_ret
  exact ⟨rfl, hb4⟩
set_option maxRecDepth 100000 in
theorem empties_high (l : Int) (hl : 44 < l) (w : World) (hE : ErrIs w) :
    Calls Tryd.prog 5 #[.int .i64 l] w fun e w' => e = .returned (.bool true) ∧ Below w.heap.size w w' := by
  have hl2 : ¬ l < 2 := by omega
  go_enter Tryd.func5, Tryd.ntmps5
  go_wp2_with fail
  refine (awake_true _).mono ?_
  rintro e w1 ⟨rfl, hb1⟩
  go_wp2_with fail
  refine (e_new _).mono ?_
  rintro e w2 ⟨rfl, h2, hb2⟩
  have hb3 := hb1.trans (hb2.mono hb1.size)
  go_wp2_with fail
  refine (empty_high _ l hl _).mono ?_
  rintro e w' ⟨rfl, rfl⟩
  unfold errV
  go_wp2_with fail
  refine (codeOf_er 7 _ (hE.below hb3)).mono ?_
  rintro e w3 ⟨rfl, hb⟩
  have h3 := h2.under hb
  have hb4 := hb3.trans (hb.mono hb3.size)
  go_wp2_with fail
  refine (len_any _ _ _ _ h3 (by decide)).mono ?_
  rintro e w4 ⟨rfl, rfl⟩
  rw [show (((eS 0).N.length + 1 : Nat) : Int) = 1 from rfl]
  go_wp2
  go_ret
  exact ⟨rfl, hb4⟩
set_option maxRecDepth 100000 in
set_option maxHeartbeats 1000000 in
theorem empties_mid (n : Nat) (hn : n ≤ 42) (w : World) (hE : ErrIs w) :
    Calls Tryd.prog 5 #[.int .i64 ((n : Int) + 2)] w fun e w' => e = .returned (.bool true) ∧ Below w.heap.size w w' := by
  have i2 : ¬ (n : Int) + 2 < 2 := by omega
  have i4 : ¬ 44 < (n : Int) + 2 := by omega
  have hnu : okU n := by show _ < _; omega
  have hnl : (eS n).N.length ≤ 1000 := by rw [eS_len]; omega
  have c1 := fun g W hW hg => e_mid g n n (eS 0) (eS n) n none (eS_empty n hn) hn (by decide) W hW hg _ rfl
  have c2 := fun g W hW hg => e_mid g n n (eS n) (eS n) n none (eS_emp n n (Nat.le_refl _) hn) hn hnl W hW hg _ rfl
  have c3 := fun g W hW => level_any g n (eS n) (eP g) W hW hnu (by omega)
  have c4 := fun g W hW => count_any g n (eS n) (eP g) W hW hnu (by omega)
  have c5 := fun g W hW => len_any g (eS n) (eP g) W hW (by omega)
  have c6 := fun g W hW => kids_any g n (eS n) (eP g) W hW hnu (by omega)
  rw [eS_lv n n (Nat.le_refl _)] at c3
  rw [eS_count n n (Nat.le_refl _)] at c4
  rw [eS_len, show ((n + 1 : Nat) : Int) = (n : Int) + 2 - 1 by omega] at c5
  unfold errV at c1 c2
  dsimp only at c1 c2
  go_enter Tryd.func5, Tryd.ntmps5
  go_wp2_with fail
  refine (awake_true _).mono ?_
  rintro e w1 ⟨rfl, hb1⟩
  go_wp2_with fail
  refine (e_new _).mono ?_
  rintro e w2 ⟨rfl, h2, hb2⟩
  have hb3 := hb1.trans (hb2.mono hb1.size)
  have hlo := hb1.size
  have hup := hb2.size
  generalize w1.heap.size = g at *
  clear hb1 hb2
  go_wp2_with fail
  refine (c1 g _ h2 hup).mono ?_
  rintro e w3 ⟨rfl, h3, hb, hup3⟩
  have hb4 := hb3.trans (hb.mono hlo)
  clear hb h2 hb3 c1 hup
  go_wp2_with fail
  refine (c2 g _ h3 hup3).mono ?_
  rintro e w4 ⟨rfl, h4, hb, hup4⟩
  have hb5 := hb4.trans (hb.mono hlo)
  clear hb h3 hb4 c2 hup3
  go_wp2_with fail
  refine (c3 g _ h4).mono ?_
  rintro e w5 ⟨rfl, hb⟩
  have h5 := h4.under hb
  have hb6 := hb5.trans (hb.mono hb5.size)
  have hup5 := Nat.le_trans hup4 hb.size
  clear hb h4 hb5 c3 hup4
  go_wp2_with fail
  refine (c4 g _ h5).mono ?_
  rintro e w6 ⟨rfl, hb⟩
  have h6 := h5.under hb
  have hb7 := hb6.trans (hb.mono hb6.size)
  have hup6 := Nat.le_trans hup5 hb.size
  clear hb h5 hb6 c4 hup5
  go_wp2_with fail
  refine (c5 g _ h6).mono ?_
  rintro e w7 ⟨rfl, rfl⟩
  clear c5
  by_cases h0 : n = 0
  · have e3 : decide (2 < (n : Int) + 2) = false := by simp; omega
    clear c6 h0
    (by_cases h42 : n = 42; (focus ((have e42 : ((n : Int) + 2 == 44) = true := by simp; omega); (have j42 := e_join g (eS n) (eS n) (n, n, n, n) 0 (some 7) (by rw [h42]; exact eS_join_top) ⟨hnu, hnu, hnu, hnu⟩ hnl _ h6 hup6); (have H42 := Lib.hid h42); clear h42; unfold errV at j42; go_wp2_with fail; refine j42.mono ?_; rintro e wA ⟨rfl, hA, hbA, hupA⟩; (have hbB := (hb7).trans (hbA.mono hlo)); clear j42 hbA; go_wp2_with fail; refine (empty_high g _ (by have := H42.out; omega) _).mono ?_; rintro e wB ⟨rfl, rfl⟩; unfold errV; go_wp2_with fail; refine (codeOf_er 7 _ (hE.below hbB)).mono ?_; rintro e wC ⟨rfl, hbC⟩; (have hbD := hbB.trans (hbC.mono hbB.size)); go_wp2_with fail; refine (codeOf_er 7 _ (hE.below hbD)).mono ?_; rintro e wE ⟨rfl, hbE⟩; (have hbF := hbD.trans (hbE.mono hbD.size)); go_wp2; go_ret; exact ⟨rfl, hbF⟩)); (focus ((have e42' : ((n : Int) + 2 == 44) = false := by simp; omega); (have j42 := e_join g (eS n) (eS (n + 1)) (n, n, n, n) (n + 1) none (eS_join_new n (by omega)) ⟨hnu, hnu, hnu, hnu⟩ hnl _ h6 hup6); unfold errV at j42; go_wp2_with fail; refine j42.mono ?_; rintro e wA ⟨rfl, hA, hbA, hupA⟩; (have hbB := (hb7).trans (hbA.mono hlo)); clear j42 hbA; (have hm1 := e_mid g n (n + 1) (eS (n + 1)) (eS (n + 1)) (n + 1) none (eS_emp (n + 1) (n + 1) (Nat.le_refl _) (by omega)) (by omega) (by rw [eS_len]; omega) wA hA hupA ((n : Int) + 2 + 1) (by omega)); unfold errV at hm1; go_wp2_with fail; refine hm1.mono ?_; rintro e wB ⟨rfl, hB, hbC, _⟩; (have hbD := hbB.trans (hbC.mono hlo)); clear hm1; go_wp2; go_ret; exact ⟨rfl, hbD⟩)))
  · have e3 : 2 < (n : Int) + 2 := by omega
    have hq : ∀ W : World, (Op.equalIn 10000 46 (.agg #[.int .u32 ((n - 1 : Nat) : Int), .int .u32 ((n - 1 : Nat) : Int), .int .u32 ((n - 1 : Nat) : Int), .int .u32 ((n - 1 : Nat) : Int)]) (.agg #[.int .u32 ((n - 1 : Nat) : Int), .int .u32 ((n - 1 : Nat) : Int), .int .u32 ((n - 1 : Nat) : Int), .int .u32 ((n - 1 : Nat) : Int)])).run Tryd.prog W = .ok true W := fun W => by
      have := equal_k4 ((n - 1 : Nat) : Int) ((n - 1 : Nat) : Int) ((n - 1 : Nat) : Int) ((n - 1 : Nat) : Int) ((n - 1 : Nat) : Int) ((n - 1 : Nat) : Int) ((n - 1 : Nat) : Int) ((n - 1 : Nat) : Int) W
      simpa using this
    rw [eS_kids n (by omega)] at c6
    have c6' : ∀ W, ArAt W g (eS n) (eP g) → Calls Tryd.prog 15 #[Pt g, .int .u32 n] W fun e w' => e = .returned (.agg #[.int .u32 ((n - 1 : Nat) : Int), .int .u32 ((n - 1 : Nat) : Int), .int .u32 ((n - 1 : Nat) : Int), .int .u32 ((n - 1 : Nat) : Int)]) ∧ Below W.heap.size W w' := fun W hW => c6 g W hW
    clear c6
    have hm0 := fun W hW hg => e_mid g n (n - 1) (eS n) (eS n) (n - 1) none (eS_emp n (n - 1) (by omega) hn) (by omega) hnl W hW hg ((n : Int) + 2 - 1) (by omega)
    unfold errV at hm0
    generalize ((n - 1 : Nat) : Int) = nm at *
    go_wp2_with fail
    refine (hm0 _ h6 hup6).mono ?_
    rintro e w8 ⟨rfl, h8, hb, hup8⟩
    have hb8 := hb7.trans (hb.mono hlo)
    clear hb h6 hb7 hm0 hup6
    go_wp2_with fail
    refine (c6' _ h8).mono ?_
    rintro e w9 ⟨rfl, hb⟩
    have h9 := h8.under hb
    have hb9 := hb8.trans (hb.mono hb8.size)
    have hup9 := Nat.le_trans hup8 hb.size
    clear hb h8 hb8 c6' hup8 h0
    (by_cases h42 : n = 42; (focus ((have e42 : ((n : Int) + 2 == 44) = true := by simp; omega); (have j42 := e_join g (eS n) (eS n) (n, n, n, n) 0 (some 7) (by rw [h42]; exact eS_join_top) ⟨hnu, hnu, hnu, hnu⟩ hnl _ h9 hup9); (have H42 := Lib.hid h42); clear h42; unfold errV at j42; go_wp2_with fail; refine j42.mono ?_; rintro e wA ⟨rfl, hA, hbA, hupA⟩; (have hbB := (hb9).trans (hbA.mono hlo)); clear j42 hbA; go_wp2_with fail; refine (empty_high g _ (by have := H42.out; omega) _).mono ?_; rintro e wB ⟨rfl, rfl⟩; unfold errV; go_wp2_with fail; refine (codeOf_er 7 _ (hE.below hbB)).mono ?_; rintro e wC ⟨rfl, hbC⟩; (have hbD := hbB.trans (hbC.mono hbB.size)); go_wp2_with fail; refine (codeOf_er 7 _ (hE.below hbD)).mono ?_; rintro e wE ⟨rfl, hbE⟩; (have hbF := hbD.trans (hbE.mono hbD.size)); go_wp2; go_ret; exact ⟨rfl, hbF⟩)); (focus ((have e42' : ((n : Int) + 2 == 44) = false := by simp; omega); (have j42 := e_join g (eS n) (eS (n + 1)) (n, n, n, n) (n + 1) none (eS_join_new n (by omega)) ⟨hnu, hnu, hnu, hnu⟩ hnl _ h9 hup9); unfold errV at j42; go_wp2_with fail; refine j42.mono ?_; rintro e wA ⟨rfl, hA, hbA, hupA⟩; (have hbB := (hb9).trans (hbA.mono hlo)); clear j42 hbA; (have hm1 := e_mid g n (n + 1) (eS (n + 1)) (eS (n + 1)) (n + 1) none (eS_emp (n + 1) (n + 1) (Nat.le_refl _) (by omega)) (by omega) (by rw [eS_len]; omega) wA hA hupA ((n : Int) + 2 + 1) (by omega)); unfold errV at hm1; go_wp2_with fail; refine hm1.mono ?_; rintro e wB ⟨rfl, hB, hbC, _⟩; (have hbD := hbB.trans (hbC.mono hlo)); clear hm1; go_wp2; go_ret; exact ⟨rfl, hbD⟩)))
theorem arenaEmpties_walk (level : Int) (_w_l : (Lit.int .i64 level).wf = true) (w : World) (hE : ErrIs w) :
    Calls Tryd.prog 5 #[.int .i64 level] w fun e w' => e = .returned (.bool true) ∧ Below w.heap.size w w' := by
  by_cases h2 : level < 2
  · exact empties_low level h2 w hE
  · by_cases h4 : 44 < level
    · exact empties_high level h4 w hE
    · have e : level = (((level - 2).toNat : Nat) : Int) + 2 := by omega
      rw [e]
      exact empties_mid _ (by omega) w hE
section arenaEmptiesFrame
open Go.ChangeShapes Go.WideShapes Go.ChangeAt Go.RowKit Go.Joins
set_option maxRecDepth 100000 in
theorem arenaEmpties_contract (H : Type) (enc : TypeId × Value → H) (W : World) (base : Nat) (args : Array Value) (ds gs : List (DataW H)) (before : List MemPlace)
    (hval : ∀ (j : Nat) t v, Tryd.f5.params[j]? = some t → args[j]? = some v → Value.okWide Tryd.prog W .any base t v)
    (hW : DataW.Whole enc Tryd.prog Tryd.f5.params.toList Rows.arenaEmptiesSpec.vars false W args.toList ds gs before) (hL : laidMetH Tryd.prog Rows.arenaEmptiesRow.laid W) :
    Calls Tryd.prog 5 args W fun e W' => ∃ v, e = .returned v ∧ Rows.arenaEmptiesSpec.post enc Tryd.prog Tryd.f5 false true false false W args v W' := by
  have hW' := hW
  obtain ⟨p, q, hA0, hV, rfl, hfz, hnd⟩ := hW
  have hA : DataW.TrodAll enc Tryd.prog W 0 (fun _ => true) true Tryd.f5.params.toList args.toList ds p := hA0
  rw [Tryd.params5] at hA hval
  obtain ⟨v0, vs0, d0, ds0, p0, q0, hargs, rfl, rfl, h0, r0⟩ := trodAll_cons hA
  obtain ⟨rfl, rfl, rfl⟩ := trodAll_nil r0
  obtain rfl : args = #[v0] := by cases args; simp_all
  obtain ⟨rfl, rfl⟩ := trodVars_none hV
  obtain ⟨level, rfl, rfl, rfl, w_level⟩ := open_int Tryd.underlying3 (hval 0 3 v0 rfl rfl) h0
  refine (arenaEmpties_walk level w_level W (one_of_laid hL)).mono fun e W' ⟨he, hb⟩ => ?_
  exact ⟨_, he, law_post laidOut rfl rfl Tryd.underlying4 (by kernel_rfl) hW' hb ⟨rfl, rfl, rfl⟩⟩
theorem arenaEmpties_met (os : Os) : laidMetH Tryd.prog Rows.arenaEmptiesRow.laid ((laidWorldE os).forCall (fun _ _ => 0) ⟨#[], #[.int .i64 0], []⟩).memory :=
  laidMetH_of_parts (laidMet_of_run' 8 (by kernel_rfl) (by kernel_rfl)) (by kernel_rfl)
theorem arenaEmpties_reads (os : Os) {H : Type} (enc : TypeId × Value → H) : ∃ places, DataW.whole enc Tryd.prog ((laidWorldE os).forCall (fun _ _ => 0) ⟨#[], #[.int .i64 0], []⟩).memory Tryd.f5.params.toList Rows.arenaEmptiesSpec.vars false #[(.int .i64 0 : Value)].toList 8 = some ([.lit (.int .i64 0)], [], places) :=
  ⟨[], by kernel_rfl⟩
set_option maxRecDepth 100000 in
theorem arenaEmpties_lifted (os : Os) (started : os.Started) (H : Type) (enc : TypeId × Value → H) (F : Stop.Interp) :
    ReturnsInHanded {} Tryd.checked os 5 .any ((OpenSpec.ofChange Rows.arenaEmptiesSpec).preRow enc Tryd.prog Tryd.f5 Rows.arenaEmptiesRow.domain false Rows.arenaEmptiesRow.laid) (((OpenSpec.ofChange Rows.arenaEmptiesSpec).at F).post enc Tryd.prog Tryd.f5 false true false false) := by
  obtain ⟨places, hx⟩ := arenaEmpties_reads os enc
  refine returnsInHanded_of_row (C := Tryd.checked) (s := OpenSpec.ofChange Rows.arenaEmptiesSpec) own started (by kernel_rfl) Tryd.func5
    (witness_row_at (enc := enc) (C := Tryd.checked) false (laidWorldE os) #[.int .i64 0] rfl (by kernel_rfl) (by kernel_rfl) (by kernel_rfl)
      (OpenSpec.preRow_of_cond 8 hx (by kernel_rfl) (fun k hk => by cases hk) (by kernel_rfl) (arenaEmpties_met os))) ?_
  intro W base args ds gs before hval hW _ _ _ hL _ _
  exact arenaEmpties_contract H enc W base args ds gs before hval hW hL
theorem arenaEmpties_said : Rows.ArenaEmptiesSaid :=
  OpenClaim.holds_of_cond 5 Tryd.f5 rfl rfl rfl rfl rfl rfl rfl ⟨rfl, rfl, rfl, rfl, rfl⟩ rfl rfl rfl rfl rfl (by kernel_rfl) Tryd.func5 (by kernel_rfl)
    (of_decide_eq_true (by kernel_rfl)) (by unfold Func.isWrapper; first | (rw [if_pos (by decide +kernel)]; kernel_rfl) | (rw [if_neg (by decide +kernel)]; exact ⟨rfl, rfl⟩))
    (fun os started H enc _ F => by rw [OpenClaim.pre_eq_preRow]; exact arenaEmpties_lifted os started H enc F)
theorem arenaEmpties_plain (f : FuncId) (fn : Func) (hf : Tryd.pinned.checked.prog.funcNamed "honeycomb/honeycomblaw12.ArenaEmpties" = some f) (hfn : Tryd.pinned.checked.prog.funcs[f]? = some fn) :
    true = Tryd.pinned.checked.prog.looks [] ∧ ∀ (j : Nat) t, fn.params[j]? = some t → Tryd.pinned.checked.prog.wantsStandIn t = false := by
  obtain rfl : f = 5 := Option.some.inj ((show Tryd.prog.funcNamed "honeycomb/honeycomblaw12.ArenaEmpties" = some 5 by kernel_rfl).symm.trans hf) |>.symm
  obtain rfl : fn = Tryd.f5 := (Option.some.inj (Tryd.func5.symm.trans hfn)).symm
  refine ⟨by kernel_rfl, fun j t ht => ?_⟩
  have hall : (Tryd.f5.params.toList.all fun t => !Tryd.prog.wantsStandIn t) = true := by kernel_rfl
  have hm : t ∈ Tryd.f5.params.toList := by simpa using Array.mem_of_getElem? ht
  have := List.all_eq_true.1 hall t hm
  exact (show Tryd.prog.wantsStandIn t = false by simpa using this)
end arenaEmptiesFrame
/-- ArenaEmpties: the card: for every input the law answers true. -/
theorem arenaEmpties_card : Rows.ArenaEmptiesCardSaid :=
  Claim7.holds_tied_plain_at .later [] _ _ _ _ arenaEmpties_said (fun _ h => by cases h) (by kernel_rfl) (fun _ h => by cases h) arenaEmpties_row_tie rfl ⟨rfl, rfl⟩ (by kernel_rfl) rfl arenaEmpties_plain (by kernel_rfl)
end Go.Proofs.YtlmkakgbpdbeiaaDoor.Ar
namespace Go.Proofs.YtlmkakgbpdbeiaaDoor
theorem arenaEmpties_proved : Rows.ArenaEmptiesCardSaid := Ar.arenaEmpties_card
#print axioms arenaEmpties_proved
end Go.Proofs.YtlmkakgbpdbeiaaDoor
