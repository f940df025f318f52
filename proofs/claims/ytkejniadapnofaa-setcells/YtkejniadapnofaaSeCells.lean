/- SetCells: any list of cells, any cell: the set of the first forty is the document's; whether the cell is there, the set with it or without it, and the box are the document's, too. No conditions. -/
import Derived.Test.YtkejniadapnofaaSeR3
namespace Go.Proofs.Ytkejniadapnofaa.Se
open Go.RowKit Go.Proofs.Ytkejniadapnofaa.Ax Go.Proofs.Ytkejniadapnofaa.Ba Go.Shelf Go.Lib Go.Sort

theorem put_same {S : List C} (h : Rising S) (c : C) (b : Bool) : decide (S = putL S c b) = (((putL S c b).length : Int) == (S.length : Int)) := by
  obtain ⟨h1, h2⟩ := parts h c
  have hp := pos_le S c
  have hlt : c ∈ S → pos S c < S.length := fun hc => by
    have hq := at_pos h c
    rw [decide_eq_true hc] at hq
    rcases Nat.lt_or_ge (pos S c) S.length with hlt | hge
    · exact hlt
    · rw [List.getElem?_eq_none hge] at hq; cases hq
  rw [Bool.eq_iff_iff]
  simp only [decide_eq_true_eq, beq_iff_eq]
  constructor
  · intro e; rw [← e]
  · intro e
    have e' : (putL S c b).length = S.length := by omega
    cases b
    · have hd : putL S c false = del S c := rfl
      rw [hd] at e' ⊢
      by_cases hc : c ∈ S
      · have := hlt hc
        unfold del at e'
        rw [← h1, ← h2, if_pos hc, List.length_append, List.length_take, List.length_drop] at e'
        omega
      · refine (rising_ext h (rising_del h c) fun x => ?_)
        rw [mem_del]
        exact ⟨fun hx => ⟨hx, fun e => hc (e ▸ hx)⟩, fun hx => hx.1⟩
    · have hd : putL S c true = ins S c := rfl
      rw [hd] at e' ⊢
      by_cases hc : c ∈ S
      · exact (ins_same h hc).symm
      · unfold ins at e'
        rw [← h1, ← h2, if_neg hc, List.length_append, List.length_cons, List.length_take, List.length_drop] at e'
        omega
theorem eql_box0 (w : World) : (binOp .eql 43 (.agg #[.int .i64 0, .int .i64 0, .int .i64 0, .int .i64 0]) (.agg #[.int .i64 0, .int .i64 0, .int .i64 0, .int .i64 0])).run Try.prog w = .ok (.bool true) w := by kernel_rfl
theorem putL_len {S : List C} (h : Rising S) (c : C) (b : Bool) : (putL S c b).length ≤ S.length + 1 := by
  cases b
  · have := del_len h c; simp only [putL]; simp; omega
  · exact ins_len h c
def ScR (w : World) (S : List C) (XB : Nat) (q : Q) (i : Value) (wr : World) : Prop := ∃ k : Nat, k ≤ S.length ∧ i = .int .i64 k ∧ Blk wr XB 43 (Bx q) ∧ Below w.heap.size w wr
set_option maxRecDepth 100000 in
set_option maxHeartbeats 8000000 in
theorem setCells_walk (v : Value) (L : List C) (cA : Int) (_wa : (Lit.int .i64 cA).wf = true) (cB : Int) (_wb : (Lit.int .i64 cB).wf = true) (cH : Int) (_wh : (Lit.int .i64 cH).wf = true) (live : Bool) (w : World) (h : RawAt w v L) (hL : L.length ≤ maxLen) :
    Calls Try.prog 3 #[v, .agg #[.int .i64 cA, .int .i64 cB, .int .i64 cH], .bool live] w fun e w' => e = .returned (.bool true) ∧ Below w.heap.size w w' := by
  obtain ⟨c, hc⟩ : ∃ c : C, c = (cA, cB, cH) := ⟨_, rfl⟩
  rw [show Value.agg #[.int .i64 cA, .int .i64 cB, .int .i64 cH] = Ce c by rw [hc]]
  clear hc
  have kc := Blk.newAt w 24 #[.int .i64 c.1, .int .i64 c.2.1, .int .i64 c.2.2] _ rfl
  have hb0 : Below w.heap.size w (w.alloc (.cells #[.int .i64 c.1, .int .i64 c.2.1, .int .i64 c.2.2] 24)) := (Below.refl _ _).alloc (Nat.le_refl _) _
  go_enter Try.func3, Try.ntmps3
  go_wp2_with fail
  refine (awake4_any _).mono ?_
  rintro e w1 ⟨rfl, hb1⟩
  have kc1 := kc.under hb1
  have hb2 := hb0.trans (hb1.mono hb0.size)
  have hraw := h.below hb2
  clear h kc hb0 hb1
  have how := own4_any v L w1 hraw hL
  go_wp2_with fail
  refine how.mono ?_
  rintro e w2 ⟨vO, rfl, hown, hb3⟩
  have hO := set_of_own hown
  have kc2 := kc1.under hb3
  have hraw2 := hraw.below hb3
  have hb4 := hb2.trans (hb3.mono hb2.size)
  clear how hown hb2 hb3 kc1 hraw
  have hA : (L.take 40).length ≤ 40 := by rw [List.length_take]; omega
  have HA := Lib.hid (rfl : L.take 40 = L.take 40)
  have hof := of_any vO _ w2 hO (by omega)
  go_wp2_with fail
  refine hof.mono ?_
  rintro e w3 ⟨vS, rfl, hS, hb5⟩
  have hO3 := hO.below hb5
  have kc3 := kc2.under hb5
  have hraw3 := hraw2.below hb5
  have hb6 := hb4.trans (hb5.mono hb4.size)
  clear hof hO kc2 hraw2 hb4 hb5
  have hto := told4_any vO _ w3 hO3 (by omega)
  go_wp2_with fail
  refine hto.mono ?_
  rintro e w4 ⟨vT, rfl, hT, hb7⟩
  have hS4 := hS.below hb7
  have hO4 := hO3.below hb7
  have kc4 := kc3.under hb7
  have hraw4 := hraw3.below hb7
  have hb8 := hb6.trans (hb7.mono hb6.size)
  clear hto hS hO3 kc3 hraw3 hb6 hb7
  have hro := refof_any vT _ w4 hT (by omega)
  go_wp2_with fail
  refine hro.mono ?_
  rintro e w5 ⟨vW, rfl, hW, hb9⟩
  have hS5 := hS4.below hb9
  have hO5 := hO4.below hb9
  have kc5 := kc4.under hb9
  have hraw5 := hraw4.below hb9
  have hb10 := hb8.trans (hb9.mono hb8.size)
  have hz10 := hb10.size
  clear hro hS4 hO4 kc4 hraw4 hb8 hb9 hT HA
  obtain ⟨A, hAA⟩ : ∃ A, L.take 40 = A := ⟨_, rfl⟩
  rw [hAA] at hA hS5 hO5 hW
  have HAA := Lib.hid hAA
  clear hAA
  have hSl := ofL_len A
  have hSR := rising_ofL A
  obtain ⟨S, hSS⟩ : ∃ S, ofL A = S := ⟨_, rfl⟩
  rw [hSS] at hS5 hW hSl hSR
  clear hSS
  go_upto_region 5 with fail
  go_cut [46] (fun v wx => v = .bool false ∧ Below w5.heap.size w5 wx)
  case first =>
    have hkb : Below w5.heap.size w5 w5 := Below.refl _ _
    obtain ⟨d0, d1, d2⟩ := keepB kc5 (Below.refl _ _)
    have hcl := kc5.lt
    obtain ⟨B, hB⟩ : ∃ B, decide (c ∈ S) = B := ⟨_, rfl⟩
    have hha := fun W (hb : Below w5.heap.size w5 W) => has_any vS S c W (hS5.below hb) hSR (by omega)
    have hrh := fun W (hb : Below w5.heap.size w5 W) => refhas_any vW S c W (hW.below hb) (by omega)
    rw [hB] at hha hrh
    have hBB : (B != B) = false := by cases B <;> rfl
    have ho3 := own3_any c
    have har := fun W (hb : Below w5.heap.size w5 W) => are_any vS vW S W (hS5.below hb) (hW.below hb) (by omega)
    have how := fun W (hb : Below w5.heap.size w5 W) => own4_any v L W (hraw5.below hb) hL
    rw [HAA.out] at how
    go_region_held3 (fun w' => w'.cell? ⟨w.heap.size, 0, none⟩ = some (.int .i64 c.1) ∧ w'.cell? ⟨w.heap.size, 1, none⟩ = some (.int .i64 c.2.1) ∧ w'.cell? ⟨w.heap.size, 2, none⟩ = some (.int .i64 c.2.2)) (first | (refine keepB kc5 ?_; go_grown; done))
      (first
        | (go_at_call 13; refine (ho3 _).mono ?_; rintro e w6 ⟨rfl, hb'⟩; have hkb : Below w5.heap.size w5 w6 := Ba.below_call hb' (by go_grown) (by have := hkb.size; first | omega | (simp; done) | (simp; omega)); clear hb')
        | (go_at_call 12; refine (hha _ (by go_grown)).mono ?_; rintro e w6 ⟨rfl, hb'⟩; have hkb : Below w5.heap.size w5 w6 := Ba.below_call hb' (by go_grown) (by have := hkb.size; first | omega | (simp; done) | (simp; omega)); clear hb')
        | (go_at_call 14; refine (hrh _ (by go_grown)).mono ?_; rintro e w6 ⟨rfl, hb'⟩; have hkb : Below w5.heap.size w5 w6 := Ba.below_call hb' (by go_grown) (by have := hkb.size; first | omega | (simp; done) | (simp; omega)); clear hb')
        | (go_at_call 11; refine (are_any vO vT2 A _ (hO5.below (by go_grown)) hT2 (by omega)).mono ?_; rintro e w6 ⟨rfl, hb'⟩; have hkb : Below w5.heap.size w5 w6 := Ba.below_call hb' (by go_grown) (by have := hkb.size; first | omega | (simp; done) | (simp; omega)); clear hb')
        | (go_at_call 11; refine (har _ (by go_grown)).mono ?_; rintro e w6 ⟨rfl, hb'⟩; have hkb : Below w5.heap.size w5 w6 := Ba.below_call hb' (by go_grown) (by have := hkb.size; first | omega | (simp; done) | (simp; omega)); clear hb')
        | (go_at_call 7; refine (how _ (by go_grown)).mono ?_; rintro e w6 ⟨vO2, rfl, hown2, hb'⟩; have hO2 := set_of_own hown2; have hkb : Below w5.heap.size w5 w6 := Ba.below_call hb' (by go_grown) (by have := hkb.size; first | omega | (simp; done) | (simp; omega)); clear hb')
        | (go_at_call 10; refine (told4_any vO2 A _ hO2 (by omega)).mono ?_; rintro e w6 ⟨vT2, rfl, hT2, hb'⟩; have hkb : Below w5.heap.size w5 w6 := Ba.below_call hb' (by go_grown) (by have := hkb.size; first | omega | (simp; done) | (simp; omega)); clear hb'))
    all_goals go_wp2_with fail
    all_goals go_meet
    all_goals exact ⟨rfl, by go_grown⟩
  case rest =>
    obtain ⟨rfl, hbw⟩ := hcut
    have hS6 := hS5.below hbw
    have hW6 := hW.below hbw
    have kc6 := kc5.under hbw
    have hb11 := hb10.trans (hbw.mono hz10)
    have hz11 := hb11.size
    clear hS5 hO5 hW kc5 hraw5 hb10 hz10 hbw hL HAA
    generalize wc = w6 at *
    have hPl := putL_len hSR c live
    go_upto_region 7 with fail
    go_cut [10, 11] (fun t x wx => ∃ vP vX : Value, vP = t ∧ vX = x ∧ SetAt wx vP (putL S c live) ∧ SetAt wx vX (S.filter fun x => !decide (x = c)) ∧ Below w6.heap.size w6 wx)
    case first =>
      have hkb : Below w6.heap.size w6 w6 := Below.refl _ _
      obtain ⟨d0, d1, d2⟩ := keepB kc6 (Below.refl _ _)
      have hcl := kc6.lt
      have ho3 := own3_any c
      have hpu := fun W (hb : Below w6.heap.size w6 W) => put_any vS S c live W (hS6.below hb) hSR (by omega)
      have hle := fun W (hb : Below w6.heap.size w6 W) => less_any4 vW S c W (hW6.below hb) (by omega)
      go_region_held3 (fun w' => w'.cell? ⟨w.heap.size, 0, none⟩ = some (.int .i64 c.1) ∧ w'.cell? ⟨w.heap.size, 1, none⟩ = some (.int .i64 c.2.1) ∧ w'.cell? ⟨w.heap.size, 2, none⟩ = some (.int .i64 c.2.2)) (first | (refine keepB kc6 ?_; go_grown; done))
        (first
          | (go_at_call 13; refine (ho3 _).mono ?_; rintro e w7 ⟨rfl, hb'⟩; (try (have hX := hX.below (Ba.below_call hb' (by go_grown) (by simp)))); have hkb : Below w6.heap.size w6 w7 := Ba.below_call hb' (by go_grown) (by have := hkb.size; first | omega | (simp; done) | (simp; omega)); clear hb')
          | (go_at_call 15; refine (hpu _ (by go_grown)).mono ?_; rintro e w7 ⟨vP, rfl, hP, hb'⟩; (try (have hX := hX.below (Ba.below_call hb' (by go_grown) (by simp)))); have hkb : Below w6.heap.size w6 w7 := Ba.below_call hb' (by go_grown) (by have := hkb.size; first | omega | (simp; done) | (simp; omega)); clear hb')
          | (go_at_call 16; refine (hle _ (by go_grown)).mono ?_; rintro e w7 ⟨vX, rfl, hX, hb'⟩; (try (have hP := hP.below (Ba.below_call hb' (by go_grown) (by simp)))); have hkb : Below w6.heap.size w6 w7 := Ba.below_call hb' (by go_grown) (by have := hkb.size; first | omega | (simp; done) | (simp; omega)); clear hb'))
      all_goals go_wp2_with fail
      all_goals go_meet
      all_goals first
        | exact ⟨_, _, rfl, rfl, hP, hX, by go_grown⟩
        | exact ⟨_, _, rfl, rfl, hP.below (by go_grown), hX.below (by go_grown), by go_grown⟩
    case rest =>
      obtain ⟨vP, vX, rfl, rfl, hP, hX, hbw⟩ := hcut
      have hS7 := hS6.below hbw
      have hW7 := hW6.below hbw
      have kc7 := kc6.under hbw
      have hb12 := hb11.trans (hbw.mono hz11)
      clear hS6 hW6 kc6 hb11 hz11 hbw
      generalize wc = w7 at *
      cases live
      · rw [del_filter hSR c] at hX
        have hY8 : SetAt w7 vX (putL S c false) := hX
        obtain ⟨w8, hw8⟩ : ∃ w8, w8 = w7 := ⟨_, rfl⟩
        obtain ⟨vY, hvY⟩ : ∃ vY, vY = vX := ⟨_, rfl⟩
        subst hvY hw8
        have hS8 := hS7
        have hW8 := hW7
        have hP8 := hP
        have hb13 := hb12
        clear hS7 hW7 hP hX hb12 kc7
        have hbx := box_any vS S w8 hS8 (by omega)
        have hok : decide (S ≠ []) = decide ((0 : Int) < (S.length : Int)) := by
          rw [Bool.eq_iff_iff]; simp only [decide_eq_true_eq]
          cases S with | nil => simp | cons _ _ => simp
        obtain ⟨K, hK⟩ : ∃ K, decide (S ≠ []) = K := ⟨_, rfl⟩
        rw [hK] at hbx hok
        have HK := Lib.hid hK
        have HOK := Lib.hid hok
        clear hK hok
        go_wp2_with fail
        refine hbx.mono ?_
        rintro e w9 ⟨rfl, hb14⟩
        have hS9 := hS8.below hb14
        have hW9 := hW8.below hb14
        have hP9 := hP8.below hb14
        have hY9 := hY8.below hb14
        have hb15 := hb13.trans (hb14.mono hb13.size)
        clear hbx hS8 hW8 hP8 hY8 hb13 hb14
        have HQ := Lib.hid (fun x (hx : x ∈ S) => box_in hx)
        have htc := Lib.hid (fun W (hb : SetAt W vW S) (hne : S ≠ []) => touches_any vW S W hb hne (by omega))
        have HB0 := Lib.hid (show S = [] → boxL S = (0, 0, 0, 0) from fun e => by subst e; rfl)
        generalize boxL S = q at *
        have hbq : Below w9.heap.size w9 (w9.alloc (.cells (Bx q) 43)) := (Below.refl _ _).alloc (Nat.le_refl _) _
        have kq := Blk.newAt w9 43 (Bx q) _ rfl
        have hwq : w.heap.size ≤ w9.heap.size := hb15.size
        have ar1 := are_any vP vY _ _ (hP9.below hbq) (hY9.below hbq) (by omega)
        go_wp2_with fail
        refine ar1.mono ?_
        rintro e w10 ⟨rfl, hb16⟩
        have hc16 := hbq.trans (hb16.mono hbq.size)
        have kq10 := kq.under hb16
        have hS10 := hS9.below hc16
        have hW10 := hW9.below hc16
        have hP10 := hP9.below hc16
        have hY10 := hY9.below hc16
        have hb17 := hb15.trans (hc16.mono hwq)
        clear ar1 kq hS9 hW9 hP9 hY9 hb15 hb16 hc16 hbq
        generalize w9.heap.size = XB at *
        have ar2 := are_any vS vW _ _ hS10 hW10 (by omega)
        go_wp2_with fail
        refine ar2.mono ?_
        rintro e w11 ⟨rfl, hb18⟩
        have kq11 := kq10.under hb18
        have hS11 := hS10.below hb18
        have hW11 := hW10.below hb18
        have hP11 := hP10.below hb18
        have hY11 := hY10.below hb18
        have hb19 := hb17.trans (hb18.mono hb17.size)
        clear ar2 kq10 hS10 hW10 hP10 hY10 hb17 hb18
        have kWl : ∃ p cap, vW = .slice p S.length cap := by
          rcases hW11 with ⟨rfl, rfl⟩ | ⟨g, cap, rfl, _, _⟩
          · exact ⟨none, 0, rfl⟩
          · exact ⟨_, _, rfl⟩
        have kYl : ∃ p cap, vY = .slice p (putL S c false).length cap := by
          rcases hY11 with ⟨rfl, hn⟩ | ⟨g, cap, rfl, _, _⟩
          · exact ⟨none, 0, by rw [hn]; rfl⟩
          · exact ⟨_, _, rfl⟩
        obtain ⟨pW, cW, rfl⟩ := kWl
        obtain ⟨pY, cY, rfl⟩ := kYl
        have sm := same_any vS vP S (putL S c false) w11 hS11 hP11 (by omega) (by omega)
        rw [put_same hSR c false] at sm
        obtain ⟨E, hE⟩ : ∃ E, (((putL S c false).length : Int) == (S.length : Int)) = E := ⟨_, rfl⟩
        rw [hE] at sm
        have hKK : (K != K) = false := by cases K <;> rfl
        have hEE : (E != E) = false := by cases E <;> rfl
        have hK0 : decide (0 < S.length) = K := by rw [HOK.out, Bool.eq_iff_iff]; simp
        have hE0 : ((putL S c false).length == S.length) = E := by rw [← hE, Bool.eq_iff_iff]; simp; omega
        go_wp2_with fail
        refine sm.mono ?_
        rintro e w12 ⟨rfl, hb20⟩
        have kq12 := kq11.under hb20
        have hW12 := hW11.below hb20
        have hb21 := hb19.trans (hb20.mono hb19.size)
        clear sm kq11 hS11 hP11 hY11 hW11 hb19 hb20
        go_wp2_with fail
        clear hK0 hE0 hE hKK hEE
        go_loopw [94] (fun i wr => ScR w12 S XB q i wr) (fun i _ => S.length - (intOf i).toNat)
        case atStart => exact ⟨0, Nat.zero_le _, rfl, kq12, Below.refl _ _⟩
        case round =>
          clear kq12
          obtain ⟨k, hk, rfl, kq, hbr⟩ := hrel
          have hzr := hbr.size
          have hW13 := hW12.below hbr
          have hql := kq.lt
          by_cases hlt : k < S.length
          · obtain ⟨y, hy⟩ : ∃ y, S[k]? = some y := ⟨_, List.getElem?_eq_getElem hlt⟩
            obtain ⟨⟨q1, q2⟩, q3, q4⟩ := HQ.out y (List.mem_of_getElem? hy)
            rcases hW13 with ⟨_, hnil⟩ | ⟨g, cp, hv, _, hr⟩
            · subst hnil; simp at hlt
            · injection hv with hv1 hv2 hv3
              subst hv1 hv3
              clear hv2
              obtain ⟨c0, c1, c2⟩ := hr.1 k y hy
              have hgl := hr.2
              obtain ⟨la, lb, ha, hbb⟩ := q
              have z0 := kq.cell 0
              have z1 := kq.cell 1
              have z2 := kq.cell 2
              have z3 := kq.cell 3
              simp only [List.getElem?_toArray, List.getElem?_cons_zero, List.getElem?_cons_succ] at z0 z1 z2 z3
              dsimp only at q1 q2 q3 q4
              have kq' := kq.alloc (.cells #[.int .i64 y.1, .int .i64 y.2.1, .int .i64 y.2.2] 24)
              have hbr' := hbr.alloc hzr (.cells #[.int .i64 y.1, .int .i64 y.2.1, .int .i64 y.2.2] 24)
              have j1 : ¬ (y.1 < la) := by omega
              have j2 : ¬ (ha < y.1) := by omega
              have j3 : ¬ (y.2.1 < lb) := by omega
              have j4 : ¬ (hbb < y.2.1) := by omega
              clear hy hr HQ htc HB0
              go_wp2_with fail
              go_roundw
              case rel => exact ⟨k + 1, by omega, by go_num, kq', hbr'⟩
              case measure => simp [intOf]; omega
          · obtain rfl : k = S.length := by omega
            cases K
            · have hnil : S = [] := by have := HK.out; simpa using this
              have hq0 := HB0.out hnil
              subst hq0
              have z0 := kq.cell 0
              have z1 := kq.cell 1
              have z2 := kq.cell 2
              have z3 := kq.cell 3
              simp only [List.getElem?_toArray, List.getElem?_cons_zero, List.getElem?_cons_succ] at z0 z1 z2 z3
              have ez := eql_box0
              clear HQ htc HB0
              go_wp2_with fail
              go_ret
              exact ⟨rfl, hb21.trans (hbr.mono hb21.size)⟩
            · have hne : S ≠ [] := by have := HK.out; simpa using this
              have ht := htc.out wr hW13 hne
              obtain ⟨la, lb, ha, hbb⟩ := q
              have z0 := kq.cell 0
              have z1 := kq.cell 1
              have z2 := kq.cell 2
              have z3 := kq.cell 3
              simp only [List.getElem?_toArray, List.getElem?_cons_zero, List.getElem?_cons_succ] at z0 z1 z2 z3
              clear HQ htc HB0
              go_wp2_with fail
              refine ht.mono ?_
              rintro e w14 ⟨rfl, hb22⟩
              go_wp2_with fail
              go_ret
              exact ⟨rfl, (hb21.trans (hbr.mono hb21.size)).trans (hb22.mono (Nat.le_trans hb21.size hzr))⟩
      · obtain ⟨d0, d1, d2⟩ := keepB kc7 (Below.refl _ _)
        have hcl := kc7.lt
        have hrp := refput_any vW S c w7 hW7 hSR (by omega)
        go_wp2_with fail
        refine hrp.mono ?_
        rintro e w8 ⟨vY, rfl, hY, hb'⟩
        have hY8 : SetAt w8 vY (putL S c true) := hY
        have hS8 := hS7.below hb'
        have hW8 := hW7.below hb'
        have hP8 := hP.below hb'
        have hb13 := hb12.trans (hb'.mono hb12.size)
        clear hrp hS7 hW7 hP hX hb12 kc7 hY hb' d0 d1 d2 hcl
        have hbx := box_any vS S w8 hS8 (by omega)
        have hok : decide (S ≠ []) = decide ((0 : Int) < (S.length : Int)) := by
          rw [Bool.eq_iff_iff]; simp only [decide_eq_true_eq]
          cases S with | nil => simp | cons _ _ => simp
        obtain ⟨K, hK⟩ : ∃ K, decide (S ≠ []) = K := ⟨_, rfl⟩
        rw [hK] at hbx hok
        have HK := Lib.hid hK
        have HOK := Lib.hid hok
        clear hK hok
        go_wp2_with fail
        refine hbx.mono ?_
        rintro e w9 ⟨rfl, hb14⟩
        have hS9 := hS8.below hb14
        have hW9 := hW8.below hb14
        have hP9 := hP8.below hb14
        have hY9 := hY8.below hb14
        have hb15 := hb13.trans (hb14.mono hb13.size)
        clear hbx hS8 hW8 hP8 hY8 hb13 hb14
        have HQ := Lib.hid (fun x (hx : x ∈ S) => box_in hx)
        have htc := Lib.hid (fun W (hb : SetAt W vW S) (hne : S ≠ []) => touches_any vW S W hb hne (by omega))
        have HB0 := Lib.hid (show S = [] → boxL S = (0, 0, 0, 0) from fun e => by subst e; rfl)
        generalize boxL S = q at *
        have hbq : Below w9.heap.size w9 (w9.alloc (.cells (Bx q) 43)) := (Below.refl _ _).alloc (Nat.le_refl _) _
        have kq := Blk.newAt w9 43 (Bx q) _ rfl
        have hwq : w.heap.size ≤ w9.heap.size := hb15.size
        have ar1 := are_any vP vY _ _ (hP9.below hbq) (hY9.below hbq) (by omega)
        go_wp2_with fail
        refine ar1.mono ?_
        rintro e w10 ⟨rfl, hb16⟩
        have hc16 := hbq.trans (hb16.mono hbq.size)
        have kq10 := kq.under hb16
        have hS10 := hS9.below hc16
        have hW10 := hW9.below hc16
        have hP10 := hP9.below hc16
        have hY10 := hY9.below hc16
        have hb17 := hb15.trans (hc16.mono hwq)
        clear ar1 kq hS9 hW9 hP9 hY9 hb15 hb16 hc16 hbq
        generalize w9.heap.size = XB at *
        have ar2 := are_any vS vW _ _ hS10 hW10 (by omega)
        go_wp2_with fail
        refine ar2.mono ?_
        rintro e w11 ⟨rfl, hb18⟩
        have kq11 := kq10.under hb18
        have hS11 := hS10.below hb18
        have hW11 := hW10.below hb18
        have hP11 := hP10.below hb18
        have hY11 := hY10.below hb18
        have hb19 := hb17.trans (hb18.mono hb17.size)
        clear ar2 kq10 hS10 hW10 hP10 hY10 hb17 hb18
        have kWl : ∃ p cap, vW = .slice p S.length cap := by
          rcases hW11 with ⟨rfl, rfl⟩ | ⟨g, cap, rfl, _, _⟩
          · exact ⟨none, 0, rfl⟩
          · exact ⟨_, _, rfl⟩
        have kYl : ∃ p cap, vY = .slice p (putL S c true).length cap := by
          rcases hY11 with ⟨rfl, hn⟩ | ⟨g, cap, rfl, _, _⟩
          · exact ⟨none, 0, by rw [hn]; rfl⟩
          · exact ⟨_, _, rfl⟩
        obtain ⟨pW, cW, rfl⟩ := kWl
        obtain ⟨pY, cY, rfl⟩ := kYl
        have sm := same_any vS vP S (putL S c true) w11 hS11 hP11 (by omega) (by omega)
        rw [put_same hSR c true] at sm
        obtain ⟨E, hE⟩ : ∃ E, (((putL S c true).length : Int) == (S.length : Int)) = E := ⟨_, rfl⟩
        rw [hE] at sm
        have hKK : (K != K) = false := by cases K <;> rfl
        have hEE : (E != E) = false := by cases E <;> rfl
        have hK0 : decide (0 < S.length) = K := by rw [HOK.out, Bool.eq_iff_iff]; simp
        have hE0 : ((putL S c true).length == S.length) = E := by rw [← hE, Bool.eq_iff_iff]; simp; omega
        go_wp2_with fail
        refine sm.mono ?_
        rintro e w12 ⟨rfl, hb20⟩
        have kq12 := kq11.under hb20
        have hW12 := hW11.below hb20
        have hb21 := hb19.trans (hb20.mono hb19.size)
        clear sm kq11 hS11 hP11 hY11 hW11 hb19 hb20
        go_wp2_with fail
        clear hK0 hE0 hE hKK hEE
        go_loopw [94] (fun i wr => ScR w12 S XB q i wr) (fun i _ => S.length - (intOf i).toNat)
        case atStart => exact ⟨0, Nat.zero_le _, rfl, kq12, Below.refl _ _⟩
        case round =>
          clear kq12
          obtain ⟨k, hk, rfl, kq, hbr⟩ := hrel
          have hzr := hbr.size
          have hW13 := hW12.below hbr
          have hql := kq.lt
          by_cases hlt : k < S.length
          · obtain ⟨y, hy⟩ : ∃ y, S[k]? = some y := ⟨_, List.getElem?_eq_getElem hlt⟩
            obtain ⟨⟨q1, q2⟩, q3, q4⟩ := HQ.out y (List.mem_of_getElem? hy)
            rcases hW13 with ⟨_, hnil⟩ | ⟨g, cp, hv, _, hr⟩
            · subst hnil; simp at hlt
            · injection hv with hv1 hv2 hv3
              subst hv1 hv3
              clear hv2
              obtain ⟨c0, c1, c2⟩ := hr.1 k y hy
              have hgl := hr.2
              obtain ⟨la, lb, ha, hbb⟩ := q
              have z0 := kq.cell 0
              have z1 := kq.cell 1
              have z2 := kq.cell 2
              have z3 := kq.cell 3
              simp only [List.getElem?_toArray, List.getElem?_cons_zero, List.getElem?_cons_succ] at z0 z1 z2 z3
              dsimp only at q1 q2 q3 q4
              have kq' := kq.alloc (.cells #[.int .i64 y.1, .int .i64 y.2.1, .int .i64 y.2.2] 24)
              have hbr' := hbr.alloc hzr (.cells #[.int .i64 y.1, .int .i64 y.2.1, .int .i64 y.2.2] 24)
              have j1 : ¬ (y.1 < la) := by omega
              have j2 : ¬ (ha < y.1) := by omega
              have j3 : ¬ (y.2.1 < lb) := by omega
              have j4 : ¬ (hbb < y.2.1) := by omega
              clear hy hr HQ htc HB0
              go_wp2_with fail
              go_roundw
              case rel => exact ⟨k + 1, by omega, by go_num, kq', hbr'⟩
              case measure => simp [intOf]; omega
          · obtain rfl : k = S.length := by omega
            cases K
            · have hnil : S = [] := by have := HK.out; simpa using this
              have hq0 := HB0.out hnil
              subst hq0
              have z0 := kq.cell 0
              have z1 := kq.cell 1
              have z2 := kq.cell 2
              have z3 := kq.cell 3
              simp only [List.getElem?_toArray, List.getElem?_cons_zero, List.getElem?_cons_succ] at z0 z1 z2 z3
              have ez := eql_box0
              clear HQ htc HB0
              go_wp2_with fail
              go_ret
              exact ⟨rfl, hb21.trans (hbr.mono hb21.size)⟩
            · have hne : S ≠ [] := by have := HK.out; simpa using this
              have ht := htc.out wr hW13 hne
              obtain ⟨la, lb, ha, hbb⟩ := q
              have z0 := kq.cell 0
              have z1 := kq.cell 1
              have z2 := kq.cell 2
              have z3 := kq.cell 3
              simp only [List.getElem?_toArray, List.getElem?_cons_zero, List.getElem?_cons_succ] at z0 z1 z2 z3
              clear HQ htc HB0
              go_wp2_with fail
              refine ht.mono ?_
              rintro e w14 ⟨rfl, hb22⟩
              go_wp2_with fail
              go_ret
              exact ⟨rfl, (hb21.trans (hbr.mono hb21.size)).trans (hb22.mono (Nat.le_trans hb21.size hzr))⟩
section setCellsFrame
open Go.ChangeShapes Go.WideShapes Go.ChangeAt Go.RowKit
set_option maxRecDepth 100000 in
theorem setCells_lifted (os : Os) (started : os.Started) (H : Type) (enc : TypeId × Value → H) :
    ReturnsInHanded {} Try.checked os 3 .any (Rows.setCellsSpec.pre6 enc Try.prog Try.f3 Rows.setCellsRow.domain false) (Rows.setCellsSpec.post enc Try.prog Try.f3 false true false false) := by
  refine returnsInHanded_of_change (C := Try.checked) own started (by kernel_rfl) Try.func3
    (ChangeSpec.witness6 (enc := enc) (C := Try.checked) false ⟨#[], #[.slice none 0 0, .agg #[.int .i64 0, .int .i64 0, .int .i64 0], .bool false], []⟩ 8 (by kernel_rfl) (by kernel_rfl) (by kernel_rfl) (by kernel_rfl)) ?_
  intro W base args ds gs before hval0 hW hcnd _
  have hval : ∀ (j : Nat) t v, Try.f3.params[j]? = some t → args[j]? = some v → Value.okWide Try.prog W .any base t v := hval0
  have hW' := hW
  obtain ⟨p, q, hA0, hV, rfl, hfz, hnd⟩ := hW
  have hA : DataW.TrodAll enc Try.prog W 0 (fun _ => true) true Try.f3.params.toList args.toList ds p := hA0
  rw [Try.params3] at hA hval
  obtain ⟨v0, vs0, d0, ds0, p0, q0, hargs, rfl, rfl, h0, r0⟩ := trodAll_cons hA
  obtain ⟨v1, vs1, d1, ds1, p1, q1, rfl, rfl, rfl, h1, r1⟩ := trodAll_cons r0
  obtain ⟨v2, vs2, d2, ds2, p2, q2, rfl, rfl, rfl, h2, r2⟩ := trodAll_cons r1
  obtain ⟨rfl, rfl, rfl⟩ := trodAll_nil r2
  obtain rfl : args = #[v0, v1, v2] := by cases args; simp_all
  obtain ⟨rfl, rfl⟩ := trodVars_none hV
  obtain ⟨L0, hraw0, hlen0⟩ := open_cells (hval 0 22 v0 rfl rfl) h0
  obtain ⟨c10, c11, c12, y10, y11, y12, m1, rfl, rfl, rfl, hy10, hy11, hy12⟩ := Go.Joins.open_agg3 Try.underlying24 (by kernel_rfl) (by kernel_rfl) (hval 1 24 v1 rfl rfl) h1
  obtain ⟨cA, e10, rfl, w_cA⟩ := DataW.trod_int Try.underlying2 hy10
  simp at e10; subst e10
  obtain ⟨cB, e11, rfl, w_cB⟩ := DataW.trod_int Try.underlying2 hy11
  simp at e11; subst e11
  obtain ⟨cH, e12, rfl, w_cH⟩ := DataW.trod_int Try.underlying3 hy12
  simp at e12; subst e12
  obtain ⟨live, rfl, rfl, rfl⟩ := open_bool Try.underlying4 (hval 2 4 v2 rfl rfl) h2
  refine (setCells_walk v0 L0 cA w_cA cB w_cB cH w_cH live W hraw0 hlen0).mono fun e W' ⟨he, hb⟩ => ?_
  exact ⟨_, he, law_post laidOut rfl rfl Try.underlying4 (by kernel_rfl) hW' hb ⟨rfl, rfl, rfl⟩⟩
theorem setCells_said : Rows.SetCellsSaid :=
  OpenClaim.holds_of_wide 3 Try.f3 rfl rfl rfl rfl rfl rfl rfl ⟨rfl, rfl, rfl, rfl, rfl⟩ rfl rfl rfl rfl rfl (by kernel_rfl) Try.func3 (by kernel_rfl)
    (of_decide_eq_true (by kernel_rfl)) (by unfold Func.isWrapper; first | (rw [if_pos (by decide +kernel)]; kernel_rfl) | (rw [if_neg (by decide +kernel)]; exact ⟨rfl, rfl⟩))
    (fun os started H enc _ => setCells_lifted os started H enc)
end setCellsFrame
end Go.Proofs.Ytkejniadapnofaa.Se
namespace Go.Proofs.Ytkejniadapnofaa
theorem setCells_proved : Rows.SetCellsSaid := Se.setCells_said
#print axioms setCells_proved
end Go.Proofs.Ytkejniadapnofaa
