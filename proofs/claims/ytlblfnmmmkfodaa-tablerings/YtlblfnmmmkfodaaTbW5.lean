/- The contract of the document's Ring: how many live, and the letter of its class. -/
import Derived.Test.YtlblfnmmmkfodaaTbW2
import Derived.Maps.AppendAt
namespace Go.Proofs.Ytlblfnmmmkfodaa.Tb
open Go.RowKit Go.Proofs.Ytlblfnmmmkfodaa.Ba Go.Maps

theorem bit_yes (x n : Nat) (hx : x < 2 ^ 64) (hn : n ≤ 64) (h : bitB x n = true) (w : World) :
    Calls Try.prog 15 #[.int .u64 x, .int .i64 n] w fun e w' => e = .returned (.int .i64 1) ∧ w = w' := by
  have h1 := bit_any x n hx hn w
  unfold bitB at h
  rw [beq_iff_eq] at h
  rw [h] at h1
  exact h1
theorem bit_no (x n : Nat) (hx : x < 2 ^ 64) (hn : n ≤ 64) (h : bitB x n = false) (w : World) :
    Calls Try.prog 15 #[.int .u64 x, .int .i64 n] w fun e w' => e = .returned (.int .i64 0) ∧ w = w' := by
  have h1 := bit_any x n hx hn w
  unfold bitB at h
  rw [beq_eq_false_iff_ne] at h
  rw [show x / 2 ^ n % 2 = 0 by omega] at h1
  exact h1
def flatI (l : List Int) : List Value := l.map fun x => .int .i64 x
/-- Two slices of the call's own lie in two rows. -/
def Apart (v d : Value) : Prop := ∀ g, v.ownBlock = some g → d.ownBlock ≠ some g
theorem own_grown {w w' : World} {B e size n : Nat} {d : Value} {xs : List Value} {row : Option Nat} (h : w.ownsRow B e size d n xs) (hg : w.grownBy w' row) (hne : ∀ g, d.ownBlock = some g → row ≠ some g) : w'.ownsRow B e size d n xs := by
  refine ⟨h.1, ?_⟩
  rcases h.2 with h0 | ⟨g, cap, cur, hv, hb, hh, rest⟩
  · exact .inl h0
  · subst hv
    exact .inr ⟨g, cap, cur, rfl, hb, (hg.block g (Array.getElem?_eq_some_iff.1 hh).1 (fun e => hne g rfl e.symm)).trans hh, rest⟩
theorem news1 (w : World) (t : TypeId) (x : Value) : ∀ j u, [x][j]? = some u → (w.alloc (.cells #[x] t)).cell? ((⟨w.heap.size, 0, none⟩ : Addr).add j) = some u := by
  intro j u hu
  have hj : j < 1 := by have := (List.getElem?_eq_some_iff.1 hu).1; simpa using this
  obtain rfl : j = 0 := by omega
  simp at hu; subst hu; simp [Addr.add, go_sem]
theorem int_info : (Try.prog.info? 3).map (fun i => (i.zero, i.size, i.bytes)) = some (some (.int .i64 0), 1, 8) := by kernel_rfl
/-- What is appended to one of two leaves the other as it was. -/
theorem apart_l {w : World} {v d v' : Value} {B e size n : Nat} {xs : List Value} (h : Apart v d) (hd : w.ownsRow B e size d n xs) (hl : v'.ownBlock = v.ownBlock ∨ v'.ownBlock = some (w.heap.size + 1)) : Apart v' d := by
  intro g hg hd'
  rcases hl with hl | hl
  · exact h g (hl ▸ hg) hd'
  · rw [hl] at hg
    cases hg
    have := (hd.lt _ hd').2
    omega
theorem apart_sym {v d : Value} (h : Apart v d) : Apart d v := fun g hd hv => h g hv hd
def G1Rel (w : World) (r : Nat) (v d i : Value) (wr : World) : Prop :=
  ∃ k : Nat, k ≤ 6 ∧ i = .int .i64 k ∧ wr.ownsRow w.heap.size 3 1 v (lsT true r k).length (flatI (lsT true r k)) ∧ wr.ownsRow w.heap.size 3 1 d (lsT false r k).length (flatI (lsT false r k)) ∧ Apart v d ∧ Below w.heap.size w wr
def letS (r : Nat) : ByteArray := if lett r = 0 then ⟨#[]⟩ else ⟨#[UInt8.ofNat (lett r)]⟩
theorem slice_form {w : World} {B e size n : Nat} {v : Value} {xs : List Value} (h : w.ownsRow B e size v n xs) : ∃ a cap, v = .slice a n cap := by
  rcases h.2 with ⟨rfl, rfl⟩ | ⟨g, cap, cur, hv, _⟩
  · exact ⟨_, _, rfl⟩
  · exact ⟨_, _, hv⟩
theorem cnt_yes {v : Int} {G : List Int} {k : Nat} {y : Int} (h : G[k]? = some y) (e : (y == v) = true) : cnt v G (k + 1) = cnt v G k + 1 := by
  unfold cnt
  rw [List.take_add_one, h, List.filter_append]
  simp [e]
theorem cnt_no {v : Int} {G : List Int} {k : Nat} {y : Int} (h : G[k]? = some y) (e : (y == v) = false) : cnt v G (k + 1) = cnt v G k := by
  unfold cnt
  rw [List.take_add_one, h, List.filter_append]
  simp [e]
theorem cnt_le (v : Int) (G : List Int) (k : Nat) : cnt v G k ≤ k := by
  unfold cnt
  exact Nat.le_trans (List.length_filter_le _ _) (List.length_take_le _ _)
/-- A row of numbers in a block of one's own, read one by one. -/
theorem row_ints {w : World} {B n : Nat} {v : Value} {L : List Int} (h : w.ownsRow B 3 1 v n (flatI L)) (hn : 0 < n) :
    ∃ g cap cur, v = .slice (some ⟨g, 0, none⟩) n cap ∧ B ≤ g ∧ Blk w g 3 cur ∧ n ≤ cap ∧ (∀ i x, i < n → L[i]? = some x → cur[i]? = some (.int .i64 x)) := by
  rcases h.2 with ⟨_, h0⟩ | ⟨g, cap, cur, rfl, hbs, hh, hn', hc, hsz, hx⟩
  · omega
  · refine ⟨g, cap, cur, rfl, hbs, hh, hn', fun i x hi hx' => ?_⟩
    have e : cur.toList[i]? = (flatI L)[i]? := by rw [← hx, List.getElem?_take, if_pos (by omega)]
    rw [← Array.getElem?_toList, e, flatI, List.getElem?_map, hx']
    rfl
theorem gp2 (x0 x1 : Int) : gpT [x0, x1] 2 = [(x1 - x0) % 6, (x0 - x1) % 6] := by simp [gpT]
theorem gp3 (x0 x1 x2 : Int) : gpT [x0, x1, x2] 3 = [(x1 - x0) % 6, (x2 - x1) % 6, (x0 - x2) % 6] := by simp [gpT]
theorem lo2 (x0 x1 : Int) : lettOf [x0, x1] = if 0 < cnt 1 [(x1 - x0) % 6, (x0 - x1) % 6] 2 then 111 else if 0 < cnt 2 [(x1 - x0) % 6, (x0 - x1) % 6] 2 then 109 else 112 := by rw [← gp2]; rfl
theorem lo3 (x0 x1 x2 : Int) : lettOf [x0, x1, x2] = if cnt 1 [(x1 - x0) % 6, (x2 - x1) % 6, (x0 - x2) % 6] 3 = 2 then 111 else if cnt 1 [(x1 - x0) % 6, (x2 - x1) % 6, (x0 - x2) % 6] 3 = 0 then 112 else 109 := by rw [← gp3]; rfl
theorem gs2 (x0 x1 : Int) : flatI (gpT [x0, x1] 2) = flatI (gpT [x0, x1] 1) ++ [.int .i64 ((x0 - x1) % 6)] := by simp [gpT, flatI]
theorem gs3 (x0 x1 x2 : Int) : flatI (gpT [x0, x1, x2] 3) = flatI (gpT [x0, x1, x2] 2) ++ [.int .i64 ((x0 - x2) % 6)] := by simp [gpT, flatI]
def G2Rel (w : World) (g : Nat) (cur : Array Value) (L : List Int) (G i : Value) (wr : World) : Prop :=
  ∃ k : Nat, k ≤ L.length ∧ i = .int .i64 k ∧ wr.ownsRow w.heap.size 3 1 G k (flatI (gpT L k)) ∧ Blk wr g 3 cur ∧ G.ownBlock ≠ some g ∧ Below w.heap.size w wr
def G3Rel (GL : List Int) (o t i : Value) : Prop := ∃ k : Nat, k ≤ GL.length ∧ i = .int .i64 k ∧ o = .int .i64 (cnt 1 GL k) ∧ t = .int .i64 (cnt 2 GL k)
def LetOk (r : Nat) (c : Nat) : Prop := lett r = c
theorem let_str {r c : Nat} (h : lett r = c) (hc : c ≠ 0) : letS r = ⟨#[UInt8.ofNat c]⟩ := by unfold letS; rw [h, if_neg hc]
set_option maxHeartbeats 8000000 in
set_option maxRecDepth 100000 in
theorem refRing_any (r : Nat) (hr : r < 64) (w : World) :
    Calls Try.prog 8 #[.int .i64 r] w fun e w' => e = .returned (.tuple #[.int .i64 (oc r), .string (letS r)]) ∧ Below w.heap.size w w' := by
  obtain ⟨i0, hi0, hz0, hz1, hz2⟩ := info_parts int_info
  have hw := wrapU r (by omega)
  go_enter Try.func8, Try.ntmps8
  go_wp2_with fail
  have ow0 := (World.ownsRow_lit (base := w.heap.size) (e := 3) (size := 1) w #[] 0 (by simp) (by decide) rfl).alloc (.cells #[] 3)
  have ow1 : ((w.alloc (.cells #[] 3)).alloc (.cells #[] 3)).ownsRow w.heap.size 3 1 (.slice (some ⟨w.heap.size + 1, 0, none⟩) 0 0) 0 [] := by
    have := World.ownsRow_lit (base := w.heap.size) (e := 3) (size := 1) (w.alloc (.cells #[] 3)) #[] 0 (by simp) (by decide) rfl
    simpa using this
  go_loopw [4, 5, 6] (fun v d i wr => G1Rel w r v d i wr) (fun _ _ i _ => 6 - (intOf i).toNat)
  case atStart => exact ⟨0, by omega, rfl, ow0, ow1, by intro g h1 h2; simp [Value.ownBlock] at h1 h2; omega, by go_grown⟩
  case round =>
    clear ow0 ow1
    obtain ⟨k, hk, rfl, hv, hd, hap, hb⟩ := hrel
    have hz := hb.size
    have hl1 := ls_len true r k
    have hl2 := ls_len false r k
    have HT := Lib.hid (show lsT true r (k + 1) = if (bitB r k == true) = true then lsT true r k ++ [(k : Int)] else lsT true r k from rfl)
    have HF := Lib.hid (show lsT false r (k + 1) = if (bitB r k == false) = true then lsT false r k ++ [(k : Int)] else lsT false r k from rfl)
    by_cases hlt : k < 6
    · cases hbit : bitB r k
      · have hc := bit_no r k (by omega) (by omega) hbit
        have HB := Lib.hid hbit
        clear hbit
        go_wp2_with fail
        refine (hc _).mono ?_
        rintro e w' ⟨rfl, rfl⟩
        go_wp2_with (at_builtin; refine wpList_append_own_at _ rfl (.tmp 31) (.tmp 33) _ rfl w.heap.size 3 i0 _ 1 8 Try.underlying46 hi0 hz0 hz1 hz2 rfl (by omega) _ _ _ rfl (hd.alloc _) ⟨wr.heap.size, 0, none⟩ 1 1 [.int .i64 k] rfl rfl (news1 _ _ _) (by simp [Value.oneCell']) (by simp only [maxLen]; omega) (by omega) (by simp; omega) ?_; intro v' w8 hown8 hgr8 _ hloc8)
        go_roundw
        case rel =>
          have hx8 : Below w.heap.size w (wr.alloc (.cells #[.int .i64 k] 3)) := by go_grown
          refine ⟨k + 1, by omega, by go_num, ?_, ?_, ?_, hx8.grown hgr8 hx8.size (fun g hg => (hd.lt g hg).1)⟩
          · rw [HT.out, HB.out]; exact own_grown (hv.alloc _) hgr8 (fun g h1 h2 => hap g h1 h2)
          · rw [HF.out, HB.out]; simp only [beq_self_eq_true, if_true, List.length_append, List.length_singleton, flatI, List.map_append, List.map_cons, List.map_nil]; exact hown8
          · exact apart_sym (apart_l (apart_sym hap) hv (hloc8.imp id (fun h => h.trans (by simp))))
        case measure => simp [intOf]; omega
      · have hc := bit_yes r k (by omega) (by omega) hbit
        have HB := Lib.hid hbit
        clear hbit
        go_wp2_with fail
        refine (hc _).mono ?_
        rintro e w' ⟨rfl, rfl⟩
        go_wp2_with (at_builtin; refine wpList_append_own_at _ rfl (.tmp 27) (.tmp 29) _ rfl w.heap.size 3 i0 _ 1 8 Try.underlying46 hi0 hz0 hz1 hz2 rfl (by omega) _ _ _ rfl (hv.alloc _) ⟨wr.heap.size, 0, none⟩ 1 1 [.int .i64 k] rfl rfl (news1 _ _ _) (by simp [Value.oneCell']) (by simp only [maxLen]; omega) (by omega) (by simp; omega) ?_; intro v' w8 hown8 hgr8 _ hloc8)
        go_roundw
        case rel =>
          have hx8 : Below w.heap.size w (wr.alloc (.cells #[.int .i64 k] 3)) := by go_grown
          refine ⟨k + 1, by omega, by go_num, ?_, ?_, ?_, hx8.grown hgr8 hx8.size (fun g hg => (hv.lt g hg).1)⟩
          · rw [HT.out, HB.out]; simp only [beq_self_eq_true, if_true, List.length_append, List.length_singleton, flatI, List.map_append, List.map_cons, List.map_nil]; exact hown8
          · rw [HF.out, HB.out]; exact own_grown (hd.alloc _) hgr8 (fun g h1 h2 => hap g h2 h1)
          · exact apart_l hap hd (hloc8.imp id (fun h => h.trans (by simp)))
        case measure => simp [intOf]; omega
    · obtain rfl : k = 6 := by omega
      rw [show ((6 : Nat) : Int) = 6 from rfl]
      obtain ⟨f1, f2, f3, f4, f5⟩ := ring_fin ⟨r, hr⟩
      dsimp only at f1 f2 f3 f4 f5
      clear hlt hk
      by_cases hout : oc r < 2 ∨ 4 < oc r
      · have HL := Lib.hid (show letS r = ⟨#[]⟩ by unfold letS; rw [if_pos (f4 hout)])
        rw [f1] at hv
        obtain ⟨a, cap, rfl⟩ := slice_form hv
        have e4 : ((oc r : Int) == 4) = false := by simp; omega
        clear f1 f2 f4 f5 HT HF hl1 hl2
        by_cases h2 : oc r < 2
        · go_wp2
          go_ret2
          exact ⟨by rw [HL.out]; rfl, hb⟩
        · have h5 : 4 < oc r := by omega
          go_wp2
          go_ret2
          exact ⟨by rw [HL.out]; rfl, hb⟩
      · by_cases h4 : oc r = 4
        · obtain ⟨x0, x1, hx⟩ : ∃ x0 x1, pick r = [x0, x1] := by
            have hl : (pick r).length = 2 := by unfold pick; simp [h4, f2]
            match h : pick r, hl with
            | [x0, x1], _ => exact ⟨_, _, rfl⟩
          have hbd := ls_fin ⟨r, hr⟩
          dsimp only at hbd f5
          have hp : lsT false r 6 = [x0, x1] := by rw [← hx]; unfold pick; simp [h4]
          have HLr := Lib.hid (show lett r = lettOf [x0, x1] by rw [← hx]; exact f5 (by omega) (by omega))
          rw [hx] at hbd
          have b0 := hbd x0 (by simp)
          have b1 := hbd x1 (by simp)
          have H4 := Lib.hid h4
          clear hbd hx f5 f4 f3 HT HF hl1 hl2
          rw [hp] at hd
          rw [f1, h4] at hv
          clear f1 f2 h4 hp hout
          obtain ⟨a, capv, rfl⟩ := slice_form hv
          have hd' : wr.ownsRow w.heap.size 3 1 _ 2 (flatI [x0, x1]) := hd
          obtain ⟨g, cap, cur, rfl, hg, kg, hcap, hcur⟩ := row_ints hd' (by decide)
          clear hd'
          go_wp2_with fail
          have owG := World.ownsRow_lit (base := w.heap.size) (e := 3) (size := 1) wr #[] 0 hz (by decide) rfl
          have kg0 := kg.alloc (.cells #[] 3)
          have hb0 : Below w.heap.size w (wr.alloc (.cells #[] 3)) := hb.alloc hz _
          have hgl := kg.lt
          go_loopw [8, 50] (fun G i wq => G2Rel w g cur [x0, x1] G i wq) (fun _ i _ => 2 - (intOf i).toNat)
          case atStart => exact ⟨0, by omega, rfl, owG, kg0, by simp [Value.ownBlock]; omega, hb0⟩
          case round =>
            clear owG kg0 hb0 hgl kg hb hz hv hd hap
            obtain ⟨k, hk, rfl, hG, kg, hne, hb⟩ := hrel
            have hz := hb.size
            have c0 := (kg.cell 0).trans (hcur 0 x0 (by omega) rfl)
            have c1 := (kg.cell 1).trans (hcur 1 x1 (by omega) rfl)
            have hgl := kg.lt
            have hkk : k = 0 ∨ k = 1 ∨ k = 2 := by simp at hk; omega
            rcases hkk with rfl | rfl | rfl
            · go_wp2_with (at_builtin; refine wpList_append_own_at _ rfl (.tmp 63) (.tmp 69) _ rfl w.heap.size 3 i0 _ 1 8 Try.underlying46 hi0 hz0 hz1 hz2 rfl (by omega) _ _ _ rfl (hG.alloc _) ⟨wr.heap.size, 0, none⟩ 1 1 [.int .i64 ((x1 - x0) % 6)] rfl rfl (news1 _ _ _) (by simp [Value.oneCell']) (by simp only [maxLen]; omega) (by omega) (by simp; omega) ?_; intro v' w8 hown8 hgr8 _ hloc8)
              go_roundw
              case rel =>
                have hx8 : Below w.heap.size w (wr.alloc (.cells #[.int .i64 ((x1 - x0) % 6)] 3)) := by go_grown
                refine ⟨1, by simp, by go_num, hown8, (kg.alloc _).grown hgr8 (fun e => hne e.symm), ?_, hx8.grown hgr8 hx8.size (fun g hg => (hG.lt g hg).1)⟩
                rcases hloc8 with h | h
                · rw [h]; exact hne
                · rw [h]; simp; omega
              case measure => simp [intOf]
            · go_wp2_with (at_builtin; refine wpList_append_own_at _ rfl (.tmp 63) (.tmp 69) _ rfl w.heap.size 3 i0 _ 1 8 Try.underlying46 hi0 hz0 hz1 hz2 rfl (by omega) _ _ _ rfl (hG.alloc _) ⟨wr.heap.size, 0, none⟩ 1 1 [.int .i64 ((x0 - x1) % 6)] rfl rfl (news1 _ _ _) (by simp [Value.oneCell']) (by simp only [maxLen]; omega) (by omega) (by simp; omega) ?_; intro v' w8 hown8 hgr8 _ hloc8)
              go_roundw
              case rel =>
                have hx8 : Below w.heap.size w (wr.alloc (.cells #[.int .i64 ((x0 - x1) % 6)] 3)) := by go_grown
                refine ⟨2, by simp, by go_num, by rw [gs2]; exact hown8, (kg.alloc _).grown hgr8 (fun e => hne e.symm), ?_, hx8.grown hgr8 hx8.size (fun g hg => (hG.lt g hg).1)⟩
                rcases hloc8 with h | h
                · rw [h]; exact hne
                · rw [h]; simp; omega
              case measure => simp [intOf]
            · have hG' := hG
              rw [gp2] at hG'
              obtain ⟨g2, cap2, cur2, rfl, hg2, kg2, hcap2, hcur2⟩ := row_ints hG' (by decide)
              have HLt := Lib.hid (lo2 x0 x1)
              have hGl : [(x1 - x0) % 6, (x0 - x1) % 6].length = 2 := rfl
              clear hG hG' c0 c1
              generalize [(x1 - x0) % 6, (x0 - x1) % 6] = GL at *
              have HGl := Lib.hid hGl
              clear hGl
              have hg2l := kg2.lt
              go_wp2_with fail
              go_loop [12, 13, 74] (fun o t i => G3Rel GL o t i) (fun _ _ i => 2 - (intOf i).toNat)
              case atStart => exact ⟨0, by omega, rfl, rfl, rfl⟩
              case round =>
                obtain ⟨k, hk, rfl, rfl, rfl⟩ := hrel
                rw [HGl.out] at hk
                by_cases hlt : k < 2
                · obtain ⟨y, hy⟩ : ∃ y, GL[k]? = some y := ⟨_, List.getElem?_eq_getElem (by rw [HGl.out]; exact hlt)⟩
                  have p0 := (kg2.cell k).trans (hcur2 k y hlt hy)
                  have n1 := cnt_le 1 GL k
                  have n2 := cnt_le 2 GL k
                  have HY := Lib.hid hy
                  clear hy
                  cases e1 : (y == 1) <;> cases e2 : (y == 2)
                  all_goals
                    have H1 := Lib.hid e1
                    have H2 := Lib.hid e2
                    go_wp2
                    go_round
                    case rel => exact ⟨k + 1, by rw [HGl.out]; omega, by go_num, by first | rw [cnt_no HY.out H1.out] | (rw [cnt_yes HY.out H1.out]; go_num), by first | rw [cnt_no HY.out H2.out] | (rw [cnt_yes HY.out H2.out]; go_num)⟩
                    case measure => simp [intOf]; omega
                · obtain rfl : k = 2 := by omega
                  have HE := Lib.hid (HLr.out.trans HLt.out)
                  generalize cnt 1 GL 2 = o at *
                  generalize cnt 2 GL 2 = t at *
                  by_cases ho : 0 < o
                  · have HV := Lib.hid (let_str (HE.out.trans (if_pos ho)) (by decide))
                    clear HE HLt
                    go_wp2
                    go_ret2
                    exact ⟨by rw [HV.out, H4.out]; rfl, hb⟩
                  · by_cases ht : 0 < t
                    · have HV := Lib.hid (let_str (HE.out.trans ((if_neg ho).trans (if_pos ht))) (by decide))
                      clear HE HLt
                      go_wp2
                      go_ret2
                      exact ⟨by rw [HV.out, H4.out]; rfl, hb⟩
                    · have HV := Lib.hid (let_str (HE.out.trans ((if_neg ho).trans (if_neg ht))) (by decide))
                      clear HE HLt
                      go_wp2
                      go_ret2
                      exact ⟨by rw [HV.out, H4.out]; rfl, hb⟩
        · by_cases h2 : oc r = 2
          · clear h4
            have h4 := h2
            clear h2
            obtain ⟨x0, x1, hx⟩ : ∃ x0 x1, pick r = [x0, x1] := by
              have hl : (pick r).length = 2 := by unfold pick; simp [h4, f1]
              match h : pick r, hl with
              | [x0, x1], _ => exact ⟨_, _, rfl⟩
            have hbd := ls_fin ⟨r, hr⟩
            dsimp only at hbd f5
            have hp : lsT true r 6 = [x0, x1] := by rw [← hx]; unfold pick; simp [h4]
            have HLr := Lib.hid (show lett r = lettOf [x0, x1] by rw [← hx]; exact f5 (by omega) (by omega))
            rw [hx] at hbd
            have b0 := hbd x0 (by simp)
            have b1 := hbd x1 (by simp)
            have H4 := Lib.hid h4
            clear hbd hx f5 f4 f3 HT HF hl1 hl2
            rw [hp] at hv
            clear f1 f2 h4 hp hout
            have hv' : wr.ownsRow w.heap.size 3 1 _ 2 (flatI [x0, x1]) := hv
            obtain ⟨g, cap, cur, rfl, hg, kg, hcap, hcur⟩ := row_ints hv' (by decide)
            clear hv'
            go_wp2_with fail
            have owG := World.ownsRow_lit (base := w.heap.size) (e := 3) (size := 1) wr #[] 0 hz (by decide) rfl
            have kg0 := kg.alloc (.cells #[] 3)
            have hb0 : Below w.heap.size w (wr.alloc (.cells #[] 3)) := hb.alloc hz _
            have hgl := kg.lt
            go_loopw [8, 50] (fun G i wq => G2Rel w g cur [x0, x1] G i wq) (fun _ i _ => 2 - (intOf i).toNat)
            case atStart => exact ⟨0, by omega, rfl, owG, kg0, by simp [Value.ownBlock]; omega, hb0⟩
            case round =>
              clear owG kg0 hb0 hgl kg hb hz hv hd hap
              obtain ⟨k, hk, rfl, hG, kg, hne, hb⟩ := hrel
              have hz := hb.size
              have c0 := (kg.cell 0).trans (hcur 0 x0 (by omega) rfl)
              have c1 := (kg.cell 1).trans (hcur 1 x1 (by omega) rfl)
              have hgl := kg.lt
              have hkk : k = 0 ∨ k = 1 ∨ k = 2 := by simp at hk; omega
              rcases hkk with rfl | rfl | rfl
              · go_wp2_with (at_builtin; refine wpList_append_own_at _ rfl (.tmp 63) (.tmp 69) _ rfl w.heap.size 3 i0 _ 1 8 Try.underlying46 hi0 hz0 hz1 hz2 rfl (by omega) _ _ _ rfl (hG.alloc _) ⟨wr.heap.size, 0, none⟩ 1 1 [.int .i64 ((x1 - x0) % 6)] rfl rfl (news1 _ _ _) (by simp [Value.oneCell']) (by simp only [maxLen]; omega) (by omega) (by simp; omega) ?_; intro v' w8 hown8 hgr8 _ hloc8)
                go_roundw
                case rel =>
                  have hx8 : Below w.heap.size w (wr.alloc (.cells #[.int .i64 ((x1 - x0) % 6)] 3)) := by go_grown
                  refine ⟨1, by simp, by go_num, hown8, (kg.alloc _).grown hgr8 (fun e => hne e.symm), ?_, hx8.grown hgr8 hx8.size (fun g hg => (hG.lt g hg).1)⟩
                  rcases hloc8 with h | h
                  · rw [h]; exact hne
                  · rw [h]; simp; omega
                case measure => simp [intOf]
              · go_wp2_with (at_builtin; refine wpList_append_own_at _ rfl (.tmp 63) (.tmp 69) _ rfl w.heap.size 3 i0 _ 1 8 Try.underlying46 hi0 hz0 hz1 hz2 rfl (by omega) _ _ _ rfl (hG.alloc _) ⟨wr.heap.size, 0, none⟩ 1 1 [.int .i64 ((x0 - x1) % 6)] rfl rfl (news1 _ _ _) (by simp [Value.oneCell']) (by simp only [maxLen]; omega) (by omega) (by simp; omega) ?_; intro v' w8 hown8 hgr8 _ hloc8)
                go_roundw
                case rel =>
                  have hx8 : Below w.heap.size w (wr.alloc (.cells #[.int .i64 ((x0 - x1) % 6)] 3)) := by go_grown
                  refine ⟨2, by simp, by go_num, by rw [gs2]; exact hown8, (kg.alloc _).grown hgr8 (fun e => hne e.symm), ?_, hx8.grown hgr8 hx8.size (fun g hg => (hG.lt g hg).1)⟩
                  rcases hloc8 with h | h
                  · rw [h]; exact hne
                  · rw [h]; simp; omega
                case measure => simp [intOf]
              · have hG' := hG
                rw [gp2] at hG'
                obtain ⟨g2, cap2, cur2, rfl, hg2, kg2, hcap2, hcur2⟩ := row_ints hG' (by decide)
                have HLt := Lib.hid (lo2 x0 x1)
                have hGl : [(x1 - x0) % 6, (x0 - x1) % 6].length = 2 := rfl
                clear hG hG' c0 c1
                generalize [(x1 - x0) % 6, (x0 - x1) % 6] = GL at *
                have HGl := Lib.hid hGl
                clear hGl
                have hg2l := kg2.lt
                go_wp2_with fail
                go_loop [12, 13, 74] (fun o t i => G3Rel GL o t i) (fun _ _ i => 2 - (intOf i).toNat)
                case atStart => exact ⟨0, by omega, rfl, rfl, rfl⟩
                case round =>
                  obtain ⟨k, hk, rfl, rfl, rfl⟩ := hrel
                  rw [HGl.out] at hk
                  by_cases hlt : k < 2
                  · obtain ⟨y, hy⟩ : ∃ y, GL[k]? = some y := ⟨_, List.getElem?_eq_getElem (by rw [HGl.out]; exact hlt)⟩
                    have p0 := (kg2.cell k).trans (hcur2 k y hlt hy)
                    have n1 := cnt_le 1 GL k
                    have n2 := cnt_le 2 GL k
                    have HY := Lib.hid hy
                    clear hy
                    cases e1 : (y == 1) <;> cases e2 : (y == 2)
                    all_goals
                      have H1 := Lib.hid e1
                      have H2 := Lib.hid e2
                      go_wp2
                      go_round
                      case rel => exact ⟨k + 1, by rw [HGl.out]; omega, by go_num, by first | rw [cnt_no HY.out H1.out] | (rw [cnt_yes HY.out H1.out]; go_num), by first | rw [cnt_no HY.out H2.out] | (rw [cnt_yes HY.out H2.out]; go_num)⟩
                      case measure => simp [intOf]; omega
                  · obtain rfl : k = 2 := by omega
                    have HE := Lib.hid (HLr.out.trans HLt.out)
                    generalize cnt 1 GL 2 = o at *
                    generalize cnt 2 GL 2 = t at *
                    by_cases ho : 0 < o
                    · have HV := Lib.hid (let_str (HE.out.trans (if_pos ho)) (by decide))
                      clear HE HLt
                      go_wp2
                      go_ret2
                      exact ⟨by rw [HV.out, H4.out]; rfl, hb⟩
                    · by_cases ht : 0 < t
                      · have HV := Lib.hid (let_str (HE.out.trans ((if_neg ho).trans (if_pos ht))) (by decide))
                        clear HE HLt
                        go_wp2
                        go_ret2
                        exact ⟨by rw [HV.out, H4.out]; rfl, hb⟩
                      · have HV := Lib.hid (let_str (HE.out.trans ((if_neg ho).trans (if_neg ht))) (by decide))
                        clear HE HLt
                        go_wp2
                        go_ret2
                        exact ⟨by rw [HV.out, H4.out]; rfl, hb⟩
          · have h3 : oc r = 3 := by omega
            clear h4 h2
            have h4 := h3
            clear h3
            obtain ⟨x0, x1, x2, hx⟩ : ∃ x0 x1 x2, pick r = [x0, x1, x2] := by
              have hl : (pick r).length = 3 := by unfold pick; simp [h4, f1]
              match h : pick r, hl with
              | [x0, x1, x2], _ => exact ⟨_, _, _, rfl⟩
            have hbd := ls_fin ⟨r, hr⟩
            dsimp only at hbd f5
            have hp : lsT true r 6 = [x0, x1, x2] := by rw [← hx]; unfold pick; simp [h4]
            have HLr := Lib.hid (show lett r = lettOf [x0, x1, x2] by rw [← hx]; exact f5 (by omega) (by omega))
            rw [hx] at hbd
            have b0 := hbd x0 (by simp)
            have b1 := hbd x1 (by simp)
            have b2 := hbd x2 (by simp)
            have H4 := Lib.hid h4
            clear hbd hx f5 f4 f3 HT HF hl1 hl2
            rw [hp] at hv
            clear f1 f2 h4 hp hout
            have hv' : wr.ownsRow w.heap.size 3 1 _ 3 (flatI [x0, x1, x2]) := hv
            obtain ⟨g, cap, cur, rfl, hg, kg, hcap, hcur⟩ := row_ints hv' (by decide)
            clear hv'
            go_wp2_with fail
            have owG := World.ownsRow_lit (base := w.heap.size) (e := 3) (size := 1) wr #[] 0 hz (by decide) rfl
            have kg0 := kg.alloc (.cells #[] 3)
            have hb0 : Below w.heap.size w (wr.alloc (.cells #[] 3)) := hb.alloc hz _
            have hgl := kg.lt
            go_loopw [8, 50] (fun G i wq => G2Rel w g cur [x0, x1, x2] G i wq) (fun _ i _ => 3 - (intOf i).toNat)
            case atStart => exact ⟨0, by omega, rfl, owG, kg0, by simp [Value.ownBlock]; omega, hb0⟩
            case round =>
              clear owG kg0 hb0 hgl kg hb hz hv hd hap
              obtain ⟨k, hk, rfl, hG, kg, hne, hb⟩ := hrel
              have hz := hb.size
              have c0 := (kg.cell 0).trans (hcur 0 x0 (by omega) rfl)
              have c1 := (kg.cell 1).trans (hcur 1 x1 (by omega) rfl)
              have c2 := (kg.cell 2).trans (hcur 2 x2 (by omega) rfl)
              have hgl := kg.lt
              have hkk : k = 0 ∨ k = 1 ∨ k = 2 ∨ k = 3 := by simp at hk; omega
              rcases hkk with rfl | rfl | rfl | rfl
              · go_wp2_with (at_builtin; refine wpList_append_own_at _ rfl (.tmp 63) (.tmp 69) _ rfl w.heap.size 3 i0 _ 1 8 Try.underlying46 hi0 hz0 hz1 hz2 rfl (by omega) _ _ _ rfl (hG.alloc _) ⟨wr.heap.size, 0, none⟩ 1 1 [.int .i64 ((x1 - x0) % 6)] rfl rfl (news1 _ _ _) (by simp [Value.oneCell']) (by simp only [maxLen]; omega) (by omega) (by simp; omega) ?_; intro v' w8 hown8 hgr8 _ hloc8)
                go_roundw
                case rel =>
                  have hx8 : Below w.heap.size w (wr.alloc (.cells #[.int .i64 ((x1 - x0) % 6)] 3)) := by go_grown
                  refine ⟨1, by simp, by go_num, hown8, (kg.alloc _).grown hgr8 (fun e => hne e.symm), ?_, hx8.grown hgr8 hx8.size (fun g hg => (hG.lt g hg).1)⟩
                  rcases hloc8 with h | h
                  · rw [h]; exact hne
                  · rw [h]; simp; omega
                case measure => simp [intOf]
              · go_wp2_with (at_builtin; refine wpList_append_own_at _ rfl (.tmp 63) (.tmp 69) _ rfl w.heap.size 3 i0 _ 1 8 Try.underlying46 hi0 hz0 hz1 hz2 rfl (by omega) _ _ _ rfl (hG.alloc _) ⟨wr.heap.size, 0, none⟩ 1 1 [.int .i64 ((x2 - x1) % 6)] rfl rfl (news1 _ _ _) (by simp [Value.oneCell']) (by simp only [maxLen]; omega) (by omega) (by simp; omega) ?_; intro v' w8 hown8 hgr8 _ hloc8)
                go_roundw
                case rel =>
                  have hx8 : Below w.heap.size w (wr.alloc (.cells #[.int .i64 ((x2 - x1) % 6)] 3)) := by go_grown
                  refine ⟨2, by simp, by go_num, hown8, (kg.alloc _).grown hgr8 (fun e => hne e.symm), ?_, hx8.grown hgr8 hx8.size (fun g hg => (hG.lt g hg).1)⟩
                  rcases hloc8 with h | h
                  · rw [h]; exact hne
                  · rw [h]; simp; omega
                case measure => simp [intOf]
              · go_wp2_with (at_builtin; refine wpList_append_own_at _ rfl (.tmp 63) (.tmp 69) _ rfl w.heap.size 3 i0 _ 1 8 Try.underlying46 hi0 hz0 hz1 hz2 rfl (by omega) _ _ _ rfl (hG.alloc _) ⟨wr.heap.size, 0, none⟩ 1 1 [.int .i64 ((x0 - x2) % 6)] rfl rfl (news1 _ _ _) (by simp [Value.oneCell']) (by simp only [maxLen]; omega) (by omega) (by simp; omega) ?_; intro v' w8 hown8 hgr8 _ hloc8)
                go_roundw
                case rel =>
                  have hx8 : Below w.heap.size w (wr.alloc (.cells #[.int .i64 ((x0 - x2) % 6)] 3)) := by go_grown
                  refine ⟨3, by simp, by go_num, by rw [gs3]; exact hown8, (kg.alloc _).grown hgr8 (fun e => hne e.symm), ?_, hx8.grown hgr8 hx8.size (fun g hg => (hG.lt g hg).1)⟩
                  rcases hloc8 with h | h
                  · rw [h]; exact hne
                  · rw [h]; simp; omega
                case measure => simp [intOf]
              · have hG' := hG
                rw [gp3] at hG'
                obtain ⟨g2, cap2, cur2, rfl, hg2, kg2, hcap2, hcur2⟩ := row_ints hG' (by decide)
                have HLt := Lib.hid (lo3 x0 x1 x2)
                have hGl : [(x1 - x0) % 6, (x2 - x1) % 6, (x0 - x2) % 6].length = 3 := rfl
                clear hG hG' c0 c1 c2
                generalize [(x1 - x0) % 6, (x2 - x1) % 6, (x0 - x2) % 6] = GL at *
                have HGl := Lib.hid hGl
                clear hGl
                have hg2l := kg2.lt
                go_wp2_with fail
                go_loop [12, 13, 74] (fun o t i => G3Rel GL o t i) (fun _ _ i => 3 - (intOf i).toNat)
                case atStart => exact ⟨0, by omega, rfl, rfl, rfl⟩
                case round =>
                  obtain ⟨k, hk, rfl, rfl, rfl⟩ := hrel
                  rw [HGl.out] at hk
                  by_cases hlt : k < 3
                  · obtain ⟨y, hy⟩ : ∃ y, GL[k]? = some y := ⟨_, List.getElem?_eq_getElem (by rw [HGl.out]; exact hlt)⟩
                    have p0 := (kg2.cell k).trans (hcur2 k y hlt hy)
                    have n1 := cnt_le 1 GL k
                    have n2 := cnt_le 2 GL k
                    have HY := Lib.hid hy
                    clear hy
                    cases e1 : (y == 1) <;> cases e2 : (y == 2)
                    all_goals
                      have H1 := Lib.hid e1
                      have H2 := Lib.hid e2
                      go_wp2
                      go_round
                      case rel => exact ⟨k + 1, by rw [HGl.out]; omega, by go_num, by first | rw [cnt_no HY.out H1.out] | (rw [cnt_yes HY.out H1.out]; go_num), by first | rw [cnt_no HY.out H2.out] | (rw [cnt_yes HY.out H2.out]; go_num)⟩
                      case measure => simp [intOf]; omega
                  · obtain rfl : k = 3 := by omega
                    have HE := Lib.hid (HLr.out.trans HLt.out)
                    generalize cnt 1 GL 3 = o at *
                    by_cases ho : o = 2
                    · have HV := Lib.hid (let_str (HE.out.trans (if_pos ho)) (by decide))
                      subst ho
                      clear HE HLt
                      go_wp2
                      go_ret2
                      exact ⟨by rw [HV.out, H4.out]; rfl, hb⟩
                    · by_cases ht : o = 0
                      · have HV := Lib.hid (let_str (HE.out.trans ((if_neg ho).trans (if_pos ht))) (by decide))
                        subst ht
                        clear HE HLt
                        go_wp2
                        go_ret2
                        exact ⟨by rw [HV.out, H4.out]; rfl, hb⟩
                      · have HV := Lib.hid (let_str (HE.out.trans ((if_neg ho).trans (if_neg ht))) (by decide))
                        have t1 : ((o : Int) == 2) = false := by simp; omega
                        have t2 : ((o : Int) == 0) = false := by simp; omega
                        clear HE HLt ho ht
                        go_wp2
                        go_ret2
                        exact ⟨by rw [HV.out, H4.out]; rfl, hb⟩
end Go.Proofs.Ytlblfnmmmkfodaa.Tb
