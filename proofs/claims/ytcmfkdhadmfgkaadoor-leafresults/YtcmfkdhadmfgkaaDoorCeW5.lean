/- The contract of cell.Beside: the cells beside one, rising, or ErrRange. -/
import Derived.Test.YtcmfkdhadmfgkaaDoorCeW4
import Derived.OwnWalk
import Derived.Laws.OwnMore
namespace Go.Proofs.YtcmfkdhadmfgkaaDoor.Ce
open Go.RowKit Go.Proofs.YtcmfkdhadmfgkaaDoor.Ax

def allG (l : List C) : Bool := l.all fun d => goodB d.1 d.2.1
def flat (l : List C) : List Value := l.flatMap fun d => [.int .i64 d.1, .int .i64 d.2.1, .int .i64 d.2.2]
theorem flat_len (l : List C) : (flat l).length = l.length * 3 := by
  induction l with
  | nil => rfl
  | cons d l ih => simp [flat] at ih ⊢; omega
theorem flat_app (l m : List C) : flat (l ++ m) = flat l ++ flat m := by simp [flat]
theorem flat_one (d : C) : flat [d] = [.int .i64 d.1, .int .i64 d.2.1, .int .i64 d.2.2] := by simp [flat]
theorem allG_app (l m : List C) : allG (l ++ m) = (allG l && allG m) := by simp [allG]
theorem H_pos (l : Int) : 0 < H l := by unfold H; split <;> omega
theorem H_le (l : Int) : H l ≤ 2 := by unfold H; split <;> omega
theorem cd_at (l a b : Int) (k m : Nat) (hm : m < H l) : cd l a b (k * H l + m) = (a - 1 + (k : Int) % 3, b - 1 + (k : Int) / 3, (m : Int)) := by
  have hp := H_pos l
  have e1 : (k * H l + m) / H l = k := by rw [Nat.mul_comm, Nat.mul_add_div hp, Nat.div_eq_of_lt hm]; omega
  have e2 : (k * H l + m) % H l = m := by rw [Nat.mul_comm, Nat.mul_add_mod, Nat.mod_eq_of_lt hm]
  unfold cd
  rw [e1, e2]
  simp
theorem bes_mono (l a b h : Int) (n : Nat) : ∀ m, ∃ r, bes l a b h (n + m) = bes l a b h n ++ r
  | 0 => ⟨[], by simp⟩
  | m + 1 => by
    obtain ⟨r, hr⟩ := bes_mono l a b h n m
    cases ht : touchB l a b h (cd l a b (n + m)).1 (cd l a b (n + m)).2.1 (cd l a b (n + m)).2.2
    · exact ⟨r, by rw [← Nat.add_assoc, bes_succ_no _ _ _ _ _ ht, hr]⟩
    · exact ⟨r ++ [cd l a b (n + m)], by rw [← Nat.add_assoc, bes_succ_yes _ _ _ _ _ ht, hr, List.append_assoc]⟩
theorem allG_bad (l a b h : Int) (n N : Nat) (hn : n < N) (ht : touchB l a b h (cd l a b n).1 (cd l a b n).2.1 (cd l a b n).2.2 = true) (hg : goodB (cd l a b n).1 (cd l a b n).2.1 = false) : allG (bes l a b h N) = false := by
  obtain ⟨r, hr⟩ := bes_mono l a b h (n + 1) (N - (n + 1))
  rw [show n + 1 + (N - (n + 1)) = N by omega] at hr
  rw [hr, bes_succ_yes _ _ _ _ _ ht, allG_app, allG_app]
  simp [allG, hg]

theorem touch_any (l a b h a' b' h' : Int) (w : World) (hl : l = 1 ∨ l = 2 ∨ l = 3) (hs : SixIs w) (a0 : -8796093022208 ≤ a ∧ a ≤ 8796093022208) (b0 : -8796093022208 ≤ b ∧ b ≤ 8796093022208) (c0 : -8796093022208 ≤ a' ∧ a' ≤ 8796093022208) (d0 : -8796093022208 ≤ b' ∧ b' ≤ 8796093022208) (t : Bool) (ht : touchB l a b h a' b' h' = t) :
    Calls Tryd.prog 82 #[.int .i64 l, Ce a b h, Ce a' b' h'] w fun e w' => e = .returned (.bool t) ∧ Below w.heap.size w w' := by
  subst ht
  rcases hl with rfl | rfl | rfl
  · exact touch_hex a b h a' b' h' w hs a0 b0 c0 d0
  · exact touch_edge a b h a' b' h' w a0 b0 c0 d0
  · exact touch_vertex a b h a' b' h' w a0 b0 c0 d0

/-- What Beside answers: the cells, in memory of its own; or ErrRange. -/
def BesPost (w : World) (l a b h : Int) (e : Ending) (w' : World) : Prop :=
  (allG (besAll l a b h) = true ∧ ∃ v, e = .returned (.tuple #[v, .nilIface]) ∧ w'.ownsRow w.heap.size 72 3 v (besAll l a b h).length (flat (besAll l a b h)) ∧ Below w.heap.size w w') ∨
  (allG (besAll l a b h) = false ∧ e = .returned (.tuple #[.slice none 0 0, Er 6]) ∧ Below w.heap.size w w')
def BiRel (w : World) (B0 P : Nat) (l a b h : Int) (k : Nat) (v j : Value) (wq : World) : Prop :=
  ∃ m : Nat, m ≤ H l ∧ j = .int .i64 m ∧ allG (bes l a b h (k * H l + m)) = true ∧ wq.ownsRow B0 72 3 v (bes l a b h (k * H l + m)).length (flat (bes l a b h (k * H l + m))) ∧ Below w.heap.size w wq ∧
    Blk wq w.heap.size 72 #[.int .i64 a, .int .i64 b, .int .i64 h] ∧ Blk wq P 70 #[.int .i64 (a - 1 + (k : Int) % 3), .int .i64 (b - 1 + (k : Int) / 3)] ∧ B0 ≤ wq.heap.size
def BoRel (w : World) (B0 : Nat) (l a b h : Int) (v i : Value) (wr : World) : Prop :=
  ∃ k : Nat, k ≤ 9 ∧ i = .int .i64 k ∧ allG (bes l a b h (k * H l)) = true ∧ wr.ownsRow B0 72 3 v (bes l a b h (k * H l)).length (flat (bes l a b h (k * H l))) ∧ Below w.heap.size w wr ∧
    Blk wr w.heap.size 72 #[.int .i64 a, .int .i64 b, .int .i64 h] ∧ B0 ≤ wr.heap.size
theorem owns_base {w : World} {B B' : Nat} {e : TypeId} {size : Nat} {v : Value} {n : Nat} {xs : List Value} (hB : B ≤ B') (h : w.ownsRow B' e size v n xs) : w.ownsRow B e size v n xs := by
  refine ⟨h.1, ?_⟩
  rcases h.2 with hn | ⟨g, cap, cur, hv, hb, rest⟩
  · exact .inl hn
  · exact .inr ⟨g, cap, cur, hv, Nat.le_trans hB hb, rest⟩
theorem Blk.grown {w w' : World} {g : Nat} {t : TypeId} {cs : Array Value} {row : Option Nat} (h : Blk w g t cs) (hb : w.grownBy w' row) (hg : some g ≠ row) : Blk w' g t cs := (hb.block g h.lt hg).trans h
theorem Blk.ce {w : World} {g : Nat} {t : TypeId} {x y z : Value} (h : Blk w g t #[x, y, z]) : w.cell? ⟨g, 0, none⟩ = some x ∧ w.cell? ⟨g, 1, none⟩ = some y ∧ w.cell? ⟨g, 2, none⟩ = some z ∧ g < w.heap.size := ⟨h.cell 0, h.cell 1, h.cell 2, h.lt⟩
theorem Blk.pt {w : World} {g : Nat} {t : TypeId} {x y : Value} (h : Blk w g t #[x, y]) : w.cell? ⟨g, 0, none⟩ = some x ∧ w.cell? ⟨g, 1, none⟩ = some y ∧ g < w.heap.size := ⟨h.cell 0, h.cell 1, h.lt⟩
theorem own_below {w w' : World} {base : Nat} {e : TypeId} {size : Nat} {v : Value} {n : Nat} {xs : List Value} (h : w.ownsRow base e size v n xs) (hb : Below w.heap.size w w') : w'.ownsRow base e size v n xs := by
  refine ⟨h.1, ?_⟩
  rcases h.2 with hn | ⟨g, cap, cur, hv, hbs, hg, rest⟩
  · exact .inl hn
  · exact .inr ⟨g, cap, cur, hv, hbs, (hb.block g (by rcases Nat.lt_or_ge g w.heap.size with h' | h'; exact h'; rw [Array.getElem?_eq_none h'] at hg; cases hg)).trans hg, rest⟩
theorem news3 (w : World) (t : TypeId) (x y z : Value) : ∀ j u, [x, y, z][j]? = some u → (w.alloc (.cells #[x, y, z] t)).cell? ((⟨w.heap.size, 0, none⟩ : Addr).add j) = some u := by
  intro j u hu
  have hj : j < 3 := by have := (List.getElem?_eq_some_iff.1 hu).1; simpa using this
  have : j = 0 ∨ j = 1 ∨ j = 2 := by omega
  rcases this with rfl | rfl | rfl <;> simp at hu <;> subst hu <;> simp [Addr.add, go_sem]
theorem own_blk_ne {w : World} {g : Nat} {t : TypeId} {cs : Array Value} {base : Nat} {e : TypeId} {size n : Nat} {v : Value} {xs : List Value} (h : w.ownsRow base e size v n xs) (hg : Blk w g t cs) (hne : e ≠ t) : some g ≠ v.ownBlock := by
  rcases h.2 with ⟨rfl, _⟩ | ⟨g', cap, cur, rfl, _, hh, _⟩
  · simp [Value.ownBlock]
  · intro he
    have : g = g' := by simpa [Value.ownBlock] using he
    subst this
    unfold Blk at hg
    rw [hh] at hg
    injection hg with hg
    injection hg with _ ht
    exact hne ht
theorem own_low_ne {w : World} {g : Nat} {base : Nat} {e : TypeId} {size n : Nat} {v : Value} {xs : List Value} (h : w.ownsRow base e size v n xs) (hg : g < base) : some g ≠ v.ownBlock := by
  intro he
  have := (h.lt g he.symm).1
  omega
theorem cell_info : (Tryd.prog.info? 72).map (fun i => (i.zero, i.size, i.bytes)) = some (some (.agg #[.int .i64 0, .int .i64 0, .int .i64 0]), 3, 24) := by kernel_rfl

set_option maxRecDepth 100000 in
set_option maxHeartbeats 4000000 in
theorem beside_any (l a b h : Int) (w : World) (hl : l = 1 ∨ l = 2 ∨ l = 3) (h0 : 0 ≤ h) (h1 : h < halvesV l) (hg : goodB a b = true) (hs : SixIs w) :
    Calls Tryd.prog 69 #[.int .i64 l, Ce a b h] w (BesPost w l a b h) := by
  obtain ⟨⟨a1, a2⟩, b1, b2⟩ := goodB_iff.1 hg
  have hlat : latB l = true := by rcases hl with rfl | rfl | rfl <;> decide
  obtain ⟨i0, hi0, hz0, hz1, hz2⟩ := info_parts cell_info
  go_enter Tryd.func69, Tryd.ntmps69
  go_wp2_with fail
  refine (check_nil l a b h _ hlat h0 h1 hg).mono ?_
  rintro e w1 ⟨rfl, hb⟩
  have k1 : Blk w1 w.heap.size 72 #[.int .i64 a, .int .i64 b, .int .i64 h] := (Blk.newAt w _ _ _ rfl).below hb (by simp)
  have hb1 := below_call (B := w.heap.size) (w := w) hb (by go_grown) (by go_size)
  clear hb
  have hlt1 := k1.lt
  go_wp2_with (refine wpList_make_own w1 rfl _ _ _ rfl w1.heap.size 72 i0 _ 3 Tryd.underlying104 hi0 hz0 hz1 .i64 .i64 12 12 rfl rfl rfl (by rw [hz2]; decide) (by decide) (Nat.le_refl _) ?_; intro w2 hown2 hgr2; have k2 := k1.grown hgr2 (by simp); have hb2 : Below w.heap.size w w2 := hb1.grown hgr2 hb1.size (by simp); have hs2 := hgr2.size; obtain ⟨c0, c1, c2, hlt2⟩ := k2.ce; clear hgr2)
  clear c0 c1 c2
  refine (around_any a b _ (by omega) (by omega) (by omega) (by omega)).mono ?_
  rintro e w3 ⟨rfl, hb⟩
  have k3 := k2.below hb hlt2
  have hown3 := own_below hown2 hb
  have hb3 := below_call (B := w.heap.size) (w := w) hb hb2 hb2.size
  have hs3 := hb.size
  clear hb k2 hown2 hb2 k1 hb1
  have hB0 : w.heap.size < w1.heap.size := hlt1
  have hB3 : w1.heap.size ≤ w3.heap.size := by omega
  clear hlt1 hlt2 hs2 hs3
  generalize w1.heap.size = B0 at *
  have hval : halvesV l = (H l : Int) := by unfold halvesV H; split <;> rfl
  go_wp2_with fail
  go_loopw [7, 22] (fun v i wr => BoRel w B0 l a b h v i wr) (fun _ i _ => 9 - (intOf i).toNat)
  case atStart => exact ⟨0, by omega, rfl, by simp [bes, allG], by simpa [bes, flat] using hown3, hb3, k3, hB3⟩
  case round =>
    clear hb3 k3 hown3 hB3
    obtain ⟨k, hk, rfl, hall, hown, hb0, kc, hBr⟩ := hrel
    obtain ⟨c0, c1, c2, hlt⟩ := kc.ce
    by_cases hk9 : k < 9
    · have ix := pts_index a b k hk9
      go_wp2_with (go_at_call 50; refine (halves_any _ _).mono ?_; rintro e w' ⟨rfl, rfl⟩)
      have HV := Lib.hid hval
      clear hval
      have hH2 := H_le l
      obtain ⟨w4, hw4⟩ : ∃ x, x = wr := ⟨_, rfl⟩
      subst hw4
      have hP : w.heap.size < w4.heap.size := hlt
      go_loopw [7, 27] (fun v j wq => BiRel w B0 w4.heap.size l a b h k v j wq) (fun _ j _ => H l - (intOf j).toNat)
      case atStart => exact ⟨0, by omega, rfl, hall, hown.alloc _, by go_grown, kc.alloc _, Blk.newAt _ _ _ _ rfl, by simp; omega⟩
      case round =>
        clear hown kc hb0 c0 c1 c2 hlt hBr hall ix
        obtain ⟨m, hm, rfl, hall, hown, hb0, kc, kp, hBr⟩ := hrel
        obtain ⟨c0, c1, c2, hlt⟩ := kc.ce
        obtain ⟨d0, d1, hpl⟩ := kp.pt
        generalize w4.heap.size = P at *
        by_cases hmH : m < H l
        · have hcd := cd_at l a b k m hmH
          have n0 := bes_succ_no l a b h (k * H l + m)
          have n1 := bes_succ_yes l a b h (k * H l + m)
          have nb := allG_bad l a b h (k * H l + m) (9 * H l)
          rw [hcd] at n0 n1 nb
          dsimp only at n0 n1 nb
          have hN : k * H l + m < 9 * H l := by
            have : k * H l + H l ≤ 9 * H l := by rw [← Nat.succ_mul]; exact Nat.mul_le_mul_right _ hk9
            omega
          have Hb := Lib.hid (nb hN)
          have N0 := Lib.hid n0
          have N1 := Lib.hid n1
          have HA := Lib.hid hall
          clear hcd n0 n1 nb hall
          have hp0 : 0 ≤ (k : Int) % 3 ∧ (k : Int) % 3 < 3 := by omega
          have hp1 : 0 ≤ (k : Int) / 3 ∧ (k : Int) / 3 < 3 := by omega
          generalize hpx : a - 1 + (k : Int) % 3 = px at *
          generalize hpy : b - 1 + (k : Int) / 3 = py at *
          have x1 : -8796093022208 ≤ px ∧ px ≤ 8796093022208 := by omega
          have x2 : -8796093022208 ≤ py ∧ py ≤ 8796093022208 := by omega
          have HX := Lib.hid hpx
          have HY := Lib.hid hpy
          clear hpx hpy hp0 hp1
          have hs5 := hs.below hb0
          cases ht : touchB l a b h px py m
          · have HT := Lib.hid ht
            clear ht
            go_wp2_with fail
            refine (touch_any l a b h px py m _ hl (hs5.below (by go_grown)) (by omega) (by omega) x1 x2 _ HT.out).mono ?_
            rintro e w6 ⟨rfl, hb⟩
            go_wp2_with fail
            go_roundw
            case rel =>
              refine ⟨m + 1, by omega, by go_num, ?_, ?_, below_call hb (by go_grown) (by go_size), (kc.alloc _).below hb (by simp; omega), by rw [HX.out, HY.out]; exact (kp.alloc _).below hb (by simp; omega), by have := hb.size; simp at this; omega⟩
              · rw [show k * H l + (m + 1) = k * H l + m + 1 from rfl, N0.out HT.out]; exact HA.out
              · rw [show k * H l + (m + 1) = k * H l + m + 1 from rfl, N0.out HT.out]; exact own_below (hown.alloc _) hb
            case measure => simp [intOf]; omega
          · have HT := Lib.hid ht
            clear ht
            cases hgd : goodB px py
            · go_wp2_with fail
              refine (touch_any l a b h px py m _ hl (hs5.below (by go_grown)) (by omega) (by omega) x1 x2 _ HT.out).mono ?_
              rintro e w6 ⟨rfl, hb⟩
              have hb6 := below_call (B := w.heap.size) (w := w) hb (by go_grown) (by go_size)
              obtain ⟨d0, d1, hpl⟩ := ((kp.alloc _).below hb (by simp; omega)).pt
              clear hb
              go_wp2_with fail
              refine (pgood_any _ _ _).mono ?_
              rintro e w7 ⟨rfl, hb⟩
              have hb7 := below_call (B := w.heap.size) (w := w) hb hb6 hb6.size
              clear hb
              have HG := Lib.hid hgd
              go_wp2_with fail
              go_ret2
              exact .inr ⟨Hb.out HT.out HG.out, rfl, hb7⟩
            · go_wp2_with fail
              refine (touch_any l a b h px py m _ hl (hs5.below (by go_grown)) (by omega) (by omega) x1 x2 _ HT.out).mono ?_
              rintro e w6 ⟨rfl, hb⟩
              have hb6 := below_call (B := w.heap.size) (w := w) hb (by go_grown) (by go_size)
              have kp6 := (kp.alloc _).below hb (by simp; omega)
              have kc6 := (kc.alloc _).below hb (by simp; omega)
              have kd6 := (Blk.newAt wr 72 #[.int .i64 px, .int .i64 py, .int .i64 m] _ rfl).below hb (by simp)
              have own6 := own_below (hown.alloc _) hb
              have hs6 := hb.size
              simp at hs6
              obtain ⟨d0, d1, hpl⟩ := kp6.pt
              clear hb
              go_wp2_with fail
              refine (pgood_any _ _ _).mono ?_
              rintro e w7 ⟨rfl, hb⟩
              have hb7 := below_call (B := w.heap.size) (w := w) hb hb6 hb6.size
              have hs7 := hb.size
              have kp7 := kp6.below hb hpl
              have kc7 := kc6.below hb kc6.lt
              have kd7 := kd6.below hb kd6.lt
              have own7 := own_below own6 hb
              obtain ⟨q0, q1, q2, hql⟩ := kd7.ce
              clear hb d0 d1 hpl kp6 kc6 kd6 own6 hb6
              have hlen := bes_len l a b h (k * H l + m)
              have hkH : k * H l + m < 18 := by omega
              go_wp2_with (at_builtin; refine wpList_append_own _ rfl (.tmp 42) (.tmp 44) _ rfl B0 72 i0 _ 3 24 Tryd.underlying104 hi0 hz0 hz1 hz2 rfl (by omega) _ _ _ rfl (own7.alloc _) ⟨w7.heap.size, 0, none⟩ 1 1 [.int .i64 px, .int .i64 py, .int .i64 m] rfl rfl (news3 _ _ _ _ _) (by simp [Value.oneCell']) (by simp only [maxLen]; omega) (by omega) (by simp; omega) ?_; intro v' w8 hown8 hgr8 _)
              go_roundw
              case rel =>
                have hx8 : Below w.heap.size w (w7.alloc (.cells #[.int .i64 px, .int .i64 py, .int .i64 m] 72)) := by go_grown
                refine ⟨m + 1, by omega, by go_num, ?_, ?_, hx8.grown hgr8 hx8.size (fun g hg => by have := (own7.lt g hg).1; omega), (kc7.alloc _).grown hgr8 (own_low_ne own7 hB0), by rw [HX.out, HY.out]; exact (kp7.alloc _).grown hgr8 (own_blk_ne own7 kp7 (by decide)), by have := hgr8.size; simp at this; omega⟩
                · rw [show k * H l + (m + 1) = k * H l + m + 1 from rfl, N1.out HT.out, allG_app, HA.out]; simp [allG, hgd]
                · rw [show k * H l + (m + 1) = k * H l + m + 1 from rfl, N1.out HT.out, flat_app, flat_one, List.length_append]; exact hown8
              case measure => simp [intOf]; omega
        · have em : m = H l := by omega
          have HA := Lib.hid hall
          have HM := Lib.hid em
          clear hall em
          go_wp2_with fail
          go_roundw
          case rel =>
            have e : (k + 1) * H l = k * H l + m := by rw [HM.out, Nat.succ_mul]
            exact ⟨k + 1, by omega, by go_num, by rw [e]; exact HA.out, by rw [e]; exact hown, hb0, kc, hBr⟩
          case measure => simp [intOf]; omega
    · have e9 : k = 9 := by omega
      subst e9
      go_wp2
      go_ret2
      exact .inl ⟨hall, _, rfl, owns_base (by omega) hown, hb0⟩
end Go.Proofs.YtcmfkdhadmfgkaaDoor.Ce
