/- The document's own lists: Told, Are, Ahead, Put, Of, Less, Has. -/
import Derived.Test.YtplldlfbcblncaaGreatDoorSeL
import Derived.Test.YtplldlfbcblncaaGreatDoorSeA
namespace Go.Proofs.YtplldlfbcblncaaGreatDoor.Se
open Go.RowKit Go.Proofs.YtplldlfbcblncaaGreatDoor.Ax Go.Proofs.YtplldlfbcblncaaGreatDoor.Ba Go.Lib

/-! The mathematics. -/
def putF (c : C) : List C → Bool → List C → List C
  | [], d, out => if d then out else out ++ [c]
  | x :: r, d, out => putF c r (d || !lt x c) ((if d then out else if lt x c then out else out ++ [c]) ++ (if x = c then [] else [x]))
theorem putF_done (c : C) : ∀ (L out : List C), (∀ x ∈ L, lt c x = true) → putF c L true out = out ++ L
  | [], out, _ => by simp [putF]
  | x :: r, out, h => by
    have hx := h x (by simp)
    have hne : x ≠ c := fun e => by subst e; rw [lt_irrefl] at hx; cases hx
    rw [putF, Bool.true_or, putF_done c r _ (fun y hy => h y (by simp [hy]))]
    simp [hne]
theorem putF_ins (c : C) : ∀ (L out : List C), Rising L → putF c L false out = out ++ ins L c
  | [], out, _ => by simp [putF, ins]
  | x :: r, out, h => by
    obtain ⟨h1, h2⟩ := List.pairwise_cons.1 h
    cases hx : lt x c
    · have hr : ∀ y ∈ r, lt c y = true := fun y hy => by
        cases hcx : lt c x
        · have := lt_or hx hcx; subst this; exact h1 y hy
        · exact lt_trans hcx (h1 y hy)
      have e1 : (x :: r).filter (fun y => lt y c) = [] := by
        rw [List.filter_eq_nil_iff]
        intro y hy hyc
        rcases List.mem_cons.1 hy with rfl | hy
        · rw [hx] at hyc; cases hyc
        · have := lt_asymm (hr y hy); rw [hyc] at this; cases this
      have e2 : r.filter (fun y => lt c y) = r := List.filter_eq_self.2 hr
      have hc : putF c (x :: r) false out = putF c r true ((out ++ [c]) ++ (if x = c then [] else [x])) := by
        rw [putF, hx]; rfl
      rw [hc, putF_done c r _ hr]
      unfold ins
      rw [e1, List.filter_cons, e2]
      by_cases hxc : x = c
      · subst hxc; simp [lt_irrefl]
      · have : lt c x = true := by
          cases hcx : lt c x
          · exact absurd (lt_or hx hcx) hxc
          · rfl
        simp [hxc, this]
    · have hne : x ≠ c := fun e => by subst e; rw [lt_irrefl] at hx; cases hx
      have hc : putF c (x :: r) false out = putF c r false (out ++ [x]) := by
        rw [putF, hx]; simp [hne]
      rw [hc, putF_ins c r _ h2]
      unfold ins
      simp [hx, lt_asymm hx]
theorem del_filter {L : List C} (h : Rising L) (c : C) : L.filter (fun x => !decide (x = c)) = del L c :=
  rising_ext (h.filter _) (rising_del h c) fun x => by rw [mem_del, List.mem_filter]; simp
/-! In memory. -/
theorem ahead_any (x c : C) (w : World) :
    Calls Tryz.prog 63 #[Ce x, Ce c] w fun e w' => e = .returned (.bool (lt x c)) ∧ Below w.heap.size w w' := by
  obtain ⟨a, b, h⟩ := x
  obtain ⟨c, d, k⟩ := c
  have e : lt (a, b, h) (c, d, k) = if (b != d) = true then decide (b < d) else if (a != c) = true then decide (a < c) else decide (h < k) := by
    unfold lt
    by_cases h1 : b = d
    · by_cases h2 : a = c <;> simp [h1, h2]
    · simp [h1]
  rw [e]
  clear e
  dsimp only [Ce]
  cases g1 : (b != d)
  · rw [if_neg (by simp)]
    cases g2 : (a != c)
    · rw [if_neg (by simp)]
      go_enter Tryz.func63, Tryz.ntmps63
      go_wp2
      go_ret
      exact ⟨rfl, by go_grown⟩
    · rw [if_pos rfl]
      go_enter Tryz.func63, Tryz.ntmps63
      go_wp2
      go_ret
      exact ⟨rfl, by go_grown⟩
  · rw [if_pos rfl]
    go_enter Tryz.func63, Tryz.ntmps63
    go_wp2
    go_ret
    exact ⟨rfl, by go_grown⟩
/-! Told. -/
def ToR (w : World) (L : List C) (s i : Value) (wr : World) : Prop :=
  ∃ k : Nat, k ≤ L.length ∧ i = .int .i64 k ∧ wr.ownsRow w.heap.size 48 3 s k (flat (L.take k)) ∧ Below w.heap.size w wr
set_option maxRecDepth 100000 in
set_option maxHeartbeats 4000000 in
theorem told4_any (v : Value) (L : List C) (w : World) (h : SetAt w v L) (hL : L.length ≤ 1000000) :
    Calls Tryz.prog 7 #[v] w fun e w' => ∃ v', e = .returned v' ∧ SetAt w' v' L ∧ Below w.heap.size w w' := by
  obtain ⟨i0, hi0, hz0, hz1, hz2⟩ := info_parts raw_info
  have HR := Lib.hid h
  have key : ∃ p cap, v = .slice p L.length cap := by
    rcases h with ⟨rfl, rfl⟩ | ⟨g, cap, rfl, _, _⟩
    · exact ⟨none, 0, rfl⟩
    · exact ⟨_, _, rfl⟩
  obtain ⟨p, cap, rfl⟩ := key
  clear h
  have HO := Lib.hid (World.ownsRow_made (base := w.heap.size) (e := 48) (size := 3) w #[] 0 (Nat.le_refl _) (Nat.zero_le _) (by simp))
  go_enter Tryz.func7, Tryz.ntmps7
  go_wp2_with fail
  go_loopw [3, 9] (fun s i wr => ToR w L s i wr) (fun _ i _ => L.length - (intOf i).toNat)
  case atStart => exact ⟨0, Nat.zero_le _, rfl, by simpa [flat] using HO.out, by go_grown⟩
  case round =>
    obtain ⟨k, hk, rfl, hown, hb⟩ := hrel
    have hz := hb.size
    by_cases hlt : k < L.length
    · obtain ⟨x, hx⟩ : ∃ x, L[k]? = some x := ⟨_, List.getElem?_eq_getElem hlt⟩
      rcases HR.out.below hb with ⟨_, hnil⟩ | ⟨g, cap', hv, _, hr⟩
      · subst hnil; simp at hlt
      · injection hv with hv1 hv2 hv3
        subst hv1 hv3
        clear hv2
        obtain ⟨c0, c1, c2⟩ := hr.1 k x hx
        have hgl := hr.2
        have HT := Lib.hid (show L.take (k + 1) = L.take k ++ [x] by rw [List.take_add_one, hx]; rfl)
        clear hx hr
        have kc := Blk.newAt wr 45 #[.int .i64 x.1, .int .i64 x.2.1, .int .i64 x.2.2] _ rfl
        go_wp2_with fail
        refine (told3_any x _).mono ?_
        rintro e w1 ⟨rfl, hb1⟩
        have hown1 := own_below (hown.alloc (.cells #[.int .i64 x.1, .int .i64 x.2.1, .int .i64 x.2.2] 45)) hb1
        have hb2 := (hb.alloc hz (.cells #[.int .i64 x.1, .int .i64 x.2.1, .int .i64 x.2.2] 45)).trans (hb1.mono (by simp; omega))
        have hzz := hb2.size
        have hown2 := hown1.alloc (.cells #[.int .i64 x.1, .int .i64 x.2.1, .int .i64 x.2.2] 48)
        have hnew := news1 w1 48 x
        clear c0 c1 c2 kc hown1
        go_wp2_with (at_builtin; refine wpList_append_own _ rfl _ _ 22 rfl w.heap.size 48 i0 _ 3 24 Tryz.underlying22 hi0 hz0 hz1 hz2 rfl (by decide) _ _ _ rfl hown2 ⟨w1.heap.size, 0, none⟩ 1 1 (flat [x]) rfl (by simp [flat_len]) hnew (one_flat [x]) (by unfold maxLen; omega) (by omega) (by simp; omega) ?_)
        intro v' w' hown' hgr _
        have hb' : Below w.heap.size w w' := (hb2.alloc hzz _).grown hgr (by simp; omega) (fun q hq => (hown2.lt q hq).1)
        go_wp2_with fail
        go_roundw
        case rel => exact ⟨k + 1, by omega, by go_num, by rw [HT.out, flat_app]; exact hown', hb'⟩
        case measure => simp [intOf]; omega
    · obtain rfl : k = L.length := by omega
      have HT := Lib.hid (show L.take L.length = L from List.take_length)
      go_wp2_with fail
      go_ret
      rw [HT.out] at hown
      exact ⟨_, rfl, set_own hown, hb⟩
end Go.Proofs.YtplldlfbcblncaaGreatDoor.Se
