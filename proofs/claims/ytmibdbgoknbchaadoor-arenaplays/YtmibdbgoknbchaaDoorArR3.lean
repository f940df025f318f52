/- The document's arena: Join. -/
import Derived.Test.YtmibdbgoknbchaaDoorArR2
import Derived.Deep.RegionHeld3
namespace Go.Proofs.YtmibdbgoknbchaaDoor.Ar
open Go.RowKit Go.Proofs.YtmibdbgoknbchaaDoor.Ba Go.Proofs.YtmibdbgoknbchaaDoor.Mp Go.Lib Go.Maps

def atR (L : List RN) (i : Int) : RN := (L[i.toNat]?).getD rn0
def kok (L : List RN) (k0 i : Int) : Bool := decide (0 ≤ i) && (decide (i < (L.length : Int)) && decide ((atR L i).level = (atR L k0).level))
def ksum (L : List RN) (ks : List Int) : Nat := ks.foldl (fun c i => min (c + (atR L i).count) 4611686018427387904) 0
def joinRR (L : List RN) (most a b c d : Int) : List RN × Int × Int :=
  if [a, b, c, d].all (kok L a) then (if 43 < (atR L a).level then (L, 0, 7) else addRR L most ⟨(atR L a).level + 1, 0, a, b, c, d, ksum L [a, b, c, d]⟩) else (L, 0, 4)
theorem ksum_le (L : List RN) (l : List Int) : ksum L l ≤ 4611686018427387904 := by
  unfold ksum
  have : ∀ (l : List Int) (c : Nat), c ≤ 4611686018427387904 → l.foldl (fun c i => min (c + (atR L i).count) 4611686018427387904) c ≤ 4611686018427387904 := by
    intro l
    induction l with
    | nil => intro c hc; exact hc
    | cons a l ih => intro c hc; exact ih _ (Nat.min_le_right _ _)
  exact this l 0 (by omega)
theorem ksum_next (L : List RN) (l : List Int) (i : Int) : ksum L (l ++ [i]) = min (ksum L l + (atR L i).count) 4611686018427387904 := by
  unfold ksum
  rw [List.foldl_append]
  rfl
theorem jx0 (a b c d : Int) (w : World) : (Instr.index 36 (.agg #[.int .i64 a, .int .i64 b, .int .i64 c, .int .i64 d]) (.int .i64 0)).run Tryd.prog w = .ok (.int .i64 a) w := by kernel_rfl
theorem jx1 (a b c d : Int) (w : World) : (Instr.index 36 (.agg #[.int .i64 a, .int .i64 b, .int .i64 c, .int .i64 d]) (.int .i64 1)).run Tryd.prog w = .ok (.int .i64 b) w := by kernel_rfl
theorem jx2 (a b c d : Int) (w : World) : (Instr.index 36 (.agg #[.int .i64 a, .int .i64 b, .int .i64 c, .int .i64 d]) (.int .i64 2)).run Tryd.prog w = .ok (.int .i64 c) w := by kernel_rfl
theorem jx3 (a b c d : Int) (w : World) : (Instr.index 36 (.agg #[.int .i64 a, .int .i64 b, .int .i64 c, .int .i64 d]) (.int .i64 3)).run Tryd.prog w = .ok (.int .i64 d) w := by kernel_rfl
theorem keepJ {W w' : World} {Z g o : Nat} {t t' : TypeId} {v m a b c d lv : Value} (k0 : Blk W Z t #[v, m]) (k1 : Blk W (Z + 1) t' #[a, b, c, d]) (y0 : W.cell? ⟨g, o, none⟩ = some lv) (hg : g < W.heap.size) (hb : Below W.heap.size W w') : w'.cell? ⟨Z, 0, none⟩ = some v ∧ w'.cell? ⟨Z, 1, none⟩ = some m ∧ w'.cell? ⟨Z + 1, 0, none⟩ = some a ∧ w'.cell? ⟨Z + 1, 1, none⟩ = some b ∧ w'.cell? ⟨Z + 1, 2, none⟩ = some c ∧ w'.cell? ⟨Z + 1, 3, none⟩ = some d ∧ w'.cell? ⟨g, o, none⟩ = some lv :=
  ⟨(k0.under hb).cell 0, (k0.under hb).cell 1, (k1.under hb).cell 0, (k1.under hb).cell 1, (k1.under hb).cell 2, (k1.under hb).cell 3, (hb.cell (p := ⟨g, o, none⟩) hg).trans y0⟩
theorem keepJ2 {W w2 : World} {Z g o : Nat} {t t' : TypeId} {v m a b c d lv x y : Value} (k0 : Blk W Z t #[v, m]) (k1 : Blk W (Z + 1) t' #[a, b, c, d]) (y0 : W.cell? ⟨g, o, none⟩ = some lv) (hg : g < W.heap.size) (hb : Below W.heap.size W w2) (hn : g ≠ Z + 1 + 1) : ((w2.setCell ⟨Z + 1 + 1, 0, none⟩ x).setCell ⟨Z + 1 + 1, 1, none⟩ y).cell? ⟨Z, 0, none⟩ = some v ∧ ((w2.setCell ⟨Z + 1 + 1, 0, none⟩ x).setCell ⟨Z + 1 + 1, 1, none⟩ y).cell? ⟨Z, 1, none⟩ = some m ∧ ((w2.setCell ⟨Z + 1 + 1, 0, none⟩ x).setCell ⟨Z + 1 + 1, 1, none⟩ y).cell? ⟨Z + 1, 0, none⟩ = some a ∧ ((w2.setCell ⟨Z + 1 + 1, 0, none⟩ x).setCell ⟨Z + 1 + 1, 1, none⟩ y).cell? ⟨Z + 1, 1, none⟩ = some b ∧ ((w2.setCell ⟨Z + 1 + 1, 0, none⟩ x).setCell ⟨Z + 1 + 1, 1, none⟩ y).cell? ⟨Z + 1, 2, none⟩ = some c ∧ ((w2.setCell ⟨Z + 1 + 1, 0, none⟩ x).setCell ⟨Z + 1 + 1, 1, none⟩ y).cell? ⟨Z + 1, 3, none⟩ = some d ∧ ((w2.setCell ⟨Z + 1 + 1, 0, none⟩ x).setCell ⟨Z + 1 + 1, 1, none⟩ y).cell? ⟨g, o, none⟩ = some lv := by
  have q0 := ((k0.under hb).far (p := ⟨Z + 1 + 1, 0, none⟩) (by dsimp only; omega) x).far (p := ⟨Z + 1 + 1, 1, none⟩) (by dsimp only; omega) y
  have q1 := ((k1.under hb).far (p := ⟨Z + 1 + 1, 0, none⟩) (by dsimp only; omega) x).far (p := ⟨Z + 1 + 1, 1, none⟩) (by dsimp only; omega) y
  refine ⟨q0.cell 0, q0.cell 1, q1.cell 0, q1.cell 1, q1.cell 2, q1.cell 3, ?_⟩
  rw [World.cell?_of_block (a := ⟨g, o, none⟩) (Below.heap_setCell _ _ _ g hn), World.cell?_of_block (a := ⟨g, o, none⟩) (Below.heap_setCell _ _ _ g hn)]
  exact (hb.cell (p := ⟨g, o, none⟩) hg).trans y0
def R11 (w wx : World) (R : List RN × Int × Int) (most : Int) (t5 t6 : Value) : Prop := t5 = .int .i64 R.2.1 ∧ t6 = .int .i64 R.2.2 ∧ ∃ g' cap', Blk wx (w.heap.size + 2) 29 #[.slice (some ⟨g', 0, none⟩) R.1.length cap', .int .i64 most] ∧ RAt wx g' cap' R.1 ∧ Below w.heap.size w wx
def BoxesJ (w wr : World) (g cap : Nat) (L : List RN) (most a b c d : Int) : Prop :=
  Blk wr w.heap.size 29 #[.slice (some ⟨g, 0, none⟩) L.length cap, .int .i64 most] ∧ Blk wr (w.heap.size + 1) 36 #[.int .i64 a, .int .i64 b, .int .i64 c, .int .i64 d] ∧ Blk wr (w.heap.size + 2) 29 #[.slice none 0 0, .int .i64 0] ∧ Below w.heap.size w wr
def JnR (w : World) (g cap : Nat) (L : List RN) (most a b c d : Int) (t7 t11 : Value) (wr : World) : Prop :=
  ∃ m : Nat, m ≤ 4 ∧ t11 = .int .i64 m ∧ t7 = .int .u64 (ksum L ([a, b, c, d].take m) : Nat) ∧ ([a, b, c, d].take m).all (kok L a) = true ∧ BoxesJ w wr g cap L most a b c d
set_option maxRecDepth 100000 in
set_option maxHeartbeats 1000000 in
theorem refjoin_any (g cap : Nat) (L : List RN) (most a b c d : Int) (w : World) (h : RAt w g cap L) (hN : L.length ≤ 100000) (h1 : 0 < L.length) (hL : ∀ x ∈ L, x.count ≤ 4611686018427387904 ∧ 2 ≤ x.level ∧ x.level ≤ 44) :
    Calls Tryd.prog 16 #[AV g cap L most, .agg #[.int .i64 a, .int .i64 b, .int .i64 c, .int .i64 d]] w fun e w' => ∃ g' cap', e = .returned (.tuple #[AV g' cap' (joinRR L most a b c d).1 most, .int .i64 (joinRR L most a b c d).2.1, .int .i64 (joinRR L most a b c d).2.2]) ∧ RAt w' g' cap' (joinRR L most a b c d).1 ∧ Below w.heap.size w w' := by
  have HR := Lib.hid h
  have b0 := ((Blk.newAt w 29 #[.slice (some ⟨g, 0, none⟩) L.length cap, .int .i64 most] _ rfl).alloc (.cells #[.int .i64 a, .int .i64 b, .int .i64 c, .int .i64 d] 36)).alloc (.cells #[.slice none 0 0, .int .i64 0] 29)
  have b1 := (Blk.newAt (w.alloc (.cells #[.slice (some ⟨g, 0, none⟩) L.length cap, .int .i64 most] 29)) 36 #[.int .i64 a, .int .i64 b, .int .i64 c, .int .i64 d] (w.heap.size + 1) (by simp)).alloc (.cells #[.slice none 0 0, .int .i64 0] 29)
  have b2 := Blk.newAt ((w.alloc (.cells #[.slice (some ⟨g, 0, none⟩) L.length cap, .int .i64 most] 29)).alloc (.cells #[.int .i64 a, .int .i64 b, .int .i64 c, .int .i64 d] 36)) 29 #[.slice none 0 0, .int .i64 0] (w.heap.size + 2) (by simp)
  obtain ⟨R, hRe⟩ : ∃ R, joinRR L most a b c d = R := ⟨_, rfl⟩
  rw [hRe]
  have HRe := Lib.hid hRe
  clear hRe h
  unfold AV
  go_enter Tryd.func16, Tryd.ntmps16
  go_wp2_with fail
  go_loopw [7, 11] (fun t7 t11 wr => JnR w g cap L most a b c d t7 t11 wr) (fun _ t11 _ => 4 - (intOf t11).toNat)
  case atStart => exact ⟨0, by omega, rfl, rfl, rfl, b0, b1, b2, by go_grown⟩
  case round =>
    clear b0 b1 b2
    obtain ⟨m, hm, rfl, rfl, hall, k0, k1, k2, hb⟩ := hrel
    have HAll := Lib.hid hall
    clear hall
    have z0 := k0.cell 0
    have z1 := k0.cell 1
    have q0 := k1.cell 0
    have r0 := k2.cell 0
    have r1 := k2.cell 1
    have fr0 := k2.frozen 0
    have fr1 := k2.frozen 1
    simp only [List.getElem?_toArray, List.getElem?_cons_zero, List.getElem?_cons_succ] at z0 z1 q0 r0 r1
    have lz := k0.lt
    have lq := k1.lt
    have lr := k2.lt
    by_cases hlt : m < 4
    · obtain rfl | rfl | rfl | rfl : m = 0 ∨ m = 1 ∨ m = 2 ∨ m = 3 := by omega
      all_goals clear hlt hm
      · have hix := jx0 a b c d
        have HC := Lib.hid (ksum_next L ([a, b, c, d].take 0) a)
        have hcl := ksum_le L ([a, b, c, d].take 0)
        rw [show [a, b, c, d].take 0 ++ [a] = [a, b, c, d].take 1 from rfl] at HC
        generalize ksum L ([a, b, c, d].take 0) = cs at *
        by_cases hlo : a < 0
        · have HB := Lib.hid (show R = (L, 0, 4) by rw [← HRe.out]; unfold joinRR; rw [if_neg]; simp [kok]; omega)
          have hd1 : decide (a < 0) = true := by simpa using hlo
          clear hcl HC HAll hlo hL
          (go_upto_region 5 with fail; go_quiet (fail); go_wp2; exact bodyPost_ret (v := .tuple #[.agg #[.slice (some ⟨g, 0, none⟩) L.length cap, .int .i64 most], .int .i64 0, .int .i64 4]) (by simp [results, Tryd.results16, go_sem, *]) rfl ⟨g, cap, by rw [HB.out], by rw [HB.out]; exact HR.out.below (((below_dr _ hb).setCell (by dsimp only; omega) _).setCell (by dsimp only; omega) _), ((below_dr _ hb).setCell (by dsimp only; omega) _).setCell (by dsimp only; omega) _⟩)
        · by_cases hhi : (L.length : Int) ≤ a
          · have HB := Lib.hid (show R = (L, 0, 4) by rw [← HRe.out]; unfold joinRR; rw [if_neg]; simp [kok]; omega)
            clear hcl HC HAll hL
            (go_upto_region 5 with fail; go_quiet (fail); go_wp2; exact bodyPost_ret (v := .tuple #[.agg #[.slice (some ⟨g, 0, none⟩) L.length cap, .int .i64 most], .int .i64 0, .int .i64 4]) (by simp [results, Tryd.results16, go_sem, *]) rfl ⟨g, cap, by rw [HB.out], by rw [HB.out]; exact HR.out.below (((below_dr _ hb).setCell (by dsimp only; omega) _).setCell (by dsimp only; omega) _), ((below_dr _ hb).setCell (by dsimp only; omega) _).setCell (by dsimp only; omega) _⟩)
          · obtain ⟨x, hx⟩ := Int.eq_ofNat_of_zero_le (show 0 ≤ a by omega)
            obtain ⟨dx, hdx⟩ : ∃ e, L[x]? = some e := ⟨_, List.getElem?_eq_getElem (show x < L.length by omega)⟩
            have hax : atR L a = dx := by unfold atR; rw [hx]; simp [hdx]
            have HA1 := Lib.hid (show ([a, b, c, d].take 1).all (kok L a) = true by simp [kok]; omega)
            have hcx := (hL dx (List.mem_of_getElem? hdx)).1
            have hra := HR.out.below hb
            obtain ⟨x0, _, _, _, _, _, x6⟩ := hra.node hdx
            have hgl := hra.2.2
            rw [hax] at HC
            have hxi : (x : Int) < (L.length : Int) := by omega
            have hx0 : (0 : Int) ≤ (x : Int) := by omega
            have hx1 : ¬ (L.length : Int) ≤ (x : Int) := by omega
            have hx2 : decide ((L.length : Int) ≤ (x : Int)) = false := by simpa using hx1
            have hx3 : ¬ (x : Int) < 0 := by omega
            have hx4 : decide ((x : Int) < 0) = false := by simp
            clear hra hL HAll hlo hhi
            subst hx
            go_upto_region 5 with fail
            go_quiet (fail)
            go_wp2
            all_goals refine ⟨⟨1, by omega, by go_num, ?_, HA1.out, k0.drewN _, k1.drewN _, k2.drewN _, below_dr _ hb⟩, by simp [intOf]⟩
            all_goals rw [HC.out]
            all_goals congr 1
            all_goals omega
      · have hix := jx1 a b c d
        have HC := Lib.hid (ksum_next L ([a, b, c, d].take 1) b)
        have hcl := ksum_le L ([a, b, c, d].take 1)
        rw [show [a, b, c, d].take 1 ++ [b] = [a, b, c, d].take 2 from rfl] at HC
        generalize ksum L ([a, b, c, d].take 1) = cs at *
        by_cases hlo : b < 0
        · have HB := Lib.hid (show R = (L, 0, 4) by rw [← HRe.out]; unfold joinRR; rw [if_neg]; simp [kok]; omega)
          have hd1 : decide (b < 0) = true := by simpa using hlo
          clear hcl HC HAll hlo hL
          (go_upto_region 5 with fail; go_quiet (fail); go_wp2; exact bodyPost_ret (v := .tuple #[.agg #[.slice (some ⟨g, 0, none⟩) L.length cap, .int .i64 most], .int .i64 0, .int .i64 4]) (by simp [results, Tryd.results16, go_sem, *]) rfl ⟨g, cap, by rw [HB.out], by rw [HB.out]; exact HR.out.below (((below_dr _ hb).setCell (by dsimp only; omega) _).setCell (by dsimp only; omega) _), ((below_dr _ hb).setCell (by dsimp only; omega) _).setCell (by dsimp only; omega) _⟩)
        · by_cases hhi : (L.length : Int) ≤ b
          · have HB := Lib.hid (show R = (L, 0, 4) by rw [← HRe.out]; unfold joinRR; rw [if_neg]; simp [kok]; omega)
            clear hcl HC HAll hL
            (go_upto_region 5 with fail; go_quiet (fail); go_wp2; exact bodyPost_ret (v := .tuple #[.agg #[.slice (some ⟨g, 0, none⟩) L.length cap, .int .i64 most], .int .i64 0, .int .i64 4]) (by simp [results, Tryd.results16, go_sem, *]) rfl ⟨g, cap, by rw [HB.out], by rw [HB.out]; exact HR.out.below (((below_dr _ hb).setCell (by dsimp only; omega) _).setCell (by dsimp only; omega) _), ((below_dr _ hb).setCell (by dsimp only; omega) _).setCell (by dsimp only; omega) _⟩)
          · obtain ⟨x, hx⟩ := Int.eq_ofNat_of_zero_le (show 0 ≤ b by omega)
            obtain ⟨dx, hdx⟩ : ∃ e, L[x]? = some e := ⟨_, List.getElem?_eq_getElem (show x < L.length by omega)⟩
            have hall := HAll.out
            have hra0 : kok L a a = true := List.all_eq_true.1 hall a (by simp)
            have hra1 : 0 ≤ a ∧ a < (L.length : Int) := by simp [kok] at hra0; exact hra0
            obtain ⟨y, hy⟩ := Int.eq_ofNat_of_zero_le hra1.1
            obtain ⟨dy, hdy⟩ : ∃ e, L[y]? = some e := ⟨_, List.getElem?_eq_getElem (show y < L.length by omega)⟩
            have hax : atR L b = dx := by unfold atR; rw [hx]; simp [hdx]
            have hay : atR L a = dy := by unfold atR; rw [hy]; simp [hdy]
            have hcx := (hL dx (List.mem_of_getElem? hdx)).1
            have hra := HR.out.below hb
            obtain ⟨x0, _, _, _, _, _, x6⟩ := hra.node hdx
            obtain ⟨y0, _⟩ := hra.node hdy
            have hgl := hra.2.2
            rw [hax] at HC
            have hxi : (x : Int) < (L.length : Int) := by omega
            have hx0 : (0 : Int) ≤ (x : Int) := by omega
            have hx1 : ¬ (L.length : Int) ≤ (x : Int) := by omega
            have hx2 : decide ((L.length : Int) ≤ (x : Int)) = false := by simpa using hx1
            have hx3 : ¬ (x : Int) < 0 := by omega
            have hx4 : decide ((x : Int) < 0) = false := by simp
            have hyi : (y : Int) < (L.length : Int) := by omega
            have hy0 : (0 : Int) ≤ (y : Int) := by omega
            have hy1 : ¬ (L.length : Int) ≤ (y : Int) := by omega
            have hy2 : decide ((L.length : Int) ≤ (y : Int)) = false := by simpa using hy1
            have hy3 : ¬ (y : Int) < 0 := by omega
            have hy4 : decide ((y : Int) < 0) = false := by simp
            by_cases he : dx.level = dy.level
            · have HA1 := Lib.hid (show ([a, b, c, d].take 2).all (kok L a) = true by
                have hk : kok L a b = true := by simp [kok, hax, hay, he]; omega
                rw [show [a, b, c, d].take 2 = [a, b, c, d].take 1 ++ [b] from rfl, List.all_append, hall]
                simp [hk])
              have hne : (dx.level != dy.level) = false := by simp [he]
              clear hra hL HAll hlo hhi hall hra0 hra1 hax hay he
              subst hx hy
              go_upto_region 5 with fail
              go_quiet (fail)
              go_wp2
              all_goals refine ⟨⟨2, by omega, by go_num, ?_, HA1.out, k0.drewN _, k1.drewN _, k2.drewN _, below_dr _ hb⟩, by simp [intOf]⟩
              all_goals rw [HC.out]
              all_goals congr 1
              all_goals omega
            · have HB := Lib.hid (show R = (L, 0, 4) by rw [← HRe.out]; unfold joinRR; rw [if_neg]; simp [kok, hax, hay, he])
              have hne : (dx.level != dy.level) = true := by simp [he]
              clear hra hL HAll hlo hhi hall hra0 hra1 hax hay he HC hcl hcx
              subst hx hy
              (go_upto_region 5 with fail; go_quiet (fail); go_wp2; exact bodyPost_ret (v := .tuple #[.agg #[.slice (some ⟨g, 0, none⟩) L.length cap, .int .i64 most], .int .i64 0, .int .i64 4]) (by simp [results, Tryd.results16, go_sem, *]) rfl ⟨g, cap, by rw [HB.out], by rw [HB.out]; exact HR.out.below (((below_dr _ hb).setCell (by dsimp only; omega) _).setCell (by dsimp only; omega) _), ((below_dr _ hb).setCell (by dsimp only; omega) _).setCell (by dsimp only; omega) _⟩)
      · have hix := jx2 a b c d
        have HC := Lib.hid (ksum_next L ([a, b, c, d].take 2) c)
        have hcl := ksum_le L ([a, b, c, d].take 2)
        rw [show [a, b, c, d].take 2 ++ [c] = [a, b, c, d].take 3 from rfl] at HC
        generalize ksum L ([a, b, c, d].take 2) = cs at *
        by_cases hlo : c < 0
        · have HB := Lib.hid (show R = (L, 0, 4) by rw [← HRe.out]; unfold joinRR; rw [if_neg]; simp [kok]; omega)
          have hd1 : decide (c < 0) = true := by simpa using hlo
          clear hcl HC HAll hlo hL
          (go_upto_region 5 with fail; go_quiet (fail); go_wp2; exact bodyPost_ret (v := .tuple #[.agg #[.slice (some ⟨g, 0, none⟩) L.length cap, .int .i64 most], .int .i64 0, .int .i64 4]) (by simp [results, Tryd.results16, go_sem, *]) rfl ⟨g, cap, by rw [HB.out], by rw [HB.out]; exact HR.out.below (((below_dr _ hb).setCell (by dsimp only; omega) _).setCell (by dsimp only; omega) _), ((below_dr _ hb).setCell (by dsimp only; omega) _).setCell (by dsimp only; omega) _⟩)
        · by_cases hhi : (L.length : Int) ≤ c
          · have HB := Lib.hid (show R = (L, 0, 4) by rw [← HRe.out]; unfold joinRR; rw [if_neg]; simp [kok]; omega)
            clear hcl HC HAll hL
            (go_upto_region 5 with fail; go_quiet (fail); go_wp2; exact bodyPost_ret (v := .tuple #[.agg #[.slice (some ⟨g, 0, none⟩) L.length cap, .int .i64 most], .int .i64 0, .int .i64 4]) (by simp [results, Tryd.results16, go_sem, *]) rfl ⟨g, cap, by rw [HB.out], by rw [HB.out]; exact HR.out.below (((below_dr _ hb).setCell (by dsimp only; omega) _).setCell (by dsimp only; omega) _), ((below_dr _ hb).setCell (by dsimp only; omega) _).setCell (by dsimp only; omega) _⟩)
          · obtain ⟨x, hx⟩ := Int.eq_ofNat_of_zero_le (show 0 ≤ c by omega)
            obtain ⟨dx, hdx⟩ : ∃ e, L[x]? = some e := ⟨_, List.getElem?_eq_getElem (show x < L.length by omega)⟩
            have hall := HAll.out
            have hra0 : kok L a a = true := List.all_eq_true.1 hall a (by simp)
            have hra1 : 0 ≤ a ∧ a < (L.length : Int) := by simp [kok] at hra0; exact hra0
            obtain ⟨y, hy⟩ := Int.eq_ofNat_of_zero_le hra1.1
            obtain ⟨dy, hdy⟩ : ∃ e, L[y]? = some e := ⟨_, List.getElem?_eq_getElem (show y < L.length by omega)⟩
            have hax : atR L c = dx := by unfold atR; rw [hx]; simp [hdx]
            have hay : atR L a = dy := by unfold atR; rw [hy]; simp [hdy]
            have hcx := (hL dx (List.mem_of_getElem? hdx)).1
            have hra := HR.out.below hb
            obtain ⟨x0, _, _, _, _, _, x6⟩ := hra.node hdx
            obtain ⟨y0, _⟩ := hra.node hdy
            have hgl := hra.2.2
            rw [hax] at HC
            have hxi : (x : Int) < (L.length : Int) := by omega
            have hx0 : (0 : Int) ≤ (x : Int) := by omega
            have hx1 : ¬ (L.length : Int) ≤ (x : Int) := by omega
            have hx2 : decide ((L.length : Int) ≤ (x : Int)) = false := by simpa using hx1
            have hx3 : ¬ (x : Int) < 0 := by omega
            have hx4 : decide ((x : Int) < 0) = false := by simp
            have hyi : (y : Int) < (L.length : Int) := by omega
            have hy0 : (0 : Int) ≤ (y : Int) := by omega
            have hy1 : ¬ (L.length : Int) ≤ (y : Int) := by omega
            have hy2 : decide ((L.length : Int) ≤ (y : Int)) = false := by simpa using hy1
            have hy3 : ¬ (y : Int) < 0 := by omega
            have hy4 : decide ((y : Int) < 0) = false := by simp
            by_cases he : dx.level = dy.level
            · have HA1 := Lib.hid (show ([a, b, c, d].take 3).all (kok L a) = true by
                have hk : kok L a c = true := by simp [kok, hax, hay, he]; omega
                rw [show [a, b, c, d].take 3 = [a, b, c, d].take 2 ++ [c] from rfl, List.all_append, hall]
                simp [hk])
              have hne : (dx.level != dy.level) = false := by simp [he]
              clear hra hL HAll hlo hhi hall hra0 hra1 hax hay he
              subst hx hy
              go_upto_region 5 with fail
              go_quiet (fail)
              go_wp2
              all_goals refine ⟨⟨3, by omega, by go_num, ?_, HA1.out, k0.drewN _, k1.drewN _, k2.drewN _, below_dr _ hb⟩, by simp [intOf]⟩
              all_goals rw [HC.out]
              all_goals congr 1
              all_goals omega
            · have HB := Lib.hid (show R = (L, 0, 4) by rw [← HRe.out]; unfold joinRR; rw [if_neg]; simp [kok, hax, hay, he])
              have hne : (dx.level != dy.level) = true := by simp [he]
              clear hra hL HAll hlo hhi hall hra0 hra1 hax hay he HC hcl hcx
              subst hx hy
              (go_upto_region 5 with fail; go_quiet (fail); go_wp2; exact bodyPost_ret (v := .tuple #[.agg #[.slice (some ⟨g, 0, none⟩) L.length cap, .int .i64 most], .int .i64 0, .int .i64 4]) (by simp [results, Tryd.results16, go_sem, *]) rfl ⟨g, cap, by rw [HB.out], by rw [HB.out]; exact HR.out.below (((below_dr _ hb).setCell (by dsimp only; omega) _).setCell (by dsimp only; omega) _), ((below_dr _ hb).setCell (by dsimp only; omega) _).setCell (by dsimp only; omega) _⟩)
      · have hix := jx3 a b c d
        have HC := Lib.hid (ksum_next L ([a, b, c, d].take 3) d)
        have hcl := ksum_le L ([a, b, c, d].take 3)
        rw [show [a, b, c, d].take 3 ++ [d] = [a, b, c, d].take 4 from rfl] at HC
        generalize ksum L ([a, b, c, d].take 3) = cs at *
        by_cases hlo : d < 0
        · have HB := Lib.hid (show R = (L, 0, 4) by rw [← HRe.out]; unfold joinRR; rw [if_neg]; simp [kok]; omega)
          have hd1 : decide (d < 0) = true := by simpa using hlo
          clear hcl HC HAll hlo hL
          (go_upto_region 5 with fail; go_quiet (fail); go_wp2; exact bodyPost_ret (v := .tuple #[.agg #[.slice (some ⟨g, 0, none⟩) L.length cap, .int .i64 most], .int .i64 0, .int .i64 4]) (by simp [results, Tryd.results16, go_sem, *]) rfl ⟨g, cap, by rw [HB.out], by rw [HB.out]; exact HR.out.below (((below_dr _ hb).setCell (by dsimp only; omega) _).setCell (by dsimp only; omega) _), ((below_dr _ hb).setCell (by dsimp only; omega) _).setCell (by dsimp only; omega) _⟩)
        · by_cases hhi : (L.length : Int) ≤ d
          · have HB := Lib.hid (show R = (L, 0, 4) by rw [← HRe.out]; unfold joinRR; rw [if_neg]; simp [kok]; omega)
            clear hcl HC HAll hL
            (go_upto_region 5 with fail; go_quiet (fail); go_wp2; exact bodyPost_ret (v := .tuple #[.agg #[.slice (some ⟨g, 0, none⟩) L.length cap, .int .i64 most], .int .i64 0, .int .i64 4]) (by simp [results, Tryd.results16, go_sem, *]) rfl ⟨g, cap, by rw [HB.out], by rw [HB.out]; exact HR.out.below (((below_dr _ hb).setCell (by dsimp only; omega) _).setCell (by dsimp only; omega) _), ((below_dr _ hb).setCell (by dsimp only; omega) _).setCell (by dsimp only; omega) _⟩)
          · obtain ⟨x, hx⟩ := Int.eq_ofNat_of_zero_le (show 0 ≤ d by omega)
            obtain ⟨dx, hdx⟩ : ∃ e, L[x]? = some e := ⟨_, List.getElem?_eq_getElem (show x < L.length by omega)⟩
            have hall := HAll.out
            have hra0 : kok L a a = true := List.all_eq_true.1 hall a (by simp)
            have hra1 : 0 ≤ a ∧ a < (L.length : Int) := by simp [kok] at hra0; exact hra0
            obtain ⟨y, hy⟩ := Int.eq_ofNat_of_zero_le hra1.1
            obtain ⟨dy, hdy⟩ : ∃ e, L[y]? = some e := ⟨_, List.getElem?_eq_getElem (show y < L.length by omega)⟩
            have hax : atR L d = dx := by unfold atR; rw [hx]; simp [hdx]
            have hay : atR L a = dy := by unfold atR; rw [hy]; simp [hdy]
            have hcx := (hL dx (List.mem_of_getElem? hdx)).1
            have hra := HR.out.below hb
            obtain ⟨x0, _, _, _, _, _, x6⟩ := hra.node hdx
            obtain ⟨y0, _⟩ := hra.node hdy
            have hgl := hra.2.2
            rw [hax] at HC
            have hxi : (x : Int) < (L.length : Int) := by omega
            have hx0 : (0 : Int) ≤ (x : Int) := by omega
            have hx1 : ¬ (L.length : Int) ≤ (x : Int) := by omega
            have hx2 : decide ((L.length : Int) ≤ (x : Int)) = false := by simpa using hx1
            have hx3 : ¬ (x : Int) < 0 := by omega
            have hx4 : decide ((x : Int) < 0) = false := by simp
            have hyi : (y : Int) < (L.length : Int) := by omega
            have hy0 : (0 : Int) ≤ (y : Int) := by omega
            have hy1 : ¬ (L.length : Int) ≤ (y : Int) := by omega
            have hy2 : decide ((L.length : Int) ≤ (y : Int)) = false := by simpa using hy1
            have hy3 : ¬ (y : Int) < 0 := by omega
            have hy4 : decide ((y : Int) < 0) = false := by simp
            by_cases he : dx.level = dy.level
            · have HA1 := Lib.hid (show ([a, b, c, d].take 4).all (kok L a) = true by
                have hk : kok L a d = true := by simp [kok, hax, hay, he]; omega
                rw [show [a, b, c, d].take 4 = [a, b, c, d].take 3 ++ [d] from rfl, List.all_append, hall]
                simp [hk])
              have hne : (dx.level != dy.level) = false := by simp [he]
              clear hra hL HAll hlo hhi hall hra0 hra1 hax hay he
              subst hx hy
              go_upto_region 5 with fail
              go_quiet (fail)
              go_wp2
              all_goals refine ⟨⟨4, by omega, by go_num, ?_, HA1.out, k0.drewN _, k1.drewN _, k2.drewN _, below_dr _ hb⟩, by simp [intOf]⟩
              all_goals rw [HC.out]
              all_goals congr 1
              all_goals omega
            · have HB := Lib.hid (show R = (L, 0, 4) by rw [← HRe.out]; unfold joinRR; rw [if_neg]; simp [kok, hax, hay, he])
              have hne : (dx.level != dy.level) = true := by simp [he]
              clear hra hL HAll hlo hhi hall hra0 hra1 hax hay he HC hcl hcx
              subst hx hy
              (go_upto_region 5 with fail; go_quiet (fail); go_wp2; exact bodyPost_ret (v := .tuple #[.agg #[.slice (some ⟨g, 0, none⟩) L.length cap, .int .i64 most], .int .i64 0, .int .i64 4]) (by simp [results, Tryd.results16, go_sem, *]) rfl ⟨g, cap, by rw [HB.out], by rw [HB.out]; exact HR.out.below (((below_dr _ hb).setCell (by dsimp only; omega) _).setCell (by dsimp only; omega) _), ((below_dr _ hb).setCell (by dsimp only; omega) _).setCell (by dsimp only; omega) _⟩)
    · obtain rfl : m = 4 := by omega
      clear hlt hm
      have hall : [a, b, c, d].all (kok L a) = true := HAll.out
      have hra0 : kok L a a = true := List.all_eq_true.1 hall a (by simp)
      have hra1 : 0 ≤ a ∧ a < (L.length : Int) := by simp [kok] at hra0; exact hra0
      obtain ⟨y, hy⟩ := Int.eq_ofNat_of_zero_le hra1.1
      obtain ⟨dy, hdy⟩ : ∃ e, L[y]? = some e := ⟨_, List.getElem?_eq_getElem (show y < L.length by omega)⟩
      have hay : atR L a = dy := by unfold atR; rw [hy]; simp [hdy]
      have hra := HR.out.below hb
      obtain ⟨y0, _⟩ := hra.node hdy
      have hgl := hra.2.2
      have hyi : (y : Int) < (L.length : Int) := by omega
      have hy0 : (0 : Int) ≤ (y : Int) := by omega
      have hlv := (hL dy (List.mem_of_getElem? hdy)).2
      have hcl := ksum_le L [a, b, c, d]
      have HJ := Lib.hid (show R = if 43 < dy.level then (L, 0, 7) else addRR L most ⟨dy.level + 1, 0, a, b, c, d, ksum L [a, b, c, d]⟩ by rw [← HRe.out]; unfold joinRR; rw [if_pos hall, hay])
      rw [show [a, b, c, d].take 4 = [a, b, c, d] from rfl]
      generalize ksum L [a, b, c, d] = cs at *
      by_cases h43 : 43 < dy.level
      · rw [if_pos h43] at HJ
        clear hall hra0 hra1 hay HAll hL hra hcl
        subst hy
        go_wp2
        exact bodyPost_ret (v := .tuple #[.agg #[.slice (some ⟨g, 0, none⟩) L.length cap, .int .i64 most], .int .i64 0, .int .i64 7]) (by simp [results, Tryd.results16, go_sem, *]) rfl ⟨g, cap, by rw [HJ.out], by rw [HJ.out]; exact HR.out.below ((hb.setCell (by dsimp only; omega) _).setCell (by dsimp only; omega) _), (hb.setCell (by dsimp only; omega) _).setCell (by dsimp only; omega) _⟩
      · rw [if_neg h43] at HJ
        have had := refadd_any g cap L most ⟨dy.level + 1, 0, a, b, c, d, cs⟩ wr.drew (hra.below (below_dr 1 (Below.refl _ _))) hN
        rw [← HJ.out] at had
        have hrl : 0 < R.1.length := by rw [HJ.out]; have := (addRR_len L most ⟨dy.level + 1, 0, a, b, c, d, cs⟩).1; omega
        have q1 := k1.cell 1
        have q2 := k1.cell 2
        have q3 := k1.cell 3
        simp only [List.getElem?_toArray, List.getElem?_cons_zero, List.getElem?_cons_succ] at q1 q2 q3
        have HK2 := Lib.hid k2
        have HRB := Lib.hid hra
        have hgo : g ≠ w.heap.size + 1 + 1 := hra.ne h1 r0
        clear hall hra0 hra1 hay HAll hL hra hcl k2 had
        subst hy
        have hwl : IntKind.i64.wrap (dy.level + 1) = dy.level + 1 := by rw [IntKind.wrap_i64]; omega
        have hadd := refadd_any g cap L most ⟨dy.level + 1, 0, (y : Int), b, c, d, cs⟩ wr.drew (HRB.out.below (below_dr 1 (Below.refl _ _))) hN
        rw [← HJ.out] at hadd
        unfold AV at hadd
        have hadd' : Calls Tryd.prog 28 #[.agg #[.slice (some ⟨g, 0, none⟩) L.length cap, .int .i64 most], .agg #[.int .i64 (dy.level + 1), .int .u32 0, .int .i64 y, .int .i64 b, .int .i64 c, .int .i64 d, .int .u64 cs]] wr.drew _ := hadd
        clear hadd
        go_upto_region 11 with fail
        have hkb : Below wr.heap.size wr wr := Below.refl _ _
        go_cut [5, 6] (fun t5 t6 wx => R11 w wx R most t5 t6)
        case first =>
          go_region_held3 (fun w' => w'.cell? ⟨w.heap.size, 0, none⟩ = some (.slice (some ⟨g, 0, none⟩) L.length cap) ∧ w'.cell? ⟨w.heap.size, 1, none⟩ = some (.int .i64 most) ∧ w'.cell? ⟨w.heap.size + 1, 0, none⟩ = some (.int .i64 y) ∧ w'.cell? ⟨w.heap.size + 1, 1, none⟩ = some (.int .i64 b) ∧ w'.cell? ⟨w.heap.size + 1, 2, none⟩ = some (.int .i64 c) ∧ w'.cell? ⟨w.heap.size + 1, 3, none⟩ = some (.int .i64 d) ∧ w'.cell? ⟨g, y * 7, none⟩ = some (.int .i64 dy.level)) (first | (refine keepJ k0 k1 y0 hgl ?_; go_grown; done) | exact keepJ2 k0 k1 y0 hgl hkb hgo)
            (first | (go_at_call 28; (with_reducible refine hadd'.mono ?_); rintro e w2 ⟨g', cap', rfl, hra2, hb2⟩; have hkb : Below wr.heap.size wr w2 := below_call hb2 (by go_grown) (by first | exact Nat.le_refl _ | go_size); have d1 := HK2.out.under hkb; have s0 := d1.cell 0; have s1 := d1.cell 1; have fs0 := d1.frozen 0; have fs1 := d1.frozen 1; simp only [List.getElem?_toArray, List.getElem?_cons_zero, List.getElem?_cons_succ] at s0 s1; have lr2 := d1.lt; have HRA := Lib.hid hra2; clear hra2 hb2))
          all_goals go_wp2_with fail
          all_goals go_meet
          all_goals
            have hgn : g' ≠ w.heap.size + 2 := HRA.out.ne hrl s0
            exact ⟨rfl, rfl, g', cap', (d1.set_ 0 _).set_ 1 _, RAt.set (RAt.set HRA.out (by dsimp only; omega) _) (by dsimp only; omega) _, ((hb.trans (hkb.mono hb.size)).setCell (by dsimp only; omega) _).setCell (by dsimp only; omega) _⟩
        case rest =>
          obtain ⟨rfl, rfl, g', cap', k2', hra', hb'⟩ := hcut
          have s0 := k2'.cell 0
          have s1 := k2'.cell 1
          simp only [List.getElem?_toArray, List.getElem?_cons_zero, List.getElem?_cons_succ] at s0 s1
          have lr2 := k2'.lt
          clear k2' k0 k1 hadd'
          go_wp2
          exact bodyPost_ret (v := .tuple #[.agg #[.slice (some ⟨g', 0, none⟩) R.1.length cap', .int .i64 most], .int .i64 R.2.1, .int .i64 R.2.2]) (by simp [results, Tryd.results16, go_sem, *]) rfl ⟨g', cap', rfl, hra', hb'⟩
end Go.Proofs.YtmibdbgoknbchaaDoor.Ar
