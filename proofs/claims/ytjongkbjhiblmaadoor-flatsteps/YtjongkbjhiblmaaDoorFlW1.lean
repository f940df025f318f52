/- Contracts of package flat: share. -/
import Derived.Test.YtjongkbjhiblmaaDoorCeW5
import Derived.Test.YtjongkbjhiblmaaDoorFlM
import Derived.Test.YtjongkbjhiblmaaDoorCeK
import Derived.Deep.RegionHeld3
namespace Go.Proofs.YtjongkbjhiblmaaDoor.Fl
open Go.RowKit Go.Proofs.YtjongkbjhiblmaaDoor.Ax Go.Proofs.YtjongkbjhiblmaaDoor.Ce Go.Proofs.YtjongkbjhiblmaaDoor.Mp Go.Lib

theorem six_at : ∀ k : Fin 6, sixIx (sX k.val) (sY k.val) = k.val := by decide
theorem share_hex {x y : Int} {n : Int} (h0 : 0 ≤ n) (h6 : n < 6) (hx : x = sX n.toNat) (hy : y = sY n.toNat) : (sixIx x y : Int) = n := by
  have := six_at ⟨n.toNat, by omega⟩
  rw [hx, hy, this]
  show ((n.toNat : Nat) : Int) = n
  omega
theorem inSix_of_bes {a b h a' b' h' : Int} (hm : (a', b', h') ∈ Ce.besAll 1 a b h) : inSix (a - a') (b - b') = true := by
  have h1 : touchB 1 a b h a' b' h' = true := by
    unfold Ce.besAll bes at hm
    exact (List.mem_filter.1 hm).2
  have h2 : inSix (a' - a) (b' - b) = true := by simpa [touchB] using h1
  unfold inSix at h2 ⊢
  simp only [decide_eq_true_eq] at h2 ⊢
  omega
theorem share_tri (l : Int) (c d : C) (w : World) (hl : l = 2 ∨ l = 3) :
    Calls Tryd.prog 52 #[.int .i64 l, Ce c.1 c.2.1 c.2.2, Ce d.1 d.2.1 d.2.2] w fun e w' => e = .returned (.int .i64 (shareN l c d : Nat)) ∧ Below w.heap.size w w' := by
  have e : shareN l c d = 1 := by unfold shareN; rw [if_neg (by omega)]
  rw [e]
  rcases hl with rfl | rfl
  all_goals
    go_enter Tryd.func52, Tryd.ntmps52
    go_wp2
    go_ret
    exact ⟨rfl, by go_grown⟩
set_option maxRecDepth 100000 in
set_option maxHeartbeats 2000000 in
theorem share_hx (c d : C) (w : World) (hs : SixIs w) (hc : (-8796093022208 ≤ c.1 ∧ c.1 ≤ 8796093022208) ∧ (-8796093022208 ≤ c.2.1 ∧ c.2.1 ≤ 8796093022208)) (hd : (-8796093022208 ≤ d.1 ∧ d.1 ≤ 8796093022208) ∧ (-8796093022208 ≤ d.2.1 ∧ d.2.1 ≤ 8796093022208)) (hin : inSix (c.1 - d.1) (c.2.1 - d.2.1) = true) :
    Calls Tryd.prog 52 #[.int .i64 1, Ce c.1 c.2.1 c.2.2, Ce d.1 d.2.1 d.2.2] w fun e w' => e = .returned (.int .i64 (shareN 1 c d : Nat)) ∧ Below w.heap.size w w' := by
  obtain ⟨a, b, h⟩ := c
  obtain ⟨a', b', h'⟩ := d
  dsimp only at hc hd hin ⊢
  obtain ⟨⟨a1, a2⟩, b1, b2⟩ := hc
  obtain ⟨⟨c1, c2⟩, d1, d2⟩ := hd
  have HSh := Lib.hid (show shareN 1 (a, b, h) (a', b', h') = 2 ^ sixIx (a - a') (b - b') by unfold shareN; rw [if_pos rfl])
  generalize shareN 1 (a, b, h) (a', b', h') = sh at *
  have HIn := Lib.hid hin
  clear hin
  have k0 := (Ba.Blk.newAt w 56 #[.int .i64 a, .int .i64 b, .int .i64 h] _ rfl).alloc (.cells #[.int .i64 a', .int .i64 b', .int .i64 h'] 56)
  have k1 := Ba.Blk.newAt (w.alloc (.cells #[.int .i64 a, .int .i64 b, .int .i64 h] 56)) 56 #[.int .i64 a', .int .i64 b', .int .i64 h'] (w.heap.size + 1) (by simp)
  go_enter Tryd.func52, Tryd.ntmps52
  go_wp2_with fail
  refine (six_any _ (hs.below (by go_grown))).mono ?_
  rintro e w1 ⟨rfl, hb⟩
  have k0 := (k0.under hb).alloc (.cells sixCells 118)
  have k1 := (k1.under hb).alloc (.cells sixCells 118)
  have hb_w1 := below_call (B := w.heap.size) (w := w) hb (by go_grown) (by go_size)
  clear hb
  unfold sixCells
  go_upto_region 4 with fail
  have hsl := slice6
  have hS : SixAt w1.heap.size (w1.alloc (.cells sixCells 118)) := ⟨fun k hk => by
    have : k = 0 ∨ k = 1 ∨ k = 2 ∨ k = 3 ∨ k = 4 ∨ k = 5 := by omega
    rcases this with rfl | rfl | rfl | rfl | rfl | rfl <;> simp [go_sem, sixCells, sX, sY], by simp⟩
  have hbn : Below w.heap.size w (w1.alloc (.cells sixCells 118)) := hb_w1.alloc hb_w1.size _
  have q0 : (w1.alloc (.cells sixCells 118)).cell? ⟨w.heap.size, 0, none⟩ = some (.int .i64 a) := k0.cell 0
  have q1 : (w1.alloc (.cells sixCells 118)).cell? ⟨w.heap.size, 1, none⟩ = some (.int .i64 b) := k0.cell 1
  have q2 : (w1.alloc (.cells sixCells 118)).cell? ⟨w.heap.size + 1, 0, none⟩ = some (.int .i64 a') := k1.cell 0
  have q3 : (w1.alloc (.cells sixCells 118)).cell? ⟨w.heap.size + 1, 1, none⟩ = some (.int .i64 b') := k1.cell 1
  have hlt : w.heap.size + 1 < (w1.alloc (.cells sixCells 118)).heap.size := k1.lt
  clear k0 k1
  unfold sixCells at hS hbn q0 q1 q2 q3 hlt
  generalize hP : w1.heap.size = B at *
  generalize (w1.alloc _) = W at *
  clear hb_w1 hP hs
  have x1 : IntKind.i64.wrap (a - a') = a - a' := IntWalk.i64_in _ (by omega)
  have x2 : IntKind.i64.wrap (b - b') = b - b' := IntWalk.i64_in _ (by omega)
  have hl0 : w.heap.size < W.drew.heap.size := show w.heap.size < W.heap.size by omega
  replace hlt : w.heap.size + 1 < W.drew.heap.size := hlt
  replace hbn : Below w.heap.size w W.drew := hbn.trans ⟨rfl, rfl, rfl, Nat.le_refl _, fun _ _ => rfl⟩
  replace hS : SixAt B W.drew := hS.below ⟨rfl, rfl, rfl, Nat.le_refl _, fun _ _ => rfl⟩
  go_region_held3 (fun w' => w'.cell? ⟨w.heap.size, 0, none⟩ = some (.int .i64 a) ∧ w'.cell? ⟨w.heap.size, 1, none⟩ = some (.int .i64 b) ∧ w'.cell? ⟨w.heap.size + 1, 0, none⟩ = some (.int .i64 a') ∧ w'.cell? ⟨w.heap.size + 1, 1, none⟩ = some (.int .i64 b') ∧ Below w.heap.size w w') (first | exact ⟨q0, q1, q2, q3, hbn⟩)
    (first | (go_at_call 75; refine (index_six B (a - a') (b - b') _ hS).mono ?_; rintro e w7 ⟨n, rfl, hi, hb7, hn⟩; have hn0 : 0 ≤ n := (by have := HIn.out; rw [hi] at this; simpa using this); have hn' := hn hn0; have hn6 := hn'.1; have HN := Lib.hid (share_hex hn0 hn'.1 hn'.2.1 hn'.2.2); clear hn hn' hi; have hbn := hbn.trans (hb7.mono hbn.size); have q0 := (hb7.cell (p := ⟨w.heap.size, 0, none⟩) hl0).trans q0; have q1 := (hb7.cell (p := ⟨w.heap.size, 1, none⟩) hl0).trans q1; have q2 := (hb7.cell (p := ⟨w.heap.size + 1, 0, none⟩) hlt).trans q2; have q3 := (hb7.cell (p := ⟨w.heap.size + 1, 1, none⟩) hlt).trans q3))
  all_goals
    go_wp2
    go_ret
    refine ⟨?_, hbn⟩
    have h1 := HN.out
    have h2 := HSh.out
    have h3 : (sh : Int) = IntKind.i64.wrap (2 ^ n.toNat) := by
      rw [h2, show sixIx (a - a') (b - b') = n.toNat by omega]
      have : n.toNat = 0 ∨ n.toNat = 1 ∨ n.toNat = 2 ∨ n.toNat = 3 ∨ n.toNat = 4 ∨ n.toNat = 5 := by omega
      rcases this with e | e | e | e | e | e <;> rw [e] <;> decide
    rw [h3]
    rfl
theorem share_any (l : Int) (c d : C) (w : World) (hs : SixIs w) (hl : l = 1 ∨ l = 2 ∨ l = 3) (hc : (-8796093022208 ≤ c.1 ∧ c.1 ≤ 8796093022208) ∧ (-8796093022208 ≤ c.2.1 ∧ c.2.1 ≤ 8796093022208)) (hd : (-8796093022208 ≤ d.1 ∧ d.1 ≤ 8796093022208) ∧ (-8796093022208 ≤ d.2.1 ∧ d.2.1 ≤ 8796093022208)) (hin : d ∈ besC l c) :
    Calls Tryd.prog 52 #[.int .i64 l, Ce c.1 c.2.1 c.2.2, Ce d.1 d.2.1 d.2.2] w fun e w' => e = .returned (.int .i64 (shareN l c d : Nat)) ∧ Below w.heap.size w w' := by
  rcases hl with rfl | hl
  · exact share_hx c d w hs hc hd (inSix_of_bes hin)
  · exact share_tri l c d w hl
end Go.Proofs.YtjongkbjhiblmaaDoor.Fl
