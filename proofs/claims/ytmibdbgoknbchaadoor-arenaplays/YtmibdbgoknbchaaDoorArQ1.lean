/- The law's world in memory; its kids. -/
import Derived.Test.YtmibdbgoknbchaaDoorArP4
import Derived.Test.YtmibdbgoknbchaaDoorBsE
namespace Go.Proofs.YtmibdbgoknbchaaDoor.Ar
open Go.RowKit Go.Proofs.YtmibdbgoknbchaaDoor.Ba Go.Proofs.YtmibdbgoknbchaaDoor.Mp Go.Lib Go.Maps

/-- The numbers of so many nodes. -/
def ats (n : Nat) : List Value := (List.range n).map (fun i : Nat => Value.int .u32 (i : Int))
theorem ats_len (n : Nat) : (ats n).length = n := by simp [ats]
theorem ats_get {n i : Nat} (h : i < n) : (ats n)[i]? = some (.int .u32 i) := by simp [ats, h]
theorem ats_succ (n : Nat) : ats (n + 1) = ats n ++ [.int .u32 n] := by simp [ats, List.range_succ]
abbrev V4 (f : Nat → Int) : Array Value := #[.int .i64 (f 0), .int .i64 (f 1), .int .i64 (f 2), .int .i64 (f 3)]
theorem ix4 (f : Nat → Int) (m : Nat) (h : m < 4) (w : World) : (Instr.index 36 (.agg (V4 f)) (.int .i64 m)).run Tryd.prog w = .ok (.int .i64 (f m)) w := by
  obtain rfl | rfl | rfl | rfl : m = 0 ∨ m = 1 ∨ m = 2 ∨ m = 3 := by omega
  · exact jx0 (f 0) (f 1) (f 2) (f 3) w
  · exact jx1 (f 0) (f 1) (f 2) (f 3) w
  · exact jx2 (f 0) (f 1) (f 2) (f 3) w
  · exact jx3 (f 0) (f 1) (f 2) (f 3) w
theorem V4_get (f : Nat → Int) (m : Nat) (h : m < 4) : (V4 f)[m]? = some (.int .i64 (f m)) := by
  obtain rfl | rfl | rfl | rfl : m = 0 ∨ m = 1 ∨ m = 2 ∨ m = 3 := by omega
  all_goals rfl
theorem V4_set (f : Nat → Int) (m : Nat) (u : Int) (h : m < 4) : (V4 f).setIfInBounds m (.int .i64 u) = V4 (fun q => if q = m then u else f q) := by
  obtain rfl | rfl | rfl | rfl : m = 0 ∨ m = 1 ∨ m = 2 ∨ m = 3 := by omega
  all_goals rfl
theorem blk4_set {w : World} {b m : Nat} {f : Nat → Int} (h : Blk w b 36 (V4 f)) (u : Int) (hm : m < 4) : Blk (w.setCell ⟨b, m, none⟩ (.int .i64 u)) b 36 (V4 (fun q => if q = m then u else f q)) := by
  have := h.set_ m (.int .i64 u)
  rwa [V4_set f m u hm] at this
/-- Three boxes of kids: what came in, the result, out. -/
def KB (w wr : World) (wd g gx cx : Nat) (L : List RN) (most : Int) (vt : Value) (raw f : Nat → Int) : Prop :=
  Blk wr wd 34 #[Pt g, .slice (some ⟨gx, 0, none⟩) L.length cx, .int .i64 most, vt] ∧ RAt wr gx cx L ∧
    Blk wr w.heap.size 36 (V4 raw) ∧ Blk wr (w.heap.size + 1) 36 (V4 fun _ => 0) ∧ Blk wr (w.heap.size + 2) 36 (V4 f) ∧ Below w.heap.size w wr
theorem KB.set_ {w wr : World} {wd g gx cx : Nat} {L : List RN} {most : Int} {vt : Value} {raw f : Nat → Int} (h : KB w wr wd g gx cx L most vt raw f) (hl : 0 < L.length) {m : Nat} (hm : m < 4) (hwd : wd < w.heap.size) (u : Int) :
    KB w (wr.setCell ⟨w.heap.size + 2, m, none⟩ (.int .i64 u)) wd g gx cx L most vt raw (fun q => if q = m then u else f q) := by
  obtain ⟨k0, k1, k2, k3, k4, k5⟩ := h
  have hne : gx ≠ w.heap.size + 2 := by
    intro e
    subst e
    have h1 := k1.2.1 0 (.int .i64 (L[0]'hl).level) (by
      have := flatR_get L 0 (L[0]'hl) (List.getElem?_eq_getElem hl) 0 (by decide)
      simpa [encR] using this)
    have h2 := k1.2.1 1 (.int .u32 (L[0]'hl).bits) (by
      have := flatR_get L 0 (L[0]'hl) (List.getElem?_eq_getElem hl) 1 (by decide)
      simpa [encR] using this)
    rw [k4.cell 1] at h2
    cases h2
  exact ⟨k0.far (by dsimp only; omega) _, k1.set hne _, k2.far (by dsimp only; omega) _, k3.far (by dsimp only; omega) _, blk4_set k4 u hm, k5.setCell (by dsimp only; omega) _⟩
theorem KB.drewN {w wr : World} {wd g gx cx : Nat} {L : List RN} {most : Int} {vt : Value} {raw f : Nat → Int} (h : KB w wr wd g gx cx L most vt raw f) (q : Nat) : KB w (wr.drewN q) wd g gx cx L most vt raw f :=
  ⟨h.1.drewN q, h.2.1.below (below_dr q (Below.refl _ _)), h.2.2.1.drewN q, h.2.2.2.1.drewN q, h.2.2.2.2.1.drewN q, below_dr q h.2.2.2.2.2⟩
def Kl1 (w : World) (wd g gx cx : Nat) (L : List RN) (most : Int) (vt : Value) (raw : Nat → Int) (t12 : Value) (wr : World) : Prop :=
  ∃ (m : Nat) (f : Nat → Int), m ≤ 4 ∧ t12 = .int .i64 m ∧ KB w wr wd g gx cx L most vt raw f
set_option maxRecDepth 100000 in
set_option maxHeartbeats 1000000 in
theorem kids4_any (wd g gx cx : Nat) (L : List RN) (most : Int) (vt : Value) (raw : Nat → Int) (w : World) (hk : Blk w wd 34 #[Pt g, .slice (some ⟨gx, 0, none⟩) L.length cx, .int .i64 most, vt]) (hr : RAt w gx cx L) (h1 : 0 < L.length) (hN : L.length ≤ 100000) :
    Calls Tryd.prog 15 #[Pt wd, .agg (V4 raw)] w fun e w' => ∃ f : Nat → Int, e = .returned (.agg (V4 f)) ∧ Below w.heap.size w w' := by
  have hwd := hk.lt
  have hB : KB w (((w.alloc (.cells (V4 raw) 36)).alloc (.cells (V4 fun _ => 0) 36)).alloc (.cells (V4 fun _ => 0) 36)) wd g gx cx L most vt raw (fun _ => 0) :=
    ⟨((hk.alloc _).alloc _).alloc _, hr.below (by go_grown), ((Blk.newAt w _ _ _ rfl).alloc _).alloc _, (Blk.newAt (w.alloc (.cells (V4 raw) 36)) _ _ _ (by simp)).alloc _, Blk.newAt ((w.alloc (.cells (V4 raw) 36)).alloc (.cells (V4 fun _ => 0) 36)) _ _ _ (by simp), by go_grown⟩
  clear hk hr
  go_enter Tryd.func15, Tryd.ntmps15
  go_wp2_with fail
  go_loopw [12] (fun t12 wr => Kl1 w wd g gx cx L most vt raw t12 wr) (fun t12 _ => 4 - (intOf t12).toNat)
  case atStart => exact ⟨0, _, by omega, rfl, hB⟩
  case round =>
    clear hB
    obtain ⟨m, f, hm, rfl, hB⟩ := hrel
    have HB := Lib.hid hB
    obtain ⟨k0, k1, k2, k3, k4, k5⟩ := hB
    have z1 := k0.cell 1
    simp only [List.getElem?_toArray, List.getElem?_cons_zero, List.getElem?_cons_succ] at z1
    have lz := k0.lt
    have l4 := k4.lt
    by_cases hlt : m < 4
    · have hix := ix4 raw m hlt
      have c4 := (k4.cell m).trans (V4_get f m hlt)
      have f4 := k4.frozen m
      clear k0 k1 k2 k3 k4 k5
      have hlm : (L.length : Int) ≠ 0 := by omega
      have hlb : ((L.length : Int) == 0) = false := by simpa using hlm
      by_cases hneg : 0 ≤ raw m ∧ raw m < 1000
      · obtain ⟨h0, hth⟩ := hneg
        go_wp2_with fail
        refine ⟨⟨m + 1, _, by omega, by go_num, KB.set_ (KB.set_ HB.out h1 hlt hwd (raw m)) h1 hlt hwd _⟩, by simp [intOf]; omega⟩
      · by_cases h0 : 0 ≤ raw m
        · have hth : ¬ raw m < 1000 := fun h => hneg ⟨h0, h⟩
          clear hneg
          go_wp2_with fail
          refine ⟨⟨m + 1, _, by omega, by go_num, KB.set_ HB.out h1 hlt hwd (raw m)⟩, by simp [intOf]; omega⟩
        · have hd0 : decide (0 ≤ raw m) = false := by simpa using h0
          clear hneg
          go_wp2_with fail
          refine ⟨⟨m + 1, _, by omega, by go_num, KB.set_ HB.out h1 hlt hwd (raw m)⟩, by simp [intOf]; omega⟩
    · obtain rfl : m = 4 := by omega
      have q0 := k4.cell 0
      have q1 := k4.cell 1
      have q2 := k4.cell 2
      have q3 := k4.cell 3
      have p0 := k3.cell 0
      have p1 := k3.cell 1
      have p2 := k3.cell 2
      have p3 := k3.cell 3
      have fp0 := k3.frozen 0
      have fp1 := k3.frozen 1
      have fp2 := k3.frozen 2
      have fp3 := k3.frozen 3
      simp only [List.getElem?_toArray, List.getElem?_cons_zero, List.getElem?_cons_succ] at q0 q1 q2 q3 p0 p1 p2 p3
      have l3 := k3.lt
      by_cases h0 : 0 ≤ f 0
      · by_cases hhi : f 0 < (L.length : Int)
        · obtain ⟨y, hy⟩ := Int.eq_ofNat_of_zero_le h0
          obtain ⟨dy, hdy⟩ : ∃ e, L[y]? = some e := ⟨_, List.getElem?_eq_getElem (show y < L.length by omega)⟩
          have HDY := Lib.hid hdy
          have HY := Lib.hid hy
          clear k0 k1 k2 k3 k4 k5 hy hdy
          go_wp2_with fail
          clear q0 q1 q2 q3 p0 p1 p2 p3 fp0 fp1 fp2 fp3 l3 z1 lz l4
          go_loopw [51] (fun t51 wr => Kl1 w wd g gx cx L most vt raw t51 wr) (fun t51 _ => 4 - (intOf t51).toNat)
          case atStart => exact ⟨0, _, by omega, rfl, HB.out⟩
          case round =>
            clear HB
            obtain ⟨m, f2, hm, rfl, hB⟩ := hrel
            have HB := Lib.hid hB
            obtain ⟨k0, k1, k2, k3, k4, k5⟩ := hB
            have z1 := k0.cell 1
            simp only [List.getElem?_toArray, List.getElem?_cons_zero, List.getElem?_cons_succ] at z1
            have lz := k0.lt
            have l4 := k4.lt
            have l2 := k2.lt
            by_cases hlt : m < 4
            · have hix := ix4 f m hlt
              have hyv := HY.out
              simp only [V4, hyv] at hix
              have c2 := (k2.cell m).trans (V4_get raw m hlt)
              have c4 := (k4.cell m).trans (V4_get f2 m hlt)
              have f4 := k4.frozen m
              have hraw := k1
              obtain ⟨y0, _⟩ := k1.node HDY.out
              have hgl := k1.2.2
              rw [hyv] at h0 hhi ⊢
              have hyi : (y : Int) < (L.length : Int) := by omega
              have hy0 : (0 : Int) ≤ (y : Int) := by omega
              have hy1 : ¬ (L.length : Int) ≤ (y : Int) := by omega
              have hy2 : decide ((L.length : Int) ≤ (y : Int)) = false := by simpa using hy1
              have hy3 : ¬ (y : Int) < 0 := by omega
              have hy4 : decide ((y : Int) < 0) = false := by simp
              generalize f m = u at *
              by_cases hlo : 0 ≤ u
              · by_cases hup : u < (L.length : Int)
                · obtain ⟨x, rfl⟩ := Int.eq_ofNat_of_zero_le hlo
                  obtain ⟨dx, hdx⟩ : ∃ e, L[x]? = some e := ⟨_, List.getElem?_eq_getElem (show x < L.length by omega)⟩
                  obtain ⟨x0, _⟩ := hraw.node hdx
                  clear k0 k1 k2 k3 k4 k5 hraw hdx
                  have hx1 : ¬ (L.length : Int) ≤ (x : Int) := by omega
                  have hx2 : decide ((L.length : Int) ≤ (x : Int)) = false := by simpa using hx1
                  have hx3 : ¬ (x : Int) < 0 := by omega
                  have hx4 : decide ((x : Int) < 0) = false := by simp
                  obtain ⟨v, hv⟩ : ∃ v, bits .and .i64 (raw m) 1 = v := ⟨_, rfl⟩
                  by_cases he : dx.level = dy.level
                  · have hne : (dx.level != dy.level) = false := by simp [he]
                    have hne2 : (dx.level == dy.level) = true := by simp [he]
                    clear HY HDY
                    go_upto_region 14 with fail
                    go_quiet (fail)
                    go_wp2
                    refine ⟨⟨m + 1, _, by omega, by go_num, HB.out.drewN _⟩, by simp [intOf]; omega⟩
                  · have hne : (dx.level != dy.level) = true := by simp [he]
                    have hne2 : (dx.level == dy.level) = false := by simp [he]
                    by_cases hv0 : v = 0
                    · have hvb : (v == 0) = true := by simp [hv0]
                      clear HY HDY
                      go_upto_region 14 with fail
                      go_quiet (fail)
                      go_wp2
                      refine ⟨⟨m + 1, _, by omega, by go_num, (HB.out.drewN _).set_ h1 hlt hwd _⟩, by simp [intOf]; omega⟩
                    · have hvb : (v == 0) = false := by simp [hv0]
                      clear HY HDY
                      go_upto_region 14 with fail
                      go_quiet (fail)
                      go_wp2
                      refine ⟨⟨m + 1, _, by omega, by go_num, HB.out.drewN _⟩, by simp [intOf]; omega⟩
                · have hd1 : decide (u < (L.length : Int)) = false := by simpa using hup
                  clear k0 k1 k2 k3 k4 k5 hraw HY HDY
                  go_upto_region 14 with fail
                  go_quiet (fail)
                  go_wp2
                  refine ⟨⟨m + 1, _, by omega, by go_num, HB.out.drewN _⟩, by simp [intOf]; omega⟩
              · have hd1 : decide (0 ≤ u) = false := by simpa using hlo
                clear k0 k1 k2 k3 k4 k5 hraw HY HDY
                go_upto_region 14 with fail
                go_quiet (fail)
                go_wp2
                refine ⟨⟨m + 1, _, by omega, by go_num, HB.out.drewN _⟩, by simp [intOf]; omega⟩
            · obtain rfl : m = 4 := by omega
              have q0 := k4.cell 0
              have q1 := k4.cell 1
              have q2 := k4.cell 2
              have q3 := k4.cell 3
              have p0 := k3.cell 0
              have p1 := k3.cell 1
              have p2 := k3.cell 2
              have p3 := k3.cell 3
              have fp0 := k3.frozen 0
              have fp1 := k3.frozen 1
              have fp2 := k3.frozen 2
              have fp3 := k3.frozen 3
              simp only [List.getElem?_toArray, List.getElem?_cons_zero, List.getElem?_cons_succ] at q0 q1 q2 q3 p0 p1 p2 p3
              have l3 := k3.lt
              have hb := k5
              clear k0 k1 k2 k3 k4 k5 HY HDY HB
              go_wp2_with fail
              refine bodyPost_ret (v := .agg (V4 f2)) (by simp [results, Tryd.results15, go_sem, *]) rfl ?_; first | exact ⟨f2, rfl, by go_grown⟩ | exact ⟨⟨f2, rfl⟩, by go_grown⟩
        · have hb := k5
          clear k0 k1 k2 k3 k4 k5 HB
          go_wp2_with fail
          refine bodyPost_ret (v := .agg (V4 f)) (by simp [results, Tryd.results15, go_sem, *]) rfl ?_; first | exact ⟨f, rfl, by go_grown⟩ | exact ⟨⟨f, rfl⟩, by go_grown⟩
      · have hd1 : decide (0 ≤ f 0) = false := by simpa using h0
        have hb := k5
        clear k0 k1 k2 k3 k4 k5 HB
        go_wp2_with fail
        refine bodyPost_ret (v := .agg (V4 f)) (by simp [results, Tryd.results15, go_sem, *]) rfl ?_; first | exact ⟨f, rfl, by go_grown⟩ | exact ⟨⟨f, rfl⟩, by go_grown⟩
end Go.Proofs.YtmibdbgoknbchaaDoor.Ar
