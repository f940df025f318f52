/- The laws' own awake. -/
import Derived.Test.YtggpleppoplkcaaDoorFlW4
import Derived.Test.YtggpleppoplkcaaDoorTbW2
namespace Go.Proofs.YtggpleppoplkcaaDoor.Fl
open Go.RowKit Go.Proofs.YtggpleppoplkcaaDoor.Ax Go.Proofs.YtggpleppoplkcaaDoor.Ba Go.Lib Go.Maps
open Go.Proofs.YtggpleppoplkcaaDoor.Se (SetAt Rising ofL mem_ofL rising_ofL of_any rising_ext)
open Go.Proofs.YtggpleppoplkcaaDoor.Tb (Tab sel wrongT ringsTo rings_any u64_or Cl)

def awB : Nat := 282668995843688
theorem aw_o : ringsTo 2 111 64 = 281483583426632 := by decide +kernel
theorem aw_m : ringsTo 2 109 64 = 1116692677664 := by decide +kernel
theorem aw_p : ringsTo 2 112 64 = 68719739392 := by decide +kernel
def awS : List C := [(0, 0, 0), (1, 0, 0)]
def awR : List C := [(1, -1, 0), (0, 1, 0)]
theorem aw_good : Good 1 awB 0 0 0 := ⟨.inl rfl, by decide, by decide, by decide, by decide, by decide +kernel⟩
theorem awS_of : ofL [(0, 0, 0), (1, 0, 0)] = awS := by decide
theorem awS_rising : Rising awS := by rw [← awS_of]; exact rising_ofL _
theorem awR_of : ofL [(1, -1, 0), (0, 1, 0)] = awR := by decide
theorem awR_rising : Rising awR := by rw [← awR_of]; exact rising_ofL _
theorem awS_good : GoodS 1 awS := ⟨awS_rising, by decide, by decide, by decide⟩
theorem aw_fin : ∀ x ∈ [(-1 : Int), 0, 1, 2], ∀ y ∈ [(-1 : Int), 0, 1], (nxT awB 0 0 0 0 (decide (((x, y, 0) : C) ∈ awS)) (nbC 1 awS (x, y, 0)) = true ↔ ((x, y, 0) : C) ∈ awR) := by decide +kernel
theorem aw_uniq {R : List C} (h : Stp (nxT awB 0 0 0) 1 awS R) : R = awR := by
  refine rising_ext h.1 awR_rising fun c => ⟨fun hc => ?_, fun hc => ?_⟩
  · have hv := h.val c hc
    obtain ⟨d, hd, hx, hy⟩ := stp_near (.inl rfl) (bare_of aw_good.ok) h hc
    have hn := ((h.2 c).1 hc).2
    obtain ⟨x, y, z⟩ := c
    simp [awS] at hd
    unfold valid at hv
    simp at hv
    obtain rfl : z = 0 := by omega
    have h1 : x = -1 ∨ x = 0 ∨ x = 1 ∨ x = 2 := by rcases hd with rfl | rfl <;> simp at hx <;> omega
    have h2 : y = -1 ∨ y = 0 ∨ y = 1 := by rcases hd with rfl | rfl <;> simp at hy <;> omega
    exact (aw_fin x (by simpa using h1) y (by simpa using h2)).1 hn
  · simp [awR] at hc
    rcases hc with rfl | rfl
    · exact (h.2 _).2 ⟨by decide, (aw_fin 1 (by decide) (-1) (by decide)).2 (by decide)⟩
    · exact (h.2 _).2 ⟨by decide, (aw_fin 0 (by decide) 1 (by decide)).2 (by decide)⟩
def AwR (w : World) (t2 t3 : Value) (wx : World) : Prop := t3 = .nilIface ∧ SetAt wx t2 awR ∧ Below w.heap.size w wx
theorem keepT5 {W w' : World} {Z : Nat} {l : Int} {b0 b1 s0 s1 : Nat} (kz : Ba.Blk W Z 30 (TabC l b0 b1 s0 s1)) (hb : Below W.heap.size W w') :
    w'.cell? ⟨Z, 0, none⟩ = some (.int .i64 l) ∧ w'.cell? ⟨Z, 1, none⟩ = some (.int .u64 b0) ∧ w'.cell? ⟨Z, 2, none⟩ = some (.int .u64 b1) ∧ w'.cell? ⟨Z, 3, none⟩ = some (.int .u64 s0) ∧ w'.cell? ⟨Z, 4, none⟩ = some (.int .u64 s1) :=
  ⟨(kz.under hb).cell 0, (kz.under hb).cell 1, (kz.under hb).cell 2, (kz.under hb).cell 3, (kz.under hb).cell 4⟩
theorem two_set (w : World) : SetAt (w.alloc (.cells #[.int .i64 0, .int .i64 0, .int .i64 0, .int .i64 1, .int .i64 0, .int .i64 0] 60)) (.slice (some ⟨w.heap.size, 0, none⟩) 2 2) [(0, 0, 0), (1, 0, 0)] := by
  have k4 := Blk.newAt w 60 #[.int .i64 0, .int .i64 0, .int .i64 0, .int .i64 1, .int .i64 0, .int .i64 0] _ rfl
  refine .inr ⟨_, 2, rfl, by decide, ⟨fun i d hd => ?_, k4.lt⟩⟩
  have hi : i < 2 := (List.getElem?_eq_some_iff.1 hd).1
  have h3 : i = 0 ∨ i = 1 := by omega
  rcases h3 with rfl | rfl <;> simp at hd <;> subst hd <;> exact ⟨k4.cell _, k4.cell _, k4.cell _⟩
set_option maxRecDepth 100000 in
set_option maxHeartbeats 4000000 in
theorem awake8_any (w : World) (hs : SixIs w) :
    Calls Tryd.prog 7 #[] w fun e w' => e = .returned (.bool true) ∧ Below w.heap.size w w' := by
  have r1 := rings_any 2 111
  have r2 := rings_any 2 109
  have r3 := rings_any 2 112
  rw [aw_o] at r1
  rw [aw_m] at r2
  rw [aw_p] at r3
  dsimp only [Cl] at r1 r2 r3
  have e1 : bits .or .u64 281483583426632 1116692677664 = 282600276104296 := by decide +kernel
  have e2 : bits .or .u64 282600276104296 68719739392 = 282668995843688 := by decide +kernel
  go_enter Tryd.func7, Tryd.ntmps7
  go_wp2_with fail
  refine (r1 _).mono ?_
  rintro e w1 ⟨rfl, hb1⟩
  go_wp2_with fail
  refine (r2 _).mono ?_
  rintro e w2 ⟨rfl, hb2⟩
  have hb3 := hb1.trans (hb2.mono hb1.size)
  clear hb1 hb2 r1 r2
  go_wp2_with fail
  refine (r3 _).mono ?_
  rintro e w3 ⟨rfl, hb4⟩
  have hb5 := hb3.trans (hb4.mono hb3.size)
  clear hb3 hb4 r3
  go_upto_region 2 with fail
  have kz := Blk.newAt w3 30 (TabC 1 awB 0 0 0) _ rfl
  have hb6 := hb5.alloc hb5.size (.cells (TabC 1 awB 0 0 0) 30)
  have hs6 := hs.below hb6
  clear hs hb5
  change Code.wp _ _ _ _ (w3.alloc (.cells (TabC 1 awB 0 0 0) 30))
  have HW := Lib.hid hb6
  generalize w3.alloc (.cells (TabC 1 awB 0 0 0) 30) = w4 at *
  generalize w3.heap.size = Z at *
  obtain ⟨t0, t1, t2, t3, t4⟩ := keepT5 kz (Below.refl _ _)
  have hzl := kz.lt
  clear hb6
  go_cut [2, 3] (fun t2 t3 wx => AwR w4 t2 t3 wx)
  case first =>
    have hkb : Below w4.heap.size w4 w4 := Below.refl _ _
    go_region_held3 (fun w' => w'.cell? ⟨Z, 0, none⟩ = some (.int .i64 1) ∧ w'.cell? ⟨Z, 1, none⟩ = some (.int .u64 awB) ∧ w'.cell? ⟨Z, 2, none⟩ = some (.int .u64 0) ∧ w'.cell? ⟨Z, 3, none⟩ = some (.int .u64 0) ∧ w'.cell? ⟨Z, 4, none⟩ = some (.int .u64 0)) (first | (refine keepT5 kz ?_; go_grown; done))
      (first
        | (go_at_call 12; refine (step_any 1 awB 0 0 0 aw_good v5 awS _ (hs6.below (by go_grown)) (by first | exact hset | (refine hset.below ?_; go_grown)) awS_good).mono ?_; rintro e w7 ⟨v7, R, rfl, hR, hst, _, hb⟩; have hkb : Below w4.heap.size w4 w7 := Ba.below_call hb (by go_grown) (by first | exact hkb.size | go_size); obtain rfl := aw_uniq hst; clear hb hst)
        | (go_at_call 18; refine (of_any _ [(0, 0, 0), (1, 0, 0)] _ ((two_set w4).below (by first | exact Below.refl _ _ | exact (Below.refl _ _).drew | exact Ba.below_dr _ (Below.refl _ _) | go_grown)) (by decide)).mono ?_; rintro e w5 ⟨v5, rfl, hset, hb⟩; rw [awS_of] at hset; have hkb : Below w4.heap.size w4 w5 := Ba.below_call hb (by go_grown) (by first | exact hkb.size | (simp; omega) | simp | go_size); clear hb))
    all_goals go_wp2_with fail
    all_goals go_meet
    all_goals exact ⟨rfl, hR, by go_grown⟩
  case rest =>
    obtain ⟨rfl, hR, hb8⟩ := hcut
    have hb9 := HW.out.trans (hb8.mono HW.out.size)
    clear kz hs6 t0 t1 t2 t3 t4 hzl HW hb8
    rcases hR with ⟨_, h⟩ | ⟨g, cap, rfl, hcap, hr⟩
    · cases h
    · obtain ⟨c0, c1, c2⟩ := hr.1 0 (1, -1, 0) rfl
      obtain ⟨d0, d1, d2⟩ := hr.1 1 (0, 1, 0) rfl
      have hgl := hr.2
      have ez : ∀ w, (binOp .eql 60 (.agg #[.int .i64 1, .int .i64 (-1), .int .i64 0]) (.agg #[.int .i64 1, .int .i64 (-1), .int .i64 0])).run Tryd.prog w = .ok (.bool true) w := fun w => Se.eq_c (1, -1, 0) (1, -1, 0) w
      have ez2 : ∀ w, (binOp .eql 60 (.agg #[.int .i64 0, .int .i64 1, .int .i64 0]) (.agg #[.int .i64 0, .int .i64 1, .int .i64 0])).run Tryd.prog w = .ok (.bool true) w := fun w => Se.eq_c (0, 1, 0) (0, 1, 0) w
      simp only [Nat.zero_mul, Nat.one_mul, Nat.zero_add] at c0 c1 c2 d0 d1 d2
      rw [show awR.length = 2 from rfl]
      clear hr hcap
      go_wp2_with fail
      go_ret
      exact ⟨rfl, by go_grown⟩
end Go.Proofs.YtggpleppoplkcaaDoor.Fl
