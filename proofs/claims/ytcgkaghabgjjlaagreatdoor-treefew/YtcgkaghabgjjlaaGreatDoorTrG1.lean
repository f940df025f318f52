/- Contracts of package tree: Get, Put and Box of what is no root. -/
import Derived.Test.YtcgkaghabgjjlaaGreatDoorTrW11
import Derived.Test.YtcgkaghabgjjlaaGreatDoorArW2
import Derived.Deep.RegionHeld3
import Derived.Deep.DeepCutAuto
namespace Go.Proofs.YtcgkaghabgjjlaaGreatDoor.Tr
open Go.RowKit Go.Proofs.YtcgkaghabgjjlaaGreatDoor.Ba Go.Proofs.YtcgkaghabgjjlaaGreatDoor.Ar Go.Lib

set_option maxRecDepth 100000 in
set_option maxHeartbeats 1000000 in
theorem get_none (g i : Nat) (c : C) (S : Sta) (P : Nat → Prop) (w : World) (h : ArAt w g S P) (hi : okU i) (hN : S.N.length ≤ 1000000) (hno : levelOf S.N i < 3) :
    Calls Tryz.prog 17 #[Pt g, .int .u32 i, CeV c] w fun e w' => e = .returned (.bool false) ∧ Below w.heap.size w w' := by
  have hr := fun W hW => isroot_any g i S P W hW hi hN
  rw [show decide (3 ≤ levelOf S.N i) = false by simp; omega] at hr
  have kc := Blk.newAt w 53 #[.int .i64 c.1, .int .i64 c.2.1, .int .i64 c.2.2] _ rfl
  have hbw : Below w.heap.size w (w.alloc (.cells #[.int .i64 c.1, .int .i64 c.2.1, .int .i64 c.2.2] 53)) := by go_grown
  have hA := h.under hbw
  have HB := Lib.hid hbw
  clear h hbw
  dsimp only [CeV]
  go_enter Tryz.func17, Tryz.ntmps17
  go_wp2_with fail
  generalize w.alloc (.cells #[.int .i64 c.1, .int .i64 c.2.1, .int .i64 c.2.2] 53) = W at *
  go_cut [29] (fun t29 wx => t29 = .bool true ∧ Below W.heap.size W wx)
  case first =>
    have hkb : Below W.heap.size W W := Below.refl _ _
    refine wp_region_held_drew (S := fun w' => w'.cell? ⟨w.heap.size, 0, none⟩ = some (.int .i64 c.1) ∧ w'.cell? ⟨w.heap.size, 1, none⟩ = some (.int .i64 c.2.1) ∧ w'.cell? ⟨w.heap.size, 2, none⟩ = some (.int .i64 c.2.2)) (by kernel_rfl) (Go.Proofs.YtcgkaghabgjjlaaGreatDoor.Se.keepB kc (by go_grown)) (fun hHeld => ?_)
    (refine wpAnyH_take (i := 0) (v := ?_) rfl (by kernel_rfl) (by kernel_rfl) (by kernel_rfl) (fun _ _ _ h => h) (Or.inl ⟨by kernel_rfl, ?_⟩) (by assumption) ?_; rotate_left; (focus (intro wq hSw; (try dsimp only at hSw); go_simp; (try with_reducible rfl))); (try simp only [Act.put]))
    (refine wpAnyH_take (i := 1) (v := ?_) rfl (by kernel_rfl) (by kernel_rfl) (by kernel_rfl) (fun _ _ _ h => h) (Or.inl ⟨by kernel_rfl, ?_⟩) (by assumption) ?_; rotate_left; (focus (intro wq hSw; (try dsimp only at hSw); go_simp; (try with_reducible rfl))); (try simp only [Act.put]))
    (refine wpAnyH_ready (rs := [2]) (by kernel_rfl) (by simp) ?_; refine AllReadyH.cons rfl (fun K hK => ?_) AllReadyH.nil; go_simp; (with_reducible refine Calls.mono (hr _ (hA.under ?_)) ?_); (focus (go_grown; done)); rintro e w7 ⟨rfl, hbn⟩; have hkb : Below W.heap.size W w7 := Ba.below_call hbn (by go_grown) (by first | exact hkb.size | (simp; done) | (simp; omega)); clear hbn; dsimp only; refine hK.out _ _ ?_ (fun hHeld => ?_); (focus (exact Go.Proofs.YtcgkaghabgjjlaaGreatDoor.Se.keepB kc hkb)); clear hK K; (try simp only [Act.put, List.setIfInBounds_toArray, List.set_cons_zero, List.set_cons_succ]))
    (refine wpAnyH_take (i := 3) (v := ?_) rfl (by kernel_rfl) (by kernel_rfl) (by kernel_rfl) (fun _ _ _ h => h) (Or.inl ⟨by kernel_rfl, ?_⟩) (by assumption) ?_; rotate_left; (focus (intro wq hSw; (try dsimp only at hSw); go_simp; (try with_reducible rfl))); (try simp only [Act.put]))
    (refine wpAnyH_take (i := 4) (v := ?_) rfl (by kernel_rfl) (by kernel_rfl) (by kernel_rfl) (fun _ _ _ h => h) (Or.inl ⟨by kernel_rfl, ?_⟩) (by assumption) ?_; rotate_left; (focus (intro wq hSw; (try dsimp only at hSw); go_simp; (try with_reducible rfl))); (try simp only [Act.put]))
    (refine wpAnyH_take (i := 5) (v := undef) rfl (by kernel_rfl) (by kernel_rfl) (by kernel_rfl) (fun _ _ _ h => h) (Or.inr ⟨by kernel_rfl, rfl⟩) (by assumption) ?_; (try simp only [Act.put]))
    (refine wpAnyH_take (i := 6) (v := undef) rfl (by kernel_rfl) (by kernel_rfl) (by kernel_rfl) (fun _ _ _ h => h) (Or.inr ⟨by kernel_rfl, rfl⟩) (by assumption) ?_; (try simp only [Act.put]))
    (refine wpAnyH_take (i := 7) (v := undef) rfl (by kernel_rfl) (by kernel_rfl) (by kernel_rfl) (fun _ _ _ h => h) (Or.inr ⟨by kernel_rfl, rfl⟩) (by assumption) ?_; (try simp only [Act.put]))
    (refine wpAnyH_take (i := 8) (v := undef) rfl (by kernel_rfl) (by kernel_rfl) (by kernel_rfl) (fun _ _ _ h => h) (Or.inr ⟨by kernel_rfl, rfl⟩) (by assumption) ?_; (try simp only [Act.put]))
    (refine wpAnyH_take (i := 9) (v := ?_) rfl (by kernel_rfl) (by kernel_rfl) (by kernel_rfl) (fun _ _ _ h => h) (Or.inl ⟨by kernel_rfl, ?_⟩) (by assumption) ?_; rotate_left; (focus (intro wq hSw; (try dsimp only at hSw); go_simp; (try with_reducible rfl))); (try simp only [Act.put]))
    (refine wpAnyH_take (i := 10) (v := ?_) rfl (by kernel_rfl) (by kernel_rfl) (by kernel_rfl) (fun _ _ _ h => h) (Or.inl ⟨by kernel_rfl, ?_⟩) (by assumption) ?_; rotate_left; (focus (intro wq hSw; (try dsimp only at hSw); go_simp; (try with_reducible rfl))); (try simp only [Act.put]))
    (refine wpAnyH_take (i := 11) (v := undef) rfl (by kernel_rfl) (by kernel_rfl) (by kernel_rfl) (fun _ _ _ h => h) (Or.inr ⟨by kernel_rfl, rfl⟩) (by assumption) ?_; (try simp only [Act.put]))
    (refine wpAnyH_take (i := 12) (v := undef) rfl (by kernel_rfl) (by kernel_rfl) (by kernel_rfl) (fun _ _ _ h => h) (Or.inr ⟨by kernel_rfl, rfl⟩) (by assumption) ?_; (try simp only [Act.put]))
    (refine wpAnyH_take (i := 13) (v := undef) rfl (by kernel_rfl) (by kernel_rfl) (by kernel_rfl) (fun _ _ _ h => h) (Or.inr ⟨by kernel_rfl, rfl⟩) (by assumption) ?_; (try simp only [Act.put]))
    (refine wpAnyH_take (i := 14) (v := undef) rfl (by kernel_rfl) (by kernel_rfl) (by kernel_rfl) (fun _ _ _ h => h) (Or.inr ⟨by kernel_rfl, rfl⟩) (by assumption) ?_; (try simp only [Act.put]))
    (refine wpAnyH_take (i := 15) (v := undef) rfl (by kernel_rfl) (by kernel_rfl) (by kernel_rfl) (fun _ _ _ h => h) (Or.inr ⟨by kernel_rfl, rfl⟩) (by assumption) ?_; (try simp only [Act.put]))
    (refine wpAnyH_take (i := 16) (v := undef) rfl (by kernel_rfl) (by kernel_rfl) (by kernel_rfl) (fun _ _ _ h => h) (Or.inr ⟨by kernel_rfl, rfl⟩) (by assumption) ?_; (try simp only [Act.put]))
    (refine wpAnyH_take (i := 17) (v := undef) rfl (by kernel_rfl) (by kernel_rfl) (by kernel_rfl) (fun _ _ _ h => h) (Or.inr ⟨by kernel_rfl, rfl⟩) (by assumption) ?_; (try simp only [Act.put]))
    (refine wpAnyH_take (i := 18) (v := ?_) rfl (by kernel_rfl) (by kernel_rfl) (by kernel_rfl) (fun _ _ _ h => h) (Or.inl ⟨by kernel_rfl, ?_⟩) (by assumption) ?_; rotate_left; (focus (intro wq hSw; (try dsimp only at hSw); go_simp; (try with_reducible rfl))); (try simp only [Act.put]))
    refine wpAnyH_done (by kernel_rfl) ?_ _
    (try simp)
    (try simp only [Act.put, List.setIfInBounds_toArray, List.set_cons_zero, List.set_cons_succ])
    go_wp2_with fail
    all_goals go_meet
    all_goals exact ⟨rfl, hkb⟩
  case rest =>
    obtain ⟨rfl, hbc⟩ := hcut
    go_wp2_with fail
    exact bodyPost_ret (v := .bool false) (by simp [results, Tryz.results17, go_sem]) rfl ⟨rfl, HB.out.trans (hbc.mono HB.out.size)⟩
set_option maxRecDepth 100000 in
theorem put_none (g i : Nat) (c : C) (live : Bool) (S : Sta) (P : Nat → Prop) (w : World) (h : ArAt w g S P) (hi : okU i) (hN : S.N.length ≤ 1000000) (hno : levelOf S.N i < 3) :
    Calls Tryz.prog 20 #[Pt g, .int .u32 i, CeV c, .bool live] w fun e w' => e = .returned (.tuple #[.int .u32 0, errV (some 4)]) ∧ Below w.heap.size w w' := by
  have hr := fun W hW => isroot_any g i S P W hW hi hN
  rw [show decide (3 ≤ levelOf S.N i) = false by simp; omega] at hr
  have hbw : Below w.heap.size w (w.alloc (.cells #[.int .i64 c.1, .int .i64 c.2.1, .int .i64 c.2.2] 53)) := by go_grown
  have hA := h.under hbw
  have HB := Lib.hid hbw
  clear h hbw
  dsimp only [CeV]
  go_enter Tryz.func20, Tryz.ntmps20
  go_wp2_with fail
  refine (hr _ hA).mono ?_
  rintro e w1 ⟨rfl, hb1⟩
  have HB1 := Lib.hid (HB.out.trans (hb1.mono HB.out.size))
  clear hr hb1 hA
  go_wp2_with fail
  exact bodyPost_ret (v := .tuple #[.int .u32 0, errV (some 4)]) (by simp [results, Tryz.results20, go_sem, errV]) rfl ⟨rfl, HB1.out⟩
set_option maxRecDepth 100000 in
theorem box_none (g i : Nat) (S : Sta) (P : Nat → Prop) (w : World) (h : ArAt w g S P) (hi : okU i) (hN : S.N.length ≤ 1000000) (hno : levelOf S.N i < 3) :
    Calls Tryz.prog 10 #[Pt g, .int .u32 i] w fun e w' => e = .returned (.tuple #[.agg #[.int .i64 0, .int .i64 0, .int .i64 0, .int .i64 0], .bool false]) ∧ Below w.heap.size w w' := by
  have hr := fun W hW => isroot_any g i S P W hW hi hN
  rw [show decide (3 ≤ levelOf S.N i) = false by simp; omega] at hr
  have kb := Blk.newAt w 40 #[.int .i64 0, .int .i64 0, .int .i64 0, .int .i64 0] _ rfl
  have hbw : Below w.heap.size w (w.alloc (.cells #[.int .i64 0, .int .i64 0, .int .i64 0, .int .i64 0] 40)) := by go_grown
  have hA := h.under hbw
  have HB := Lib.hid hbw
  clear h hbw
  go_enter Tryz.func10, Tryz.ntmps10
  go_wp2_with fail
  refine (hr _ hA).mono ?_
  rintro e w1 ⟨rfl, hb1⟩
  have hb2 := HB.out.trans (hb1.mono HB.out.size)
  have k1 := kb.under hb1
  have c0 := k1.cell 0
  have c1 := k1.cell 1
  have c2 := k1.cell 2
  have c3 := k1.cell 3
  simp only [List.getElem?_toArray, List.getElem?_cons_zero, List.getElem?_cons_succ] at c0 c1 c2 c3
  have f0 := k1.frozen 0
  have f1 := k1.frozen 1
  have f2 := k1.frozen 2
  have f3 := k1.frozen 3
  have hl := k1.lt
  clear hr hb1 hA kb k1
  go_wp2_with fail
  exact bodyPost_ret (v := .tuple #[.agg #[.int .i64 0, .int .i64 0, .int .i64 0, .int .i64 0], .bool false]) (by simp [results, Tryz.results10, go_sem, *]) rfl ⟨rfl, by go_grown⟩
end Go.Proofs.YtcgkaghabgjjlaaGreatDoor.Tr
