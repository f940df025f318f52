/- Contracts of package arena: add, Leaf. -/
import Derived.Test.YtahlinekbllkaaaGreatDoorArW1
import Derived.Test.YtahlinekbllkaaaGreatDoorStA

namespace Go.Proofs.YtahlinekbllkaaaGreatDoor.Ar
open Go.RowKit Go.Proofs.YtahlinekbllkaaaGreatDoor.Ba Go.Proofs.YtahlinekbllkaaaGreatDoor.Mp Go.Lib Go.Maps

/-- The value of an error. -/
def errV : Option Nat → Value
  | none => .nilIface
  | some c => .iface 56 (.int .i64 c)
/-- Are there as many nodes as there may be? -/
def full (S : Sta) : Prop := 64 + S.more ≤ ((S.N.length + 1 : Nat) : Int)
instance (S : Sta) : Decidable (full S) := by unfold full; infer_instance
def addS (S : Sta) (d : Nd) : Sta := { S with N := S.N ++ [d] }
theorem newsN (w1 : World) (t : TypeId) (d : Nd) : ∀ j u, (flatN [d])[j]? = some u → (w1.alloc (.cells #[.int .u64 d.count, .int .u32 d.k.1, .int .u32 d.k.2.1, .int .u32 d.k.2.2.1, .int .u32 d.k.2.2.2, .int .u32 d.bits, .int .i32 d.level] t)).cell? ((⟨w1.heap.size, 0, none⟩ : Addr).add j) = some u := fun j u hu => by
  rw [Addr.add_lit, Nat.zero_add, (Blk.newAt w1 _ _ _ rfl).cell j]
  simpa [flatN, encN] using hu
theorem add_full (g : Nat) (d : Nd) (S : Sta) (P : Nat → Prop) (w : World) (h : ArAt w g S P) (hN : S.N.length ≤ 1000000) (hf : full S) :
    Calls Tryz.prog 79 #[Pt g, NV d] w fun e w' => e = .returned (.tuple #[.int .u32 0, errV (some 8)]) ∧ Below w.heap.size w w' := by
  have hl := fun W hW => len_any g S P W hW hN
  have hm := fun W hW => most_any g S P W hW
  have hf' : 64 + S.more ≤ ((S.N.length + 1 : Nat) : Int) := hf
  have hm1 : 0 ≤ S.more ∧ S.more ≤ 9223372036854775743 := by
    obtain ⟨_, _, _, -, -, -, -, -, -, -, r⟩ := h
    exact r
  have h1 := h.under ((Below.refl w.heap.size w).alloc (Nat.le_refl _) (.cells #[.int .u64 d.count, .int .u32 d.k.1, .int .u32 d.k.2.1, .int .u32 d.k.2.2.1, .int .u32 d.k.2.2.2, .int .u32 d.bits, .int .i32 d.level] 95))
  go_enter Tryz.func79, Tryz.ntmps79
  go_wp2_with fail
  refine (hl _ h1).mono ?_
  rintro e w' ⟨rfl, rfl⟩
  go_wp2_with fail
  refine (hm _ h1).mono ?_
  rintro e w' ⟨rfl, rfl⟩
  go_wp2
  exact bodyPost_ret (v := .tuple #[.int .u32 0, errV (some 8)]) (by simp [results, Tryz.results79, go_sem, errV]) rfl ⟨rfl, by go_grown⟩
set_option maxRecDepth 100000 in
theorem add_room (g : Nat) (d : Nd) (S : Sta) (P : Nat → Prop) (w : World) (h : ArAt w g S P) (hP : ∀ b, w.heap.size ≤ b → P b) (hd : d.count ≤ 4611686018427387904 ∧ 2 ≤ d.level ∧ d.level ≤ 44) (hN : S.N.length ≤ 1000000) (hf : ¬ full S) :
    Calls Tryz.prog 79 #[Pt g, NV d] w fun e w' => e = .returned (.tuple #[.int .u32 ((S.N.length + 1 : Nat) : Int), .nilIface]) ∧ ArAt w' g (addS S d) P ∧ Off P w w' := by
  have hl := fun W hW => len_any g S P W hW hN
  have hm := fun W hW => most_any g S P W hW
  have hf' : ¬ 64 + S.more ≤ ((S.N.length + 1 : Nat) : Int) := hf
  obtain ⟨i0, hi0, hz0, hz1, hz2⟩ := info_parts node_info
  have hb0 : Below w.heap.size w (w.alloc (.cells #[.int .u64 d.count, .int .u32 d.k.1, .int .u32 d.k.2.1, .int .u32 d.k.2.2.1, .int .u32 d.k.2.2.2, .int .u32 d.bits, .int .i32 d.level] 95)) := (Below.refl w.heap.size w).alloc (Nat.le_refl _) _
  have h1 := h.under hb0
  have kd := Blk.newAt w 95 #[.int .u64 d.count, .int .u32 d.k.1, .int .u32 d.k.2.1, .int .u32 d.k.2.2.1, .int .u32 d.k.2.2.2, .int .u32 d.bits, .int .i32 d.level] _ rfl
  have hw1 : ((S.N.length : Int) + 1) % 4294967296 = (S.N.length : Int) + 1 := by omega
  go_enter Tryz.func79, Tryz.ntmps79
  go_wp2_with fail
  refine (hl _ h1).mono ?_
  rintro e w' ⟨rfl, rfl⟩
  go_wp2_with fail
  refine (hm _ h1).mono ?_
  rintro e w' ⟨rfl, rfl⟩
  go_wp2_with fail
  refine (hl _ h1).mono ?_
  rintro e w' ⟨rfl, rfl⟩
  clear hl hm
  go_upto_region 4 with fail
  obtain ⟨W, hW⟩ : ∃ W, w.alloc (.cells #[.int .u64 d.count, .int .u32 d.k.1, .int .u32 d.k.2.1, .int .u32 d.k.2.2.1, .int .u32 d.k.2.2.2, .int .u32 d.bits, .int .i32 d.level] 95) = W := ⟨_, rfl⟩
  rw [hW] at h1 hb0 kd
  obtain ⟨s, lv, jn, kb, ho, hL, hJ, ⟨p1, p2, p3, p4, p5⟩, hk, hc0, hm1, hm2⟩ := h1
  obtain ⟨p, cap, rfl⟩ := own_slice ho
  have c1 := kb.cell 1
  have f1 := kb.frozen 1
  have d0 := kd.cell 0
  have d1 := kd.cell 1
  have d2 := kd.cell 2
  have d3 := kd.cell 3
  have d4 := kd.cell 4
  have d5 := kd.cell 5
  have d6 := kd.cell 6
  simp only [List.getElem?_toArray, List.getElem?_cons_zero, List.getElem?_cons_succ] at c1 d0 d1 d2 d3 d4 d5 d6
  have hlt := kb.lt
  have hz := hb0.size
  have hlt2 := kd.lt
  show Code.wp _ _ _ _ (w.alloc _)
  rw [hW]
  clear hW kd h
  have LY : MapAt mkL (W.drew.alloc (.cells #[.int .u64 d.count, .int .u32 d.k.1, .int .u32 d.k.2.1, .int .u32 d.k.2.2.1, .int .u32 d.k.2.2.2, .int .u32 d.bits, .int .i32 d.level] 95)) lv S.nL S.L := hL.same fun b hb => Below.heap_alloc W.drew _ b (hL.lt b hb)
  have JY : MapAt mkJ (W.drew.alloc (.cells #[.int .u64 d.count, .int .u32 d.k.1, .int .u32 d.k.2.1, .int .u32 d.k.2.2.1, .int .u32 d.k.2.2.2, .int .u32 d.bits, .int .i32 d.level] 95)) jn S.nJ S.J := hJ.same fun b hb => Below.heap_alloc W.drew _ b (hJ.lt b hb)
  have kY : Blk (W.drew.alloc (.cells #[.int .u64 d.count, .int .u32 d.k.1, .int .u32 d.k.2.1, .int .u32 d.k.2.2.1, .int .u32 d.k.2.2.2, .int .u32 d.bits, .int .i32 d.level] 95)) g 126 #[.int .i64 S.more, .slice p S.N.length cap, lv, jn] := kb.alloc _
  have oY : (W.drew.alloc (.cells #[.int .u64 d.count, .int .u32 d.k.1, .int .u32 d.k.2.1, .int .u32 d.k.2.2.1, .int .u32 d.k.2.2.2, .int .u32 d.bits, .int .i32 d.level] 95)).ownsRow 0 95 7 (.slice p S.N.length cap) S.N.length (flatN S.N) := ho.alloc _
  have bY : Below w.heap.size w (W.drew.alloc (.cells #[.int .u64 d.count, .int .u32 d.k.1, .int .u32 d.k.2.1, .int .u32 d.k.2.2.1, .int .u32 d.k.2.2.2, .int .u32 d.bits, .int .i32 d.level] 95)) := hb0.drew.alloc hb0.size _
  have hnew := newsN W.drew 95 d
  have hne := own_blk_ne oY kY (by decide)
  clear kb ho hL hJ hb0
  go_region_law (refine step_append_at rfl (.tmp 20) (.tmp 22) 122 rfl 0 95 i0 _ 7 32 Tryz.underlying122 hi0 hz0 hz1 hz2 rfl (by decide) _ _ _ (by simp [Act.eval]) oY ⟨W.heap.size, 0, none⟩ 1 1 (flatN [d]) (by simp [Act.eval]) (by simp [flatN_len]) hnew (one_flatN _) (by unfold maxLen; omega) (by omega) (by omega) ?_; intro v' w' hown' hgr hat; have kZ := kY.grown hgr hne; have c1 := kZ.cell 1; have f1 := kZ.frozen 1; simp only [List.getElem?_toArray, List.getElem?_cons_zero, List.getElem?_cons_succ] at c1; have hltZ := kZ.lt; obtain ⟨p', cap', rfl⟩ := own_slice hown')
  all_goals
    have LZ := LY.same (w' := w') fun b hb => hgr.block b (LY.lt b hb) (fun e => LY.own oY b hb e.symm)
    have JZ := JY.same (w' := w') fun b hb => hgr.block b (JY.lt b hb) (fun e => JY.own oY b hb e.symm)
    have offZ : Off P w w' := (Off.of_below bY).grown hgr (fun b hb _ => p2 b hb)
    have hpv : ∀ b, (Value.slice p' (S.N.length + 1) cap').ownBlock = some b → P b := fun b hb => by
      rcases hat with e | e
      · exact p2 b (e ▸ hb)
      · rw [hb] at e
        injection e with e
        subst e
        exact hP _ bY.size
    go_wp2
    have kS := kZ.set_ 1 (.slice p' (S.N.length + 1) cap')
    have hneS := own_blk_ne hown' kZ (by decide)
    have HA : ArAt (w'.setCell ⟨g, 1, none⟩ (.slice p' (S.N.length + 1) cap')) g (addS S d) P := by
      refine ⟨_, lv, jn, kS, ?_, ?_, ?_, ⟨p1, hpv, p3, p4, p5⟩, ?_, ⟨by simp only [addS, List.length_append, List.length_singleton]; omega, by simp only [addS, List.length_append, List.length_singleton]; omega⟩, hm1, hm2⟩
      · have := own_same (w' := w'.setCell ⟨g, 1, none⟩ (.slice p' (S.N.length + 1) cap')) hown' fun b hb => Below.heap_setCell w' ⟨g, 1, none⟩ _ b (fun e => hneS (by rw [hb, e]))
        simp only [addS, List.length_append, List.length_singleton, flatN_app]
        exact this
      · exact LZ.same fun b hb => Below.heap_setCell w' ⟨g, 1, none⟩ _ b (fun e => LZ.blk kZ (by rw [hb, e]))
      · exact JZ.same fun b hb => Below.heap_setCell w' ⟨g, 1, none⟩ _ b (fun e => JZ.blk kZ (by rw [hb, e]))
      · intro x hx
        simp only [addS, List.mem_append, List.mem_singleton] at hx
        rcases hx with hx | rfl
        · exact hk x hx
        · exact hd
    exact bodyPost_ret (v := .tuple #[.int .u32 ((S.N.length + 1 : Nat) : Int), .nilIface]) (by simp [results, Tryz.results79, go_sem]) rfl ⟨rfl, HA, offZ.setCell (fun _ => p1) _⟩
end Go.Proofs.YtahlinekbllkaaaGreatDoor.Ar
