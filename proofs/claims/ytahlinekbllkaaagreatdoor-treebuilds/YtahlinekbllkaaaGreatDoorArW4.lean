/- Contracts of package arena: above. -/
import Derived.Test.YtahlinekbllkaaaGreatDoorArW3
namespace Go.Proofs.YtahlinekbllkaaaGreatDoor.Ar
open Go.RowKit Go.Proofs.YtahlinekbllkaaaGreatDoor.Ba Go.Proofs.YtahlinekbllkaaaGreatDoor.Mp Go.Lib Go.Maps

def kidOk (N : List Nd) (l : Int) (i : Nat) : Bool := (ndAt N i).2 && decide ((ndAt N i).1.level = l)
def kli (k : K4) : List Nat := [k.1, k.2.1, k.2.2.1, k.2.2.2]
def cntS (N : List Nd) (l : List Nat) : Nat := l.foldl (fun c i => min (c + (ndAt N i).1.count) 4611686018427387904) 0
def aboveR (N : List Nd) (k : K4) : Nd × Option Nat :=
  if (kli k).all (kidOk N (levelOf N k.1)) then (if 44 ≤ levelOf N k.1 then (nd0, some 7) else (⟨cntS N (kli k), k, 0, levelOf N k.1 + 1⟩, none)) else (nd0, some 4)
theorem ndAt_count {N : List Nd} (h : Nok N) (i : Nat) : (ndAt N i).1.count ≤ 4611686018427387904 ∧ 0 ≤ (ndAt N i).1.level ∧ (ndAt N i).1.level ≤ 44 := by
  unfold ndAt
  split
  · exact ⟨by decide, by decide, by decide⟩
  · split
    · rename_i d hd
      have := h d (List.mem_of_getElem? hd)
      dsimp only
      omega
    · exact ⟨by decide, by decide, by decide⟩
theorem levelOf_bd {N : List Nd} (h : Nok N) (i : Nat) : -1 ≤ levelOf N i ∧ levelOf N i ≤ 44 := by
  have := ndAt_count h i
  unfold levelOf
  split <;> omega
theorem cntS_le (N : List Nd) (l : List Nat) : cntS N l ≤ 4611686018427387904 := by
  unfold cntS
  have : ∀ (l : List Nat) (c : Nat), c ≤ 4611686018427387904 → l.foldl (fun c i => min (c + (ndAt N i).1.count) 4611686018427387904) c ≤ 4611686018427387904 := by
    intro l
    induction l with
    | nil => intro c hc; exact hc
    | cons a l ih => intro c hc; exact ih _ (Nat.min_le_right _ _)
  exact this l 0 (by omega)
theorem cntS_next (N : List Nd) (l : List Nat) (i : Nat) : cntS N (l ++ [i]) = min (cntS N l + (ndAt N i).1.count) 4611686018427387904 := by
  unfold cntS
  rw [List.foldl_append]
  rfl
theorem ix0 (k : K4) (w : World) : (Instr.index 93 (KV k) (.int .i64 0)).run Tryz.prog w = .ok (.int .u32 k.1) w := by kernel_rfl
theorem ix1 (k : K4) (w : World) : (Instr.index 93 (KV k) (.int .i64 1)).run Tryz.prog w = .ok (.int .u32 k.2.1) w := by kernel_rfl
theorem ix2 (k : K4) (w : World) : (Instr.index 93 (KV k) (.int .i64 2)).run Tryz.prog w = .ok (.int .u32 k.2.2.1) w := by kernel_rfl
theorem ix3 (k : K4) (w : World) : (Instr.index 93 (KV k) (.int .i64 3)).run Tryz.prog w = .ok (.int .u32 k.2.2.2) w := by kernel_rfl
theorem nsize : (Tryz.prog.info? 95).map (·.size) = some 7 := by kernel_rfl
theorem stored_blk {w : World} {g : Nat} {t : TypeId} {old : Array Value} (h : Blk w g t old) (cs : Array Value) : Blk (w.setRow g cs) g t cs := setRow_heap w g old cs t (0, 0) h
theorem set0 {w : World} {Z : Nat} {t : TypeId} {a b c d e f g : Value} {x y : Int} (h : Blk w Z t #[a, b, c, d, e, f, g]) (hx : x = y) : Blk (w.setCell ⟨Z, 0, none⟩ (.int .u64 x)) Z t #[.int .u64 y, b, c, d, e, f, g] := by
  subst hx
  exact h.set_ 0 _
def AbR (w : World) (Z : Nat) (S : Sta) (k : K4) (lev : Int) (i : Value) (wr : World) : Prop :=
  ∃ m : Nat, m ≤ 4 ∧ i = .int .i64 m ∧ ((kli k).take m).all (kidOk S.N lev) = true ∧ Blk wr (w.heap.size + 1) 95 #[.int .u64 0, .int .u32 0, .int .u32 0, .int .u32 0, .int .u32 0, .int .u32 0, .int .i32 0] ∧
    Blk wr Z 95 #[.int .u64 (cntS S.N ((kli k).take m) : Nat), .int .u32 k.1, .int .u32 k.2.1, .int .u32 k.2.2.1, .int .u32 k.2.2.2, .int .u32 0, .int .i32 (lev + 1)] ∧ Below w.heap.size w wr
set_option maxRecDepth 100000 in
set_option maxHeartbeats 2000000 in
theorem above_any (g : Nat) (k : K4) (S : Sta) (P : Nat → Prop) (w : World) (h : ArAt w g S P) (hk : ok4 k) (hN : S.N.length ≤ 1000000) :
    Calls Tryz.prog 87 #[Pt g, KV k] w fun e w' => e = .returned (.tuple #[NV (aboveR S.N k).1, errV (aboveR S.N k).2]) ∧ Below w.heap.size w w' := by
  have hNok : Nok S.N := by
    obtain ⟨_, _, _, -, -, -, -, -, r, -⟩ := h
    exact r
  have ha := fun i hi W hW => at_any g i S P W hW hi hN
  have hl := fun W hW => level_any g k.1 S P W hW hk.1 hN
  have hlb := levelOf_bd hNok k.1
  have hct := ndAt_count hNok
  obtain ⟨nd, hnd⟩ : ∃ nd : Nat → Nd, ∀ i, (ndAt S.N i).1 = nd i := ⟨_, fun _ => rfl⟩
  obtain ⟨ok, hok⟩ : ∃ ok : Nat → Bool, ∀ i, (ndAt S.N i).2 = ok i := ⟨_, fun _ => rfl⟩
  have HKid := Lib.hid (show ∀ (i : Nat) (l : Int), kidOk S.N l i = (ok i && decide ((nd i).level = l)) from fun i l => by unfold kidOk; rw [hnd, hok])
  simp only [hnd, hok] at ha hct
  obtain ⟨R, hR⟩ : ∃ R, aboveR S.N k = R := ⟨_, rfl⟩
  rw [hR]
  unfold aboveR at hR
  obtain ⟨lev, hlev⟩ : ∃ lev, levelOf S.N k.1 = lev := ⟨_, rfl⟩
  rw [hlev] at hR hlb
  simp only [hlev] at hl
  have HR := Lib.hid hR
  have HND := Lib.hid hnd
  clear hR hlev hok hNok hnd
  have hb0 : Below w.heap.size w ((w.alloc (.cells #[.int .u32 k.1, .int .u32 k.2.1, .int .u32 k.2.2.1, .int .u32 k.2.2.2] 93)).alloc (.cells #[.int .u64 0, .int .u32 0, .int .u32 0, .int .u32 0, .int .u32 0, .int .u32 0, .int .i32 0] 95)) := ((Below.refl _ _).alloc (Nat.le_refl _) _).alloc (by simp) _
  have k0 := (Blk.newAt w 93 #[.int .u32 k.1, .int .u32 k.2.1, .int .u32 k.2.2.1, .int .u32 k.2.2.2] _ rfl).alloc (.cells #[.int .u64 0, .int .u32 0, .int .u32 0, .int .u32 0, .int .u32 0, .int .u32 0, .int .i32 0] 95)
  have kr0 := Blk.newAt (w.alloc (.cells #[.int .u32 k.1, .int .u32 k.2.1, .int .u32 k.2.2.1, .int .u32 k.2.2.2] 93)) 95 #[.int .u64 0, .int .u32 0, .int .u32 0, .int .u32 0, .int .u32 0, .int .u32 0, .int .i32 0] (w.heap.size + 1) (by simp)
  go_enter Tryz.func87, Tryz.ntmps87
  go_wp2_with fail
  refine (hl _ (h.under hb0)).mono ?_
  rintro e w1 ⟨rfl, hb1⟩
  have k1 := k0.under hb1
  have kr1 := kr0.under hb1
  have hbw1 : Below w.heap.size w w1 := hb0.trans (hb1.mono hb0.size)
  clear hb1 hl k0 kr0 hb0
  have q0 := k1.cell 0
  have q1 := k1.cell 1
  have q2 := k1.cell 2
  have q3 := k1.cell 3
  simp only [List.getElem?_toArray, List.getElem?_cons_zero, List.getElem?_cons_succ] at q0 q1 q2 q3
  have hlt1 := k1.lt
  have hlt2 := kr1.lt
  have kn1 := Blk.newAt w1 95 #[.int .u64 0, .int .u32 k.1, .int .u32 k.2.1, .int .u32 k.2.2.1, .int .u32 k.2.2.2, .int .u32 0, .int .i32 (lev + 1)] _ rfl
  have kr2 := kr1.alloc (.cells #[.int .u64 0, .int .u32 k.1, .int .u32 k.2.1, .int .u32 k.2.2.1, .int .u32 k.2.2.2, .int .u32 0, .int .i32 (lev + 1)] 95)
  have hbw2 := hbw1.alloc hbw1.size (.cells #[.int .u64 0, .int .u32 k.1, .int .u32 k.2.1, .int .u32 k.2.2.1, .int .u32 k.2.2.2, .int .u32 0, .int .i32 (lev + 1)] 95)
  clear k1 kr1
  go_wp2_with fail
  go_loopw [22] (fun i wr => AbR w w1.heap.size S k lev i wr) (fun i _ => 4 - (intOf i).toNat)
  case atStart => exact ⟨0, by omega, rfl, rfl, kr2, kn1, hbw2⟩
  case round =>
    clear kn1 kr2 hbw2 q0 q1 q2 q3 hbw1
    obtain ⟨m, hm, rfl, hall, kr, kn, hb⟩ := hrel
    have HAll := Lib.hid hall
    clear hall
    by_cases hlt : m < 4
    · obtain rfl | rfl | rfl | rfl : m = 0 ∨ m = 1 ∨ m = 2 ∨ m = 3 := by omega
      all_goals clear hlt hm
      · have hix := ix0 k
        have ha1 := ha k.1 hk.1
        have hcl := cntS_le S.N ((kli k).take 0)
        have hcq := (hct k.1).1
        have hcv := (hct k.1).2
        have HC := Lib.hid (show cntS S.N ((kli k).take 1) = min (cntS S.N ((kli k).take 0) + (nd k.1).count) 4611686018427387904 by rw [← HND.out k.1]; exact cntS_next S.N ((kli k).take 0) k.1)
        generalize cntS S.N ((kli k).take 0) = c at *
        clear ha hct HND
        cases hov : ok k.1
        · rw [hov] at ha1
          have HB := Lib.hid (show R = (nd0, some 4) by rw [← HR.out, if_neg]; simp [kli, HKid.out, hov])
          clear HR HAll HKid hov HC hcl hcq
          ((go_wp2_with fail; with_reducible refine (ha1 _ (h.under hb)).mono ?_; rintro e w2 ⟨rfl, hb2⟩; have kr2 := kr.under hb2; have kn2 := kn.under hb2; have hbw2 : Below w.heap.size w w2 := hb.trans (hb2.mono hb.size); have hz2 := hb2.size; clear hb2 kr kn hb ha1; have lr := kr2.lt; have ln := kn2.lt); go_upto_region 8 with fail; have kr3 := kr2.alloc (.cells #[.int .u64 (nd k.1).count, .int .u32 (nd k.1).k.1, .int .u32 (nd k.1).k.2.1, .int .u32 (nd k.1).k.2.2.1, .int .u32 (nd k.1).k.2.2.2, .int .u32 (nd k.1).bits, .int .i32 (nd k.1).level] 95); have hbw3 := hbw2.alloc hbw2.size (.cells #[.int .u64 (nd k.1).count, .int .u32 (nd k.1).k.1, .int .u32 (nd k.1).k.2.1, .int .u32 (nd k.1).k.2.2.1, .int .u32 (nd k.1).k.2.2.2, .int .u32 (nd k.1).bits, .int .i32 (nd k.1).level] 95); change Code.wp _ _ _ _ (w2.alloc (.cells #[.int .u64 (nd k.1).count, .int .u32 (nd k.1).k.1, .int .u32 (nd k.1).k.2.1, .int .u32 (nd k.1).k.2.2.1, .int .u32 (nd k.1).k.2.2.2, .int .u32 (nd k.1).bits, .int .i32 (nd k.1).level] 95)); generalize w2.alloc (.cells #[.int .u64 (nd k.1).count, .int .u32 (nd k.1).k.1, .int .u32 (nd k.1).k.2.1, .int .u32 (nd k.1).k.2.2.1, .int .u32 (nd k.1).k.2.2.2, .int .u32 (nd k.1).bits, .int .i32 (nd k.1).level] 95) = w3 at *; have r0 := kr3.cell 0; have r1 := kr3.cell 1; have r2 := kr3.cell 2; have r3 := kr3.cell 3; have r4 := kr3.cell 4; have r5 := kr3.cell 5; have r6 := kr3.cell 6; have fr0 := kr3.frozen 0; have fr1 := kr3.frozen 1; have fr2 := kr3.frozen 2; have fr3 := kr3.frozen 3; have fr4 := kr3.frozen 4; have fr5 := kr3.frozen 5; have fr6 := kr3.frozen 6; simp only [List.getElem?_toArray, List.getElem?_cons_zero, List.getElem?_cons_succ] at r0 r1 r2 r3 r4 r5 r6; have lr3 := kr3.lt; clear kr2 kn2 kr3 hbw2 lr ln hz2 hix hlt1 hlt2 h hk; go_wp2; exact bodyPost_ret (v := .tuple #[NV nd0, errV (some 4)]) (by simp [results, Tryz.results87, go_sem, nd0, errV, *]) rfl ⟨by rw [HB.out], by go_grown⟩)
        · rw [hov] at ha1
          by_cases hv : (nd k.1).level = lev
          · have HG := Lib.hid (show ((kli k).take 1).all (kidOk S.N lev) = true by have := HAll.out; simp [kli, HKid.out, hov, hv] at this ⊢; try exact this)
            clear HR HAll HKid hov
            ((go_wp2_with fail; with_reducible refine (ha1 _ (h.under hb)).mono ?_; rintro e w2 ⟨rfl, hb2⟩; have kr2 := kr.under hb2; have kn2 := kn.under hb2; have hbw2 : Below w.heap.size w w2 := hb.trans (hb2.mono hb.size); have hz2 := hb2.size; clear hb2 kr kn hb ha1; have lr := kr2.lt; have ln := kn2.lt); go_upto_region 9 with fail; have kr3 := kr2.alloc (.cells #[.int .u64 (nd k.1).count, .int .u32 (nd k.1).k.1, .int .u32 (nd k.1).k.2.1, .int .u32 (nd k.1).k.2.2.1, .int .u32 (nd k.1).k.2.2.2, .int .u32 (nd k.1).bits, .int .i32 lev] 95); have kn3 := kn2.alloc (.cells #[.int .u64 (nd k.1).count, .int .u32 (nd k.1).k.1, .int .u32 (nd k.1).k.2.1, .int .u32 (nd k.1).k.2.2.1, .int .u32 (nd k.1).k.2.2.2, .int .u32 (nd k.1).bits, .int .i32 lev] 95); have kd3 := Blk.newAt w2 95 #[.int .u64 (nd k.1).count, .int .u32 (nd k.1).k.1, .int .u32 (nd k.1).k.2.1, .int .u32 (nd k.1).k.2.2.1, .int .u32 (nd k.1).k.2.2.2, .int .u32 (nd k.1).bits, .int .i32 lev] _ rfl; have hbw3 := hbw2.alloc hbw2.size (.cells #[.int .u64 (nd k.1).count, .int .u32 (nd k.1).k.1, .int .u32 (nd k.1).k.2.1, .int .u32 (nd k.1).k.2.2.1, .int .u32 (nd k.1).k.2.2.2, .int .u32 (nd k.1).bits, .int .i32 lev] 95); change Code.wp _ _ _ _ (w2.alloc (.cells #[.int .u64 (nd k.1).count, .int .u32 (nd k.1).k.1, .int .u32 (nd k.1).k.2.1, .int .u32 (nd k.1).k.2.2.1, .int .u32 (nd k.1).k.2.2.2, .int .u32 (nd k.1).bits, .int .i32 lev] 95)); generalize w2.alloc (.cells #[.int .u64 (nd k.1).count, .int .u32 (nd k.1).k.1, .int .u32 (nd k.1).k.2.1, .int .u32 (nd k.1).k.2.2.1, .int .u32 (nd k.1).k.2.2.2, .int .u32 (nd k.1).bits, .int .i32 lev] 95) = w3 at *; have d0 := kd3.cell 0; have n0 := kn3.cell 0; have fn0 := kn3.frozen 0; simp only [List.getElem?_toArray, List.getElem?_cons_zero] at d0 n0; have ld := kd3.lt; have ln3 := kn3.lt; clear kr2 kn2 kd3 hbw2; go_wp2; all_goals refine ⟨⟨1, by omega, rfl, HG.out, kr3.far (by dsimp only; omega) _, set0 kn3 ?_, hbw3.setCell (by dsimp only; omega) _⟩, by simp [intOf]⟩; all_goals rw [HC.out]; all_goals omega)
          · have HB := Lib.hid (show R = (nd0, some 4) by rw [← HR.out, if_neg]; simp [kli, HKid.out, hov, hv])
            have hwl : wrap64 (nd k.1).level = (nd k.1).level := by unfold wrap64; omega
            have hnl : ((nd k.1).level != lev) = true := by simp [hv]
            clear HR HAll HKid hov HC hcl hcq hcv
            ((go_wp2_with fail; with_reducible refine (ha1 _ (h.under hb)).mono ?_; rintro e w2 ⟨rfl, hb2⟩; have kr2 := kr.under hb2; have kn2 := kn.under hb2; have hbw2 : Below w.heap.size w w2 := hb.trans (hb2.mono hb.size); have hz2 := hb2.size; clear hb2 kr kn hb ha1; have lr := kr2.lt; have ln := kn2.lt); go_upto_region 8 with fail; have kr3 := kr2.alloc (.cells #[.int .u64 (nd k.1).count, .int .u32 (nd k.1).k.1, .int .u32 (nd k.1).k.2.1, .int .u32 (nd k.1).k.2.2.1, .int .u32 (nd k.1).k.2.2.2, .int .u32 (nd k.1).bits, .int .i32 (nd k.1).level] 95); have hbw3 := hbw2.alloc hbw2.size (.cells #[.int .u64 (nd k.1).count, .int .u32 (nd k.1).k.1, .int .u32 (nd k.1).k.2.1, .int .u32 (nd k.1).k.2.2.1, .int .u32 (nd k.1).k.2.2.2, .int .u32 (nd k.1).bits, .int .i32 (nd k.1).level] 95); change Code.wp _ _ _ _ (w2.alloc (.cells #[.int .u64 (nd k.1).count, .int .u32 (nd k.1).k.1, .int .u32 (nd k.1).k.2.1, .int .u32 (nd k.1).k.2.2.1, .int .u32 (nd k.1).k.2.2.2, .int .u32 (nd k.1).bits, .int .i32 (nd k.1).level] 95)); generalize w2.alloc (.cells #[.int .u64 (nd k.1).count, .int .u32 (nd k.1).k.1, .int .u32 (nd k.1).k.2.1, .int .u32 (nd k.1).k.2.2.1, .int .u32 (nd k.1).k.2.2.2, .int .u32 (nd k.1).bits, .int .i32 (nd k.1).level] 95) = w3 at *; have r0 := kr3.cell 0; have r1 := kr3.cell 1; have r2 := kr3.cell 2; have r3 := kr3.cell 3; have r4 := kr3.cell 4; have r5 := kr3.cell 5; have r6 := kr3.cell 6; have fr0 := kr3.frozen 0; have fr1 := kr3.frozen 1; have fr2 := kr3.frozen 2; have fr3 := kr3.frozen 3; have fr4 := kr3.frozen 4; have fr5 := kr3.frozen 5; have fr6 := kr3.frozen 6; simp only [List.getElem?_toArray, List.getElem?_cons_zero, List.getElem?_cons_succ] at r0 r1 r2 r3 r4 r5 r6; have lr3 := kr3.lt; clear kr2 kn2 kr3 hbw2 lr ln hz2 hix hlt1 hlt2 h hk; go_wp2; exact bodyPost_ret (v := .tuple #[NV nd0, errV (some 4)]) (by simp [results, Tryz.results87, go_sem, nd0, errV, *]) rfl ⟨by rw [HB.out], by go_grown⟩)
      · have hix := ix1 k
        have ha1 := ha k.2.1 hk.2.1
        have hcl := cntS_le S.N ((kli k).take 1)
        have hcq := (hct k.2.1).1
        have hcv := (hct k.2.1).2
        have HC := Lib.hid (show cntS S.N ((kli k).take 2) = min (cntS S.N ((kli k).take 1) + (nd k.2.1).count) 4611686018427387904 by rw [← HND.out k.2.1]; exact cntS_next S.N ((kli k).take 1) k.2.1)
        generalize cntS S.N ((kli k).take 1) = c at *
        clear ha hct HND
        cases hov : ok k.2.1
        · rw [hov] at ha1
          have HB := Lib.hid (show R = (nd0, some 4) by rw [← HR.out, if_neg]; simp [kli, HKid.out, hov])
          clear HR HAll HKid hov HC hcl hcq
          ((go_wp2_with fail; with_reducible refine (ha1 _ (h.under hb)).mono ?_; rintro e w2 ⟨rfl, hb2⟩; have kr2 := kr.under hb2; have kn2 := kn.under hb2; have hbw2 : Below w.heap.size w w2 := hb.trans (hb2.mono hb.size); have hz2 := hb2.size; clear hb2 kr kn hb ha1; have lr := kr2.lt; have ln := kn2.lt); go_upto_region 8 with fail; have kr3 := kr2.alloc (.cells #[.int .u64 (nd k.2.1).count, .int .u32 (nd k.2.1).k.1, .int .u32 (nd k.2.1).k.2.1, .int .u32 (nd k.2.1).k.2.2.1, .int .u32 (nd k.2.1).k.2.2.2, .int .u32 (nd k.2.1).bits, .int .i32 (nd k.2.1).level] 95); have hbw3 := hbw2.alloc hbw2.size (.cells #[.int .u64 (nd k.2.1).count, .int .u32 (nd k.2.1).k.1, .int .u32 (nd k.2.1).k.2.1, .int .u32 (nd k.2.1).k.2.2.1, .int .u32 (nd k.2.1).k.2.2.2, .int .u32 (nd k.2.1).bits, .int .i32 (nd k.2.1).level] 95); change Code.wp _ _ _ _ (w2.alloc (.cells #[.int .u64 (nd k.2.1).count, .int .u32 (nd k.2.1).k.1, .int .u32 (nd k.2.1).k.2.1, .int .u32 (nd k.2.1).k.2.2.1, .int .u32 (nd k.2.1).k.2.2.2, .int .u32 (nd k.2.1).bits, .int .i32 (nd k.2.1).level] 95)); generalize w2.alloc (.cells #[.int .u64 (nd k.2.1).count, .int .u32 (nd k.2.1).k.1, .int .u32 (nd k.2.1).k.2.1, .int .u32 (nd k.2.1).k.2.2.1, .int .u32 (nd k.2.1).k.2.2.2, .int .u32 (nd k.2.1).bits, .int .i32 (nd k.2.1).level] 95) = w3 at *; have r0 := kr3.cell 0; have r1 := kr3.cell 1; have r2 := kr3.cell 2; have r3 := kr3.cell 3; have r4 := kr3.cell 4; have r5 := kr3.cell 5; have r6 := kr3.cell 6; have fr0 := kr3.frozen 0; have fr1 := kr3.frozen 1; have fr2 := kr3.frozen 2; have fr3 := kr3.frozen 3; have fr4 := kr3.frozen 4; have fr5 := kr3.frozen 5; have fr6 := kr3.frozen 6; simp only [List.getElem?_toArray, List.getElem?_cons_zero, List.getElem?_cons_succ] at r0 r1 r2 r3 r4 r5 r6; have lr3 := kr3.lt; clear kr2 kn2 kr3 hbw2 lr ln hz2 hix hlt1 hlt2 h hk; go_wp2; exact bodyPost_ret (v := .tuple #[NV nd0, errV (some 4)]) (by simp [results, Tryz.results87, go_sem, nd0, errV, *]) rfl ⟨by rw [HB.out], by go_grown⟩)
        · rw [hov] at ha1
          by_cases hv : (nd k.2.1).level = lev
          · have HG := Lib.hid (show ((kli k).take 2).all (kidOk S.N lev) = true by have := HAll.out; simp [kli, HKid.out, hov, hv] at this ⊢; try exact this)
            clear HR HAll HKid hov
            ((go_wp2_with fail; with_reducible refine (ha1 _ (h.under hb)).mono ?_; rintro e w2 ⟨rfl, hb2⟩; have kr2 := kr.under hb2; have kn2 := kn.under hb2; have hbw2 : Below w.heap.size w w2 := hb.trans (hb2.mono hb.size); have hz2 := hb2.size; clear hb2 kr kn hb ha1; have lr := kr2.lt; have ln := kn2.lt); go_upto_region 9 with fail; have kr3 := kr2.alloc (.cells #[.int .u64 (nd k.2.1).count, .int .u32 (nd k.2.1).k.1, .int .u32 (nd k.2.1).k.2.1, .int .u32 (nd k.2.1).k.2.2.1, .int .u32 (nd k.2.1).k.2.2.2, .int .u32 (nd k.2.1).bits, .int .i32 lev] 95); have kn3 := kn2.alloc (.cells #[.int .u64 (nd k.2.1).count, .int .u32 (nd k.2.1).k.1, .int .u32 (nd k.2.1).k.2.1, .int .u32 (nd k.2.1).k.2.2.1, .int .u32 (nd k.2.1).k.2.2.2, .int .u32 (nd k.2.1).bits, .int .i32 lev] 95); have kd3 := Blk.newAt w2 95 #[.int .u64 (nd k.2.1).count, .int .u32 (nd k.2.1).k.1, .int .u32 (nd k.2.1).k.2.1, .int .u32 (nd k.2.1).k.2.2.1, .int .u32 (nd k.2.1).k.2.2.2, .int .u32 (nd k.2.1).bits, .int .i32 lev] _ rfl; have hbw3 := hbw2.alloc hbw2.size (.cells #[.int .u64 (nd k.2.1).count, .int .u32 (nd k.2.1).k.1, .int .u32 (nd k.2.1).k.2.1, .int .u32 (nd k.2.1).k.2.2.1, .int .u32 (nd k.2.1).k.2.2.2, .int .u32 (nd k.2.1).bits, .int .i32 lev] 95); change Code.wp _ _ _ _ (w2.alloc (.cells #[.int .u64 (nd k.2.1).count, .int .u32 (nd k.2.1).k.1, .int .u32 (nd k.2.1).k.2.1, .int .u32 (nd k.2.1).k.2.2.1, .int .u32 (nd k.2.1).k.2.2.2, .int .u32 (nd k.2.1).bits, .int .i32 lev] 95)); generalize w2.alloc (.cells #[.int .u64 (nd k.2.1).count, .int .u32 (nd k.2.1).k.1, .int .u32 (nd k.2.1).k.2.1, .int .u32 (nd k.2.1).k.2.2.1, .int .u32 (nd k.2.1).k.2.2.2, .int .u32 (nd k.2.1).bits, .int .i32 lev] 95) = w3 at *; have d0 := kd3.cell 0; have n0 := kn3.cell 0; have fn0 := kn3.frozen 0; simp only [List.getElem?_toArray, List.getElem?_cons_zero] at d0 n0; have ld := kd3.lt; have ln3 := kn3.lt; clear kr2 kn2 kd3 hbw2; go_wp2; all_goals refine ⟨⟨2, by omega, rfl, HG.out, kr3.far (by dsimp only; omega) _, set0 kn3 ?_, hbw3.setCell (by dsimp only; omega) _⟩, by simp [intOf]⟩; all_goals rw [HC.out]; all_goals omega)
          · have HB := Lib.hid (show R = (nd0, some 4) by rw [← HR.out, if_neg]; simp [kli, HKid.out, hov, hv])
            have hwl : wrap64 (nd k.2.1).level = (nd k.2.1).level := by unfold wrap64; omega
            have hnl : ((nd k.2.1).level != lev) = true := by simp [hv]
            clear HR HAll HKid hov HC hcl hcq hcv
            ((go_wp2_with fail; with_reducible refine (ha1 _ (h.under hb)).mono ?_; rintro e w2 ⟨rfl, hb2⟩; have kr2 := kr.under hb2; have kn2 := kn.under hb2; have hbw2 : Below w.heap.size w w2 := hb.trans (hb2.mono hb.size); have hz2 := hb2.size; clear hb2 kr kn hb ha1; have lr := kr2.lt; have ln := kn2.lt); go_upto_region 8 with fail; have kr3 := kr2.alloc (.cells #[.int .u64 (nd k.2.1).count, .int .u32 (nd k.2.1).k.1, .int .u32 (nd k.2.1).k.2.1, .int .u32 (nd k.2.1).k.2.2.1, .int .u32 (nd k.2.1).k.2.2.2, .int .u32 (nd k.2.1).bits, .int .i32 (nd k.2.1).level] 95); have hbw3 := hbw2.alloc hbw2.size (.cells #[.int .u64 (nd k.2.1).count, .int .u32 (nd k.2.1).k.1, .int .u32 (nd k.2.1).k.2.1, .int .u32 (nd k.2.1).k.2.2.1, .int .u32 (nd k.2.1).k.2.2.2, .int .u32 (nd k.2.1).bits, .int .i32 (nd k.2.1).level] 95); change Code.wp _ _ _ _ (w2.alloc (.cells #[.int .u64 (nd k.2.1).count, .int .u32 (nd k.2.1).k.1, .int .u32 (nd k.2.1).k.2.1, .int .u32 (nd k.2.1).k.2.2.1, .int .u32 (nd k.2.1).k.2.2.2, .int .u32 (nd k.2.1).bits, .int .i32 (nd k.2.1).level] 95)); generalize w2.alloc (.cells #[.int .u64 (nd k.2.1).count, .int .u32 (nd k.2.1).k.1, .int .u32 (nd k.2.1).k.2.1, .int .u32 (nd k.2.1).k.2.2.1, .int .u32 (nd k.2.1).k.2.2.2, .int .u32 (nd k.2.1).bits, .int .i32 (nd k.2.1).level] 95) = w3 at *; have r0 := kr3.cell 0; have r1 := kr3.cell 1; have r2 := kr3.cell 2; have r3 := kr3.cell 3; have r4 := kr3.cell 4; have r5 := kr3.cell 5; have r6 := kr3.cell 6; have fr0 := kr3.frozen 0; have fr1 := kr3.frozen 1; have fr2 := kr3.frozen 2; have fr3 := kr3.frozen 3; have fr4 := kr3.frozen 4; have fr5 := kr3.frozen 5; have fr6 := kr3.frozen 6; simp only [List.getElem?_toArray, List.getElem?_cons_zero, List.getElem?_cons_succ] at r0 r1 r2 r3 r4 r5 r6; have lr3 := kr3.lt; clear kr2 kn2 kr3 hbw2 lr ln hz2 hix hlt1 hlt2 h hk; go_wp2; exact bodyPost_ret (v := .tuple #[NV nd0, errV (some 4)]) (by simp [results, Tryz.results87, go_sem, nd0, errV, *]) rfl ⟨by rw [HB.out], by go_grown⟩)
      · have hix := ix2 k
        have ha1 := ha k.2.2.1 hk.2.2.1
        have hcl := cntS_le S.N ((kli k).take 2)
        have hcq := (hct k.2.2.1).1
        have hcv := (hct k.2.2.1).2
        have HC := Lib.hid (show cntS S.N ((kli k).take 3) = min (cntS S.N ((kli k).take 2) + (nd k.2.2.1).count) 4611686018427387904 by rw [← HND.out k.2.2.1]; exact cntS_next S.N ((kli k).take 2) k.2.2.1)
        generalize cntS S.N ((kli k).take 2) = c at *
        clear ha hct HND
        cases hov : ok k.2.2.1
        · rw [hov] at ha1
          have HB := Lib.hid (show R = (nd0, some 4) by rw [← HR.out, if_neg]; simp [kli, HKid.out, hov])
          clear HR HAll HKid hov HC hcl hcq
          ((go_wp2_with fail; with_reducible refine (ha1 _ (h.under hb)).mono ?_; rintro e w2 ⟨rfl, hb2⟩; have kr2 := kr.under hb2; have kn2 := kn.under hb2; have hbw2 : Below w.heap.size w w2 := hb.trans (hb2.mono hb.size); have hz2 := hb2.size; clear hb2 kr kn hb ha1; have lr := kr2.lt; have ln := kn2.lt); go_upto_region 8 with fail; have kr3 := kr2.alloc (.cells #[.int .u64 (nd k.2.2.1).count, .int .u32 (nd k.2.2.1).k.1, .int .u32 (nd k.2.2.1).k.2.1, .int .u32 (nd k.2.2.1).k.2.2.1, .int .u32 (nd k.2.2.1).k.2.2.2, .int .u32 (nd k.2.2.1).bits, .int .i32 (nd k.2.2.1).level] 95); have hbw3 := hbw2.alloc hbw2.size (.cells #[.int .u64 (nd k.2.2.1).count, .int .u32 (nd k.2.2.1).k.1, .int .u32 (nd k.2.2.1).k.2.1, .int .u32 (nd k.2.2.1).k.2.2.1, .int .u32 (nd k.2.2.1).k.2.2.2, .int .u32 (nd k.2.2.1).bits, .int .i32 (nd k.2.2.1).level] 95); change Code.wp _ _ _ _ (w2.alloc (.cells #[.int .u64 (nd k.2.2.1).count, .int .u32 (nd k.2.2.1).k.1, .int .u32 (nd k.2.2.1).k.2.1, .int .u32 (nd k.2.2.1).k.2.2.1, .int .u32 (nd k.2.2.1).k.2.2.2, .int .u32 (nd k.2.2.1).bits, .int .i32 (nd k.2.2.1).level] 95)); generalize w2.alloc (.cells #[.int .u64 (nd k.2.2.1).count, .int .u32 (nd k.2.2.1).k.1, .int .u32 (nd k.2.2.1).k.2.1, .int .u32 (nd k.2.2.1).k.2.2.1, .int .u32 (nd k.2.2.1).k.2.2.2, .int .u32 (nd k.2.2.1).bits, .int .i32 (nd k.2.2.1).level] 95) = w3 at *; have r0 := kr3.cell 0; have r1 := kr3.cell 1; have r2 := kr3.cell 2; have r3 := kr3.cell 3; have r4 := kr3.cell 4; have r5 := kr3.cell 5; have r6 := kr3.cell 6; have fr0 := kr3.frozen 0; have fr1 := kr3.frozen 1; have fr2 := kr3.frozen 2; have fr3 := kr3.frozen 3; have fr4 := kr3.frozen 4; have fr5 := kr3.frozen 5; have fr6 := kr3.frozen 6; simp only [List.getElem?_toArray, List.getElem?_cons_zero, List.getElem?_cons_succ] at r0 r1 r2 r3 r4 r5 r6; have lr3 := kr3.lt; clear kr2 kn2 kr3 hbw2 lr ln hz2 hix hlt1 hlt2 h hk; go_wp2; exact bodyPost_ret (v := .tuple #[NV nd0, errV (some 4)]) (by simp [results, Tryz.results87, go_sem, nd0, errV, *]) rfl ⟨by rw [HB.out], by go_grown⟩)
        · rw [hov] at ha1
          by_cases hv : (nd k.2.2.1).level = lev
          · have HG := Lib.hid (show ((kli k).take 3).all (kidOk S.N lev) = true by have := HAll.out; simp [kli, HKid.out, hov, hv] at this ⊢; try exact this)
            clear HR HAll HKid hov
            ((go_wp2_with fail; with_reducible refine (ha1 _ (h.under hb)).mono ?_; rintro e w2 ⟨rfl, hb2⟩; have kr2 := kr.under hb2; have kn2 := kn.under hb2; have hbw2 : Below w.heap.size w w2 := hb.trans (hb2.mono hb.size); have hz2 := hb2.size; clear hb2 kr kn hb ha1; have lr := kr2.lt; have ln := kn2.lt); go_upto_region 9 with fail; have kr3 := kr2.alloc (.cells #[.int .u64 (nd k.2.2.1).count, .int .u32 (nd k.2.2.1).k.1, .int .u32 (nd k.2.2.1).k.2.1, .int .u32 (nd k.2.2.1).k.2.2.1, .int .u32 (nd k.2.2.1).k.2.2.2, .int .u32 (nd k.2.2.1).bits, .int .i32 lev] 95); have kn3 := kn2.alloc (.cells #[.int .u64 (nd k.2.2.1).count, .int .u32 (nd k.2.2.1).k.1, .int .u32 (nd k.2.2.1).k.2.1, .int .u32 (nd k.2.2.1).k.2.2.1, .int .u32 (nd k.2.2.1).k.2.2.2, .int .u32 (nd k.2.2.1).bits, .int .i32 lev] 95); have kd3 := Blk.newAt w2 95 #[.int .u64 (nd k.2.2.1).count, .int .u32 (nd k.2.2.1).k.1, .int .u32 (nd k.2.2.1).k.2.1, .int .u32 (nd k.2.2.1).k.2.2.1, .int .u32 (nd k.2.2.1).k.2.2.2, .int .u32 (nd k.2.2.1).bits, .int .i32 lev] _ rfl; have hbw3 := hbw2.alloc hbw2.size (.cells #[.int .u64 (nd k.2.2.1).count, .int .u32 (nd k.2.2.1).k.1, .int .u32 (nd k.2.2.1).k.2.1, .int .u32 (nd k.2.2.1).k.2.2.1, .int .u32 (nd k.2.2.1).k.2.2.2, .int .u32 (nd k.2.2.1).bits, .int .i32 lev] 95); change Code.wp _ _ _ _ (w2.alloc (.cells #[.int .u64 (nd k.2.2.1).count, .int .u32 (nd k.2.2.1).k.1, .int .u32 (nd k.2.2.1).k.2.1, .int .u32 (nd k.2.2.1).k.2.2.1, .int .u32 (nd k.2.2.1).k.2.2.2, .int .u32 (nd k.2.2.1).bits, .int .i32 lev] 95)); generalize w2.alloc (.cells #[.int .u64 (nd k.2.2.1).count, .int .u32 (nd k.2.2.1).k.1, .int .u32 (nd k.2.2.1).k.2.1, .int .u32 (nd k.2.2.1).k.2.2.1, .int .u32 (nd k.2.2.1).k.2.2.2, .int .u32 (nd k.2.2.1).bits, .int .i32 lev] 95) = w3 at *; have d0 := kd3.cell 0; have n0 := kn3.cell 0; have fn0 := kn3.frozen 0; simp only [List.getElem?_toArray, List.getElem?_cons_zero] at d0 n0; have ld := kd3.lt; have ln3 := kn3.lt; clear kr2 kn2 kd3 hbw2; go_wp2; all_goals refine ⟨⟨3, by omega, rfl, HG.out, kr3.far (by dsimp only; omega) _, set0 kn3 ?_, hbw3.setCell (by dsimp only; omega) _⟩, by simp [intOf]⟩; all_goals rw [HC.out]; all_goals omega)
          · have HB := Lib.hid (show R = (nd0, some 4) by rw [← HR.out, if_neg]; simp [kli, HKid.out, hov, hv])
            have hwl : wrap64 (nd k.2.2.1).level = (nd k.2.2.1).level := by unfold wrap64; omega
            have hnl : ((nd k.2.2.1).level != lev) = true := by simp [hv]
            clear HR HAll HKid hov HC hcl hcq hcv
            ((go_wp2_with fail; with_reducible refine (ha1 _ (h.under hb)).mono ?_; rintro e w2 ⟨rfl, hb2⟩; have kr2 := kr.under hb2; have kn2 := kn.under hb2; have hbw2 : Below w.heap.size w w2 := hb.trans (hb2.mono hb.size); have hz2 := hb2.size; clear hb2 kr kn hb ha1; have lr := kr2.lt; have ln := kn2.lt); go_upto_region 8 with fail; have kr3 := kr2.alloc (.cells #[.int .u64 (nd k.2.2.1).count, .int .u32 (nd k.2.2.1).k.1, .int .u32 (nd k.2.2.1).k.2.1, .int .u32 (nd k.2.2.1).k.2.2.1, .int .u32 (nd k.2.2.1).k.2.2.2, .int .u32 (nd k.2.2.1).bits, .int .i32 (nd k.2.2.1).level] 95); have hbw3 := hbw2.alloc hbw2.size (.cells #[.int .u64 (nd k.2.2.1).count, .int .u32 (nd k.2.2.1).k.1, .int .u32 (nd k.2.2.1).k.2.1, .int .u32 (nd k.2.2.1).k.2.2.1, .int .u32 (nd k.2.2.1).k.2.2.2, .int .u32 (nd k.2.2.1).bits, .int .i32 (nd k.2.2.1).level] 95); change Code.wp _ _ _ _ (w2.alloc (.cells #[.int .u64 (nd k.2.2.1).count, .int .u32 (nd k.2.2.1).k.1, .int .u32 (nd k.2.2.1).k.2.1, .int .u32 (nd k.2.2.1).k.2.2.1, .int .u32 (nd k.2.2.1).k.2.2.2, .int .u32 (nd k.2.2.1).bits, .int .i32 (nd k.2.2.1).level] 95)); generalize w2.alloc (.cells #[.int .u64 (nd k.2.2.1).count, .int .u32 (nd k.2.2.1).k.1, .int .u32 (nd k.2.2.1).k.2.1, .int .u32 (nd k.2.2.1).k.2.2.1, .int .u32 (nd k.2.2.1).k.2.2.2, .int .u32 (nd k.2.2.1).bits, .int .i32 (nd k.2.2.1).level] 95) = w3 at *; have r0 := kr3.cell 0; have r1 := kr3.cell 1; have r2 := kr3.cell 2; have r3 := kr3.cell 3; have r4 := kr3.cell 4; have r5 := kr3.cell 5; have r6 := kr3.cell 6; have fr0 := kr3.frozen 0; have fr1 := kr3.frozen 1; have fr2 := kr3.frozen 2; have fr3 := kr3.frozen 3; have fr4 := kr3.frozen 4; have fr5 := kr3.frozen 5; have fr6 := kr3.frozen 6; simp only [List.getElem?_toArray, List.getElem?_cons_zero, List.getElem?_cons_succ] at r0 r1 r2 r3 r4 r5 r6; have lr3 := kr3.lt; clear kr2 kn2 kr3 hbw2 lr ln hz2 hix hlt1 hlt2 h hk; go_wp2; exact bodyPost_ret (v := .tuple #[NV nd0, errV (some 4)]) (by simp [results, Tryz.results87, go_sem, nd0, errV, *]) rfl ⟨by rw [HB.out], by go_grown⟩)
      · have hix := ix3 k
        have ha1 := ha k.2.2.2 hk.2.2.2
        have hcl := cntS_le S.N ((kli k).take 3)
        have hcq := (hct k.2.2.2).1
        have hcv := (hct k.2.2.2).2
        have HC := Lib.hid (show cntS S.N ((kli k).take 4) = min (cntS S.N ((kli k).take 3) + (nd k.2.2.2).count) 4611686018427387904 by rw [← HND.out k.2.2.2]; exact cntS_next S.N ((kli k).take 3) k.2.2.2)
        generalize cntS S.N ((kli k).take 3) = c at *
        clear ha hct HND
        cases hov : ok k.2.2.2
        · rw [hov] at ha1
          have HB := Lib.hid (show R = (nd0, some 4) by rw [← HR.out, if_neg]; simp [kli, HKid.out, hov])
          clear HR HAll HKid hov HC hcl hcq
          ((go_wp2_with fail; with_reducible refine (ha1 _ (h.under hb)).mono ?_; rintro e w2 ⟨rfl, hb2⟩; have kr2 := kr.under hb2; have kn2 := kn.under hb2; have hbw2 : Below w.heap.size w w2 := hb.trans (hb2.mono hb.size); have hz2 := hb2.size; clear hb2 kr kn hb ha1; have lr := kr2.lt; have ln := kn2.lt); go_upto_region 8 with fail; have kr3 := kr2.alloc (.cells #[.int .u64 (nd k.2.2.2).count, .int .u32 (nd k.2.2.2).k.1, .int .u32 (nd k.2.2.2).k.2.1, .int .u32 (nd k.2.2.2).k.2.2.1, .int .u32 (nd k.2.2.2).k.2.2.2, .int .u32 (nd k.2.2.2).bits, .int .i32 (nd k.2.2.2).level] 95); have hbw3 := hbw2.alloc hbw2.size (.cells #[.int .u64 (nd k.2.2.2).count, .int .u32 (nd k.2.2.2).k.1, .int .u32 (nd k.2.2.2).k.2.1, .int .u32 (nd k.2.2.2).k.2.2.1, .int .u32 (nd k.2.2.2).k.2.2.2, .int .u32 (nd k.2.2.2).bits, .int .i32 (nd k.2.2.2).level] 95); change Code.wp _ _ _ _ (w2.alloc (.cells #[.int .u64 (nd k.2.2.2).count, .int .u32 (nd k.2.2.2).k.1, .int .u32 (nd k.2.2.2).k.2.1, .int .u32 (nd k.2.2.2).k.2.2.1, .int .u32 (nd k.2.2.2).k.2.2.2, .int .u32 (nd k.2.2.2).bits, .int .i32 (nd k.2.2.2).level] 95)); generalize w2.alloc (.cells #[.int .u64 (nd k.2.2.2).count, .int .u32 (nd k.2.2.2).k.1, .int .u32 (nd k.2.2.2).k.2.1, .int .u32 (nd k.2.2.2).k.2.2.1, .int .u32 (nd k.2.2.2).k.2.2.2, .int .u32 (nd k.2.2.2).bits, .int .i32 (nd k.2.2.2).level] 95) = w3 at *; have r0 := kr3.cell 0; have r1 := kr3.cell 1; have r2 := kr3.cell 2; have r3 := kr3.cell 3; have r4 := kr3.cell 4; have r5 := kr3.cell 5; have r6 := kr3.cell 6; have fr0 := kr3.frozen 0; have fr1 := kr3.frozen 1; have fr2 := kr3.frozen 2; have fr3 := kr3.frozen 3; have fr4 := kr3.frozen 4; have fr5 := kr3.frozen 5; have fr6 := kr3.frozen 6; simp only [List.getElem?_toArray, List.getElem?_cons_zero, List.getElem?_cons_succ] at r0 r1 r2 r3 r4 r5 r6; have lr3 := kr3.lt; clear kr2 kn2 kr3 hbw2 lr ln hz2 hix hlt1 hlt2 h hk; go_wp2; exact bodyPost_ret (v := .tuple #[NV nd0, errV (some 4)]) (by simp [results, Tryz.results87, go_sem, nd0, errV, *]) rfl ⟨by rw [HB.out], by go_grown⟩)
        · rw [hov] at ha1
          by_cases hv : (nd k.2.2.2).level = lev
          · have HG := Lib.hid (show ((kli k).take 4).all (kidOk S.N lev) = true by have := HAll.out; simp [kli, HKid.out, hov, hv] at this ⊢; try exact this)
            clear HR HAll HKid hov
            ((go_wp2_with fail; with_reducible refine (ha1 _ (h.under hb)).mono ?_; rintro e w2 ⟨rfl, hb2⟩; have kr2 := kr.under hb2; have kn2 := kn.under hb2; have hbw2 : Below w.heap.size w w2 := hb.trans (hb2.mono hb.size); have hz2 := hb2.size; clear hb2 kr kn hb ha1; have lr := kr2.lt; have ln := kn2.lt); go_upto_region 9 with fail; have kr3 := kr2.alloc (.cells #[.int .u64 (nd k.2.2.2).count, .int .u32 (nd k.2.2.2).k.1, .int .u32 (nd k.2.2.2).k.2.1, .int .u32 (nd k.2.2.2).k.2.2.1, .int .u32 (nd k.2.2.2).k.2.2.2, .int .u32 (nd k.2.2.2).bits, .int .i32 lev] 95); have kn3 := kn2.alloc (.cells #[.int .u64 (nd k.2.2.2).count, .int .u32 (nd k.2.2.2).k.1, .int .u32 (nd k.2.2.2).k.2.1, .int .u32 (nd k.2.2.2).k.2.2.1, .int .u32 (nd k.2.2.2).k.2.2.2, .int .u32 (nd k.2.2.2).bits, .int .i32 lev] 95); have kd3 := Blk.newAt w2 95 #[.int .u64 (nd k.2.2.2).count, .int .u32 (nd k.2.2.2).k.1, .int .u32 (nd k.2.2.2).k.2.1, .int .u32 (nd k.2.2.2).k.2.2.1, .int .u32 (nd k.2.2.2).k.2.2.2, .int .u32 (nd k.2.2.2).bits, .int .i32 lev] _ rfl; have hbw3 := hbw2.alloc hbw2.size (.cells #[.int .u64 (nd k.2.2.2).count, .int .u32 (nd k.2.2.2).k.1, .int .u32 (nd k.2.2.2).k.2.1, .int .u32 (nd k.2.2.2).k.2.2.1, .int .u32 (nd k.2.2.2).k.2.2.2, .int .u32 (nd k.2.2.2).bits, .int .i32 lev] 95); change Code.wp _ _ _ _ (w2.alloc (.cells #[.int .u64 (nd k.2.2.2).count, .int .u32 (nd k.2.2.2).k.1, .int .u32 (nd k.2.2.2).k.2.1, .int .u32 (nd k.2.2.2).k.2.2.1, .int .u32 (nd k.2.2.2).k.2.2.2, .int .u32 (nd k.2.2.2).bits, .int .i32 lev] 95)); generalize w2.alloc (.cells #[.int .u64 (nd k.2.2.2).count, .int .u32 (nd k.2.2.2).k.1, .int .u32 (nd k.2.2.2).k.2.1, .int .u32 (nd k.2.2.2).k.2.2.1, .int .u32 (nd k.2.2.2).k.2.2.2, .int .u32 (nd k.2.2.2).bits, .int .i32 lev] 95) = w3 at *; have d0 := kd3.cell 0; have n0 := kn3.cell 0; have fn0 := kn3.frozen 0; simp only [List.getElem?_toArray, List.getElem?_cons_zero] at d0 n0; have ld := kd3.lt; have ln3 := kn3.lt; clear kr2 kn2 kd3 hbw2; go_wp2; all_goals refine ⟨⟨4, by omega, rfl, HG.out, kr3.far (by dsimp only; omega) _, set0 kn3 ?_, hbw3.setCell (by dsimp only; omega) _⟩, by simp [intOf]⟩; all_goals rw [HC.out]; all_goals omega)
          · have HB := Lib.hid (show R = (nd0, some 4) by rw [← HR.out, if_neg]; simp [kli, HKid.out, hov, hv])
            have hwl : wrap64 (nd k.2.2.2).level = (nd k.2.2.2).level := by unfold wrap64; omega
            have hnl : ((nd k.2.2.2).level != lev) = true := by simp [hv]
            clear HR HAll HKid hov HC hcl hcq hcv
            ((go_wp2_with fail; with_reducible refine (ha1 _ (h.under hb)).mono ?_; rintro e w2 ⟨rfl, hb2⟩; have kr2 := kr.under hb2; have kn2 := kn.under hb2; have hbw2 : Below w.heap.size w w2 := hb.trans (hb2.mono hb.size); have hz2 := hb2.size; clear hb2 kr kn hb ha1; have lr := kr2.lt; have ln := kn2.lt); go_upto_region 8 with fail; have kr3 := kr2.alloc (.cells #[.int .u64 (nd k.2.2.2).count, .int .u32 (nd k.2.2.2).k.1, .int .u32 (nd k.2.2.2).k.2.1, .int .u32 (nd k.2.2.2).k.2.2.1, .int .u32 (nd k.2.2.2).k.2.2.2, .int .u32 (nd k.2.2.2).bits, .int .i32 (nd k.2.2.2).level] 95); have hbw3 := hbw2.alloc hbw2.size (.cells #[.int .u64 (nd k.2.2.2).count, .int .u32 (nd k.2.2.2).k.1, .int .u32 (nd k.2.2.2).k.2.1, .int .u32 (nd k.2.2.2).k.2.2.1, .int .u32 (nd k.2.2.2).k.2.2.2, .int .u32 (nd k.2.2.2).bits, .int .i32 (nd k.2.2.2).level] 95); change Code.wp _ _ _ _ (w2.alloc (.cells #[.int .u64 (nd k.2.2.2).count, .int .u32 (nd k.2.2.2).k.1, .int .u32 (nd k.2.2.2).k.2.1, .int .u32 (nd k.2.2.2).k.2.2.1, .int .u32 (nd k.2.2.2).k.2.2.2, .int .u32 (nd k.2.2.2).bits, .int .i32 (nd k.2.2.2).level] 95)); generalize w2.alloc (.cells #[.int .u64 (nd k.2.2.2).count, .int .u32 (nd k.2.2.2).k.1, .int .u32 (nd k.2.2.2).k.2.1, .int .u32 (nd k.2.2.2).k.2.2.1, .int .u32 (nd k.2.2.2).k.2.2.2, .int .u32 (nd k.2.2.2).bits, .int .i32 (nd k.2.2.2).level] 95) = w3 at *; have r0 := kr3.cell 0; have r1 := kr3.cell 1; have r2 := kr3.cell 2; have r3 := kr3.cell 3; have r4 := kr3.cell 4; have r5 := kr3.cell 5; have r6 := kr3.cell 6; have fr0 := kr3.frozen 0; have fr1 := kr3.frozen 1; have fr2 := kr3.frozen 2; have fr3 := kr3.frozen 3; have fr4 := kr3.frozen 4; have fr5 := kr3.frozen 5; have fr6 := kr3.frozen 6; simp only [List.getElem?_toArray, List.getElem?_cons_zero, List.getElem?_cons_succ] at r0 r1 r2 r3 r4 r5 r6; have lr3 := kr3.lt; clear kr2 kn2 kr3 hbw2 lr ln hz2 hix hlt1 hlt2 h hk; go_wp2; exact bodyPost_ret (v := .tuple #[NV nd0, errV (some 4)]) (by simp [results, Tryz.results87, go_sem, nd0, errV, *]) rfl ⟨by rw [HB.out], by go_grown⟩)
    · obtain rfl : m = 4 := by omega
      have HG := Lib.hid (show R = if 44 ≤ lev then (nd0, some 7) else (⟨cntS S.N (kli k), k, 0, lev + 1⟩, none) by rw [← HR.out, if_pos]; exact HAll.out)
      have hcl := cntS_le S.N (kli k)
      have kn' : Blk wr w1.heap.size 95 #[.int .u64 (cntS S.N (kli k) : Nat), .int .u32 k.1, .int .u32 k.2.1, .int .u32 k.2.2.1, .int .u32 k.2.2.2, .int .u32 0, .int .i32 (lev + 1)] := kn
      generalize cntS S.N (kli k) = c at *
      clear kn HR HAll HKid HND ha hct hm hlt
      have r0 := kr.cell 0
      have r1 := kr.cell 1
      have r2 := kr.cell 2
      have r3 := kr.cell 3
      have r4 := kr.cell 4
      have r5 := kr.cell 5
      have r6 := kr.cell 6
      have fr0 := kr.frozen 0
      have fr1 := kr.frozen 1
      have fr2 := kr.frozen 2
      have fr3 := kr.frozen 3
      have fr4 := kr.frozen 4
      have fr5 := kr.frozen 5
      have fr6 := kr.frozen 6
      have lr3 := kr.lt
      simp only [List.getElem?_toArray, List.getElem?_cons_zero, List.getElem?_cons_succ] at r0 r1 r2 r3 r4 r5 r6
      by_cases h44 : 44 ≤ lev
      · rw [if_pos h44] at HG
        clear kr kn' hlt1 hlt2 h hk
        go_wp2
        exact bodyPost_ret (v := .tuple #[NV nd0, errV (some 7)]) (by simp [results, Tryz.results87, go_sem, nd0, errV, *]) rfl ⟨by rw [HG.out], by go_grown⟩
      · rw [if_neg h44] at HG
        have n0 := kn'.cell 0
        have n1 := kn'.cell 1
        have n2 := kn'.cell 2
        have n3 := kn'.cell 3
        have n4 := kn'.cell 4
        have n5 := kn'.cell 5
        have n6 := kn'.cell 6
        have ln := kn'.lt
        simp only [List.getElem?_toArray, List.getElem?_cons_zero, List.getElem?_cons_succ] at n0 n1 n2 n3 n4 n5 n6
        clear kr kn' h hk
        go_wp2
        exact bodyPost_ret (v := .tuple #[NV ⟨c, k, 0, lev + 1⟩, errV none]) (by simp [results, Tryz.results87, go_sem, errV, *]) rfl ⟨by rw [HG.out], by go_grown⟩
end Go.Proofs.YtahlinekbllkaaaGreatDoor.Ar
