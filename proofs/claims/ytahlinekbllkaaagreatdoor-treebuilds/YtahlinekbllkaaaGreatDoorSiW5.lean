/- Contract: Cells of a leaf. -/
import Derived.Test.YtahlinekbllkaaaGreatDoorSiW4
namespace Go.Proofs.YtahlinekbllkaaaGreatDoor.Si
open Go.RowKit Go.Proofs.YtahlinekbllkaaaGreatDoor.Ba Go.Proofs.YtahlinekbllkaaaGreatDoor.Se Go.Lib

/-- The cell of a leaf's bit. -/
def cAt (A B : Int) (k : Nat) : C := (A + (k : Int) / 2 % 4, B + (k : Int) / 2 / 4, (k : Int) % 2)
def CeR (w : World) (f : Nat) (A B : Int) (s rest : Value) (wr : World) : Prop :=
  ∃ (M : List Nat) (x : Nat), rest = .int .u32 x ∧ x < 4294967296 ∧ pos f 32 = M ++ pos x 32 ∧ wr.ownsRow (w.heap.size + 1) 53 3 s M.length (flat (M.map (cAt A B))) ∧ Blk wr w.heap.size 38 #[.int .i64 A, .int .i64 B] ∧ Below w.heap.size w wr
theorem pos_le (f : Nat) : (pos f 32).length ≤ 32 := by
  have : ∀ n, (pos f n).length ≤ n := by
    intro n
    induction n with
    | zero => simp [pos]
    | succ n ih => unfold pos; rw [List.length_append]; split <;> simp <;> omega
  exact this 32
set_option maxRecDepth 100000 in
set_option maxHeartbeats 1000000 in
theorem cells_any (f : Nat) (A B : Int) (hf : f < 4294967296) (hA : -4611686018427387904 ≤ A ∧ A ≤ 4611686018427387904) (hB : -4611686018427387904 ≤ B ∧ B ≤ 4611686018427387904) (w : World) (hd : DebIs w) :
    Calls Tryz.prog 39 #[.int .u32 f, .agg #[.int .i64 A, .int .i64 B]] w fun e w' => ∃ v, e = .returned v ∧ SetAt w' v ((pos f 32).map (cAt A B)) ∧ Below w.heap.size w w' := by
  obtain ⟨i0, hi0, hz0, hz1, hz2⟩ := info_parts cell_info
  have HD := Lib.hid hd
  have hc := fun W => count_any f hf W
  have hle := pos_le f
  rw [pos_len] at hle
  generalize hn : pcn f 32 = n at *
  clear hd hn
  have kb := Blk.newAt w 38 #[.int .i64 A, .int .i64 B] _ rfl
  go_enter Tryz.func39, Tryz.ntmps39
  go_wp2_with fail
  refine (hc _).mono ?_
  rintro e w' ⟨rfl, m, rfl⟩
  clear hc
  go_wp2_with (at_make; refine wpList_make_own _ rfl _ _ 31 rfl (w.heap.size + 1) 53 i0 _ 3 Tryz.underlying31 hi0 hz0 hz1 .i64 .i64 _ n rfl rfl rfl (by rw [hz2]; omega) (by unfold maxLen; omega) (by simp) ?_)
  intro w1 hown hgr
  have hb1 : Below w.heap.size w w1 := (below_dr m ((Below.refl w.heap.size w).alloc (Nat.le_refl _) _)).grown hgr (by simp) (by simp)
  have kb1 := (kb.drewN m).grown hgr (by simp)
  clear hgr kb
  go_wp2_with fail
  go_loopw [5, 6] (fun s x wr => CeR w f A B s x wr) (fun _ x _ => (intOf x).toNat)
  case atStart => exact ⟨[], f, rfl, hf, (List.nil_append _).symm, hown, kb1, hb1⟩
  case round =>
    clear hown kb1 hb1
    obtain ⟨M, x, rfl, hx, hM, hown, kb, hb⟩ := hrel
    by_cases h0 : x = 0
    · subst h0
      rw [pos_zero, List.append_nil] at hM
      have hs := set_own (L := M.map (cAt A B)) (by rw [List.length_map]; exact hown)
      go_wp2_with fail
      go_ret
      rw [hM]
      exact ⟨_, rfl, hs, hb⟩
    · obtain ⟨k, q, hq⟩ := low_bit x h0
      have hk := low_lt (k := k) (m := q) (by omega)
      have HT := Lib.hid (fun W hD => tz_any x k q hq hx W hD)
      have ha := u32_and_nat x (x - 1) hx (by omega)
      have HN := Lib.hid (show x &&& (x - 1) = 2 ^ (k + 1) * q by have := and_pred k q; rw [← hq] at this; exact this)
      have HP := Lib.hid (show pos f 32 = (M ++ [k]) ++ pos (x &&& (x - 1)) 32 by rw [HN.out, hM, hq, pos_step, if_pos hk]; simp)
      have HL := Lib.hid (show x &&& (x - 1) < x by rw [HN.out]; have := Nat.two_pow_pos k; omega)
      have hne : ((x : Int) != 0) = true := by simp; omega
      have hs1 : (x : Int) - 1 = ((x - 1 : Nat) : Int) := by omega
      have hD := HD.out.below (hb.mono (by omega) : Below w.heap.size w wr)
      have HW := Lib.hid (show IntKind.u32.wrap ((x : Int) - 1) = ((x - 1 : Nat) : Int) by rw [IntKind.wrap_u32']; omega)
      clear hM hq h0 hs1
      have p0 := kb.cell 0
      have p1 := kb.cell 1
      simp only [List.getElem?_toArray, List.getElem?_cons_zero, List.getElem?_cons_succ] at p0 p1
      have hlt := kb.lt
      go_wp2_with fail
      refine (HT.out _ hD).mono ?_
      rintro e w' ⟨rfl, rfl⟩
      have HC := Lib.hid (show flat ((M ++ [k]).map (cAt A B)) = flat (M.map (cAt A B)) ++ flat [cAt A B k] by rw [List.map_append, flat_app]; rfl)
      obtain ⟨xa, hxa⟩ : ∃ xa : Int, xa = A + (k : Int) / 2 % 4 := ⟨_, rfl⟩
      obtain ⟨xb, hxb⟩ : ∃ xb : Int, xb = B + (k : Int) / 2 / 4 := ⟨_, rfl⟩
      obtain ⟨xh, hxh⟩ : ∃ xh : Int, xh = (k : Int) % 2 := ⟨_, rfl⟩
      have ew1 : wrap64 xa = xa := by unfold wrap64; omega
      have ew2 : wrap64 xb = xb := by unfold wrap64; omega
      have ew4 : A + (k : Int) / 2 % 4 = xa := hxa.symm
      have ew5 : B + (k : Int) / 2 / 4 = xb := hxb.symm
      have ew3 : (k : Int) % 2 = xh := hxh.symm
      have HX := Lib.hid (show cAt A B k = (xa, xb, xh) by rw [hxa, hxb, hxh]; rfl)
      have hz := hb.size
      have hown2 := hown.alloc (.cells #[.int .i64 xa, .int .i64 xb, .int .i64 xh] 53)
      have hnew := news1 wr 53 (xa, xb, xh)
      have kb2 := kb.alloc (.cells #[.int .i64 xa, .int .i64 xb, .int .i64 xh] 53)
      clear hD hxa hxb hxh
      have hMl : M.length ≤ 32 := by have := pos_le f; rw [HP.out] at this; simp at this; omega
      go_wp2_with (at_builtin; refine wpList_append_own _ rfl _ _ 31 rfl (w.heap.size + 1) 53 i0 _ 3 24 Tryz.underlying31 hi0 hz0 hz1 hz2 rfl (by decide) _ _ _ rfl hown2 ⟨wr.heap.size, 0, none⟩ 1 1 (flat [(xa, xb, xh)]) rfl (by simp [flat_len]) hnew (one_flat _) (by unfold maxLen; omega) (by omega) (by simp; omega) ?_)
      intro v' w' hown' hgr _
      have hb' : Below w.heap.size w w' := (hb.alloc hz _).grown hgr (by simp; omega) (fun q hq => Nat.le_of_succ_le (hown2.lt q hq).1)
      have kb' := kb2.grown hgr (own_low_ne hown2 (by omega))
      rw [← HX.out] at hown'
      clear ew1 ew2 ew3 ew4 ew5 p0 p1 hown2 kb2 hgr hnew hown kb
      have hw1 := HW.out
      go_wp2_with fail
      refine ⟨⟨M ++ [k], _, rfl, Nat.lt_trans HL.out hx, HP.out, ?_, kb', hb'⟩, ?_⟩
      · rw [HC.out, List.length_append]
        exact hown'
      · have := HL.out
        simp only [intOf]
        omega
end Go.Proofs.YtahlinekbllkaaaGreatDoor.Si
