/- The document's own leaves: bit, State, States, without Of. -/
import Derived.Test.YtmibdbgoknbchaaDoorSiC
namespace Go.Proofs.YtmibdbgoknbchaaDoor.Si
open Go.RowKit Go.Proofs.YtmibdbgoknbchaaDoor.Ba Go.Lib

def BiR (f n : Nat) (l i : Value) : Prop := ∃ k : Nat, k ≤ n ∧ i = .int .i64 k ∧ l = .int .u32 (f / 2 ^ k : Nat)
theorem bit_any (f n : Nat) (hf : f < 4294967296) (hn : n ≤ 1000) (w : World) :
    Calls Tryd.prog 39 #[.int .u32 f, .int .i64 n] w fun e w' => e = .returned (.int .i64 (f / 2 ^ n % 2 : Nat)) ∧ w = w' := by
  go_enter Tryd.func39, Tryd.ntmps39
  go_wp2_with fail
  go_loop [0, 5] (fun l i => BiR f n l i) (fun _ i => n - (intOf i).toNat)
  case atStart => exact ⟨0, Nat.zero_le _, rfl, by simp⟩
  case round =>
    obtain ⟨k, hk, rfl, rfl⟩ := hrel
    have hle : f / 2 ^ k ≤ f := Nat.div_le_self _ _
    have HS := Lib.hid (show f / 2 ^ (k + 1) = f / 2 ^ k / 2 by rw [Nat.pow_succ, Nat.div_div_eq_div_mul])
    by_cases hlt : k < n
    · have hd : decide ((k : Int) < n) = true := by simpa using hlt
      generalize f / 2 ^ k = x at *
      go_wp2
      go_round
      case rel => exact ⟨k + 1, by omega, by go_num, by rw [HS.out]; first | rfl | simp⟩
      case measure => simp [intOf]; omega
    · obtain rfl : k = n := by omega
      clear HS
      generalize hx : f / 2 ^ k = x at *
      have HX := Lib.hid hx
      clear hx
      go_wp2
      go_ret
      exact ⟨ret_int (by rw [← HX.out]; simp), rfl⟩
theorem refstate_in (f k : Nat) (a b : Int) (hf : f < 4294967296) (ha : 0 ≤ a ∧ a < 4) (hb : 0 ≤ b ∧ b < 4) (hk : (k : Int) = 4 * b + a) (w : World) :
    Calls Tryd.prog 34 #[.int .u32 f, .int .i64 a, .int .i64 b] w fun e w' => e = .returned (.int .i64 (st f k)) ∧ w = w' := by
  have h1 := fun W => bit_any f (2 * k) hf (by omega) W
  have h2 := fun W => bit_any f (2 * k + 1) hf (by omega) W
  have e1 : 8 * b + 2 * a = ((2 * k : Nat) : Int) := by omega
  have HS := Lib.hid (st_bit f k)
  have l1 := Nat.mod_lt (f / 2 ^ (2 * k)) (show 2 > 0 by decide)
  have l2 := Nat.mod_lt (f / 2 ^ (2 * k + 1)) (show 2 > 0 by decide)
  have e3 : ((2 * k : Nat) : Int) + 1 = ((2 * k + 1 : Nat) : Int) := by omega
  obtain ⟨n1, hn1⟩ : ∃ n1 : Nat, n1 = 2 * k := ⟨_, rfl⟩
  obtain ⟨n2, hn2⟩ : ∃ n2 : Nat, n2 = 2 * k + 1 := ⟨_, rfl⟩
  rw [← hn1] at h1 e1
  rw [← hn2] at h2
  have e2 : (n1 : Int) + 1 = (n2 : Int) := by omega
  rw [← hn2, ← hn1] at HS
  rw [← hn1] at l1
  rw [← hn2] at l2
  generalize f / 2 ^ n1 % 2 = x1 at *
  generalize f / 2 ^ n2 % 2 = x2 at *
  have hn : n1 ≤ 31 := by omega
  clear hn1 hn2 e3 hk
  go_enter Tryd.func34, Tryd.ntmps34
  go_wp2_with fail
  with_reducible refine (h1 _).mono ?_
  rintro e w' ⟨rfl, rfl⟩
  go_wp2_with fail
  with_reducible refine (h2 _).mono ?_
  rintro e w' ⟨rfl, rfl⟩
  go_wp2
  go_ret
  exact ⟨ret_int (by rw [HS.out]; omega), rfl⟩
/-! States: a list of ints. -/
def ints (s : Nat → Nat) (k : Nat) : List Value := (List.range k).map fun i => .int .i64 (s i)
theorem ints_len (s : Nat → Nat) (k : Nat) : (ints s k).length = k := by simp [ints]
theorem ints_next (s : Nat → Nat) (k : Nat) : ints s (k + 1) = ints s k ++ [.int .i64 (s k)] := by simp [ints, List.range_succ]
theorem int_info : (Tryd.prog.info? 3).map (fun i => (i.zero, i.size, i.bytes)) = some (some (.int .i64 0), 1, 8) := by kernel_rfl
def StR (w : World) (f : Nat) (s i : Value) (wr : World) : Prop := ∃ b : Nat, b ≤ 4 ∧ i = .int .i64 b ∧ wr.ownsRow w.heap.size 3 1 s (4 * b) (ints (st f) (4 * b)) ∧ Below w.heap.size w wr
def StR2 (w : World) (f b : Nat) (s i : Value) (wr : World) : Prop := ∃ a : Nat, a ≤ 4 ∧ i = .int .i64 a ∧ wr.ownsRow w.heap.size 3 1 s (4 * b + a) (ints (st f) (4 * b + a)) ∧ Below w.heap.size w wr
set_option maxRecDepth 100000 in
set_option maxHeartbeats 1000000 in
theorem refstates_any (f : Nat) (hf : f < 4294967296) (w : World) :
    Calls Tryd.prog 27 #[.int .u32 f] w fun e w' => ∃ v, e = .returned v ∧ w'.ownsRow w.heap.size 3 1 v 16 (ints (st f) 16) ∧ Below w.heap.size w w' := by
  obtain ⟨i0, hi0, hz0, hz1, hz2⟩ := info_parts int_info
  have HO := Lib.hid (World.ownsRow_made (base := w.heap.size) (e := 3) (size := 1) w #[] 0 (Nat.le_refl _) (Nat.zero_le _) (by simp))
  go_enter Tryd.func27, Tryd.ntmps27
  go_wp2_with fail
  go_loopw [3, 4] (fun s i wr => StR w f s i wr) (fun _ i _ => 4 - (intOf i).toNat)
  case atStart => exact ⟨0, Nat.zero_le _, rfl, HO.out, by go_grown⟩
  case round =>
    obtain ⟨b, hb4, rfl, hown, hb⟩ := hrel
    by_cases hlt : b < 4
    · have hdb : decide ((b : Int) < 4) = true := by simp; omega
      go_wp2_with fail
      clear hdb
      go_loopw [3, 5] (fun s i wr => StR2 w f b s i wr) (fun _ i _ => 4 - (intOf i).toNat)
      case atStart => exact ⟨0, Nat.zero_le _, rfl, hown, hb⟩
      case round =>
        clear hown hb
        obtain ⟨a, ha4, rfl, hown, hb⟩ := hrel
        have hz := hb.size
        by_cases hla : a < 4
        · have hst := fun W => refstate_in f (4 * b + a) (a : Int) (b : Int) hf (by omega) (by omega) (by omega) W
          have HN := Lib.hid (ints_next (st f) (4 * b + a))
          generalize hx : st f (4 * b + a) = x at *
          clear hx
          go_wp2_with fail
          with_reducible refine (hst _).mono ?_
          rintro e w' ⟨rfl, rfl⟩
          have hown2 := hown.alloc (.cells #[.int .i64 x] 3)
          have hnew : ∀ j u, ([.int .i64 x] : List Value)[j]? = some u → (wr.alloc (.cells #[.int .i64 x] 3)).cell? ((⟨wr.heap.size, 0, none⟩ : Addr).add j) = some u := fun j u hu => by
            rw [Addr.add_lit, Nat.zero_add, (Blk.newAt wr _ _ _ rfl).cell j]
            simpa using hu
          clear hst hown
          go_wp2_with (at_builtin; refine wpList_append_own _ rfl _ _ 76 rfl w.heap.size 3 i0 _ 1 8 Tryd.underlying76 hi0 hz0 hz1 hz2 rfl (by decide) _ _ _ rfl hown2 ⟨wr.heap.size, 0, none⟩ 1 1 [.int .i64 x] rfl rfl hnew (by intro u hu; simp at hu; subst hu; rfl) (by unfold maxLen; omega) (by omega) (by simp; omega) ?_)
          intro v' w' hown' hgr _
          have hb' : Below w.heap.size w w' := (hb.alloc hz _).grown hgr (by simp; omega) (fun q hq => (hown2.lt q hq).1)
          clear hgr hnew hown2
          go_wp2_with fail
          go_roundw
          case rel => exact ⟨a + 1, by omega, by go_num, by rw [← Nat.add_assoc, HN.out]; exact hown', hb'⟩
          case measure => simp [intOf]; omega
        · obtain rfl : a = 4 := by omega
          go_wp2_with fail
          go_roundw
          case rel => exact ⟨b + 1, by omega, by go_num, hown, hb⟩
          case measure => simp [intOf]; omega
    · obtain rfl : b = 4 := by omega
      go_wp2_with fail
      go_ret
      exact ⟨_, rfl, hown, hb⟩
end Go.Proofs.YtmibdbgoknbchaaDoor.Si
