/- Contracts: bits.OnesCount at a ring, table.turned, letterOfTwo, letterOfThree, letter, Ring. -/
import Derived.Test.YtjongkbjhiblmaaDoorBs
import Derived.Test.YtjongkbjhiblmaaDoorTbM
namespace Go.Proofs.YtjongkbjhiblmaaDoor.Tb
open Go.RowKit Go.Proofs.YtjongkbjhiblmaaDoor.Ba

theorem ret_int {k : IntKind} {a b : Int} (h : a = b) : Ending.returned (.int k a) = .returned (.int k b) := by rw [h]
def pc1 (x : Int) : Int := IntKind.u64.wrap (bits .and .u64 (x / 2) 6148914691236517205 + bits .and .u64 x 6148914691236517205)
def pc2 (x : Int) : Int := IntKind.u64.wrap (bits .and .u64 (x / 4) 3689348814741910323 + bits .and .u64 x 3689348814741910323)
def pc3 (x : Int) : Int := bits .and .u64 (IntKind.u64.wrap (x / 16 + x)) 1085102592571150095
def pc4 (x : Int) : Int := IntKind.u64.wrap (x + x / 256)
def pc5 (x : Int) : Int := IntKind.u64.wrap (x + x / 65536)
def pc6 (x : Int) : Int := IntKind.u64.wrap (x + x / 4294967296)
def pc7 (x : Int) : Int := bits .and .i64 (wrap64 x) 127
theorem pc_fin : ∀ n : Fin 64, pc7 (pc6 (pc5 (pc4 (pc3 (pc2 (pc1 (n.val : Int))))))) = (oc n.val : Int) := by decide +kernel
theorem count64_any (n : Nat) (hn : n < 64) (w : World) :
    Calls Tryd.prog 56 #[.int .u64 n] w fun e w' => e = .returned (.int .i64 (oc n)) ∧ w = w' := by
  go_enter Tryd.func56, Tryd.ntmps56
  go_wp2
  go_ret
  exact ⟨ret_int (pc_fin ⟨n, hn⟩), rfl⟩
theorem count_any (n : Nat) (hn : n < 64) (w : World) :
    Calls Tryd.prog 41 #[.int .u64 n] w fun e w' => e = .returned (.int .i64 (oc n)) ∧ w = w' := by
  go_enter Tryd.func41, Tryd.ntmps41
  go_wp2_with fail
  refine (count64_any n hn _).mono ?_
  rintro e w' ⟨rfl, rfl⟩
  go_wp2
  go_ret
  exact ⟨rfl, rfl⟩
theorem tn1_fin : ∀ n : Fin 64, bits .and .u64 (bits .or .u64 ((n.val : Int) * 2) ((n.val : Int) / 32)) 63 = (tnd n.val 1 : Int) := by decide +kernel
theorem tn2_fin : ∀ n : Fin 64, bits .and .u64 (bits .or .u64 ((n.val : Int) * 4) ((n.val : Int) / 16)) 63 = (tnd n.val 2 : Int) := by decide +kernel
theorem turned1 (n : Nat) (hn : n < 64) (w : World) :
    Calls Tryd.prog 77 #[.int .u64 n, .int .i64 1] w fun e w' => e = .returned (.int .u64 (tnd n 1)) ∧ ∃ m, w' = w.drewN m := by
  go_enter Tryd.func77, Tryd.ntmps77
  go_wp2
  go_quiet (fail)
  go_wp2
  go_ret
  exact ⟨ret_int (tn1_fin ⟨n, hn⟩), _, rfl⟩
theorem turned2 (n : Nat) (hn : n < 64) (w : World) :
    Calls Tryd.prog 77 #[.int .u64 n, .int .i64 2] w fun e w' => e = .returned (.int .u64 (tnd n 2)) ∧ ∃ m, w' = w.drewN m := by
  go_enter Tryd.func77, Tryd.ntmps77
  go_wp2
  go_quiet (fail)
  go_wp2
  go_ret
  exact ⟨ret_int (tn2_fin ⟨n, hn⟩), _, rfl⟩
theorem tnd_lt (n p : Nat) : tnd n p < 64 := Nat.mod_lt _ (by decide)
theorem two_any (n : Nat) (hn : n < 64) (w : World) :
    Calls Tryd.prog 57 #[.int .u64 n] w fun e w' => e = .returned (.int .u8 (l2 n)) ∧ ∃ m, w' = w.drewN m := by
  have h1 := u64_and n (tnd n 1) (by omega) (by have := tnd_lt n 1; omega)
  have h2 := u64_and n (tnd n 2) (by omega) (by have := tnd_lt n 2; omega)
  have HL := Lib.hid (show l2 n = if n &&& tnd n 1 = 0 then (if n &&& tnd n 2 = 0 then 112 else 109) else 111 from rfl)
  generalize hx : n &&& tnd n 1 = x at *
  generalize hy : n &&& tnd n 2 = y at *
  clear hx hy
  by_cases e1 : x = 0
  · have e1' : ((x : Int) != 0) = false := by simp [e1]
    by_cases e2 : y = 0
    · have e2' : ((y : Int) != 0) = false := by simp [e2]
      have HV := Lib.hid (show l2 n = 112 by rw [HL.out, if_pos e1, if_pos e2])
      clear e1 e2
      go_enter Tryd.func57, Tryd.ntmps57
      go_wp2_with fail
      refine (turned1 n hn _).mono ?_
      rintro e w' ⟨rfl, m, rfl⟩
      go_wp2_with fail
      refine (turned2 n hn _).mono ?_
      rintro e w' ⟨rfl, m2, rfl⟩
      go_wp2
      go_ret
      exact ⟨ret_int (by rw [HV.out]; rfl), _, rfl⟩
    · have e2' : ((y : Int) != 0) = true := by simp; omega
      have HV := Lib.hid (show l2 n = 109 by rw [HL.out, if_pos e1, if_neg e2])
      clear e1 e2
      go_enter Tryd.func57, Tryd.ntmps57
      go_wp2_with fail
      refine (turned1 n hn _).mono ?_
      rintro e w' ⟨rfl, m, rfl⟩
      go_wp2_with fail
      refine (turned2 n hn _).mono ?_
      rintro e w' ⟨rfl, m2, rfl⟩
      go_wp2
      go_ret
      exact ⟨ret_int (by rw [HV.out]; rfl), _, rfl⟩
  · have e1' : ((x : Int) != 0) = true := by simp; omega
    have HV := Lib.hid (show l2 n = 111 by rw [HL.out, if_neg e1])
    clear e1
    go_enter Tryd.func57, Tryd.ntmps57
    go_wp2_with fail
    refine (turned1 n hn _).mono ?_
    rintro e w' ⟨rfl, m, rfl⟩
    go_wp2
    go_ret
    exact ⟨ret_int (by rw [HV.out]; rfl), _, rfl⟩
theorem three_any (n : Nat) (hn : n < 64) (w : World) :
    Calls Tryd.prog 58 #[.int .u64 n] w fun e w' => e = .returned (.int .u8 (l3 n)) ∧ ∃ m, w' = w.drewN m := by
  have h1 := u64_and n (tnd n 1) (by omega) (by have := tnd_lt n 1; omega)
  have HL := Lib.hid (show l3 n = if oc (n &&& tnd n 1) = 2 then 111 else if oc (n &&& tnd n 1) = 1 then 109 else 112 from rfl)
  have hlt : n &&& tnd n 1 < 64 := Nat.and_lt_two_pow (n := 6) _ (tnd_lt n 1)
  generalize n &&& tnd n 1 = x at *
  have hct := count_any x hlt
  generalize oc x = c at *
  by_cases e1 : c = 2
  · subst e1
    have HV := Lib.hid (show l3 n = 111 by rw [HL.out, if_pos rfl])
    go_enter Tryd.func58, Tryd.ntmps58
    go_wp2_with fail
    refine (turned1 n hn _).mono ?_
    rintro e w' ⟨rfl, m, rfl⟩
    go_wp2_with fail
    refine (hct _).mono ?_
    rintro e w' ⟨rfl, rfl⟩
    go_wp2
    go_ret
    exact ⟨ret_int (by rw [HV.out]; rfl), _, rfl⟩
  · have e1' : ((c : Int) == 2) = false := by simp; omega
    by_cases e2 : c = 1
    · subst e2
      have HV := Lib.hid (show l3 n = 109 by rw [HL.out, if_neg e1, if_pos rfl])
      clear e1
      go_enter Tryd.func58, Tryd.ntmps58
      go_wp2_with fail
      refine (turned1 n hn _).mono ?_
      rintro e w' ⟨rfl, m, rfl⟩
      go_wp2_with fail
      refine (hct _).mono ?_
      rintro e w' ⟨rfl, rfl⟩
      go_wp2
      go_ret
      exact ⟨ret_int (by rw [HV.out]; rfl), _, rfl⟩
    · have e2' : ((c : Int) == 1) = false := by simp; omega
      have HV := Lib.hid (show l3 n = 112 by rw [HL.out, if_neg e1, if_neg e2])
      clear e1 e2
      go_enter Tryd.func58, Tryd.ntmps58
      go_wp2_with fail
      refine (turned1 n hn _).mono ?_
      rintro e w' ⟨rfl, m, rfl⟩
      go_wp2_with fail
      refine (hct _).mono ?_
      rintro e w' ⟨rfl, rfl⟩
      go_wp2
      go_ret
      exact ⟨ret_int (by rw [HV.out]; rfl), _, rfl⟩
theorem letter_any (n : Nat) (hn : n < 64) (w : World) :
    Calls Tryd.prog 42 #[.int .u64 n] w fun e w' => e = .returned (.int .u8 (lett n)) ∧ ∃ m, w' = w.drewN m := by
  have hct := count_any n hn
  have HL := Lib.hid (show lett n = if oc n = 4 then l2 (n ^^^ 63) else if oc n = 2 then l2 n else if oc n = 3 then l3 n else 0 from rfl)
  generalize oc n = c at *
  by_cases e4 : c = 4
  · subst e4
    have hx : bits .xor .u64 (n : Int) 63 = ((n ^^^ 63 : Nat) : Int) := u64_xor n 63 (by omega) (by decide)
    have hlt : n ^^^ 63 < 64 := Nat.xor_lt_two_pow (n := 6) hn (by decide)
    have HV := Lib.hid (show lett n = l2 (n ^^^ 63) by rw [HL.out, if_pos rfl])
    generalize n ^^^ 63 = x at *
    go_enter Tryd.func42, Tryd.ntmps42
    go_wp2_with fail
    refine (hct _).mono ?_
    rintro e w' ⟨rfl, rfl⟩
    go_wp2_with fail
    refine (two_any x hlt _).mono ?_
    rintro e w' ⟨rfl, m, rfl⟩
    go_wp2
    go_ret
    exact ⟨ret_int (by rw [HV.out]), _, rfl⟩
  · have e4' : ((c : Int) == 4) = false := by simp; omega
    by_cases e2 : c = 2
    · subst e2
      have HV := Lib.hid (show lett n = l2 n by rw [HL.out, if_neg e4, if_pos rfl])
      clear e4
      go_enter Tryd.func42, Tryd.ntmps42
      go_wp2_with fail
      refine (hct _).mono ?_
      rintro e w' ⟨rfl, rfl⟩
      go_wp2_with fail
      refine (two_any n hn _).mono ?_
      rintro e w' ⟨rfl, m, rfl⟩
      go_wp2
      go_ret
      exact ⟨ret_int (by rw [HV.out]), _, rfl⟩
    · have e2' : ((c : Int) == 2) = false := by simp; omega
      by_cases e3 : c = 3
      · subst e3
        have HV := Lib.hid (show lett n = l3 n by rw [HL.out, if_neg e4, if_neg e2, if_pos rfl])
        clear e4 e2
        go_enter Tryd.func42, Tryd.ntmps42
        go_wp2_with fail
        refine (hct _).mono ?_
        rintro e w' ⟨rfl, rfl⟩
        go_wp2_with fail
        refine (three_any n hn _).mono ?_
        rintro e w' ⟨rfl, m, rfl⟩
        go_wp2
        go_ret
        exact ⟨ret_int (by rw [HV.out]), _, rfl⟩
      · have e3' : ((c : Int) == 3) = false := by simp; omega
        have HV := Lib.hid (show lett n = 0 by rw [HL.out, if_neg e4, if_neg e2, if_neg e3])
        clear e4 e2 e3
        go_enter Tryd.func42, Tryd.ntmps42
        go_wp2_with fail
        refine (hct _).mono ?_
        rintro e w' ⟨rfl, rfl⟩
        go_wp2
        go_ret
        exact ⟨ret_int (by rw [HV.out]; rfl), 0, rfl⟩
end Go.Proofs.YtjongkbjhiblmaaDoor.Tb
