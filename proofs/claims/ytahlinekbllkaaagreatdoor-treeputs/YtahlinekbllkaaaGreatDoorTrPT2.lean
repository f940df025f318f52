/- Several texts, joined. -/
import Derived.Test.YtahlinekbllkaaaGreatDoorTrW9
import Derived.Test.YtahlinekbllkaaaGreatDoorSeO
import Derived.Deep.RegionHeld3
import Derived.Test.YtahlinekbllkaaaGreatDoorTrK2
import Derived.Test.YtahlinekbllkaaaGreatDoorTrM4
import Derived.Test.YtahlinekbllkaaaGreatDoorSeR2
import Derived.Test.YtahlinekbllkaaaGreatDoorSeL
import Derived.Test.YtahlinekbllkaaaGreatDoorTrW10
import Derived.Test.YtahlinekbllkaaaGreatDoorTrW15
/- The document's Half, Inside, Level. -/
namespace Go.Proofs.YtahlinekbllkaaaGreatDoor.Tr
open Go.RowKit Go.Proofs.YtahlinekbllkaaaGreatDoor.Ba Go.Lib
open Go.Proofs.YtahlinekbllkaaaGreatDoor.Se (RawAt flat flat_get)

def RhR (n : Nat) (w : World) (t3 t4 : Value) (wr : World) : Prop := ∃ m x : Nat, m ≤ n ∧ Hid (x = 2 ^ m) ∧ t3 = .int .i64 (x : Int) ∧ t4 = .int .i64 ((m : Int) + 1) ∧ w = wr
set_option maxRecDepth 100000 in
theorem refhalf_any (l : Int) (w : World) :
    Calls Tryz.prog 53 #[.int .i64 l] w fun e w' => e = .returned (.int .i64 (hf l)) ∧ w = w' := by
  have HF := Lib.hid (hf_nat l)
  have hb := hfN_le l
  have HN := Lib.hid (show hfN l = (min (max l 1) 44 - 1).toNat from rfl)
  generalize hf l = H at *
  generalize hfN l = n at *
  go_enter Tryz.func53, Tryz.ntmps53
  go_wp2_with fail
  go_loopw [3, 4] (fun t3 t4 wr => RhR n w t3 t4 wr) (fun _ t4 _ => 45 - (intOf t4).toNat)
  case atStart => exact ⟨0, 1, Nat.zero_le _, Lib.hid rfl, rfl, rfl, rfl⟩
  case round =>
    obtain ⟨m, x, hm, HX, rfl, rfl, rfl⟩ := hrel
    by_cases hlt : m < n
    · have hn := HN.out
      have h1 : decide ((m : Int) + 1 < l) = true := by simp; omega
      have h1' : (m : Int) + 1 < l := by omega
      have h2 : decide ((m : Int) + 1 < 44) = true := by simp; omega
      have h2' : (m : Int) + 1 < 44 := by omega
      have h3 : (2 : Nat) ^ 42 = 4398046511104 := by decide
      have h4 := Nat.pow_le_pow_right (n := 2) (by decide) (show m ≤ 42 by omega)
      have hx : x ≤ 4398046511104 := by rw [HX.out]; omega
      clear h3 h4
      clear hn
      go_wp2
      exact ⟨⟨m + 1, 2 * x, by omega, Lib.hid (by rw [HX.out, Nat.pow_succ]; omega), by go_num, by go_num, rfl⟩, by simp [intOf]; omega⟩
    · obtain rfl : m = n := by omega
      have HE := Lib.hid (show (x : Int) = H by rw [HF.out, HX.out])
      have hn := HN.out
      by_cases h1 : (m : Int) + 1 < l
      · have h1' : decide ((m : Int) + 1 < l) = true := by simpa using h1
        have h2' : decide ((m : Int) + 1 < 44) = false := by simp; omega
        have h2 : ¬ (m : Int) + 1 < 44 := by omega
        clear hn
        go_wp2
        go_ret
        exact ⟨by rw [HE.out]; rfl, rfl⟩
      · have h1' : decide ((m : Int) + 1 < l) = false := by simpa using h1
        clear hn
        go_wp2
        go_ret
        exact ⟨by rw [HE.out]; rfl, rfl⟩
def refB (l a b : Int) : Bool := decide ((a < hf l ∧ b < hf l) ∧ (wrap64 (-a) ≤ hf l ∧ wrap64 (-b) ≤ hf l))
theorem refB_ins {l a b : Int} (ha : -4611686018427387904 ≤ a ∧ a ≤ 4611686018427387904) (hb : -4611686018427387904 ≤ b ∧ b ≤ 4611686018427387904) : refB l a b = insB l a b := by
  unfold refB insB
  have e1 : wrap64 (-a) = -a := by unfold wrap64; omega
  have e2 : wrap64 (-b) = -b := by unfold wrap64; omega
  rw [e1, e2]
  refine decide_eq_decide.2 ?_
  omega
set_option maxRecDepth 100000 in
theorem refinside_any (l a b : Int) (w : World) :
    Calls Tryz.prog 22 #[.int .i64 l, .int .i64 a, .int .i64 b] w fun e w' => e = .returned (.bool (refB l a b)) ∧ w = w' := by
  have hc := fun W => refhalf_any l W
  have HI2 : refB l a b = decide ((a < hf l ∧ b < hf l) ∧ (wrap64 (-a) ≤ hf l ∧ wrap64 (-b) ≤ hf l)) := rfl
  generalize refB l a b = r at *
  generalize hf l = H at *
  have HR := Lib.hid HI2
  clear HI2
  by_cases h1 : a < H
  · by_cases h2 : b < H
    · by_cases h3 : wrap64 (-a) ≤ H
      · by_cases h4 : wrap64 (-b) ≤ H
        · ((obtain rfl : r = true := (by rw [HR.out]; simp; try omega)); clear HR; go_enter Tryz.func22, Tryz.ntmps22; go_wp2_with (first | (go_at_call 53; refine (hc _).mono ?_; rintro e w' ⟨rfl, rfl⟩)); (exact bodyPost_ret (v := .bool true) (by simp [results, Tryz.results22, go_sem, *]) rfl ⟨rfl, rfl⟩))
        · ((obtain rfl : r = false := (by rw [HR.out]; simp; try omega)); clear HR; go_enter Tryz.func22, Tryz.ntmps22; go_wp2_with (first | (go_at_call 53; refine (hc _).mono ?_; rintro e w' ⟨rfl, rfl⟩)); (exact bodyPost_ret (v := .bool false) (by simp [results, Tryz.results22, go_sem, *]) rfl ⟨rfl, rfl⟩))
      · ((obtain rfl : r = false := (by rw [HR.out]; simp; try omega)); clear HR; go_enter Tryz.func22, Tryz.ntmps22; go_wp2_with (first | (go_at_call 53; refine (hc _).mono ?_; rintro e w' ⟨rfl, rfl⟩)); (exact bodyPost_ret (v := .bool false) (by simp [results, Tryz.results22, go_sem, *]) rfl ⟨rfl, rfl⟩))
    · ((obtain rfl : r = false := (by rw [HR.out]; simp; try omega)); clear HR; go_enter Tryz.func22, Tryz.ntmps22; go_wp2_with (first | (go_at_call 53; refine (hc _).mono ?_; rintro e w' ⟨rfl, rfl⟩)); (exact bodyPost_ret (v := .bool false) (by simp [results, Tryz.results22, go_sem, *]) rfl ⟨rfl, rfl⟩))
  · ((obtain rfl : r = false := (by rw [HR.out]; simp; try omega)); clear HR; go_enter Tryz.func22, Tryz.ntmps22; go_wp2_with (first | (go_at_call 53; refine (hc _).mono ?_; rintro e w' ⟨rfl, rfl⟩)); (exact bodyPost_ret (v := .bool false) (by simp [results, Tryz.results22, go_sem, *]) rfl ⟨rfl, rfl⟩))
/-- The least level that has all cells. -/
structure Rlv (L : List C) (n : Nat) : Prop where
  lo : 3 ≤ n
  hi : n ≤ 44
  no : ∀ m : Nat, 3 ≤ m → m < n → ∃ c ∈ L, insB m c.1 c.2.1 = false
  yes : n < 44 → ∀ c ∈ L, insB n c.1 c.2.1 = true
def RmC (c : C) : Prop := (-4611686018427387904 ≤ c.1 ∧ c.1 ≤ 4611686018427387904) ∧ (-4611686018427387904 ≤ c.2.1 ∧ c.2.1 ≤ 4611686018427387904)
theorem rlv_nil : Rlv [] 3 := ⟨by omega, by omega, fun m h1 h2 => by omega, fun _ c hc => by simp at hc⟩
theorem rlv_next {L : List C} {c : C} {n m : Nat} (h : Rlv L n) (hnm : n ≤ m) (hm : m ≤ 44) (hno : ∀ k : Nat, n ≤ k → k < m → insB k c.1 c.2.1 = false) (hyes : m < 44 → insB m c.1 c.2.1 = true) : Rlv (L ++ [c]) m := by
  refine ⟨Nat.le_trans h.lo hnm, hm, fun k h1 h2 => ?_, fun h1 d hd => ?_⟩
  · rcases Nat.lt_or_ge k n with hk | hk
    · obtain ⟨d, hd, e⟩ := h.no k h1 hk
      exact ⟨d, by simp [hd], e⟩
    · exact ⟨c, by simp, hno k hk h2⟩
  · rcases List.mem_append.1 hd with hd | hd
    · exact ins_mono (h.yes (by omega) d hd) (by omega)
    · rw [List.mem_singleton] at hd
      subst hd
      exact hyes h1
/-- A list of the document's cells in memory. -/
structure RowR (w : World) (v : Value) (L : List C) : Prop where
  is : ∃ g o cap : Nat, v = .slice (some ⟨g, o, none⟩) L.length cap ∧ (∀ i (c : C), L[i]? = some c → w.cell? ⟨g, o + i * 3, none⟩ = some (.int .i64 c.1) ∧ w.cell? ⟨g, o + (i * 3 + 1), none⟩ = some (.int .i64 c.2.1) ∧ w.cell? ⟨g, o + (i * 3 + 1 + 1), none⟩ = some (.int .i64 c.2.2)) ∧ g < w.heap.size
theorem raw_row {w : World} {v : Value} {L : List C} (h : RawAt w v L) (hL : L ≠ []) : RowR w v L := by
  rcases h with ⟨_, _, _, rfl⟩ | ⟨g, o, cap, hv, hc, hg⟩
  · exact absurd rfl hL
  · exact ⟨⟨g, o, cap, hv, fun i c hi => by
      obtain ⟨h0, h1, h2⟩ := flat_get L i c hi
      exact ⟨hc _ _ h0, hc _ _ h1, hc _ _ h2⟩, hg⟩⟩
def RvR (w : World) (L : List C) (t3 t8 : Value) (wr : World) : Prop := ∃ k n : Nat, k ≤ L.length ∧ t8 = .int .i64 k ∧ t3 = .int .i64 n ∧ Rlv (L.take k) n ∧ Below w.heap.size w wr
def RvI (w0 : World) (B n0 : Nat) (c : C) (t3 : Value) (wr : World) : Prop := ∃ n : Nat, n0 ≤ n ∧ n ≤ 44 ∧ t3 = .int .i64 n ∧ (∀ k : Nat, n0 ≤ k → k < n → insB k c.1 c.2.1 = false) ∧ Blk wr B 24 #[.int .i64 c.1, .int .i64 c.2.1, .int .i64 c.2.2] ∧ Below w0.heap.size w0 wr
set_option maxRecDepth 100000 in
set_option maxHeartbeats 1000000 in
theorem reflevel_any (v : Value) (L : List C) (w : World) (h : RawAt w v L) (hL : L.length ≤ 1000) (hm : ∀ c ∈ L, RmC c) :
    Calls Tryz.prog 16 #[v] w fun e w' => ∃ n : Nat, e = .returned (.int .i64 n) ∧ Rlv L n ∧ Below w.heap.size w w' := by
  have key : ∃ p cap, v = .slice p L.length cap := by
    rcases h with ⟨p, cap, rfl, rfl⟩ | ⟨g, o, cap, rfl, _, _⟩
    · exact ⟨p, cap, rfl⟩
    · exact ⟨_, _, rfl⟩
  obtain ⟨p, cap, rfl⟩ := key
  have HR := Lib.hid h
  have HM := Lib.hid hm
  clear h hm
  go_enter Tryz.func16, Tryz.ntmps16
  go_wp2_with fail
  go_loopw [3, 8] (fun t3 t8 wr => RvR w L t3 t8 wr) (fun _ t8 _ => L.length - (intOf t8).toNat)
  case atStart => exact ⟨0, 3, Nat.zero_le _, rfl, rfl, by simpa using rlv_nil, Below.refl _ _⟩
  case round =>
    obtain ⟨k, n, hk, rfl, rfl, hl, hb⟩ := hrel
    have HL := Lib.hid hl
    have h3 := hl.lo
    have h44 := hl.hi
    clear hl
    have hz := hb.size
    by_cases hlt : k < L.length
    · obtain ⟨c, hc⟩ : ∃ c, L[k]? = some c := ⟨_, List.getElem?_eq_getElem hlt⟩
      have hne : L ≠ [] := fun e => by rw [e] at hlt; simp at hlt
      obtain ⟨⟨g, o, cp, hv, hcs, hg⟩⟩ := raw_row (HR.out.below hb) hne
      injection hv with hv1 hv2 hv3
      subst hv1 hv3
      clear hv2
      obtain ⟨c0, c1, c2⟩ := hcs k c hc
      rw [← Nat.add_assoc] at c1 c2
      rw [← Nat.add_assoc] at c2
      have hrm := HM.out c (List.mem_of_getElem? hc)
      have hins := fun (m : Nat) W => refinside_any m c.1 c.2.1 W
      have hins' : ∀ (m : Nat) W, Calls Tryz.prog 22 #[.int .i64 m, .int .i64 c.1, .int .i64 c.2.1] W fun e w' => e = .returned (.bool (insB m c.1 c.2.1)) ∧ W = w' := fun m W => by
        have := hins m W
        rwa [refB_ins hrm.1 hrm.2] at this
      have HT := Lib.hid (show L.take (k + 1) = L.take k ++ [c] by rw [List.take_add_one, hc]; rfl)
      clear hins hrm hc hcs
      have kN := Blk.newAt wr 24 #[.int .i64 c.1, .int .i64 c.2.1, .int .i64 c.2.2] _ rfl
      have hb2 := hb.alloc hz (.cells #[.int .i64 c.1, .int .i64 c.2.1, .int .i64 c.2.2] 24)
      go_wp2_with fail
      go_loopw [3] (fun t3 wr' => RvI w wr.heap.size n c t3 wr') (fun t3 _ => 45 - (intOf t3).toNat)
      case atStart => exact ⟨n, Nat.le_refl _, h44, rfl, fun k h1 h2 => by omega, kN, hb2⟩
      case round =>
        clear kN hb2
        obtain ⟨m, hnm, hm, rfl, hno, kN, hb2⟩ := hrel
        have HNo := Lib.hid hno
        have n0 := kN.cell 0
        have n1 := kN.cell 1
        simp only [List.getElem?_toArray, List.getElem?_cons_zero, List.getElem?_cons_succ] at n0 n1
        have hnl := kN.lt
        have hi := hins' m
        clear hno
        by_cases hm4 : m < 44
        · have hd1 : decide ((m : Int) < 44) = true := by simp; omega
          rcases hs : insB m c.1 c.2.1 with _ | _
          · rw [hs] at hi
            have HS := Lib.hid hs
            have HNx := Lib.hid (show ∀ k : Nat, n ≤ k → k < m + 1 → insB k c.1 c.2.1 = false from fun k h1 h2 => by
              rcases Nat.lt_or_ge k m with h | h
              · exact HNo.out k h1 h
              · obtain rfl : k = m := by omega
                exact hs)
            clear hs
            go_wp2_with (first | (go_at_call 22; refine (hi _).mono ?_; rintro e w' ⟨rfl, rfl⟩))
            exact ⟨⟨m + 1, by omega, by omega, by go_num, HNx.out, kN, hb2⟩, by simp [intOf]; omega⟩
          · rw [hs] at hi
            have HS := Lib.hid hs
            clear hs
            have HN := Lib.hid (rlv_next HL.out hnm hm HNo.out (fun _ => HS.out))
            go_wp2_with (first | (go_at_call 22; refine (hi _).mono ?_; rintro e w' ⟨rfl, rfl⟩))
            exact ⟨⟨k + 1, m, by omega, by go_num, rfl, by rw [HT.out]; exact HN.out, hb2⟩, by simp [intOf]; omega⟩
        · obtain rfl : m = 44 := by omega
          have HN := Lib.hid (rlv_next HL.out hnm hm HNo.out (fun h => absurd h hm4))
          go_wp2_with (first | (go_at_call 22; refine (hi _).mono ?_; rintro e w' ⟨rfl, rfl⟩))
          exact ⟨⟨k + 1, 44, by omega, by go_num, rfl, by rw [HT.out]; exact HN.out, hb2⟩, by simp [intOf]; omega⟩
    · obtain rfl : k = L.length := by omega
      go_wp2
      go_ret
      exact ⟨n, rfl, by have := HL.out; rwa [List.take_length] at this, hb⟩
end Go.Proofs.YtahlinekbllkaaaGreatDoor.Tr

/- A root, and the list of its cells; what a Put, and building anew, make of it. -/
namespace Go.Proofs.YtahlinekbllkaaaGreatDoor.Tr
open Go.Proofs.YtahlinekbllkaaaGreatDoor.Ar
open Go.Proofs.YtahlinekbllkaaaGreatDoor.Se (Rising ins del mem_ins mem_del rising_ins rising_del ins_len del_len del_filter ofL ofL_eq)

/-- A root of that level has just a list's cells. -/
structure Rt (S : Sta) (d i : Nat) (K : List C) : Prop where
  tw : Tw S
  lv : lvOk S.N d i
  mem : ∀ c, c ∈ cellsL S.N d i (-hf ((d : Int) + 2)) (-hf ((d : Int) + 2)) ↔ c ∈ K
  ris : Rising K
section
variable {S S' : Sta} {d i j d2 : Nat} {K : List C} {c : C} {live : Bool} {er : Option Nat}
theorem Rt.of (h : Bt S K d i none S') (hr : Rising K) : Rt S' d i K := ⟨h.ext.tw, (bt_lv h).1, (bt_lv h).2, hr⟩
theorem Rt.ofL (h : Rt S d i K) : ofL (cellsL S.N d i (-hf ((d : Int) + 2)) (-hf ((d : Int) + 2))) = K := ofL_eq h.ris fun c => (h.mem c).symm
theorem Rt.len (h : Rt S d i K) : (cellsL S.N d i (-hf ((d : Int) + 2)) (-hf ((d : Int) + 2))).length ≤ K.length := nodup_le (cells_nodup S.N d i _ _) fun c hc => (h.mem c).1 hc
theorem Rt.count (h : Rt S d i K) : (ndAt S.N i).1.count ≤ K.length := by
  have h1 := count_eq h.tw h.lv (x := -hf ((d : Int) + 2)) (y := -hf ((d : Int) + 2))
  have := h.len
  omega
theorem Rt.ext (h : Rt S d i K) (k : Ext S S') : Rt S' d i K := ⟨k.tw, k.lv h.lv, fun c => by rw [k.cells h.tw h.lv]; exact h.mem c, h.ris⟩
def putK (live : Bool) (K : List C) (c : C) : List C := if live then ins K c else K.filter fun x => !decide (x = c)
theorem putK_mem (b : C) : b ∈ putK live K c ↔ putM live (fun b => b ∈ K) c b := by
  unfold putK putM
  cases live
  · simp only [Bool.false_eq_true, if_false, false_and, false_or, List.mem_filter, Bool.not_eq_true', decide_eq_false_iff_not]
  · simp only [if_true, true_and, mem_ins]
    constructor
    · rintro (h | h)
      · exact .inl h
      · by_cases e : b = c
        · exact .inl e
        · exact .inr ⟨h, e⟩
    · rintro (h | h)
      · exact .inl h
      · exact .inr h.1
theorem putK_ris (h : Rising K) : Rising (putK live K c) := by
  unfold putK
  split
  · exact rising_ins h c
  · rw [del_filter h]; exact rising_del h c
theorem putK_len (h : Rising K) : (putK live K c).length ≤ K.length + 1 := by
  unfold putK
  split
  · exact ins_len h c
  · have := List.length_filter_le (fun x => !decide (x = c)) K
    omega
theorem putK_in {Q : C → Prop} (hK : ∀ b ∈ K, Q b) (hc : Q c) : ∀ b ∈ putK live K c, Q b := fun b hb => by
  rcases (putK_mem b).1 hb with ⟨_, rfl⟩ | ⟨h, _⟩
  · exact hc
  · exact hK b h
/-- Behind a Put. -/
theorem Rt.put (h : Rt S d i K) (hp : Pd S d (-hf ((d : Int) + 2)) (-hf ((d : Int) + 2)) i c live j er S') (hN : ne S.N + (d + 1) ≤ 700000) (hm : 800000 ≤ S.more) : er = none ∧ Rt S' d j (putK live K c) := by
  rcases hp.ok with ⟨e, h1, h2⟩ | ⟨_, _, hf⟩
  · refine ⟨e, hp.ext.tw, h1, fun b => ?_, putK_ris h.ris⟩
    rw [h2 b, putK_mem]
    unfold putM
    dsimp only
    rw [h.mem b]
  · exfalso
    have h1 := hp.len
    have h2 := em_le hp.ext.tw
    have h3 := hp.ext.more
    unfold full at hf
    rw [h3] at hf
    omega
/-- Built anew: at the same level the same node. -/
theorem Rt.again {i2 : Nat} (h : Rt S d i K) (hb : Bt S K d i2 none S') : i2 = i := (hb.old i h.lv h.mem).1
end
end Go.Proofs.YtahlinekbllkaaaGreatDoor.Tr

/- An arena's own blocks hold no list of cells. -/
namespace Go.Proofs.YtahlinekbllkaaaGreatDoor.Tr
open Go.RowKit Go.Proofs.YtahlinekbllkaaaGreatDoor.Ba Go.Proofs.YtahlinekbllkaaaGreatDoor.Ar Go.Proofs.YtahlinekbllkaaaGreatDoor.Mp Go.Lib
open Go.Proofs.YtahlinekbllkaaaGreatDoor.Se (Row)

theorem map_norow {κ : Type} {m : MK κ} {w : World} {v : Value} {c q : Nat} {M : κ → Option Nat} (h : MapAt m w v c M) (hq : mapBlock v = some q) (u : Value) : w.cell? ⟨q, 0, none⟩ ≠ some u := by
  rcases h with ⟨rfl, _⟩ | ⟨b, s, rfl, ⟨D, ⟨es, clock, h1, r⟩, h2⟩⟩
  · simp [mapBlock] at hq
  · simp only [mapBlock, Option.some.injEq] at hq
    subst hq
    simp [World.cell?, h1]
theorem ar_tight {w : World} {g : Nat} {S : Sta} {P : Nat → Prop} (h : ArAt w g S P) (hN : S.N ≠ []) : ∃ P0 : Nat → Prop, ArAt w g S P0 ∧ (∀ k, P0 k → P k) ∧ ∀ q L, Row w q L → L ≠ [] → ¬ P0 q := by
  have hcs := h.cells
  obtain ⟨s, lv, jn, h1, h2, h3, h4, ⟨p1, p2, p3, p4, p5⟩, rest⟩ := h
  refine ⟨fun k => k = g ∨ s.ownBlock = some k ∨ mapBlock lv = some k ∨ mapBlock jn = some k, ⟨s, lv, jn, h1, h2, h3, h4, ⟨.inl rfl, fun b hb => .inr (.inl hb), fun b hb => .inr (.inr (.inl hb)), fun b hb => .inr (.inr (.inr hb)), p5⟩, rest⟩, fun k hk => ?_, fun q L hr hne hq => ?_⟩
  · rcases hk with rfl | hk | hk | hk
    · exact p1
    · exact p2 k hk
    · exact p3 k hk
    · exact p4 k hk
  · obtain ⟨x, hx⟩ : ∃ x, L[0]? = some x := by cases L with | nil => exact absurd rfl hne | cons x L => exact ⟨x, rfl⟩
    obtain ⟨r0, r1, _⟩ := hr.1 0 x hx
    simp only [Nat.zero_mul, Nat.zero_add] at r0 r1
    rcases hq with rfl | hq | hq | hq
    · obtain ⟨p, c, lv', jn', ⟨-, c1, -, -⟩, -⟩ := hcs
      rw [c1] at r1
      simp at r1
    · rcases h2.2 with ⟨rfl, _⟩ | ⟨b, cap, cur, rfl, _⟩
      · simp [Value.ownBlock] at hq
      · simp only [Value.ownBlock, Option.some.injEq] at hq
        subst hq
        obtain ⟨d, N, hd⟩ : ∃ d N, S.N = d :: N := by cases hS : S.N with | nil => exact absurd hS hN | cons d N => exact ⟨d, N, rfl⟩
        have hl : 0 < (flatN S.N).length := by rw [flatN_len, hd, List.length_cons]; omega
        have := h2.cellAt 0 (by rw [hd, List.length_cons]; omega)
        rw [r0, hd, flatN_cons] at this
        simp at this
    · exact map_norow h3 hq _ r0
    · exact map_norow h4 hq _ r0
end Go.Proofs.YtahlinekbllkaaaGreatDoor.Tr

/- Roots of lists in one arena: the mathematics that several laws want. -/
namespace Go.Proofs.YtahlinekbllkaaaGreatDoor.Tr
open Go.RowKit Go.Proofs.YtahlinekbllkaaaGreatDoor.Ba Go.Proofs.YtahlinekbllkaaaGreatDoor.Ar
open Go.Proofs.YtahlinekbllkaaaGreatDoor.Se (RawAt SetAt Rising rising_ext boxL)

theorem set_raw {w : World} {v : Value} {L : List C} (h : SetAt w v L) : RawAt w v L := by
  rcases h with ⟨rfl, rfl⟩ | ⟨g, cap, rfl, _, hr⟩
  · exact .inl ⟨none, 0, rfl, rfl⟩
  · exact .inr ⟨g, 0, cap, rfl, hr.flat, hr.2⟩
/-- Built where it is already: nothing turns. -/
theorem bt_same {S S' : Sta} {K : List C} {d i d3 z : Nat} {er : Option Nat} (h : Rt S d i K) (hl : Lst (boxL K) (d + 2)) (hb : Bt S K d3 z er S') : d = d3 ∧ i = z ∧ none = er ∧ S = S' := by
  have := hb.lv.uniq hl
  obtain rfl : d = d3 := by omega
  obtain ⟨a, b, c⟩ := hb.old i h.lv h.mem
  exact ⟨rfl, a.symm, b.symm, c.symm⟩
/-- Two roots in one arena are one just where their lists are. -/
theorem rt_eq {S : Sta} {K M : List C} {d i e j : Nat} (h : Rt S d i K) (k : Rt S e j M) (hl : Lst (boxL K) (d + 2)) (kl : Lst (boxL M) (e + 2)) : i = j ↔ K = M := by
  constructor
  · rintro rfl
    have a : levelOf S.N i = (d : Int) + 2 := h.lv
    have b : levelOf S.N i = (e : Int) + 2 := k.lv
    obtain rfl : d = e := by omega
    exact rising_ext h.ris k.ris fun c => (h.mem c).symm.trans (k.mem c)
  · rintro rfl
    have := hl.uniq kl
    obtain rfl : d = e := by omega
    exact uniq h.tw h.lv k.lv fun c => (h.mem c).trans (k.mem c).symm
end Go.Proofs.YtahlinekbllkaaaGreatDoor.Tr

/- A list that stays behind a Put and a Build; one round of TreePuts. -/
namespace Go.Proofs.YtahlinekbllkaaaGreatDoor.Tr
open Go.RowKit Go.Proofs.YtahlinekbllkaaaGreatDoor.Ba Go.Proofs.YtahlinekbllkaaaGreatDoor.Ar Go.Lib
open Go.Proofs.YtahlinekbllkaaaGreatDoor.Se (RawAt SetAt Rising rising_ext boxL Row)

theorem tight {w : World} {h : Nat} {S : Sta} {v : Value} {K : List C} (hA : ArAt w h S (fun b => h ≤ b)) (hN : S.N ≠ []) (hs : SetAt w v K) :
    ∃ P0 : Nat → Prop, ArAt w h S P0 ∧ (∀ b, P0 b → h ≤ b ∧ b < w.heap.size) ∧ ∀ w', Off (fun b => P0 b ∨ w.heap.size ≤ b) w w' → SetAt w' v K := by
  obtain ⟨P1, h1, h2, h3⟩ := ar_tight hA hN
  refine ⟨fun b => P1 b ∧ b < w.heap.size, h1.weak fun b hb hlt => ⟨hb, hlt⟩, fun b hb => ⟨h2 b hb.1, hb.2⟩, fun w' ho => ?_⟩
  rcases hs with hs | ⟨q, cap, hv, hc, hr⟩
  · exact .inl hs
  · refine .inr ⟨q, cap, hv, hc, ?_⟩
    cases K with
    | nil => exact ⟨fun i d hd => by simp at hd, Nat.lt_of_lt_of_le hr.2 ho.size⟩
    | cons x K =>
      have hq := h3 q (x :: K) hr (by simp)
      have e : w'.heap[q]? = w.heap[q]? := ho.block q hr.2 (fun hq' => by rcases hq' with hq' | hq'; exact hq hq'.1; have := hr.2; omega)
      exact ⟨fun i d hd => by
        obtain ⟨a, b, k⟩ := hr.1 i d hd
        exact ⟨(World.cell?_of_block (a := ⟨q, _, none⟩) e).trans a, (World.cell?_of_block (a := ⟨q, _, none⟩) e).trans b, (World.cell?_of_block (a := ⟨q, _, none⟩) e).trans k⟩, Nat.lt_of_lt_of_le hr.2 ho.size⟩
theorem lv_nonempty {S : Sta} {d i : Nat} (T : Tw S) (h : lvOk S.N d i) (hd : 1 ≤ d) : S.N ≠ [] := by
  obtain ⟨e, rfl⟩ : ∃ e, d = e + 1 := ⟨d - 1, by omega⟩
  obtain ⟨nd, _, h1, _⟩ := node_case T h
  intro e
  rw [e] at h1
  simp at h1
theorem cell_off {P : Nat → Prop} {w w' : World} {g o : Nat} {v : Value} (h : Off P w w') (hc : w.cell? ⟨g, o, none⟩ = some v) (hg : g < w.heap.size) (hp : ¬ P g) : w'.cell? ⟨g, o, none⟩ = some v :=
  (World.cell?_of_block (a := ⟨g, o, none⟩) (h.block g hg hp)).trans hc
theorem keepP {W w' : World} {B g o : Nat} {t : TypeId} {a b c v : Value} (k : Blk W B t #[a, b, c]) (hg : g < W.heap.size) (hc : W.cell? ⟨g, o, none⟩ = some v) (hb : Below W.heap.size W w') :
    w'.cell? ⟨B, 0, none⟩ = some a ∧ w'.cell? ⟨B, 1, none⟩ = some b ∧ w'.cell? ⟨B, 2, none⟩ = some c ∧ w'.cell? ⟨g, o, none⟩ = some v :=
  ⟨(k.under hb).cell 0, (k.under hb).cell 1, (k.under hb).cell 2, (hb.cell (p := ⟨g, o, none⟩) hg).trans hc⟩
theorem keepPO {P : Nat → Prop} {W w' : World} {B g o : Nat} {t : TypeId} {a b c v : Value} (k : Blk W B t #[a, b, c]) (hg : g < W.heap.size) (hc : W.cell? ⟨g, o, none⟩ = some v) (ho : Off P W w') (hB : ¬ P B) (hp : ¬ P g) :
    w'.cell? ⟨B, 0, none⟩ = some a ∧ w'.cell? ⟨B, 1, none⟩ = some b ∧ w'.cell? ⟨B, 2, none⟩ = some c ∧ w'.cell? ⟨g, o, none⟩ = some v :=
  ⟨(ho.blk k hB).cell 0, (ho.blk k hB).cell 1, (ho.blk k hB).cell 2, cell_off ho hc hg hp⟩
/-- What lies outside, as the law asks it. -/
theorem out_ways {l a b : Int} (h : insB l a b = false) : refB l a b = false ∨ a < -1125899906842624 ∨ b < -1125899906842624 := by
  by_cases ha : a < -1125899906842624
  · exact .inr (.inl ha)
  · by_cases hb : b < -1125899906842624
    · exact .inr (.inr hb)
    · left
      have hh := hf_bd l
      by_cases h1 : a ≤ 4611686018427387904
      · by_cases h2 : b ≤ 4611686018427387904
        · rw [refB_ins (by omega) (by omega)]; exact h
        · unfold refB; rw [decide_eq_false_iff_not]; omega
      · unfold refB; rw [decide_eq_false_iff_not]; omega
theorem in_ways {l a b : Int} (h : insB l a b = true) : refB l a b = true ∧ ¬ a < -1125899906842624 ∧ ¬ b < -1125899906842624 := by
  have hh := hf_bd l
  have h' := h
  unfold insB at h'
  rw [decide_eq_true_eq] at h'
  refine ⟨?_, by omega, by omega⟩
  rw [refB_ins (by omega) (by omega)]; exact h
def PuI (w3 : World) (h d k i : Nat) (v : Value) (wr : World) : Prop :=
  ∃ (S : Sta) (K : List C), Rt S d i K ∧ SetAt wr v K ∧ ArAt wr h S (fun b => h ≤ b) ∧ ne S.N ≤ 2000 + 5000 * k ∧ 800000 ≤ S.more ∧ K.length ≤ 30 + k ∧ (∀ c ∈ K, insB 44 c.1 c.2.1 = true ∧ (c.2.2 = 0 ∨ c.2.2 = 1)) ∧ Below h w3 wr
def PuR (w3 : World) (h d n1 n2 : Nat) (t7 t9 t12 : Value) (wr : World) : Prop :=
  ∃ k i : Nat, k ≤ 20 ∧ k ≤ n1 ∧ k ≤ n2 ∧ t12 = .int .i64 k ∧ t9 = .int .u32 i ∧ PuI w3 h d k i t7 wr
def PuP (h d i : Nat) (c : C) (lv : Bool) (S : Sta) (P : Nat → Prop) (W1 : World) (t14 t15 : Value) (wx : World) : Prop :=
  ∃ (j : Nat) (er : Option Nat) (S' : Sta), t14 = .int .u32 j ∧ t15 = errV er ∧ ArAt wx h S' P ∧ Off P W1 wx ∧
      ((¬ (c.2.2 = 0 ∨ c.2.2 = 1) ∧ j = 0 ∧ er = some 4 ∧ S' = S) ∨ ((c.2.2 = 0 ∨ c.2.2 = 1) ∧ insB ((d : Int) + 2) c.1 c.2.1 = false ∧ j = 0 ∧ er = some 6 ∧ S' = S) ∨ ((c.2.2 = 0 ∨ c.2.2 = 1) ∧ insB ((d : Int) + 2) c.1 c.2.1 = true ∧ Pd S d (-hf ((d : Int) + 2)) (-hf ((d : Int) + 2)) i c lv j er S'))
end Go.Proofs.YtahlinekbllkaaaGreatDoor.Tr
