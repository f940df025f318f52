/- What a check of a list answers: the mathematics; the law's 'fails' of such an error. -/
import Derived.Test.YtplldlfbcblncaaGreatDoorFtPl
import Derived.Test.YtplldlfbcblncaaGreatDoorCk
import Derived.Test.YtplldlfbcblncaaGreatDoorSeL
namespace Go.Proofs.YtplldlfbcblncaaGreatDoor.Se
open Go.RowKit Go.Proofs.YtplldlfbcblncaaGreatDoor.Ba Go.Lib
open Go.Proofs.YtplldlfbcblncaaGreatDoor.Ck (latB chkV)

/-- The first place at which something is wrong. -/
def ckN (f : Nat → Int) : Nat → Option Nat
  | 0 => none
  | n + 1 => match ckN f n with | some k => some k | none => if f n = 0 then none else some n
theorem ckN_next {f : Nat → Int} {k : Nat} (h : ckN f k = none) (h0 : f k = 0) : ckN f (k + 1) = none := by unfold ckN; rw [h]; simp [h0]
theorem ckN_stay {f : Nat → Int} {m k : Nat} (h : ckN f m = some k) : ∀ d, ckN f (m + d) = some k
  | 0 => h
  | d + 1 => by
    have := ckN_stay h d
    show ckN f (m + d + 1) = some k
    unfold ckN
    rw [this]
theorem ckN_here {f : Nat → Int} {k n : Nat} (h : ckN f k = none) (h0 : f k ≠ 0) (hn : k < n) : ckN f n = some k := by
  have h1 : ckN f (k + 1) = some k := by unfold ckN; rw [h]; simp [h0]
  have := ckN_stay h1 (n - (k + 1))
  rwa [show k + 1 + (n - (k + 1)) = n by omega] at this
/-- What is wrong at a place of a list: 0: nothing. -/
def stC (l : Int) (L : List C) (k : Nat) : Int :=
  match L[k]? with
  | none => 0
  | some x => if chkV l x.1 x.2.1 x.2.2 ≠ 0 then chkV l x.1 x.2.1 x.2.2 else match k with
    | 0 => 0
    | m + 1 => match L[m]? with | none => 0 | some y => if lt y x = true then 0 else 1
def outI (l : Int) (L : List C) : Int × Int := if latB l = false then (11, -1) else match ckN (stC l L) L.length with | none => (0, -1) | some k => (stC l L k, k)
theorem stC_chk {l : Int} {L : List C} {k : Nat} {x : C} (hx : L[k]? = some x) (h : chkV l x.1 x.2.1 x.2.2 ≠ 0) : stC l L k = chkV l x.1 x.2.1 x.2.2 := by unfold stC; rw [hx]; simp [h]
theorem stC_first {l : Int} {L : List C} {x : C} (hx : L[0]? = some x) (h : chkV l x.1 x.2.1 x.2.2 = 0) : stC l L 0 = 0 := by unfold stC; rw [hx]; simp [h]
theorem stC_pair {l : Int} {L : List C} {m : Nat} {x y : C} (hx : L[m + 1]? = some x) (hy : L[m]? = some y) (h : chkV l x.1 x.2.1 x.2.2 = 0) : stC l L (m + 1) = if lt y x = true then 0 else 1 := by unfold stC; rw [hx]; simp only [h, hy]; simp
theorem out_none {l : Int} {L : List C} (hl : latB l = true) (h : ckN (stC l L) L.length = none) : outI l L = (0, -1) := by unfold outI; rw [hl, h]; simp
theorem out_some {l : Int} {L : List C} {k : Nat} (hl : latB l = true) (h : ckN (stC l L) k = none) (h0 : stC l L k ≠ 0) (hk : k < L.length) : outI l L = (stC l L k, (k : Int)) := by unfold outI; rw [hl, ckN_here h h0 hk]; simp
theorem out_lat {l : Int} {L : List C} (hl : latB l = false) : outI l L = (11, -1) := by unfold outI; rw [hl]; simp
/-- An error that says such a thing. -/
def cellS : ByteArray := ⟨#[99, 101, 108, 108]⟩
def ErrAs (w : World) (v : Value) (o : Int × Int) : Prop :=
  (v = .nilIface ∧ o = (0, -1)) ∨ (∃ c, v = Er c ∧ o = (c, -1)) ∨ ∃ (F k : Nat) (c : Int), v = .iface 95 (.pointer (some ⟨F, 0, none⟩)) ∧ o = (c, (k : Int)) ∧ F < w.heap.size ∧ w.cell? ⟨F, 0, none⟩ = some (.string cellS) ∧ w.cell? ⟨F, 1, none⟩ = some (.int .i64 k) ∧ w.cell? ⟨F, 2, none⟩ = some (Er c)
theorem ErrAs.below {w w' : World} {v : Value} {o : Int × Int} (h : ErrAs w v o) (hb : Below w.heap.size w w') : ErrAs w' v o := by
  rcases h with h | h | ⟨F, k, c, h1, h2, h3, h4, h5, h6⟩
  · exact .inl h
  · exact .inr (.inl h)
  · exact .inr (.inr ⟨F, k, c, h1, h2, Nat.lt_of_lt_of_le h3 hb.size, (hb.cell (p := ⟨F, 0, none⟩) h3).trans h4, (hb.cell (p := ⟨F, 1, none⟩) h3).trans h5, (hb.cell (p := ⟨F, 2, none⟩) h3).trans h6⟩)
theorem wrap_any (k : Nat) (c : Int) (w : World) :
    Calls Tryz.prog 38 #[.string cellS, .int .i64 k, Er c] w fun e w' => ∃ v, e = .returned v ∧ ErrAs w' v (c, (k : Int)) ∧ Below w.heap.size w w' := by
  have hne : ∀ W, (binOp .eql 30 (Er c) .nilIface).run Tryz.prog W = .ok (.bool false) W := fun W => by simp [go_sem]
  go_enter Tryz.func38, Tryz.ntmps38
  go_wp2
  go_ret
  have kb := Blk.newAt w 97 #[.string cellS, .int .i64 k, Er c] _ rfl
  exact ⟨_, rfl, .inr (.inr ⟨w.heap.size, k, c, rfl, rfl, kb.lt, kb.cell 0, kb.cell 1, kb.cell 2⟩), (Below.refl _ _).alloc (Nat.le_refl _) _⟩
theorem fails_any (v : Value) (o : Int × Int) (w : World) (hE : ErrIs w) (h : ErrAs w v o) :
    Calls Tryz.prog 13 #[v, .int .i64 o.1, .int .i64 o.2] w fun e w' => e = .returned (.bool true) ∧ Below w.heap.size w w' := by
  rcases h with ⟨rfl, rfl⟩ | ⟨c, rfl, rfl⟩ | ⟨F, k, c, rfl, rfl, h3, h4, h5, h6⟩
  · go_enter Tryz.func13, Tryz.ntmps13
    go_wp2_with fail
    refine (place_nil cellS _).mono ?_
    rintro e w1 ⟨rfl, hb1⟩
    go_wp2_with fail
    refine (codeOf_nil _).mono ?_
    rintro e w2 ⟨rfl, hb2⟩
    go_wp2_with fail
    go_ret
    exact ⟨rfl, hb1.trans (hb2.mono hb1.size)⟩
  · go_enter Tryz.func13, Tryz.ntmps13
    go_wp2_with fail
    refine (place_code c cellS _).mono ?_
    rintro e w1 ⟨rfl, hb1⟩
    go_wp2_with fail
    refine (codeOf_er c _ (hE.below hb1)).mono ?_
    rintro e w2 ⟨rfl, hb2⟩
    go_wp2_with fail
    go_ret
    exact ⟨rfl, hb1.trans (hb2.mono hb1.size)⟩
  · have hk : decide ((0 : Int) ≤ (k : Int)) = true := by simp
    go_enter Tryz.func13, Tryz.ntmps13
    go_wp2_with fail
    refine (place_fault c k F cellS _ h4 h5 h6 h3).mono ?_
    rintro e w1 ⟨rfl, hb1⟩
    go_wp2_with fail
    refine (codeOf_in c F _ (hE.below hb1) ((hb1.cell (p := ⟨F, 2, none⟩) h3).trans h6) (Nat.lt_of_lt_of_le h3 hb1.size)).mono ?_
    rintro e w2 ⟨rfl, hb2⟩
    go_wp2_with fail
    go_ret
    exact ⟨rfl, hb1.trans (hb2.mono hb1.size)⟩
end Go.Proofs.YtplldlfbcblncaaGreatDoor.Se
