/- Contracts of package arena: Join, Empty, SetMost. -/
import Derived.Test.YtahlinekbllkaaaGreatDoorArW5
namespace Go.Proofs.YtahlinekbllkaaaGreatDoor.Ar
open Go.RowKit Go.Proofs.YtahlinekbllkaaaGreatDoor.Ba Go.Proofs.YtahlinekbllkaaaGreatDoor.Mp Go.Lib Go.Maps

theorem ndAt_level {N : List Nd} (h : Nok N) (i : Nat) (hi : (ndAt N i).2 = true) : 2 ≤ (ndAt N i).1.level := by
  unfold ndAt at hi ⊢
  split
  · decide
  · rename_i h0
    rw [if_neg h0] at hi
    split
    · rename_i d hd
      exact (h d (List.mem_of_getElem? hd)).2.1
    · rename_i hd
      rw [hd] at hi
      cases hi
theorem above_ok {N : List Nd} (h : Nok N) {k : K4} {d : Nd} (ha : aboveR N k = (d, none)) : d.count ≤ 4611686018427387904 ∧ 2 ≤ d.level ∧ d.level ≤ 44 := by
  unfold aboveR at ha
  split at ha
  · rename_i hk
    split at ha
    · simp at ha
    · rename_i h44
      simp only [Prod.mk.injEq, and_true] at ha
      subst ha
      have h1 : kidOk N (levelOf N k.1) k.1 = true := by
        have := List.all_eq_true.1 hk k.1 (by simp [kli])
        exact this
      unfold kidOk at h1
      simp only [Bool.and_eq_true, decide_eq_true_eq] at h1
      have h2 := ndAt_level h k.1 h1.1
      rw [h1.2] at h2
      refine ⟨cntS_le N _, ?_, ?_⟩ <;> dsimp only <;> omega
  · simp at ha
theorem ArAt.nok {w : World} {g : Nat} {S : Sta} {P : Nat → Prop} (h : ArAt w g S P) : Nok S.N := by
  obtain ⟨_, _, _, -, -, -, -, -, r, -⟩ := h
  exact r
/-- Join. -/
theorem join_any (g : Nat) (k : K4) (S : Sta) (P : Nat → Prop) (w : World) (h : ArAt w g S P) (hk : ok4 k) (hP : ∀ b, w.heap.size ≤ b → P b) (hN : S.N.length ≤ 1000000) :
    Calls Tryz.prog 75 #[Pt g, KV k] w fun e w' => e = .returned (.tuple #[.int .u32 ((joinR S k).1 : Int), errV (joinR S k).2.1]) ∧ ArAt w' g (joinR S k).2.2 P ∧ Off P w w' := by
  unfold joinR
  cases hl : S.J k with
  | some i =>
    refine (join_found g k S P w h hk i hl).mono ?_
    rintro e w' ⟨rfl, hb⟩
    exact ⟨rfl, h.under hb, Off.of_below hb⟩
  | none =>
    rcases ha : aboveR S.N k with ⟨d, _ | c⟩
    · by_cases hf : full S
      · simp only [if_pos hf]
        refine (join_full g k S P w h hk d hl hN ha hf).mono ?_
        rintro e w' ⟨rfl, hb⟩
        exact ⟨rfl, h.under hb, Off.of_below hb⟩
      · simp only [if_neg hf]
        exact join_new g k S P w h hk hP d hl hN ha (above_ok h.nok ha) hf
    · refine (join_bad g k S P w h hk c d hl hN ha).mono ?_
      rintro e w' ⟨rfl, hb⟩
      exact ⟨rfl, h.under hb, Off.of_below hb⟩
theorem IsB.wf {κ : Type} {m : MK κ} {w : World} {b c s : Nat} {M : κ → Option Nat} (h : IsB m w b c s M) {x : κ} (hx : m.ok x) {y : Nat} (hy : M x = some y) : (Lit.int m.q (y : Int)).wf = true := by
  obtain ⟨D, h1, ⟨_, h3, _⟩, _⟩ := h
  obtain ⟨c, hrun, hat, hw⟩ := World.ownsMap.lookup_int h1 m.K m.hu m.he (m.hz w) (m.hkey x hx)
  rw [h3 x hx, hy] at hat
  simp only [DataW.lit.injEq, Lit.int.injEq, true_and, Option.getD_some] at hat
  rw [hat]
  exact hw
theorem u32_of_wf {n : Nat} (h : (Lit.int .u32 (n : Int)).wf = true) : okU n := by
  simp [Lit.wf, IntKind.min, IntKind.max, IntKind.signed, IntKind.bits] at h
  show _ < _
  omega
theorem join_okU {g : Nat} {k : K4} {S : Sta} {P : Nat → Prop} {w : World} (h : ArAt w g S P) (hk : ok4 k) (hN : S.N.length ≤ 1000000) : okU (joinR S k).1 := by
  unfold joinR
  obtain ⟨_, _, _, -, -, -, hJ, -⟩ := h
  cases hl : S.J k with
  | some i =>
    rcases hJ with ⟨_, hn⟩ | ⟨b, s, _, hI⟩
    · rw [hn] at hl; cases hl
    · exact u32_of_wf (IsB.wf hI hk hl)
  | none =>
    rcases ha : aboveR S.N k with ⟨d, _ | c⟩
    · by_cases hf : full S
      · simp only [if_pos hf]; decide
      · simp only [if_neg hf]; show _ < _; omega
    · show 0 < _; decide
theorem join_len (k : K4) (S : Sta) : (joinR S k).2.2.N.length ≤ S.N.length + 1 := by
  unfold joinR
  split
  · simp
  · split
    · simp
    · split
      · simp
      · simp [joinS, addS]
/-- Empty, level by level. -/
def empL : Nat → Sta → Nat × Option Nat × Sta
  | 0, S => (0, none, S)
  | n + 1, S => match empL n S with
    | (i, none, S') => joinR S' (i, i, i, i)
    | (_, some c, S') => (0, some c, S')
def emptyR (S : Sta) (level : Int) : Nat × Option Nat × Sta := if level < 2 then (0, some 4, S) else if 44 < level then (0, some 7, S) else empL (level - 2).toNat S
theorem empL_len : ∀ (n : Nat) (S : Sta), (empL n S).2.2.N.length ≤ S.N.length + n
  | 0, S => Nat.le_refl _
  | n + 1, S => by
    have ih := empL_len n S
    unfold empL
    split
    · rename_i i S' he
      rw [he] at ih
      have := join_len (i, i, i, i) S'
      dsimp only at ih
      omega
    · rename_i he
      rw [he] at ih
      dsimp only at ih ⊢
      omega
theorem join_err {S : Sta} {k : K4} {c : Nat} (h : (joinR S k).2.1 = some c) : (joinR S k).1 = 0 := by
  unfold joinR at h ⊢
  split
  · rename_i hl; rw [hl] at h; cases h
  · rename_i hl
    rw [hl] at h
    split
    · rfl
    · rename_i ha
      rw [ha] at h
      split
      · rfl
      · rename_i hf
        simp [hf] at h
/-- Once there is an error it stays. -/
theorem empL_stop {S S' : Sta} {c i m : Nat} (h : empL m S = (i, some c, S')) (hi : i = 0) : ∀ n, empL (m + n) S = (0, some c, S')
  | 0 => by rw [Nat.add_zero, h, hi]
  | n + 1 => by
    have := empL_stop h hi n
    show empL (m + n + 1) S = _
    unfold empL
    rw [this]
def EmR (w : World) (g : Nat) (S : Sta) (P : Nat → Prop) (n : Nat) (t6 t17 : Value) (wr : World) : Prop :=
  ∃ (m i : Nat) (S' : Sta), m ≤ n ∧ t17 = .int .i64 m ∧ t6 = .int .u32 i ∧ okU i ∧ empL m S = (i, none, S') ∧ ArAt wr g S' P ∧ Off P w wr
theorem empty_low (g : Nat) (level : Int) (h : level < 2) (w : World) :
    Calls Tryz.prog 88 #[Pt g, .int .i64 level] w fun e w' => e = .returned (.tuple #[.int .u32 0, errV (some 4)]) ∧ w = w' := by
  go_enter Tryz.func88, Tryz.ntmps88
  go_wp2
  exact bodyPost_ret (v := .tuple #[.int .u32 0, errV (some 4)]) (by simp [results, Tryz.results88, go_sem, errV]) rfl ⟨rfl, rfl⟩
theorem empty_high (g : Nat) (level : Int) (h : 44 < level) (w : World) :
    Calls Tryz.prog 88 #[Pt g, .int .i64 level] w fun e w' => e = .returned (.tuple #[.int .u32 0, errV (some 7)]) ∧ w = w' := by
  have h2 : ¬ level < 2 := by omega
  go_enter Tryz.func88, Tryz.ntmps88
  go_wp2
  exact bodyPost_ret (v := .tuple #[.int .u32 0, errV (some 7)]) (by simp [results, Tryz.results88, go_sem, errV]) rfl ⟨rfl, rfl⟩
set_option maxRecDepth 100000 in
theorem empty_mid (g n : Nat) (S : Sta) (P : Nat → Prop) (w : World) (h : ArAt w g S P) (hP : ∀ b, w.heap.size ≤ b → P b) (hn : n ≤ 42) (hN : S.N.length ≤ 900000) :
    Calls Tryz.prog 88 #[Pt g, .int .i64 ((n : Int) + 2)] w fun e w' => e = .returned (.tuple #[.int .u32 ((empL n S).1 : Int), errV (empL n S).2.1]) ∧ ArAt w' g (empL n S).2.2 P ∧ Off P w w' := by
  have h2 : ¬ (n : Int) + 2 < 2 := by omega
  have h4 : ¬ 44 < (n : Int) + 2 := by omega
  go_enter Tryz.func88, Tryz.ntmps88
  go_wp2_with fail
  go_loopw [6, 17] (fun t6 t17 wr => EmR w g S P n t6 t17 wr) (fun _ t17 _ => n - (intOf t17).toNat)
  case atStart => exact ⟨0, 0, S, Nat.zero_le _, rfl, rfl, by decide, rfl, h, Off.refl⟩
  case round =>
    obtain ⟨m, i, S', hm, rfl, rfl, hi, he, hA, hO⟩ := hrel
    have hlen := empL_len m S
    rw [he] at hlen
    dsimp only at hlen
    have hj := fun W hW hQ => join_any g (i, i, i, i) S' P W hW ⟨hi, hi, hi, hi⟩ hQ (by omega)
    have HU := Lib.hid (join_okU hA (k := (i, i, i, i)) ⟨hi, hi, hi, hi⟩ (by omega))
    have HE := Lib.hid he
    have HNx := Lib.hid (show empL (m + 1) S = joinR S' (i, i, i, i) by unfold empL; rw [he])
    clear he hlen h
    by_cases hlt : m < n
    · have HErr := Lib.hid (fun c => join_err (S := S') (k := (i, i, i, i)) (c := c))
      have hmi : (m : Int) < (n : Int) := by omega
      rcases hR : joinR S' (i, i, i, i) with ⟨j, _ | c, S''⟩
      · rw [hR] at hj HU HNx
        go_wp2_with fail
        refine (hj _ hA (fun b hb => hP b (Nat.le_trans hO.size hb))).mono ?_
        rintro e w1 ⟨rfl, hA1, hO1⟩
        have hO2 := hO.trans hO1
        unfold errV
        clear hO1 hA hO hj
        go_wp2
        exact ⟨⟨m + 1, j, S'', by omega, by go_num, rfl, HU.out, HNx.out, hA1, hO2⟩, by simp [intOf]; omega⟩
      · have hj0 := HErr.out c (by rw [hR])
        rw [hR] at hj0 hj HNx
        dsimp only at hj0
        subst hj0
        go_wp2_with fail
        refine (hj _ hA (fun b hb => hP b (Nat.le_trans hO.size hb))).mono ?_
        rintro e w1 ⟨rfl, hA1, hO1⟩
        have hO2 := hO.trans hO1
        have HF := Lib.hid (show empL n S = (0, some c, S'') by have := empL_stop HNx.out rfl (n - (m + 1)); rwa [show m + 1 + (n - (m + 1)) = n by omega] at this)
        unfold errV
        clear hO1 hA hO hj
        go_wp2
        exact bodyPost_ret (v := .tuple #[.int .u32 0, errV (some c)]) (by simp [results, Tryz.results88, go_sem, errV]) rfl ⟨by rw [HF.out]; rfl, by rw [HF.out]; exact hA1, hO2⟩
    · obtain rfl : m = n := by omega
      have hmi : ¬ (m : Int) < (m : Int) := by omega
      clear hj
      go_wp2
      exact bodyPost_ret (v := .tuple #[.int .u32 i, errV none]) (by simp [results, Tryz.results88, go_sem, errV]) rfl ⟨by rw [HE.out], by rw [HE.out]; exact hA, hO⟩
/-- Empty. -/
theorem empty_any (g : Nat) (level : Int) (S : Sta) (P : Nat → Prop) (w : World) (h : ArAt w g S P) (hP : ∀ b, w.heap.size ≤ b → P b) (hN : S.N.length ≤ 900000) :
    Calls Tryz.prog 88 #[Pt g, .int .i64 level] w fun e w' => e = .returned (.tuple #[.int .u32 ((emptyR S level).1 : Int), errV (emptyR S level).2.1]) ∧ ArAt w' g (emptyR S level).2.2 P ∧ Off P w w' := by
  unfold emptyR
  by_cases h2 : level < 2
  · rw [if_pos h2]
    refine (empty_low g level h2 w).mono ?_
    rintro e w' ⟨rfl, rfl⟩
    exact ⟨rfl, h, Off.refl⟩
  · rw [if_neg h2]
    by_cases h4 : 44 < level
    · rw [if_pos h4]
      refine (empty_high g level h4 w).mono ?_
      rintro e w' ⟨rfl, rfl⟩
      exact ⟨rfl, h, Off.refl⟩
    · rw [if_neg h4]
      have e : level = (((level - 2).toNat : Nat) : Int) + 2 := by omega
      have := empty_mid g (level - 2).toNat S P w h hP (by omega) hN
      rw [← e] at this
      exact this
end Go.Proofs.YtahlinekbllkaaaGreatDoor.Ar
