/- The document's arena: New, add. -/
import Derived.Test.YtmibdbgoknbchaaDoorArL
import Derived.Test.YtmibdbgoknbchaaDoorStA
import Derived.StillTailTactics
import Derived.Deep.RegionHeld3
namespace Go.Proofs.YtmibdbgoknbchaaDoor.Ar
open Go.RowKit Go.Proofs.YtmibdbgoknbchaaDoor.Ba Go.Proofs.YtmibdbgoknbchaaDoor.Mp Go.Lib Go.Maps

structure RN where
  level : Int
  bits : Nat
  k0 : Int
  k1 : Int
  k2 : Int
  k3 : Int
  count : Nat
def encR (d : RN) : List Value := [.int .i64 d.level, .int .u32 d.bits, .int .i64 d.k0, .int .i64 d.k1, .int .i64 d.k2, .int .i64 d.k3, .int .u64 d.count]
abbrev RV (d : RN) : Value := .agg #[.int .i64 d.level, .int .u32 d.bits, .int .i64 d.k0, .int .i64 d.k1, .int .i64 d.k2, .int .i64 d.k3, .int .u64 d.count]
def flatR (l : List RN) : List Value := l.flatMap encR
theorem flatR_cons (d : RN) (L : List RN) : flatR (d :: L) = .int .i64 d.level :: .int .u32 d.bits :: .int .i64 d.k0 :: .int .i64 d.k1 :: .int .i64 d.k2 :: .int .i64 d.k3 :: .int .u64 d.count :: flatR L := by simp [flatR, encR]
theorem flatR_len (l : List RN) : (flatR l).length = l.length * 7 := by
  induction l with
  | nil => rfl
  | cons d l ih => rw [flatR_cons]; simp [ih]; omega
theorem flatR_app (l m : List RN) : flatR (l ++ m) = flatR l ++ flatR m := by simp [flatR]
theorem flatR_get : ∀ (L : List RN) (i : Nat) (d : RN), L[i]? = some d → ∀ j, j < 7 → (flatR L)[i * 7 + j]? = (encR d)[j]?
  | [], i, d, h, _, _ => by simp at h
  | c :: L, 0, d, h, j, hj => by
    simp at h
    subst h
    rw [flatR_cons]
    match j, hj with
    | 0, _ => rfl
    | 1, _ => rfl
    | 2, _ => rfl
    | 3, _ => rfl
    | 4, _ => rfl
    | 5, _ => rfl
    | 6, _ => rfl
  | c :: L, i + 1, d, h, j, hj => by
    have ih := flatR_get L i d (by simpa using h) j hj
    rw [flatR_cons, show (i + 1) * 7 + j = (i * 7 + j) + 1 + 1 + 1 + 1 + 1 + 1 + 1 by omega]
    simpa using ih
theorem one_flatR (L : List RN) : ∀ u ∈ flatR L, u.oneCell' = true := by
  intro u hu
  simp only [flatR, List.mem_flatMap, encR] at hu
  obtain ⟨c, _, hu⟩ := hu
  simp at hu
  rcases hu with rfl | rfl | rfl | rfl | rfl | rfl | rfl <;> rfl
def rn0 : RN := ⟨0, 0, 0, 0, 0, 0, 0⟩
theorem rn_info : (Tryd.prog.info? 54).map (fun i => (i.zero, i.size, i.bytes)) = some (some (RV rn0), 7, 56) := by kernel_rfl
/-- A value is a list of nodes that is not nil: a row from a block's start on. -/
def RAt (w : World) (g cap : Nat) (L : List RN) : Prop := (L.length ≤ cap ∧ ∃ cs fr, w.heap[g]? = some (.cells cs 54 fr)) ∧ (∀ j u, (flatR L)[j]? = some u → w.cell? ⟨g, j, none⟩ = some u) ∧ g < w.heap.size
theorem RAt.below {w w' : World} {g cap : Nat} {L : List RN} (h : RAt w g cap L) (hb : Below w.heap.size w w') : RAt w' g cap L :=
  ⟨⟨h.1.1, by obtain ⟨cs, fr, e⟩ := h.1.2; exact ⟨cs, fr, (hb.block g h.2.2).trans e⟩⟩, fun j u hu => (hb.cell (p := ⟨g, j, none⟩) h.2.2).trans (h.2.1 j u hu), Nat.lt_of_lt_of_le h.2.2 hb.size⟩
theorem RAt.node {w : World} {g cap : Nat} {L : List RN} (h : RAt w g cap L) {m : Nat} {d : RN} (hd : L[m]? = some d) :
    w.cell? ⟨g, m * 7, none⟩ = some (.int .i64 d.level) ∧ w.cell? ⟨g, m * 7 + 1, none⟩ = some (.int .u32 d.bits) ∧ w.cell? ⟨g, m * 7 + 1 + 1, none⟩ = some (.int .i64 d.k0) ∧ w.cell? ⟨g, m * 7 + 1 + 1 + 1, none⟩ = some (.int .i64 d.k1) ∧ w.cell? ⟨g, m * 7 + 1 + 1 + 1 + 1, none⟩ = some (.int .i64 d.k2) ∧ w.cell? ⟨g, m * 7 + 1 + 1 + 1 + 1 + 1, none⟩ = some (.int .i64 d.k3) ∧ w.cell? ⟨g, m * 7 + 1 + 1 + 1 + 1 + 1 + 1, none⟩ = some (.int .u64 d.count) := by
  have hc : ∀ j, j < 7 → ∀ u, (encR d)[j]? = some u → w.cell? ⟨g, m * 7 + j, none⟩ = some u := fun j hj u hu => h.2.1 _ u ((flatR_get L m d hd j hj).trans hu)
  exact ⟨hc 0 (by decide) _ rfl, hc 1 (by decide) _ rfl, hc 2 (by decide) _ rfl, hc 3 (by decide) _ rfl, hc 4 (by decide) _ rfl, hc 5 (by decide) _ rfl, hc 6 (by decide) _ rfl⟩
theorem rat_of_own {w : World} {base g cap : Nat} {L : List RN} (h : w.ownsRow base 54 7 (.slice (some ⟨g, 0, none⟩) L.length cap) L.length (flatR L)) : RAt w g cap L := by
  have h' := h
  rcases h.2 with ⟨hv, _⟩ | ⟨g', cap', cur, hv, _, hg, hcc, _⟩
  · cases hv
  · injection hv with hv1 hv2 hv3
    simp only [Option.some.injEq, Addr.mk.injEq, and_true] at hv1
    subst hv1 hv3
    refine ⟨⟨hcc, _, _, hg⟩, fun j u hu => ?_, (Array.getElem?_eq_some_iff.1 hg).1⟩
    have hj : j < L.length * 7 := by rw [← flatR_len]; exact (List.getElem?_eq_some_iff.1 hu).1
    rw [h'.cellAt j hj]
    exact hu
/-- The same level, bits and kids. -/
def alike (a b : RN) : Bool := decide (a.level = b.level) && (decide (a.bits = b.bits) && (decide (a.k0 = b.k0) && (decide (a.k1 = b.k1) && (decide (a.k2 = b.k2) && decide (a.k3 = b.k3)))))
def findR : List RN → RN → Option Nat
  | [], _ => none
  | a :: L, n => if alike a n then some 0 else (findR L n).map (· + 1)
def AV (g cap : Nat) (L : List RN) (most : Int) : Value := .agg #[.slice (some ⟨g, 0, none⟩) L.length cap, .int .i64 most]
set_option maxRecDepth 20000 in
theorem equal_i4 (a0 a1 a2 a3 b0 b1 b2 b3 : Int) (w : World) : (Op.equalIn 10000 36 (.agg #[.int .i64 a0, .int .i64 a1, .int .i64 a2, .int .i64 a3]) (.agg #[.int .i64 b0, .int .i64 b1, .int .i64 b2, .int .i64 b3])).run Tryd.prog w = .ok (a0 == b0 && (a1 == b1 && (a2 == b2 && a3 == b3))) w := by
  unfold Op.equalIn
  simp only [Sem.run_bind, run_underlying Tryd.underlying36, Result.andThen]
  have hs : (sizeOf 3).run Tryd.prog w = .ok 1 w := by kernel_rfl
  simp only [hs]
  have hp : ∀ (c0 c1 c2 c3 : Int) (W : World), (part 3 #[.int .i64 c0, .int .i64 c1, .int .i64 c2, .int .i64 c3] 0).run Tryd.prog W = .ok (.int .i64 c0) W ∧ (part 3 #[.int .i64 c0, .int .i64 c1, .int .i64 c2, .int .i64 c3] 1).run Tryd.prog W = .ok (.int .i64 c1) W ∧ (part 3 #[.int .i64 c0, .int .i64 c1, .int .i64 c2, .int .i64 c3] 2).run Tryd.prog W = .ok (.int .i64 c2) W ∧ (part 3 #[.int .i64 c0, .int .i64 c1, .int .i64 c2, .int .i64 c3] 3).run Tryd.prog W = .ok (.int .i64 c3) W := by
    intro c0 c1 c2 c3 W
    refine ⟨?_, ?_, ?_, ?_⟩
    all_goals kernel_rfl
  have he : ∀ (a b : Int) (W : World), (Op.equalIn 9999 3 (.int .i64 a) (.int .i64 b)).run Tryd.prog W = .ok (a == b) W := fun a b W => run_equalIn_int W 9998 3 .i64 .i64 a b Tryd.underlying3
  obtain ⟨p0, p1, p2, p3⟩ := hp a0 a1 a2 a3 w
  obtain ⟨q0, q1, q2, q3⟩ := hp b0 b1 b2 b3 w
  clear hp hs
  rw [Std.Legacy.Range.forIn_eq_forIn_range']
  simp only [Std.Legacy.Range.size, List.range', List.forIn_cons, Nat.mul_one]
  cases h0 : (a0 == b0)
  · simp [p0, q0, he, h0, Result.andThen]
  · cases h1 : (a1 == b1)
    · simp [p0, q0, p1, q1, he, h0, h1, Result.andThen]
    · cases h2 : (a2 == b2)
      · simp [p0, q0, p1, q1, p2, q2, he, h0, h1, h2, Result.andThen]
      · cases h3 : (a3 == b3)
        · simp [p0, q0, p1, q1, p2, q2, p3, q3, he, h0, h1, h2, h3, Result.andThen]
        · simp [p0, q0, p1, q1, p2, q2, p3, q3, he, h0, h1, h2, h3, Result.andThen]
theorem rat_new (w1 : World) (d : RN) (g : Nat) (h : g = w1.heap.size) : RAt (w1.alloc (.cells #[.int .i64 d.level, .int .u32 d.bits, .int .i64 d.k0, .int .i64 d.k1, .int .i64 d.k2, .int .i64 d.k3, .int .u64 d.count] 54)) g 1 [d] := by
  subst h
  refine ⟨⟨Nat.le_refl _, _, _, heap_alloc_new w1 _⟩, fun j u hu => ?_, by simp⟩
  rw [(Blk.newAt w1 _ _ _ rfl).cell j]
  simpa [flatR, encR] using hu
theorem refnew_any (most : Int) (w : World) :
    Calls Tryd.prog 6 #[.int .i64 most] w fun e w' => ∃ g cap, e = .returned (AV g cap [⟨2, 0, 0, 0, 0, 0, 0⟩] (max most 64)) ∧ RAt w' g cap [⟨2, 0, 0, 0, 0, 0, 0⟩] ∧ Below w.heap.size w w' := by
  go_enter Tryd.func6, Tryd.ntmps6
  go_wp2
  · have e : max most 64 = 64 := by omega
    exact bodyPost_ret (v := AV (w.heap.size + 1) 1 [⟨2, 0, 0, 0, 0, 0, 0⟩] 64) (by simp [results, Tryd.results6, go_sem, AV]) rfl ⟨_, _, by rw [e], rat_new _ ⟨2, 0, 0, 0, 0, 0, 0⟩ _ (by simp), by go_grown⟩
  · have e : max most 64 = most := by omega
    exact bodyPost_ret (v := AV (w.heap.size + 1) 1 [⟨2, 0, 0, 0, 0, 0, 0⟩] most) (by simp [results, Tryd.results6, go_sem, AV]) rfl ⟨_, _, by rw [e], rat_new _ ⟨2, 0, 0, 0, 0, 0, 0⟩ _ (by simp), by go_grown⟩
theorem findR_take {L : List RN} {n d : RN} {m : Nat} (h : findR (L.take m) n = none) (hd : L[m]? = some d) (ha : alike d n = false) : findR (L.take (m + 1)) n = none := by
  induction L generalizing m with
  | nil => simp at hd
  | cons c L ih =>
    cases m with
    | zero =>
      simp at hd
      subst hd
      simp [findR, ha]
    | succ m =>
      simp only [List.take_succ_cons, findR] at h ⊢
      split at h
      · cases h
      · rename_i hc
        rw [if_neg hc]
        simp only [Option.map_eq_none_iff] at h ⊢
        exact ih h (by simpa using hd)
theorem findR_hit {L : List RN} {n d : RN} {m : Nat} (h : findR (L.take m) n = none) (hd : L[m]? = some d) (ha : alike d n = true) : findR L n = some m := by
  induction L generalizing m with
  | nil => simp at hd
  | cons c L ih =>
    cases m with
    | zero =>
      simp at hd
      subst hd
      simp [findR, ha]
    | succ m =>
      simp only [List.take_succ_cons, findR] at h ⊢
      split at h
      · cases h
      · rename_i hc
        rw [if_neg hc]
        simp only [Option.map_eq_none_iff] at h
        rw [ih h (by simpa using hd)]
        rfl
/-- Three boxes of a call: the arena, the node, the result. -/
def Boxes3 (w wr : World) (g cap : Nat) (L : List RN) (most : Int) (n : RN) : Prop :=
  Blk wr w.heap.size 29 #[.slice (some ⟨g, 0, none⟩) L.length cap, .int .i64 most] ∧ Blk wr (w.heap.size + 1) 54 #[.int .i64 n.level, .int .u32 n.bits, .int .i64 n.k0, .int .i64 n.k1, .int .i64 n.k2, .int .i64 n.k3, .int .u64 n.count] ∧ Blk wr (w.heap.size + 2) 29 #[.slice none 0 0, .int .i64 0] ∧ Below w.heap.size w wr
theorem boxes3_alloc {w wr : World} {g cap : Nat} {L : List RN} {most : Int} {n : RN} (h : Boxes3 w wr g cap L most n) (o : Obj) : Boxes3 w (wr.alloc o) g cap L most n := ⟨h.1.alloc o, h.2.1.alloc o, h.2.2.1.alloc o, h.2.2.2.alloc h.2.2.2.size o⟩
theorem keepN {W w' : World} {Z : Nat} {t t' : TypeId} {v m : Value} {n : RN} (k0 : Blk W Z t #[v, m]) (k1 : Blk W (Z + 1) t' #[.int .i64 n.level, .int .u32 n.bits, .int .i64 n.k0, .int .i64 n.k1, .int .i64 n.k2, .int .i64 n.k3, .int .u64 n.count]) (hb : Below W.heap.size W w') : w'.cell? ⟨Z, 0, none⟩ = some v ∧ w'.cell? ⟨Z + 1, 0, none⟩ = some (.int .i64 n.level) ∧ w'.cell? ⟨Z + 1, 1, none⟩ = some (.int .u32 n.bits) ∧ w'.cell? ⟨Z + 1, 2, none⟩ = some (.int .i64 n.k0) ∧ w'.cell? ⟨Z + 1, 3, none⟩ = some (.int .i64 n.k1) ∧ w'.cell? ⟨Z + 1, 4, none⟩ = some (.int .i64 n.k2) ∧ w'.cell? ⟨Z + 1, 5, none⟩ = some (.int .i64 n.k3) ∧ w'.cell? ⟨Z + 1, 6, none⟩ = some (.int .u64 n.count) :=
  ⟨(k0.under hb).cell 0, (k1.under hb).cell 0, (k1.under hb).cell 1, (k1.under hb).cell 2, (k1.under hb).cell 3, (k1.under hb).cell 4, (k1.under hb).cell 5, (k1.under hb).cell 6⟩
theorem own_empty {W : World} {b base : Nat} {t : TypeId} (h : Blk W b t #[]) (hb : base ≤ b) : W.ownsRow base t 7 (.slice (some ⟨b, 0, none⟩) 0 0) 0 [] := ⟨rfl, .inr ⟨b, 0, #[], rfl, hb, h, Nat.le_refl _, Nat.zero_le _, rfl, rfl⟩⟩
theorem news_row {W : World} {b : Nat} {t : TypeId} {n : RN} (h : Blk W b t #[.int .i64 n.level, .int .u32 n.bits, .int .i64 n.k0, .int .i64 n.k1, .int .i64 n.k2, .int .i64 n.k3, .int .u64 n.count]) : ∀ j u, (flatR [n])[j]? = some u → W.cell? ((⟨b, 0, none⟩ : Addr).add j) = some u := fun j u hu => by
  rw [Addr.add_lit, Nat.zero_add, h.cell j]
  simpa [flatR, encR] using hu
theorem news_old {W w' : World} {g cap : Nat} {L : List RN} (h : RAt W g cap L) (hb : Below W.heap.size W w') : ∀ j u, (flatR L)[j]? = some u → w'.cell? ((⟨g, 0, none⟩ : Addr).add j) = some u := fun j u hu => by
  rw [Addr.add_lit, Nat.zero_add]
  exact (h.below hb).2.1 j u hu
def R9 (w : World) (most : Int) (L : List RN) (n : RN) (wx : World) : Prop :=
  ∃ g' cap', Blk wx w.heap.size 29 #[.slice (some ⟨g', 0, none⟩) (L ++ [n]).length cap', .int .i64 most] ∧ Blk wx (w.heap.size + 2) 29 #[.slice none 0 0, .int .i64 0] ∧ RAt wx g' cap' (L ++ [n]) ∧ Below w.heap.size w wx
theorem RAt.set {w : World} {g cap : Nat} {L : List RN} (h : RAt w g cap L) {p : Addr} (hp : g ≠ p.block) (u : Value) : RAt (w.setCell p u) g cap L :=
  ⟨⟨h.1.1, by obtain ⟨cs, fr, e⟩ := h.1.2; exact ⟨cs, fr, (Below.heap_setCell w p u g hp).trans e⟩⟩, fun j v hv => (World.cell?_of_block (a := ⟨g, j, none⟩) (Below.heap_setCell w p u g hp)).trans (h.2.1 j v hv), by rw [World.setCell]; simpa using h.2.2⟩
theorem fin9 {w wr w2 : World} {most : Int} {L : List RN} {n : RN} {v0 : Value} {p2 : Option Addr} {cap2 : Nat} (k0 : Blk wr w.heap.size 29 #[v0, .int .i64 most]) (k2 : Blk wr (w.heap.size + 2) 29 #[.slice none 0 0, .int .i64 0]) (hb : Below w.heap.size w wr) (hb2 : Below wr.heap.size wr w2)
    (hown : w2.ownsRow wr.heap.size 54 7 (.slice p2 (L.length + 1) cap2) (L.length + 1) (flatR L ++ flatR [n])) : R9 w most L n (w2.setCell ⟨w.heap.size, 0, none⟩ (.slice p2 (L.length + 1) cap2)) := by
  have hlen : (L ++ [n]).length = L.length + 1 := by simp
  have hf : flatR L ++ flatR [n] = flatR (L ++ [n]) := (flatR_app L [n]).symm
  have hk := k0.lt
  have hown' := hown
  rcases hown.2 with ⟨_, h0⟩ | ⟨g', cap', cur, hv, hg', _⟩
  · omega
  · injection hv with hv1 _ hv3
    subst hv1 hv3
    rw [hf, ← hlen] at hown'
    refine ⟨g', cap2, ?_, ?_, (rat_of_own hown').set (by dsimp only; omega) _, (hb.trans (hb2.mono hb.size)).setCell (Nat.le_refl _) _⟩
    · rw [hlen]
      exact (k0.under hb2).set_ 0 _
    · exact (k2.under hb2).far (by dsimp only; omega) _
def AdR (w : World) (g cap : Nat) (L : List RN) (most : Int) (n : RN) (t12 : Value) (wr : World) : Prop :=
  ∃ m : Nat, m ≤ L.length ∧ t12 = .int .i64 m ∧ findR (L.take m) n = none ∧ Boxes3 w wr g cap L most n
def addRR (L : List RN) (most : Int) (n : RN) : List RN × Int × Int := match findR L n with | some i => (L, i, 0) | none => if most ≤ (L.length : Int) then (L, 0, 8) else (L ++ [n], L.length, 0)
set_option maxRecDepth 100000 in
set_option maxHeartbeats 1000000 in
theorem refadd_any (g cap : Nat) (L : List RN) (most : Int) (n : RN) (w : World) (h : RAt w g cap L) (hN : L.length ≤ 100000) :
    Calls Tryd.prog 28 #[AV g cap L most, RV n] w fun e w' => ∃ g' cap', e = .returned (.tuple #[AV g' cap' (addRR L most n).1 most, .int .i64 (addRR L most n).2.1, .int .i64 (addRR L most n).2.2]) ∧ RAt w' g' cap' (addRR L most n).1 ∧ Below w.heap.size w w' := by
  have HR := Lib.hid h
  have heq := equal_i4
  obtain ⟨i0, hi0, hz0, hz1, hz2⟩ := info_parts rn_info
  have b0 := Blk.newAt w 29 #[.slice (some ⟨g, 0, none⟩) L.length cap, .int .i64 most] _ rfl
  have b1 := b0.alloc (.cells #[.int .i64 n.level, .int .u32 n.bits, .int .i64 n.k0, .int .i64 n.k1, .int .i64 n.k2, .int .i64 n.k3, .int .u64 n.count] 54)
  have b2 := b1.alloc (.cells #[.slice none 0 0, .int .i64 0] 29)
  have c1 := Blk.newAt (w.alloc (.cells #[.slice (some ⟨g, 0, none⟩) L.length cap, .int .i64 most] 29)) 54 #[.int .i64 n.level, .int .u32 n.bits, .int .i64 n.k0, .int .i64 n.k1, .int .i64 n.k2, .int .i64 n.k3, .int .u64 n.count] (w.heap.size + 1) (by simp)
  have c2 := c1.alloc (.cells #[.slice none 0 0, .int .i64 0] 29)
  have d2 := Blk.newAt ((w.alloc (.cells #[.slice (some ⟨g, 0, none⟩) L.length cap, .int .i64 most] 29)).alloc (.cells #[.int .i64 n.level, .int .u32 n.bits, .int .i64 n.k0, .int .i64 n.k1, .int .i64 n.k2, .int .i64 n.k3, .int .u64 n.count] 54)) 29 #[.slice none 0 0, .int .i64 0] (w.heap.size + 2) (by simp)
  unfold AV
  go_enter Tryd.func28, Tryd.ntmps28
  go_wp2_with fail
  go_loopw [12] (fun t12 wr => AdR w g cap L most n t12 wr) (fun t12 _ => L.length - (intOf t12).toNat)
  case atStart => exact ⟨0, Nat.zero_le _, rfl, rfl, b2, c2, d2, by go_grown⟩
  case round =>
    clear b0 b1 b2 c1 c2 d2
    obtain ⟨m, hm, rfl, hfi, hbx⟩ := hrel
    have HF := Lib.hid hfi
    clear hfi
    by_cases hlt : m < L.length
    · obtain ⟨d, hd⟩ : ∃ d, L[m]? = some d := ⟨_, List.getElem?_eq_getElem hlt⟩
      have hra := HR.out.below (hbx.2.2.2)
      obtain ⟨x0, x1, x2, x3, x4, x5, x6⟩ := hra.node hd
      have hgl := hra.2.2
      have n0 := hbx.2.1.cell 0
      have n1 := hbx.2.1.cell 1
      have n2 := hbx.2.1.cell 2
      have n3 := hbx.2.1.cell 3
      have n4 := hbx.2.1.cell 4
      have n5 := hbx.2.1.cell 5
      simp only [List.getElem?_toArray, List.getElem?_cons_zero, List.getElem?_cons_succ] at n0 n1 n2 n3 n4 n5
      have hl1 := hbx.2.1.lt
      have i1 : (m : Int) < (L.length : Int) := by omega
      have i2 : (0 : Int) ≤ (m : Int) := by omega
      clear hra
      cases ha : alike d n with
      | false =>
        have HT := Lib.hid (findR_take HF.out hd ha)
        by_cases e0 : d.level = n.level
        · by_cases e1 : d.bits = n.bits
          · have hk : (d.k0 == n.k0 && (d.k1 == n.k1 && (d.k2 == n.k2 && d.k3 == n.k3))) = false := by
              simpa [alike, e0, e1] using ha
            have hq := fun W => heq d.k0 d.k1 d.k2 d.k3 n.k0 n.k1 n.k2 n.k3 W
            rw [hk] at hq
            have t0 : (d.level == n.level) = true := by simpa using e0
            have t1 : ((d.bits : Int) == (n.bits : Int)) = true := by simp [e1]
            clear heq hk ha e0 e1
            (clear hd; go_wp2_with fail; refine ⟨⟨m + 1, by omega, by go_num, HT.out, ?_⟩, by simp [intOf]; omega⟩; exact boxes3_alloc hbx _)
          · have t0 : (d.level == n.level) = true := by simpa using e0
            have t1 : ((d.bits : Int) == (n.bits : Int)) = false := by simp; omega
            clear heq ha e0 e1
            (clear hd; go_wp2_with fail; refine ⟨⟨m + 1, by omega, by go_num, HT.out, ?_⟩, by simp [intOf]; omega⟩; exact boxes3_alloc hbx _)
        · have t0 : (d.level == n.level) = false := by simpa using e0
          clear heq ha e0
          (clear hd; go_wp2_with fail; refine ⟨⟨m + 1, by omega, by go_num, HT.out, ?_⟩, by simp [intOf]; omega⟩; exact boxes3_alloc hbx _)
      | true =>
        have HT := Lib.hid (show addRR L most n = (L, (m : Int), 0) by unfold addRR; rw [findR_hit HF.out hd ha])
        have hal : d.level = n.level ∧ d.bits = n.bits ∧ d.k0 = n.k0 ∧ d.k1 = n.k1 ∧ d.k2 = n.k2 ∧ d.k3 = n.k3 := by simpa [alike] using ha
        have hq := fun W => heq d.k0 d.k1 d.k2 d.k3 n.k0 n.k1 n.k2 n.k3 W
        rw [show (d.k0 == n.k0 && (d.k1 == n.k1 && (d.k2 == n.k2 && d.k3 == n.k3))) = true by simp [hal]] at hq
        have t0 : (d.level == n.level) = true := by simpa using hal.1
        have t1 : ((d.bits : Int) == (n.bits : Int)) = true := by simp [hal.2.1]
        clear heq ha hal
        go_upto_region 5 with fail
        have hbx3 := boxes3_alloc hbx (.cells #[.int .i64 d.level, .int .u32 d.bits, .int .i64 d.k0, .int .i64 d.k1, .int .i64 d.k2, .int .i64 d.k3, .int .u64 d.count] 54)
        change Code.wp _ _ _ _ (wr.alloc (.cells #[.int .i64 d.level, .int .u32 d.bits, .int .i64 d.k0, .int .i64 d.k1, .int .i64 d.k2, .int .i64 d.k3, .int .u64 d.count] 54))
        generalize wr.alloc (.cells #[.int .i64 d.level, .int .u32 d.bits, .int .i64 d.k0, .int .i64 d.k1, .int .i64 d.k2, .int .i64 d.k3, .int .u64 d.count] 54) = w3 at *
        obtain ⟨k0, k1, k2, hb⟩ := hbx3
        have z0 := k0.cell 0
        have z1 := k0.cell 1
        have r0 := k2.cell 0
        have r1 := k2.cell 1
        have fr0 := k2.frozen 0
        have fr1 := k2.frozen 1
        simp only [List.getElem?_toArray, List.getElem?_cons_zero, List.getElem?_cons_succ] at z0 z1 r0 r1
        have lz := k0.lt
        have lr := k2.lt
        clear k0 k1 k2 hbx x0 x1 x2 x3 x4 x5 x6 n0 n1 n2 n3 n4 n5 hq t0 t1 hd
        have HB : ∀ W, Below w.heap.size w W → RAt W g cap L := fun W hW => HR.out.below hW
        go_wp2
        exact bodyPost_ret (v := .tuple #[.agg #[.slice (some ⟨g, 0, none⟩) L.length cap, .int .i64 most], .int .i64 m, .int .i64 0]) (by simp [results, Tryd.results28, go_sem, *]) rfl ⟨g, cap, by rw [HT.out], by rw [HT.out]; exact HB _ (by go_grown), by go_grown⟩
    · obtain rfl : m = L.length := by omega
      have hfn := HF.out
      rw [List.take_length] at hfn
      obtain ⟨k0, k1, k2, hb⟩ := hbx
      have z0 := k0.cell 0
      have z1 := k0.cell 1
      have r0 := k2.cell 0
      have r1 := k2.cell 1
      have fr0 := k2.frozen 0
      have fr1 := k2.frozen 1
      have fz0 := k0.frozen 0
      simp only [List.getElem?_toArray, List.getElem?_cons_zero, List.getElem?_cons_succ] at z0 z1 r0 r1
      have lz := k0.lt
      have lr := k2.lt
      by_cases hfull : most ≤ (L.length : Int)
      · have HT := Lib.hid (show addRR L most n = (L, 0, 8) by unfold addRR; rw [hfn]; simp only [if_pos hfull])
        have HB : ∀ W, Below w.heap.size w W → RAt W g cap L := fun W hW => HR.out.below hW
        clear k0 k1 k2 heq hfn HF
        go_wp2
        exact bodyPost_ret (v := .tuple #[.agg #[.slice (some ⟨g, 0, none⟩) L.length cap, .int .i64 most], .int .i64 0, .int .i64 8]) (by simp [results, Tryd.results28, go_sem, *]) rfl ⟨g, cap, by rw [HT.out], by rw [HT.out]; exact HB _ (by go_grown), by go_grown⟩
      · have HT := Lib.hid (show addRR L most n = (L ++ [n], (L.length : Int), 0) by unfold addRR; rw [hfn]; simp only [if_neg hfull])
        clear heq hfn HF
        have hra := HR.out.below hb
        have l1 := k1.lt
        go_upto_region 9 with fail
        go_cut [] (fun wx => R9 w most L n wx)
        case first =>
          have hkb : Below wr.heap.size wr wr := Below.refl _ _
          have n0 := k1.cell 0
          have n1 := k1.cell 1
          have n2 := k1.cell 2
          have n3 := k1.cell 3
          have n4 := k1.cell 4
          have n5 := k1.cell 5
          have n6 := k1.cell 6
          simp only [List.getElem?_toArray, List.getElem?_cons_zero, List.getElem?_cons_succ] at n0 n1 n2 n3 n4 n5 n6
          go_region_law (first
            | (refine step_append_at rfl (.tmp 46) (.tmp 48) 27 rfl wr.heap.size 54 i0 (RV rn0) 7 56 Tryd.underlying27 hi0 hz0 hz1 hz2 rfl (by decide) (.slice (some ⟨wr.heap.size, 0, none⟩) 0 0) 0 [] rfl (own_empty (by first | exact (Blk.newAt _ _ _ _ (by simp)).drewN 1 | exact ((Blk.newAt _ _ _ _ (by simp)).alloc _).drewN 1 | exact ((Blk.newAt _ _ _ _ (by simp)).alloc _)) (by omega)) ⟨g, 0, none⟩ L.length cap (flatR L) rfl (flatR_len L) (news_old hra (by go_grown)) (one_flatR L) (by unfold maxLen; omega) (by omega) (by simp; try omega) ?_; intro v1 w1 hown1 hgr1 _; simp only [Nat.zero_add, List.nil_append] at hown1; have hb1 : Below wr.heap.size wr w1 := Below.grown (w := _) (by go_grown) hgr1 (by simp; try omega) (fun k hk => by simp [Value.ownBlock] at hk; omega); (try have k51 := Blk.grown ((Blk.newAt (wr.alloc (.cells #[] 54)) 54 #[.int .i64 n.level, .int .u32 n.bits, .int .i64 n.k0, .int .i64 n.k1, .int .i64 n.k2, .int .i64 n.k3, .int .u64 n.count] (wr.heap.size + 1) (by simp)).drewN 1) hgr1 (by simp [Value.ownBlock])); obtain ⟨p1, cap1, rfl⟩ := own_slice hown1; obtain ⟨_, n0, n1, n2, n3, n4, n5, n6⟩ := keepN k0 k1 hb1; have hs1 := hb1.size; have hl1 := (k1.under hb1).lt; clear hgr1)
            | (refine step_append_at rfl (.tmp 46) (.tmp 48) 27 rfl wr.heap.size 54 i0 (RV rn0) 7 56 Tryd.underlying27 hi0 hz0 hz1 hz2 rfl (by decide) (.slice (some ⟨wr.heap.size + 1, 0, none⟩) 0 0) 0 [] rfl (own_empty (by first | exact (Blk.newAt _ _ _ _ (by simp)).drewN 1 | exact ((Blk.newAt _ _ _ _ (by simp)).alloc _).drewN 1 | exact ((Blk.newAt _ _ _ _ (by simp)).alloc _)) (by omega)) ⟨g, 0, none⟩ L.length cap (flatR L) rfl (flatR_len L) (news_old hra (by go_grown)) (one_flatR L) (by unfold maxLen; omega) (by omega) (by simp; try omega) ?_; intro v1 w1 hown1 hgr1 _; simp only [Nat.zero_add, List.nil_append] at hown1; have hb1 : Below wr.heap.size wr w1 := Below.grown (w := _) (by go_grown) hgr1 (by simp; try omega) (fun k hk => by simp [Value.ownBlock] at hk; omega); (try have k51 := Blk.grown (((Blk.newAt wr 54 #[.int .i64 n.level, .int .u32 n.bits, .int .i64 n.k0, .int .i64 n.k1, .int .i64 n.k2, .int .i64 n.k3, .int .u64 n.count] wr.heap.size rfl).alloc (.cells #[] 54)).drewN 1) hgr1 (by simp [Value.ownBlock])); obtain ⟨p1, cap1, rfl⟩ := own_slice hown1; obtain ⟨_, n0, n1, n2, n3, n4, n5, n6⟩ := keepN k0 k1 hb1; have hs1 := hb1.size; have hl1 := (k1.under hb1).lt; clear hgr1)
            | (refine step_append_at rfl (.tmp 49) (.tmp 51) 27 rfl wr.heap.size 54 i0 (RV rn0) 7 56 Tryd.underlying27 hi0 hz0 hz1 hz2 rfl (by decide) (.slice p1 L.length cap1) L.length (flatR L) rfl (hown1.alloc _) ⟨w1.heap.size, 0, none⟩ 1 1 (flatR [n]) rfl (by simp [flatR_len]) (news_row (Blk.newAt w1 _ _ _ rfl)) (one_flatR _) (by unfold maxLen; omega) (by omega) (by first | omega | (simp; omega)) ?_; intro v2 w2 hown2 hgr2 _; have hb2 : Below wr.heap.size wr w2 := Below.grown (w := _) (by first | exact hb1 | exact hb1.alloc hb1.size _) hgr2 (by first | exact hs1 | (simp; omega)) (fun k hk => (hown1.lt k hk).1); obtain ⟨p2, cap2, rfl⟩ := own_slice hown2; obtain ⟨y0, _⟩ := keepN k0 k1 hb2; have fy0 := (k0.under hb2).frozen 0; have hly := (k0.under hb2).lt; clear hgr2)
            | (refine step_append_at rfl (.tmp 49) (.tmp 51) 27 rfl wr.heap.size 54 i0 (RV rn0) 7 56 Tryd.underlying27 hi0 hz0 hz1 hz2 rfl (by decide) (.slice p1 L.length cap1) L.length (flatR L) rfl (hown1) ⟨wr.heap.size + 1, 0, none⟩ 1 1 (flatR [n]) rfl (by simp [flatR_len]) (news_row (k51)) (one_flatR _) (by unfold maxLen; omega) (by omega) (by first | omega | (simp; omega)) ?_; intro v2 w2 hown2 hgr2 _; have hb2 : Below wr.heap.size wr w2 := Below.grown (w := _) (by first | exact hb1 | exact hb1.alloc hb1.size _) hgr2 (by first | exact hs1 | (simp; omega)) (fun k hk => (hown1.lt k hk).1); obtain ⟨p2, cap2, rfl⟩ := own_slice hown2; obtain ⟨y0, _⟩ := keepN k0 k1 hb2; have fy0 := (k0.under hb2).frozen 0; have hly := (k0.under hb2).lt; clear hgr2)
            | (refine step_append_at rfl (.tmp 49) (.tmp 51) 27 rfl wr.heap.size 54 i0 (RV rn0) 7 56 Tryd.underlying27 hi0 hz0 hz1 hz2 rfl (by decide) (.slice p1 L.length cap1) L.length (flatR L) rfl (hown1) ⟨wr.heap.size, 0, none⟩ 1 1 (flatR [n]) rfl (by simp [flatR_len]) (news_row (k51)) (one_flatR _) (by unfold maxLen; omega) (by omega) (by first | omega | (simp; omega)) ?_; intro v2 w2 hown2 hgr2 _; have hb2 : Below wr.heap.size wr w2 := Below.grown (w := _) (by first | exact hb1 | exact hb1.alloc hb1.size _) hgr2 (by first | exact hs1 | (simp; omega)) (fun k hk => (hown1.lt k hk).1); obtain ⟨p2, cap2, rfl⟩ := own_slice hown2; obtain ⟨y0, _⟩ := keepN k0 k1 hb2; have fy0 := (k0.under hb2).frozen 0; have hly := (k0.under hb2).lt; clear hgr2))
          all_goals
            go_wp2_with fail
            go_meet
            exact fin9 k0 k2 hb hb2 hown2
        case rest =>
          obtain ⟨g', cap', k0', k2', hra', hb'⟩ := hcut
          have z0 := k0'.cell 0
          have z1 := k0'.cell 1
          have r0 := k2'.cell 0
          have r1 := k2'.cell 1
          have fr0 := k2'.frozen 0
          have fr1 := k2'.frozen 1
          simp only [List.getElem?_toArray, List.getElem?_cons_zero, List.getElem?_cons_succ] at z0 z1 r0 r1
          have lz := k0'.lt
          have lr := k2'.lt
          have HRA := Lib.hid hra'
          have hgn : g' ≠ w.heap.size + 2 := by
            intro e
            subst e
            have h1 := hra'.2.1 0 (.int .i64 ((L ++ [n])[0]'(by simp)).level) (by
              have := flatR_get (L ++ [n]) 0 ((L ++ [n])[0]'(by simp)) (List.getElem?_eq_getElem (by simp)) 0 (by decide)
              simpa [encR] using this)
            rw [r0] at h1
            cases h1
          clear k0 k1 k2 k0' k2' hra' hra
          have hle : ((L ++ [n]).length : Int) = (L.length : Int) + 1 := by simp
          go_upto_region 10 with fail
          go_region
          all_goals
            go_wp2
            exact bodyPost_ret (v := .tuple #[.agg #[.slice (some ⟨g', 0, none⟩) (L ++ [n]).length cap', .int .i64 most], .int .i64 L.length, .int .i64 0]) (by simp [results, Tryd.results28, go_sem, *]) rfl ⟨g', cap', by rw [HT.out], by rw [HT.out]; exact RAt.set (RAt.set (HRA.out.below (by go_grown)) (by dsimp only; omega) _) (by dsimp only; omega) _, by go_grown⟩
end Go.Proofs.YtmibdbgoknbchaaDoor.Ar
