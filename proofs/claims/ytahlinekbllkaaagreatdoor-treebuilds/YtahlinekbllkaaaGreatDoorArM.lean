/- Arenas in memory. -/
import Derived.Test.YtahlinekbllkaaaGreatDoorMpK
import Derived.Test.YtahlinekbllkaaaGreatDoorBsR
import Derived.DeepKeys4
import Derived.Maps.AppendAt
namespace Go.Proofs.YtahlinekbllkaaaGreatDoor.Ar
open Go.RowKit Go.Proofs.YtahlinekbllkaaaGreatDoor.Ba Go.Proofs.YtahlinekbllkaaaGreatDoor.Mp Go.Lib Go.Maps

abbrev K4 := Nat × Nat × Nat × Nat
/-- A node. -/
structure Nd where
  count : Nat
  k : K4
  bits : Nat
  level : Int
def encN (d : Nd) : List Value := [.int .u64 d.count, .int .u32 d.k.1, .int .u32 d.k.2.1, .int .u32 d.k.2.2.1, .int .u32 d.k.2.2.2, .int .u32 d.bits, .int .i32 d.level]
abbrev NV (d : Nd) : Value := .agg #[.int .u64 d.count, .int .u32 d.k.1, .int .u32 d.k.2.1, .int .u32 d.k.2.2.1, .int .u32 d.k.2.2.2, .int .u32 d.bits, .int .i32 d.level]
abbrev KV (k : K4) : Value := .agg #[.int .u32 k.1, .int .u32 k.2.1, .int .u32 k.2.2.1, .int .u32 k.2.2.2]
abbrev okU (n : Nat) : Prop := n < 4294967296
def ok4 (k : K4) : Prop := okU k.1 ∧ okU k.2.1 ∧ okU k.2.2.1 ∧ okU k.2.2.2
def nd0 : Nd := ⟨0, (0, 0, 0, 0), 0, 0⟩
def leaf0 : Nd := ⟨0, (0, 0, 0, 0), 0, 2⟩
def ndAt (N : List Nd) (i : Nat) : Nd × Bool := if i = 0 then (leaf0, true) else match N[i - 1]? with | some d => (d, true) | none => (nd0, false)
def flatN (l : List Nd) : List Value := l.flatMap encN
theorem flatN_cons (d : Nd) (L : List Nd) : flatN (d :: L) = .int .u64 d.count :: .int .u32 d.k.1 :: .int .u32 d.k.2.1 :: .int .u32 d.k.2.2.1 :: .int .u32 d.k.2.2.2 :: .int .u32 d.bits :: .int .i32 d.level :: flatN L := by simp [flatN, encN]
theorem flatN_len (l : List Nd) : (flatN l).length = l.length * 7 := by
  induction l with
  | nil => rfl
  | cons d l ih => rw [flatN_cons]; simp [ih]; omega
theorem flatN_app (l m : List Nd) : flatN (l ++ m) = flatN l ++ flatN m := by simp [flatN]
theorem flatN_get : ∀ (L : List Nd) (i : Nat) (d : Nd), L[i]? = some d → ∀ j, j < 7 → (flatN L)[i * 7 + j]? = (encN d)[j]?
  | [], i, d, h, _, _ => by simp at h
  | c :: L, 0, d, h, j, hj => by
    simp at h
    subst h
    rw [flatN_cons]
    match j, hj with
    | 0, _ => rfl
    | 1, _ => rfl
    | 2, _ => rfl
    | 3, _ => rfl
    | 4, _ => rfl
    | 5, _ => rfl
    | 6, _ => rfl
  | c :: L, i + 1, d, h, j, hj => by
    have ih := flatN_get L i d (by simpa using h) j hj
    rw [flatN_cons, show (i + 1) * 7 + j = (i * 7 + j) + 1 + 1 + 1 + 1 + 1 + 1 + 1 by omega]
    simpa using ih
theorem one_flatN (L : List Nd) : ∀ u ∈ flatN L, u.oneCell' = true := by
  intro u hu
  simp only [flatN, List.mem_flatMap, encN] at hu
  obtain ⟨c, _, hu⟩ := hu
  simp at hu
  rcases hu with rfl | rfl | rfl | rfl | rfl | rfl | rfl <;> rfl
theorem node_info : (Tryz.prog.info? 95).map (fun i => (i.zero, i.size, i.bytes)) = some (some (NV nd0), 7, 32) := by kernel_rfl
/-! The two maps. -/
theorem kl4 (d : Nat) (k : K4) (h : ok4 k) : Tryz.prog.keyLits (d + 2) 93 [.int .u32 k.1, .int .u32 k.2.1, .int .u32 k.2.2.1, .int .u32 k.2.2.2] = some [.int .u32 k.1, .int .u32 k.2.1, .int .u32 k.2.2.1, .int .u32 k.2.2.2] := by
  have c0 : Tryz.prog.cellsOf 28 = 1 := by kernel_rfl
  have c2 : Tryz.prog.cellsOf 93 = 4 := by kernel_rfl
  have w0 := u32_lit h.1
  have w1 := u32_lit h.2.1
  have w2 := u32_lit h.2.2.1
  have w3 := u32_lit h.2.2.2
  simp [Program.keyLits, Tryz.underlying93, Tryz.underlying28, c0, c2, w0, w1, w2, w3, show List.range 4 = [0, 1, 2, 3] from rfl]
def l4 (k : K4) : Lit := .string (keyBytes [.int .u32 k.1, .int .u32 k.2.1, .int .u32 k.2.2.1, .int .u32 k.2.2.2])
theorem key4 (k : K4) (h : ok4 k) : keyOf Tryz.prog 93 (KV k) = some (l4 k) := by
  have e0 : Tryz.prog.types.size + 1 = 201 - 1 + 2 := by kernel_rfl
  have e1 : Tryz.prog.keyType 93 = true := by kernel_rfl
  have e2 : (KV k).formed Tryz.prog 93 = true := by kernel_rfl
  have e3 := kl4 (201 - 1) k h
  unfold keyOf
  rw [Tryz.underlying93]
  simp only [e1, e2, Bool.and_self, if_true, e0]
  rw [show (KV k).cells.toList = [.int .u32 k.1, .int .u32 k.2.1, .int .u32 k.2.2.1, .int .u32 k.2.2.2] from rfl, e3]
  rfl
theorem l4_inj (p q : K4) (hp : ok4 p) (hq : ok4 q) (e : l4 p = l4 q) : p = q := by
  unfold l4 at e
  injection e with e
  have := keyBytes_inj (l := [.int .u32 p.1, .int .u32 p.2.1, .int .u32 p.2.2.1, .int .u32 p.2.2.2]) (l' := [.int .u32 q.1, .int .u32 q.2.1, .int .u32 q.2.2.1, .int .u32 q.2.2.2]) ⟨rfl, rfl, rfl, rfl, trivial⟩
    (by intro x hx; simp at hx; rcases hx with rfl | rfl | rfl | rfl; exact u32_lit hp.1; exact u32_lit hp.2.1; exact u32_lit hp.2.2.1; exact u32_lit hp.2.2.2) (by intro x hx; simp at hx; rcases hx with rfl | rfl | rfl | rfl; exact u32_lit hq.1; exact u32_lit hq.2.1; exact u32_lit hq.2.2.1; exact u32_lit hq.2.2.2) e
  obtain ⟨a, b, c, d⟩ := p
  obtain ⟨a', b', c', d'⟩ := q
  simp only [List.cons.injEq, Lit.int.injEq, true_and, and_true, Int.ofNat_inj] at this
  obtain ⟨h1, h2, h3, h4⟩ := this
  rw [h1, h2, h3, h4]
theorem row4 : (93 : TypeId) < Tryz.prog.types.size := of_decide_eq_true (by kernel_rfl)
theorem kt4 : Tryz.prog.keyTypeAt 3 93 = true := by kernel_rfl
theorem law4 : WideMaps.KeyLaw Tryz.prog 93 := deep_law_laid laidOut (m := 3) (by omega) row4 kt4 (by rw [Tryz.underlying93])
theorem keyed4 : Keyed Tryz.prog 93 := Keyed.of_law law4
theorem zeroU (w : World) : (zeroValue 28).run Tryz.prog w = .ok (.int .u32 0) w := by kernel_rfl
/-- The numbers of leaves; of the others, by their kids. -/
def mkL : MK Nat where
  mT := 123
  kT := 83
  eT := 28
  q := .u32
  enc := fun n => .int .u32 n
  kl := fun n => .int .u32 n
  ok := okU
  K := int_keyed Tryz.underlying83
  hu := Tryz.underlying123
  he := Tryz.underlying28
  hz := zeroU
  hkey := fun _ h => keyOf_int_mk Tryz.underlying83 (u32_lit h)
  inj := fun x y _ _ e => by simp only [Lit.int.injEq, true_and] at e; omega
def mkJ : MK K4 where
  mT := 124
  kT := 93
  eT := 28
  q := .u32
  enc := KV
  kl := l4
  ok := ok4
  K := keyed4
  hu := Tryz.underlying124
  he := Tryz.underlying28
  hz := zeroU
  hkey := key4
  inj := l4_inj
/-! An arena. -/
structure Sta where
  more : Int
  N : List Nd
  L : Nat → Option Nat
  J : K4 → Option Nat
  nL : Nat
  nJ : Nat
def Nok (N : List Nd) : Prop := ∀ d ∈ N, d.count ≤ 4611686018427387904 ∧ 2 ≤ d.level ∧ d.level ≤ 44
def ArAt (w : World) (g : Nat) (S : Sta) (P : Nat → Prop) : Prop :=
  ∃ s lv jn, Blk w g 126 #[.int .i64 S.more, s, lv, jn] ∧ w.ownsRow 0 95 7 s S.N.length (flatN S.N) ∧ MapAt mkL w lv S.nL S.L ∧ MapAt mkJ w jn S.nJ S.J ∧
    (P g ∧ (∀ b, s.ownBlock = some b → P b) ∧ (∀ b, mapBlock lv = some b → P b) ∧ (∀ b, mapBlock jn = some b → P b) ∧ (∀ b, mapBlock jn = some b → mapBlock lv ≠ some b)) ∧ Nok S.N ∧ (S.nL ≤ S.N.length ∧ S.nJ ≤ S.N.length) ∧ 0 ≤ S.more ∧ S.more ≤ 9223372036854775743
/-- All but some blocks stay. -/
structure Off (P : Nat → Prop) (w w' : World) : Prop where
  os : w'.os = w.os
  tape : w'.tape = w.tape
  output : w'.output = w.output
  size : w.heap.size ≤ w'.heap.size
  block : ∀ k, k < w.heap.size → ¬ P k → w'.heap[k]? = w.heap[k]?
section
variable {w w' w'' : World} {g B : Nat} {S : Sta} {P P' : Nat → Prop}
theorem Off.of_below (h : Below w.heap.size w w') : Off P w w' := ⟨h.os, h.tape, h.output, h.size, fun k hk _ => h.block k hk⟩
theorem Off.refl : Off P w w := ⟨rfl, rfl, rfl, Nat.le_refl _, fun _ _ _ => rfl⟩
theorem Off.trans (h : Off P w w') (h' : Off P w' w'') : Off P w w'' := ⟨h'.os.trans h.os, h'.tape.trans h.tape, h'.output.trans h.output, Nat.le_trans h.size h'.size, fun k hk hp => (h'.block k (Nat.lt_of_lt_of_le hk h.size) hp).trans (h.block k hk hp)⟩
theorem Off.weak (h : Off P w w') (hp : ∀ b, b < w.heap.size → P b → P' b) : Off P' w w' := ⟨h.os, h.tape, h.output, h.size, fun k hk hn => h.block k hk fun h => hn (hp k hk h)⟩
theorem Off.below (h : Off P w w') (hB : B ≤ w.heap.size) (hp : ∀ b, P b → B ≤ b) : Below B w w' := ⟨h.os, h.tape, h.output, h.size, fun k hk => h.block k (Nat.lt_of_lt_of_le hk hB) fun hq => by have := hp k hq; omega⟩
theorem Off.blk {b : Nat} {t : TypeId} {cs : Array Value} (h : Off P w w') (hk : Blk w b t cs) (hp : ¬ P b) : Blk w' b t cs := (h.block b hk.lt hp).trans hk
theorem Off.grown {row : Option Nat} (h : Off P w w') (hg : w'.grownBy w'' row) (hr : ∀ b, row = some b → b < w.heap.size → P b) : Off P w w'' :=
  ⟨hg.os.trans h.os, hg.tape.trans h.tape, hg.output.trans h.output, Nat.le_trans h.size hg.size, fun k hk hn => (hg.block k (Nat.lt_of_lt_of_le hk h.size) (fun e => hn (hr k e.symm hk))).trans (h.block k hk hn)⟩
theorem Off.setCell (h : Off P w w') {p : Addr} (hp : p.block < w.heap.size → P p.block) (u : Value) : Off P w (w'.setCell p u) :=
  ⟨h.os, h.tape, h.output, by rw [World.setCell]; simpa using h.size, fun k hk hn => (Below.heap_setCell w' p u k (fun e => hn (e ▸ hp (e ▸ hk)))).trans (h.block k hk hn)⟩
theorem own_same {base n size : Nat} {e : TypeId} {v : Value} {xs : List Value} (h : w.ownsRow base e size v n xs) (hs : ∀ b, v.ownBlock = some b → w'.heap[b]? = w.heap[b]?) : w'.ownsRow base e size v n xs := by
  refine ⟨h.1, ?_⟩
  rcases h.2 with hn | ⟨g, cap, cur, rfl, hbs, hg, rest⟩
  · exact .inl hn
  · exact .inr ⟨g, cap, cur, rfl, hbs, (hs g rfl).trans hg, rest⟩
theorem own_lt0 {base n size : Nat} {e : TypeId} {v : Value} {xs : List Value} (h : w.ownsRow base e size v n xs) (b : Nat) (hb : v.ownBlock = some b) : b < w.heap.size := (h.lt b hb).2
theorem ArAt.same (h : ArAt w g S P) (hs : ∀ b, P b → b < w.heap.size → w'.heap[b]? = w.heap[b]?) : ArAt w' g S P := by
  obtain ⟨s, lv, jn, h1, h2, h3, h4, ⟨p1, p2, p3, p4, p5⟩, h5⟩ := h
  exact ⟨s, lv, jn, (hs g p1 h1.lt).trans h1, own_same h2 fun b hb => hs b (p2 b hb) (own_lt0 h2 b hb), h3.same fun b hb => hs b (p3 b hb) (h3.lt b hb), h4.same fun b hb => hs b (p4 b hb) (h4.lt b hb), ⟨p1, p2, p3, p4, p5⟩, h5⟩
theorem ArAt.under (h : ArAt w g S P) (hb : Below w.heap.size w w') : ArAt w' g S P := h.same fun b _ hlt => hb.block b hlt
/-- Whatever the arena isn't stays out of it. -/
theorem ArAt.weak (h : ArAt w g S P) (hp : ∀ b, P b → b < w.heap.size → P' b) : ArAt w g S P' := by
  obtain ⟨s, lv, jn, h1, h2, h3, h4, ⟨p1, p2, p3, p4, p5⟩, h5⟩ := h
  exact ⟨s, lv, jn, h1, h2, h3, h4, ⟨hp _ p1 h1.lt, fun b hb => hp b (p2 b hb) (own_lt0 h2 b hb), fun b hb => hp b (p3 b hb) (h3.lt b hb), fun b hb => hp b (p4 b hb) (h4.lt b hb), p5⟩, h5⟩
theorem ArAt.lt (h : ArAt w g S P) : g < w.heap.size := by
  obtain ⟨s, lv, jn, h1, _⟩ := h
  exact h1.lt
theorem ArAt.p (h : ArAt w g S P) : P g := by
  obtain ⟨s, lv, jn, _, _, _, _, ⟨p1, _⟩, _⟩ := h
  exact p1
end
end Go.Proofs.YtahlinekbllkaaaGreatDoor.Ar
