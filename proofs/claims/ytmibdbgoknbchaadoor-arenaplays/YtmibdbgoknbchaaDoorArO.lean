/- A list of acts that came in. -/
import Derived.Test.YtmibdbgoknbchaaDoorArQ4
import Derived.Deep.Slices
import Derived.Deep.Strs
namespace Go.Proofs.YtmibdbgoknbchaaDoor.Ar
open Go.RowKit Go.Proofs.YtmibdbgoknbchaaDoor.Ba Go.Proofs.YtmibdbgoknbchaaDoor.Mp Go.Lib Go.Maps

def AcAt (w : World) (g o : Nat) (c : Ac) : Prop :=
  w.cell? ⟨g, o, none⟩ = some (.int .i64 c.kind) ∧ w.cell? ⟨g, o + 1, none⟩ = some (.int .u32 c.bits) ∧ w.cell? ⟨g, o + 1 + 1, none⟩ = some (.int .i64 (c.k 0)) ∧ w.cell? ⟨g, o + 1 + 1 + 1, none⟩ = some (.int .i64 (c.k 1)) ∧
    w.cell? ⟨g, o + 1 + 1 + 1 + 1, none⟩ = some (.int .i64 (c.k 2)) ∧ w.cell? ⟨g, o + 1 + 1 + 1 + 1 + 1, none⟩ = some (.int .i64 (c.k 3)) ∧ w.cell? ⟨g, o + 1 + 1 + 1 + 1 + 1 + 1, none⟩ = some (.int .i64 c.n)
def okA (c : Ac) : Prop := okU c.bits ∧ -9223372036854775808 ≤ c.n ∧ c.n ≤ 9223372036854775807
/-- A list of acts, from any place of a block on. -/
def ActsAt (w : World) (v : Value) (A : List Ac) : Prop :=
  (∃ p cap, v = .slice p 0 cap ∧ A = []) ∨ ∃ g o cap : Nat, v = .slice (some ⟨g, o, none⟩) A.length cap ∧ (∀ i c, A[i]? = some c → AcAt w g (o + i * 7) c) ∧ g < w.heap.size
theorem AcAt.below {w w' : World} {g o : Nat} {c : Ac} (h : AcAt w g o c) (hb : Below w.heap.size w w') (hg : g < w.heap.size) : AcAt w' g o c := by
  obtain ⟨h0, h1, h2, h3, h4, h5, h6⟩ := h
  exact ⟨(hb.cell (p := ⟨g, _, none⟩) hg).trans h0, (hb.cell (p := ⟨g, _, none⟩) hg).trans h1, (hb.cell (p := ⟨g, _, none⟩) hg).trans h2, (hb.cell (p := ⟨g, _, none⟩) hg).trans h3, (hb.cell (p := ⟨g, _, none⟩) hg).trans h4, (hb.cell (p := ⟨g, _, none⟩) hg).trans h5, (hb.cell (p := ⟨g, _, none⟩) hg).trans h6⟩
theorem ActsAt.below {w w' : World} {v : Value} {A : List Ac} (h : ActsAt w v A) (hb : Below w.heap.size w w') : ActsAt w' v A := by
  rcases h with h | ⟨g, o, cap, hv, hc, hg⟩
  · exact .inl h
  · exact .inr ⟨g, o, cap, hv, fun i c hi => (hc i c hi).below hb hg, Nat.lt_of_lt_of_le hg hb.size⟩
section
open Go.ChangeShapes Go.WideShapes Go.Deep
theorem trod_array4 {H : Type} {enc : TypeId × Value → H} {P : Program} {w : World} {base : Nat} {spare : Nat → Bool} {held : Bool} {t e : TypeId} {fuel : Nat} {c0 c1 c2 c3 : Value} {x : DataW H × List MemPlace} (ht : P.underlying t = some (.array 4 e)) (hce : P.cellsOf e = 1)
    (h : DataW.trod enc P w base spare held fuel t [c0, c1, c2, c3] = some x) :
    ∃ y0 y1 y2 y3 n, DataW.trod enc P w base spare held n e [c0] = some y0 ∧ DataW.trod enc P w base spare held n e [c1] = some y1 ∧ DataW.trod enc P w base spare held n e [c2] = some y2 ∧ DataW.trod enc P w base spare held n e [c3] = some y3 := by
  cases fuel with
  | zero => simp [DataW.trod] at h
  | succ n =>
    unfold DataW.trod at h
    rw [ht] at h
    have r4 : List.range 4 = [0, 1, 2, 3] := rfl
    simp [r4, hce] at h
    obtain ⟨_, h⟩ := h
    cases h0 : DataW.trod enc P w base spare held n e [c0] with
    | none => simp [h0] at h
    | some y0 =>
      cases h1 : DataW.trod enc P w base spare held n e [c1] with
      | none => simp [h0, h1] at h
      | some y1 =>
        cases h2 : DataW.trod enc P w base spare held n e [c2] with
        | none => simp [h0, h1, h2] at h
        | some y2 =>
          cases h3 : DataW.trod enc P w base spare held n e [c3] with
          | none => simp [h0, h1, h2, h3] at h
          | some y3 => exact ⟨y0, y1, y2, y3, n, h0, h1, h2, h3⟩
theorem actCells : Tryd.prog.cellsOf 38 = 7 := by kernel_rfl
def mkAc (a : Int) (b : Nat) (x y z t : Int) (n : Int) : Ac := ⟨a, b, fun q => match q with | 0 => x | 1 => y | 2 => z | _ => t, n⟩
theorem act_of_trod {H : Type} {enc : TypeId × Value → H} {w : World} {base : Nat} {spare : Nat → Bool} {held : Bool} {fuel : Nat} {c0 c1 c2 c3 c4 c5 c6 : Value} {x : DataW H × List MemPlace} (h : DataW.trod enc Tryd.prog w base spare held fuel 38 [c0, c1, c2, c3, c4, c5, c6] = some x) :
    ∃ c : Ac, okA c ∧ c0 = .int .i64 c.kind ∧ c1 = .int .u32 c.bits ∧ c2 = .int .i64 (c.k 0) ∧ c3 = .int .i64 (c.k 1) ∧ c4 = .int .i64 (c.k 2) ∧ c5 = .int .i64 (c.k 3) ∧ c6 = .int .i64 c.n := by
  have cI : Tryd.prog.cellsOf 3 = 1 := by kernel_rfl
  have cU : Tryd.prog.cellsOf 31 = 1 := by kernel_rfl
  have c4' : Tryd.prog.cellsOf 36 = 4 := by kernel_rfl
  obtain ⟨xs, n, _, _, _, hlen, hf⟩ := DataW.trod_struct Tryd.underlying38 h
  match xs, hlen with
  | [y0, y1, y2, y3], _ =>
    have g0 := hf 0 _ rfl
    have g1 := hf 1 _ rfl
    have g2 := hf 2 _ rfl
    have g3 := hf 3 _ rfl
    simp [cI, cU, c4'] at g0 g1 g2 g3
    obtain ⟨z0, z1, z2, z3, m, k0, k1, k2, k3⟩ := trod_array4 Tryd.underlying36 cI g2
    obtain ⟨a, e0, _, _⟩ := DataW.trod_int Tryd.underlying3 g0
    obtain ⟨b, e1, _, wb⟩ := DataW.trod_int Tryd.underlying31 g1
    obtain ⟨p, e2, _, _⟩ := DataW.trod_int Tryd.underlying3 k0
    obtain ⟨q, e3, _, _⟩ := DataW.trod_int Tryd.underlying3 k1
    obtain ⟨r, e4, _, _⟩ := DataW.trod_int Tryd.underlying3 k2
    obtain ⟨s, e5, _, _⟩ := DataW.trod_int Tryd.underlying3 k3
    obtain ⟨n', e6, _, wn⟩ := DataW.trod_int Tryd.underlying3 g3
    simp at e0 e1 e2 e3 e4 e5 e6
    subst e0 e1 e2 e3 e4 e5 e6
    obtain ⟨bn, rfl, hbn⟩ : ∃ bn : Nat, b = bn ∧ okU bn := by
      simp [Lit.wf, IntKind.min, IntKind.max, IntKind.signed, IntKind.bits] at wb
      exact ⟨b.toNat, by omega, by show _ < _; omega⟩
    refine ⟨mkAc a bn p q r s n', ⟨hbn, ?_⟩, rfl, rfl, rfl, rfl, rfl, rfl, rfl⟩
    simp [Lit.wf, IntKind.min, IntKind.max, IntKind.signed, IntKind.bits] at wn
    show -9223372036854775808 ≤ n' ∧ n' ≤ 9223372036854775807
    omega
set_option maxRecDepth 100000 in
theorem open_acts {H : Type} {enc : TypeId × Value → H} {w : World} {base : Nat} {spare : Nat → Bool} {held : Bool} {r : Reach} {b0 : Nat} {v : Value} {d : DataW H} {p : List MemPlace}
    (hv : Value.okWide Tryd.prog w r b0 22 v) (h : DataW.Trod enc Tryd.prog w base spare held 22 v d p) :
    ∃ A : List Ac, ActsAt w v A ∧ A.length ≤ maxLen ∧ ∀ c ∈ A, okA c := by
  obtain ⟨a0, n0, c0, rfl⟩ := okWide_slice Tryd.underlying22 hv
  obtain ⟨fuel, hf⟩ := h
  rcases Go.Deep.open_slice Tryd.underlying22 hf with ⟨hcs, _⟩ | ⟨a, len, cap, m, n, D, Pl, hcs, _, hl, hm, hmm, _, hi⟩
  · simp [Value.cells] at hcs
    obtain ⟨rfl, rfl, rfl⟩ := hcs
    exact ⟨[], .inl ⟨none, 0, rfl, rfl⟩, by simp, by simp⟩
  · simp [Value.cells] at hcs
    obtain ⟨rfl, rfl, rfl⟩ := hcs
    have hle : n0 ≤ m := by rw [hmm]; split <;> omega
    have hget : ∀ i, i < n0 → ∃ c : Ac, okA c ∧ w.cell? (a.add (i * 7)) = some (.int .i64 c.kind) ∧ w.cell? ((a.add (i * 7)).add 1) = some (.int .u32 c.bits) ∧ w.cell? ((a.add (i * 7)).add 2) = some (.int .i64 (c.k 0)) ∧ w.cell? ((a.add (i * 7)).add 3) = some (.int .i64 (c.k 1)) ∧ w.cell? ((a.add (i * 7)).add 4) = some (.int .i64 (c.k 2)) ∧ w.cell? ((a.add (i * 7)).add 5) = some (.int .i64 (c.k 3)) ∧ w.cell? ((a.add (i * 7)).add 6) = some (.int .i64 c.n) := by
      intro i hil
      obtain ⟨cs, hc, ht⟩ := hi i (by omega)
      rw [actCells] at hc
      obtain ⟨_, hcl, hat⟩ := World.cells?_some hc
      match cs, hcl with
      | [x0, x1, x2, x3, x4, x5, x6], _ =>
        obtain ⟨c, hok, rfl, rfl, rfl, rfl, rfl, rfl, rfl⟩ := act_of_trod ht
        have h0 := hat 0 (by decide)
        rw [show (a.add (i * 7)).add 0 = a.add (i * 7) from rfl] at h0
        exact ⟨c, hok, h0, hat 1 (by decide), hat 2 (by decide), hat 3 (by decide), hat 4 (by decide), hat 5 (by decide), hat 6 (by decide)⟩
    have hn : n0 ≤ maxLen := by omega
    rcases Nat.eq_zero_or_pos n0 with h0 | h0
    · subst h0
      exact ⟨[], .inl ⟨_, _, rfl, rfl⟩, by simp, by simp⟩
    · obtain ⟨g, o, sp⟩ := a
      obtain rfl : sp = none := by
        obtain ⟨c, _, hc, _⟩ := hget 0 h0
        cases sp with
        | none => rfl
        | some s =>
          simp only [Nat.zero_mul, Addr.add, if_true, World.cell?] at hc
          split at hc <;> simp at hc
      have hg : g < w.heap.size := by
        obtain ⟨c, _, hc, _⟩ := hget 0 h0
        rcases Nat.lt_or_ge g w.heap.size with h' | h'
        · exact h'
        · simp [World.cell?, Addr.add_lit, Array.getElem?_eq_none h'] at hc
      let f : Nat → Ac := fun i => if h : i < n0 then Classical.choose (hget i h) else mkAc 0 0 0 0 0 0 0
      have hfs : ∀ i, i < n0 → okA (f i) ∧ AcAt w g (o + i * 7) (f i) := by
        intro i hil
        have hs := Classical.choose_spec (hget i hil)
        have e : f i = Classical.choose (hget i hil) := dif_pos hil
        rw [e]
        generalize Classical.choose (hget i hil) = c at hs ⊢
        simp only [Addr.add_lit] at hs
        exact hs
      have hlen : ((List.range n0).map f).length = n0 := by simp
      refine ⟨(List.range n0).map f, .inr ⟨g, o, c0, by rw [hlen], fun i x hx => ?_, hg⟩, by rw [hlen]; exact hn, fun c hc => ?_⟩
      · have hil : i < n0 := by have := (List.getElem?_eq_some_iff.1 hx).1; simpa using this
        have e : f i = x := by rw [List.getElem?_map, List.getElem?_range hil] at hx; simpa using hx
        rw [← e]
        exact (hfs i hil).2
      · simp only [List.mem_map, List.mem_range] at hc
        obtain ⟨i, hil, rfl⟩ := hc
        exact (hfs i hil).1
end
end Go.Proofs.YtmibdbgoknbchaaDoor.Ar
