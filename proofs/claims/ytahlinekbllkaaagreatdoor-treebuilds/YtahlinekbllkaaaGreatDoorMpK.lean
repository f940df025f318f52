/- Maps to numbers, whatever their keys: what one reads as; lookups, updates, how many there are. -/
import Derived.Test.YtahlinekbllkaaaGreatDoorBs
import Derived.Maps.OwnOps
import Derived.Maps.OwnSet
import Derived.Maps.Views
namespace Go.Proofs.YtahlinekbllkaaaGreatDoor.Mp
open Go.RowKit Go.Proofs.YtahlinekbllkaaaGreatDoor.Ba Go.Lib Go.Maps

/-- A kind of map: its types, and how keys are told. -/
structure MK (κ : Type) where
  mT : TypeId
  kT : TypeId
  eT : TypeId
  q : IntKind
  enc : κ → Value
  kl : κ → Lit
  ok : κ → Prop
  K : Keyed Tryz.prog kT
  hu : Tryz.prog.underlying mT = some (.map kT eT)
  he : Tryz.prog.underlying eT = some (.int q)
  hz : ∀ w : World, (zeroValue eT).run Tryz.prog w = .ok (.int q 0) w
  hkey : ∀ x, ok x → keyOf Tryz.prog kT (enc x) = some (kl x)
  inj : ∀ x y, ok x → ok y → kl x = kl y → x = y
section
variable {κ : Type} (m : MK κ)
/-- What a map reads as. -/
def Reads (D : DataW Unit) (M : κ → Option Nat) : Prop :=
  (∀ x, m.ok x → has D (m.kl x) = (M x).isSome) ∧ (∀ x, m.ok x → D.atKey (m.kl x) (.lit (.int m.q 0)) = .lit (.int m.q (((M x).getD 0 : Nat) : Int))) ∧ ∀ l, has D l = true → ∃ x, m.ok x ∧ l = m.kl x
/-- A block is a map of so many entries (at most c were ever put). -/
def IsB (w : World) (b c s : Nat) (M : κ → Option Nat) : Prop := ∃ D, w.ownsMap Tryz.prog m.kT (plainElem (H := Unit) Tryz.prog m.eT) b c D ∧ Reads m D M ∧ Maps.size D = s
variable {m} {w w' : World} {b c s : Nat} {M : κ → Option Nat}
theorem IsB.lt (h : IsB m w b c s M) : b < w.heap.size := by
  obtain ⟨D, h1, _⟩ := h
  exact World.ownsMap.lt h1
theorem IsB.same (h : IsB m w b c s M) (hs : w'.heap[b]? = w.heap[b]?) : IsB m w' b c s M := by
  obtain ⟨D, ⟨es, clock, h1, r⟩, h2⟩ := h
  exact ⟨D, ⟨es, clock, hs.trans h1, r⟩, h2⟩
theorem IsB.under (h : IsB m w b c s M) (hb : Below w.heap.size w w') : IsB m w' b c s M := h.same (hb.block b h.lt)
theorem IsB.grown {row : Option Nat} (h : IsB m w b c s M) (hg : w.grownBy w' row) (hn : some b ≠ row) : IsB m w' b c s M := h.same (hg.block b h.lt hn)
theorem IsB.mono {c' : Nat} (h : IsB m w b c s M) (hc : c ≤ c') : IsB m w b c' s M := by
  obtain ⟨D, h1, h2⟩ := h
  exact ⟨D, h1.mono hc, h2⟩
theorem IsB.made (w : World) : IsB m (w.alloc (.map #[] 0)) w.heap.size 0 0 (fun _ => none) :=
  ⟨.map [], World.ownsMap_made w Tryz.prog m.kT _, ⟨fun p _ => by simp [has], fun p _ => by simp [DataW.atKey], fun l h => by simp [has] at h⟩, by simp [Maps.size]⟩
theorem IsB.look (h : IsB m w b c s M) {x : κ} (hx : m.ok x) : (Instr.lookup m.mT (.map (some b)) (m.enc x) false).run Tryz.prog w = .ok (.int m.q (((M x).getD 0 : Nat) : Int)) w := by
  obtain ⟨D, h1, ⟨_, h3, _⟩, _⟩ := h
  obtain ⟨c, hrun, hat, _⟩ := World.ownsMap.lookup_int h1 m.K m.hu m.he (m.hz w) (m.hkey x hx)
  rw [h3 x hx] at hat
  simp only [DataW.lit.injEq, Lit.int.injEq, true_and] at hat
  rw [hat]
  exact hrun
theorem zwf (q : IntKind) : (Lit.int q 0).wf = true := by cases q <;> decide
theorem IsB.lookOk (h : IsB m w b c s M) {x : κ} (hx : m.ok x) : (Instr.lookup m.mT (.map (some b)) (m.enc x) true).run Tryz.prog w = .ok (.tuple #[.int m.q (((M x).getD 0 : Nat) : Int), .bool (M x).isSome]) w := by
  obtain ⟨D, h1, ⟨h2, h3, _⟩, _⟩ := h
  obtain ⟨v, ps, hrun, hv⟩ := World.ownsMap.look_ok h1 m.K m.hu (m.hz w) (plainElem_int m.he (zwf _)) (m.hkey x hx)
  rw [h3 x hx] at hv
  obtain ⟨a, rfl, hz, _⟩ := plainElem_int_inv m.he hv
  rw [h2 x hx] at hrun
  simp only [Prod.mk.injEq, DataW.lit.injEq, Lit.int.injEq, true_and] at hz
  rw [hz.1]
  exact hrun
theorem IsB.put (h : IsB m w b c s M) (hn : c < maxLen) {x : κ} (hx : m.ok x) {y : Nat} (hy : (Lit.int m.q (y : Int)).wf = true) [DecidableEq κ] :
    ∃ w', (Instr.mapUpdate m.mT (.map (some b)) (m.enc x) (.int m.q y)).run Tryz.prog w = .ok () w' ∧ IsB m w' b (c + 1) (if (M x).isSome then s else s + 1) (fun q => if q = x then some y else M q) ∧ w.grownBy w' (some b) := by
  obtain ⟨D, h1, ⟨h2, h3, h4⟩, h5⟩ := h
  obtain ⟨w', hup, hown, hg⟩ := World.ownsMap.update h1 m.K m.hu hn (m.hkey x hx) (plainElem_int m.he hy)
  have hm := World.ownsMap.isMap h1
  have hk := m.K.key (m.hkey x hx)
  refine ⟨w', hup, ⟨_, hown, ⟨fun q hq => ?_, fun q hq => ?_, fun l hl => ?_⟩, ?_⟩, hg⟩
  · by_cases e : q = x
    · subst e
      rw [has_put_same hm hk]; simp
    · rw [has_put_other (fun e2 => e (m.inj q x hq hx e2)), h2 q hq]; simp [e]
  · by_cases e : q = x
    · subst e
      rw [atKey_put_same hm hk]; simp
    · rw [atKey_put_other (fun e2 => e (m.inj q x hq hx e2)), h3 q hq]; simp [e]
  · by_cases e : l = m.kl x
    · exact ⟨x, hx, e⟩
    · rw [has_put_other e] at hl
      exact h4 l hl
  · rw [size_put (World.ownsMap.tidy h1 m.K), h2 x hx, h5]
theorem IsB.len (h : IsB m w b c s M) (ty : TypeId) : (Builtin.len_ #[m.mT] ty #[.map (some b)]).run Tryz.prog w = .ok (.int .i64 s) w := by
  obtain ⟨D, h1, _, h5⟩ := h
  rw [← h5]
  exact World.ownsMap.len h1 m.hu ty
theorem IsB.s_le (h : IsB m w b c s M) : s ≤ c := by
  obtain ⟨D, h1, _, h5⟩ := h
  rw [← h5]
  exact World.ownsMap.size_le h1
theorem nil_lookOk (w : World) {x : κ} (hx : m.ok x) : (Instr.lookup m.mT (.map none) (m.enc x) true).run Tryz.prog w = .ok (.tuple #[.int m.q 0, .bool false]) w := Maps.look_nil true m.K m.hu (m.hz w) (m.hkey x hx)
/-- A value is a map: nil, or a block. -/
def MapAt (m : MK κ) (w : World) (v : Value) (c : Nat) (M : κ → Option Nat) : Prop := (v = .map none ∧ M = fun _ => none) ∨ ∃ b s, v = .map (some b) ∧ IsB m w b c s M
def mapBlock : Value → Option Nat
  | .map o => o
  | _ => none
theorem MapAt.lookOk {v : Value} (h : MapAt m w v c M) {x : κ} (hx : m.ok x) : (Instr.lookup m.mT v (m.enc x) true).run Tryz.prog w = .ok (.tuple #[.int m.q (((M x).getD 0 : Nat) : Int), .bool (M x).isSome]) w := by
  rcases h with ⟨rfl, rfl⟩ | ⟨b, s, rfl, h⟩
  · exact nil_lookOk w hx
  · exact h.lookOk hx
theorem MapAt.same {v : Value} (h : MapAt m w v c M) (hs : ∀ b, mapBlock v = some b → w'.heap[b]? = w.heap[b]?) : MapAt m w' v c M := by
  rcases h with h | ⟨b, s, rfl, h⟩
  · exact .inl h
  · exact .inr ⟨b, s, rfl, h.same (hs b rfl)⟩
theorem MapAt.lt {v : Value} (h : MapAt m w v c M) (b : Nat) (hb : mapBlock v = some b) : b < w.heap.size := by
  rcases h with ⟨rfl, _⟩ | ⟨b', s, rfl, h⟩
  · simp [mapBlock] at hb
  · simp [mapBlock] at hb; subst hb; exact h.lt
theorem MapAt.mono {v : Value} {c' : Nat} (h : MapAt m w v c M) (hc : c ≤ c') : MapAt m w v c' M := by
  rcases h with h | ⟨b, s, rfl, h⟩
  · exact .inl h
  · exact .inr ⟨b, s, rfl, h.mono hc⟩
/-- A map's block holds no cells. -/
theorem MapAt.blk {v : Value} (h : MapAt m w v c M) {g : Nat} {t : TypeId} {cs : Array Value} (hg : Blk w g t cs) : mapBlock v ≠ some g := by
  rcases h with ⟨rfl, _⟩ | ⟨b', s, rfl, D, ⟨es, clock, h1, _⟩, _⟩
  · simp [mapBlock]
  · simp only [mapBlock, ne_eq, Option.some.injEq]
    rintro rfl
    unfold Blk at hg
    rw [hg] at h1
    cases h1
theorem MapAt.own {v s : Value} (h : MapAt m w v c M) {base n size : Nat} {e : TypeId} {xs : List Value} (ho : w.ownsRow base e size s n xs) (b : Nat) (hb : mapBlock v = some b) : s.ownBlock ≠ some b := by
  rcases h with ⟨rfl, _⟩ | ⟨b', s', rfl, D, ⟨es, clock, h1, _⟩, _⟩
  · simp [mapBlock] at hb
  · simp [mapBlock] at hb
    subst hb
    rcases ho.2 with ⟨rfl, _⟩ | ⟨g, cap, cur, rfl, _, hh, _⟩
    · simp [Value.ownBlock]
    · simp only [Value.ownBlock, ne_eq, Option.some.injEq]
      rintro rfl
      rw [hh] at h1
      cases h1
end
/-! Keys: numbers, and arrays of four of them. -/
theorem u32_lit {n : Nat} (h : n < 4294967296) : (Lit.int .u32 (n : Int)).wf = true := by
  simp [Lit.wf, IntKind.min, IntKind.max, IntKind.signed, IntKind.bits]
  omega
theorem i64_lit {n : Int} (h : -9223372036854775808 ≤ n ∧ n ≤ 9223372036854775807) : (Lit.int .i64 n).wf = true := by
  simp [Lit.wf, IntKind.min, IntKind.max, IntKind.signed, IntKind.bits]
  omega
end Go.Proofs.YtahlinekbllkaaaGreatDoor.Mp
