/- A map of leaves, keyed by points. -/
import Derived.Test.YtahlinekbllkaaaGreatDoorSiW6
import Derived.Test.YtahlinekbllkaaaGreatDoorBsR
import Derived.Maps.OwnOps
import Derived.Maps.OwnSet
import Derived.Maps.RangeWalk
import Derived.WideKeyEntry
import Derived.DeepKeys4
namespace Go.Proofs.YtahlinekbllkaaaGreatDoor.Si
open Go.RowKit Go.Proofs.YtahlinekbllkaaaGreatDoor.Ba Go.Proofs.YtahlinekbllkaaaGreatDoor.Se Go.Proofs.YtahlinekbllkaaaGreatDoor.Ax Go.Lib Go.Maps

def kp (p : Int × Int) : Lit := .string (keyBytes [.int .i64 p.1, .int .i64 p.2])
def okP (p : Int × Int) : Prop := (Lit.int .i64 p.1).wf = true ∧ (Lit.int .i64 p.2).wf = true
abbrev PtV (p : Int × Int) : Value := .agg #[.int .i64 p.1, .int .i64 p.2]
theorem kp_inj {p q : Int × Int} (hp : okP p) (hq : okP q) (e : kp p = kp q) : p = q := by
  unfold kp at e
  injection e with e
  have := keyBytes_inj (l := [.int .i64 p.1, .int .i64 p.2]) (l' := [.int .i64 q.1, .int .i64 q.2]) ⟨rfl, rfl, trivial⟩
    (by intro x hx; simp at hx; rcases hx with rfl | rfl; exact hp.1; exact hp.2) (by intro x hx; simp at hx; rcases hx with rfl | rfl; exact hq.1; exact hq.2) e
  have h2 : p.1 = q.1 ∧ p.2 = q.2 := by simpa using this
  exact Prod.ext h2.1 h2.2
theorem rowPt : (38 : TypeId) < Tryz.prog.types.size := of_decide_eq_true (by kernel_rfl)
theorem widePt : (match Tryz.prog.underlying 38 with | some (.array _ _) | some (.struct _) => true | _ => false) = true := by kernel_rfl
set_option maxRecDepth 20000 in
theorem lawPt : WideMaps.KeyLaw Tryz.prog 38 := deep_law_laid laidOut (m := 3) (by omega) rowPt (by kernel_rfl) widePt
theorem keyedPt : Keyed Tryz.prog 38 := Keyed.of_law lawPt
theorem zeroL (w : World) : (zeroValue 83).run Tryz.prog w = .ok (.int .u32 0) w := by kernel_rfl
theorem kl_pt (d : Nat) (a b : Int) (wa : (Lit.int .i64 a).wf = true) (wb : (Lit.int .i64 b).wf = true) : Tryz.prog.keyLits (d + 2) 38 [.int .i64 a, .int .i64 b] = some [.int .i64 a, .int .i64 b] := by
  have c0 : Tryz.prog.cellsOf 2 = 1 := by kernel_rfl
  have c2 : Tryz.prog.cellsOf 38 = 2 := by kernel_rfl
  simp [Program.keyLits, Tryz.underlying38, Tryz.underlying2, c0, c2, wa, wb]
theorem key_pt {p : Int × Int} (h : okP p) : keyOf Tryz.prog 38 (PtV p) = some (kp p) := by
  have e0 : Tryz.prog.types.size + 1 = 201 - 1 + 2 := by kernel_rfl
  have e1 : Tryz.prog.keyType 38 = true := by kernel_rfl
  have e2 : (PtV p).formed Tryz.prog 38 = true := by kernel_rfl
  have e3 := kl_pt (201 - 1) p.1 p.2 h.1 h.2
  unfold keyOf
  rw [Tryz.underlying38]
  simp only [e1, e2, Bool.and_self, if_true, e0]
  rw [show (PtV p).cells.toList = [.int .i64 p.1, .int .i64 p.2] from rfl, e3]
  rfl
abbrev OwnP (w : World) (B n : Nat) (D : DataW Unit) : Prop := w.ownsMap Tryz.prog 38 (plainElem Tryz.prog 83) B n D
/-- What a map of leaves reads as: of a point its leaf, 0: none is there. -/
def Reads (D : DataW Unit) (M : Int × Int → Nat) : Prop :=
  (∀ p, okP p → has D (kp p) = decide (M p ≠ 0)) ∧ (∀ p, okP p → D.atKey (kp p) (.lit (.int .u32 0)) = .lit (.int .u32 (M p))) ∧ ∀ l, has D l = true → ∃ p, okP p ∧ l = kp p
def MapIs (w : World) (B n : Nat) (M : Int × Int → Nat) : Prop := ∃ D, OwnP w B n D ∧ Reads D M
theorem ownP_under {w w' : World} {B n : Nat} {D : DataW Unit} (h : OwnP w B n D) (hb : Below w.heap.size w w') : OwnP w' B n D := by
  have hlt := World.ownsMap.lt h
  obtain ⟨es, clock, h1, r⟩ := h
  exact ⟨es, clock, (hb.block B hlt).trans h1, r⟩
theorem MapIs.under {w w' : World} {B n : Nat} {M : Int × Int → Nat} (h : MapIs w B n M) (hb : Below w.heap.size w w') : MapIs w' B n M := by
  obtain ⟨D, h1, h2⟩ := h
  exact ⟨D, ownP_under h1 hb, h2⟩
theorem MapIs.made (w : World) : MapIs (w.alloc (.map #[] 0)) w.heap.size 0 (fun _ => 0) :=
  ⟨_, World.ownsMap_made w Tryz.prog 38 _, fun p _ => by simp [has], fun p _ => rfl, fun l h => by simp [has] at h⟩
theorem u32_lit {n : Nat} (h : n < 4294967296) : (Lit.int .u32 (n : Int)).wf = true := by
  simp [Lit.wf, IntKind.min, IntKind.max, IntKind.signed, IntKind.bits]
  omega
theorem i64_lit {n : Int} (h : -9223372036854775808 ≤ n ∧ n ≤ 9223372036854775807) : (Lit.int .i64 n).wf = true := by
  simp [Lit.wf, IntKind.min, IntKind.max, IntKind.signed, IntKind.bits]
  omega
set_option maxRecDepth 20000 in
theorem MapIs.look {w : World} {B n : Nat} {M : Int × Int → Nat} (h : MapIs w B n M) {p : Int × Int} (hp : okP p) :
    (Instr.lookup 142 (.map (some B)) (PtV p) false).run Tryz.prog w = .ok (.int .u32 (M p)) w := by
  obtain ⟨D, h1, _, h3, _⟩ := h
  obtain ⟨c, hrun, hat, _⟩ := World.ownsMap.lookup_int h1 keyedPt Tryz.underlying142 Tryz.underlying83 (zeroL w) (key_pt hp)
  rw [h3 p hp] at hat
  injection hat with hat
  injection hat with _ hat
  rw [hat]
  exact hrun
set_option maxRecDepth 20000 in
theorem MapIs.put {w : World} {B n : Nat} {M : Int × Int → Nat} (h : MapIs w B n M) (hn : n < maxLen) {p : Int × Int} (hp : okP p) {x : Nat} (hx : x < 4294967296) (h0 : x ≠ 0) :
    ∃ w', (Instr.mapUpdate 142 (.map (some B)) (PtV p) (.int .u32 x)).run Tryz.prog w = .ok () w' ∧ MapIs w' B (n + 1) (fun q => if q = p then x else M q) ∧ w.grownBy w' (some B) := by
  obtain ⟨D, h1, h2, h3, h4⟩ := h
  obtain ⟨w', hup, hown, hg⟩ := World.ownsMap.update (P := Tryz.prog) h1 keyedPt Tryz.underlying142 hn (key_pt hp) (plainElem_int Tryz.underlying83 (u32_lit hx))
  have hm := World.ownsMap.isMap h1
  have hk := keyedPt.key (key_pt hp)
  refine ⟨w', hup, ⟨_, hown, fun q hq => ?_, fun q hq => ?_, fun l hl => ?_⟩, hg⟩
  · by_cases e : q = p
    · subst e
      rw [has_put_same hm hk]; simp [h0]
    · rw [has_put_other (fun e2 => e (kp_inj hq hp e2)), h2 q hq]; simp [e]
  · by_cases e : q = p
    · subst e
      rw [atKey_put_same hm hk]; simp
    · rw [atKey_put_other (fun e2 => e (kp_inj hq hp e2)), h3 q hq]; simp [e]
  · by_cases e : l = kp p
    · exact ⟨p, hp, e⟩
    · rw [has_put_other e] at hl
      exact h4 l hl
end Go.Proofs.YtahlinekbllkaaaGreatDoor.Si
