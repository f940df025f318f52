/- Several texts, joined. -/
import Derived.Test.YtahlinekbllkaaaGreatDoorSeL
import Derived.Test.YtahlinekbllkaaaGreatDoorCards
import Derived.Test.YtahlinekbllkaaaGreatDoorTie
import Derived.Test.YtahlinekbllkaaaGreatDoorBsR
import Derived.Test.YtahlinekbllkaaaGreatDoorSiW4
import Derived.ProofKit
import Derived.OpenShut
import Derived.Lib.LaidTab
import Derived.ChangeMaps
/- The law's Are, of two lists that are the same. -/
namespace Go.Proofs.YtahlinekbllkaaaGreatDoor.Se
open Go.RowKit Go.Proofs.YtahlinekbllkaaaGreatDoor.Ax Go.Proofs.YtahlinekbllkaaaGreatDoor.Ba Go.Lib

/-! Are, of two lists that are the same. -/
theorem neq_raw (x : C) (w : World) : (binOp .neq 24 (.agg #[.int .i64 x.1, .int .i64 x.2.1, .int .i64 x.2.2]) (.agg #[.int .i64 x.1, .int .i64 x.2.1, .int .i64 x.2.2])).run Tryz.prog w = .ok (.bool false) w := by
  rw [neq_rc]; simp
theorem keepRR {W w' : World} {g o g' o' : Nat} {x : C} (hg : g < W.heap.size) (hg' : g' < W.heap.size) (p0 : W.cell? ⟨g, o, none⟩ = some (.int .i64 x.1)) (p1 : W.cell? ⟨g, o + 1, none⟩ = some (.int .i64 x.2.1)) (p2 : W.cell? ⟨g, o + 1 + 1, none⟩ = some (.int .i64 x.2.2)) (q0 : W.cell? ⟨g', o', none⟩ = some (.int .i64 x.1)) (q1 : W.cell? ⟨g', o' + 1, none⟩ = some (.int .i64 x.2.1)) (q2 : W.cell? ⟨g', o' + 1 + 1, none⟩ = some (.int .i64 x.2.2)) (hb : Below W.heap.size W w') :
    w'.cell? ⟨g, o, none⟩ = some (.int .i64 x.1) ∧ w'.cell? ⟨g, o + 1, none⟩ = some (.int .i64 x.2.1) ∧ w'.cell? ⟨g, o + 1 + 1, none⟩ = some (.int .i64 x.2.2) ∧ w'.cell? ⟨g', o', none⟩ = some (.int .i64 x.1) ∧ w'.cell? ⟨g', o' + 1, none⟩ = some (.int .i64 x.2.1) ∧ w'.cell? ⟨g', o' + 1 + 1, none⟩ = some (.int .i64 x.2.2) :=
  ⟨(hb.cell (p := ⟨g, o, none⟩) hg).trans p0, (hb.cell (p := ⟨g, o + 1, none⟩) hg).trans p1, (hb.cell (p := ⟨g, o + 1 + 1, none⟩) hg).trans p2, (hb.cell (p := ⟨g', o', none⟩) hg').trans q0, (hb.cell (p := ⟨g', o' + 1, none⟩) hg').trans q1, (hb.cell (p := ⟨g', o' + 1 + 1, none⟩) hg').trans q2⟩
def ArR (w : World) (L : List C) (i : Value) (wr : World) : Prop := ∃ k : Nat, k ≤ L.length ∧ i = .int .i64 k ∧ Below w.heap.size w wr
set_option maxRecDepth 100000 in
set_option maxHeartbeats 4000000 in
theorem are_any (u v : Value) (L : List C) (w : World) (h : SetAt w u L) (h' : SetAt w v L) (hL : L.length ≤ 1000000) :
    Calls Tryz.prog 12 #[u, v] w fun e w' => e = .returned (.int .i64 0) ∧ Below w.heap.size w w' := by
  have HU := Lib.hid h
  have HV := Lib.hid h'
  have key : ∀ v, SetAt w v L → ∃ p cap, v = .slice p L.length cap := by
    rintro v (⟨rfl, rfl⟩ | ⟨g, cap, rfl, _, _⟩)
    · exact ⟨none, 0, rfl⟩
    · exact ⟨_, _, rfl⟩
  obtain ⟨p, cap, rfl⟩ := key u h
  obtain ⟨p', cap', rfl⟩ := key v h'
  clear h h' key
  go_enter Tryz.func12, Tryz.ntmps12
  go_wp2_with fail
  go_loopw [13] (fun i wr => ArR w L i wr) (fun i _ => L.length - (intOf i).toNat)
  case atStart => exact ⟨0, Nat.zero_le _, rfl, Below.refl _ _⟩
  case round =>
    obtain ⟨k, hk, rfl, hb⟩ := hrel
    have hz := hb.size
    by_cases hlt : k < L.length
    · obtain ⟨x, hx⟩ : ∃ x, L[k]? = some x := ⟨_, List.getElem?_eq_getElem hlt⟩
      rcases HU.out.below hb with ⟨_, hnil⟩ | ⟨g, cp, hv, _, hr⟩
      · subst hnil; simp at hlt
      · rcases HV.out.below hb with ⟨_, hnil⟩ | ⟨g', cp', hv', _, hr'⟩
        · subst hnil; simp at hlt
        · injection hv with hv1 hv2 hv3
          subst hv1 hv3
          injection hv' with hv1 hv4 hv3
          subst hv1 hv3
          clear hv2 hv4
          obtain ⟨c0, c1, c2⟩ := hr.1 k x hx
          obtain ⟨d0, d1, d2⟩ := hr'.1 k x hx
          have hgl := hr.2
          have hgl' := hr'.2
          have hne := neq_raw x
          clear hx hr hr'
          go_upto_region 6 with fail
          go_cut [25] (fun v wx => v = .bool false ∧ Below wr.heap.size wr wx)
          case first =>
            have hkb : Below wr.heap.size wr wr := Below.refl _ _
            go_region_held3 (fun w' => w'.cell? ⟨g, k * 3, none⟩ = some (.int .i64 x.1) ∧ w'.cell? ⟨g, k * 3 + 1, none⟩ = some (.int .i64 x.2.1) ∧ w'.cell? ⟨g, k * 3 + 1 + 1, none⟩ = some (.int .i64 x.2.2) ∧ w'.cell? ⟨g', k * 3, none⟩ = some (.int .i64 x.1) ∧ w'.cell? ⟨g', k * 3 + 1, none⟩ = some (.int .i64 x.2.1) ∧ w'.cell? ⟨g', k * 3 + 1 + 1, none⟩ = some (.int .i64 x.2.2)) (first | (refine keepRR hgl hgl' c0 c1 c2 d0 d1 d2 ?_; go_grown; done))
              (first | (go_at_call 43; refine (told3_any x _).mono ?_; rintro e w6 ⟨rfl, hb'⟩; have hkb : Below wr.heap.size wr w6 := Ba.below_call hb' (by go_grown) (by simp); clear hb'))
            all_goals go_wp2_with fail
            all_goals go_meet
            all_goals exact ⟨rfl, by go_grown⟩
          case rest =>
            obtain ⟨rfl, hbw⟩ := hcut
            clear c0 c1 c2 d0 d1 d2 hne
            go_wp2_with fail
            go_roundw
            case rel => exact ⟨k + 1, by omega, by go_num, hb.trans (hbw.mono hz)⟩
            case measure => simp [intOf]; omega
    · obtain rfl : k = L.length := by omega
      go_wp2_with fail
      go_ret
      exact ⟨rfl, hb⟩
end Go.Proofs.YtahlinekbllkaaaGreatDoor.Se

/- What the row's list gives: the table by which the lowest bit is found. -/
namespace Go.Proofs.YtahlinekbllkaaaGreatDoor.Si
open Go.RowKit Go.WideShapes Go.ChangeShapes Go.Proofs.YtahlinekbllkaaaGreatDoor.Ba

/-- A WORLD FOR THE WITNESS: the settled one, the table's block holding its numbers. -/
noncomputable def laidWorldT (os : Os) : World :=
  { World.holding Tryz.prog os ⟨#[], #[], []⟩ with heap := (World.holding Tryz.prog os ⟨#[], #[], []⟩).heap.modify 0 fun
      | .cells _ t frozen => .cells (deb.map fun z => Value.int .u8 z).toArray t frozen
      | o => o }
theorem gDeb : Tryz.prog.globalNamed "math/bits.deBruijn32tab" = some 0 := by kernel_rfl
theorem gDebType : (Tryz.prog.globals[0]?).map (·.type) = some 148 := by kernel_rfl
theorem cellsDeb : Tryz.prog.cellsOf 148 = 32 := by kernel_rfl
theorem cellsU8 : Tryz.prog.cellsOf 5 = 1 := by kernel_rfl
theorem cellsPt : Tryz.prog.cellsOf 38 = 2 := by kernel_rfl
theorem deb_of_laid {W : World} (h : laidMet Tryz.prog [("math/bits.deBruijn32tab", Rows.laid_math_bits_deBruijn32tab)] W) : DebIs W := by
  have ht : Lib.TabIs Tryz.prog W "math/bits.deBruijn32tab" .u8 deb := Lib.tabIs_of_head gDeb gDebType Tryz.underlying148 Tryz.underlying5 cellsU8 cellsDeb h
  refine ⟨fun i hi => ht.cell gDeb i hi, ?_⟩
  have := ht.cell gDeb 0 (by decide)
  rcases Nat.lt_or_ge 0 W.heap.size with h' | h'
  · exact h'
  · simp [World.cell?, Array.getElem?_eq_none h'] at this
end Go.Proofs.YtahlinekbllkaaaGreatDoor.Si

/- A list of truths that came in. -/
namespace Go.Proofs.YtahlinekbllkaaaGreatDoor.Tr
open Go.RowKit Go.Proofs.YtahlinekbllkaaaGreatDoor.Ba Go.Lib Go.ChangeShapes Go.WideShapes Go.Deep

/-- A list of truths in memory. -/
def BoAt (w : World) (v : Value) (B : List Bool) : Prop :=
  (∃ p cap, v = .slice p 0 cap ∧ B = []) ∨ ∃ g o cap : Nat, v = .slice (some ⟨g, o, none⟩) B.length cap ∧ (∀ j b, B[j]? = some b → w.cell? ⟨g, o + j, none⟩ = some (.bool b)) ∧ g < w.heap.size
theorem BoAt.below {w w' : World} {v : Value} {B : List Bool} (h : BoAt w v B) (hb : Below w.heap.size w w') : BoAt w' v B := by
  rcases h with h | ⟨g, o, cap, hv, hc, hg⟩
  · exact .inl h
  · exact .inr ⟨g, o, cap, hv, fun j b hj => (hb.cell (p := ⟨g, o + j, none⟩) hg).trans (hc j b hj), Nat.lt_of_lt_of_le hg hb.size⟩
theorem boCells : Tryz.prog.cellsOf 4 = 1 := by kernel_rfl
set_option maxRecDepth 100000 in
theorem open_bools {H : Type} {enc : TypeId × Value → H} {w : World} {base : Nat} {spare : Nat → Bool} {held : Bool} {r : Reach} {b0 : Nat} {v : Value} {d : DataW H} {p : List MemPlace}
    (hv : Value.okWide Tryz.prog w r b0 58 v) (h : DataW.Trod enc Tryz.prog w base spare held 58 v d p) :
    ∃ B : List Bool, BoAt w v B ∧ B.length ≤ maxLen := by
  obtain ⟨a0, n0, c0, rfl⟩ := okWide_slice Tryz.underlying58 hv
  obtain ⟨fuel, hf⟩ := h
  rcases Go.Deep.open_slice Tryz.underlying58 hf with ⟨hcs, _⟩ | ⟨a, len, cap, m, n, D, Pl, hcs, _, hl, hm, hmm, _, hi⟩
  · simp [Value.cells] at hcs
    obtain ⟨rfl, rfl, rfl⟩ := hcs
    exact ⟨[], .inl ⟨none, 0, rfl, rfl⟩, by simp⟩
  · simp [Value.cells] at hcs
    obtain ⟨rfl, rfl, rfl⟩ := hcs
    have hle : n0 ≤ m := by rw [hmm]; split <;> omega
    have hget : ∀ i, i < n0 → ∃ b : Bool, w.cell? (a.add i) = some (.bool b) := by
      intro i hil
      obtain ⟨cs, hc, ht⟩ := hi i (by omega)
      rw [boCells] at hc
      obtain ⟨_, hcl, hat⟩ := World.cells?_some hc
      match cs, hcl with
      | [x0], _ =>
        obtain ⟨b, e0, _⟩ := DataW.trod_bool Tryz.underlying4 ht
        simp at e0
        subst e0
        have h0 := hat 0 (by decide)
        rw [Nat.mul_one, show (a.add i).add 0 = a.add i from rfl] at h0
        exact ⟨b, h0⟩
    have hn : n0 ≤ maxLen := by omega
    rcases Nat.eq_zero_or_pos n0 with h0 | h0
    · subst h0
      exact ⟨[], .inl ⟨_, _, rfl, rfl⟩, by simp⟩
    · obtain ⟨g, o, sp⟩ := a
      obtain rfl : sp = none := by
        obtain ⟨c, hc⟩ := hget 0 h0
        cases sp with
        | none => rfl
        | some s =>
          simp only [Addr.add, if_true, World.cell?] at hc
          split at hc <;> simp at hc
      have hg : g < w.heap.size := by
        obtain ⟨c, hc⟩ := hget 0 h0
        rcases Nat.lt_or_ge g w.heap.size with h' | h'
        · exact h'
        · simp [World.cell?, Addr.add_lit, Array.getElem?_eq_none h'] at hc
      let f : Nat → Bool := fun i => if h : i < n0 then Classical.choose (hget i h) else false
      have hfs : ∀ i, i < n0 → w.cell? ⟨g, o + i, none⟩ = some (.bool (f i)) := by
        intro i hil
        have hs := Classical.choose_spec (hget i hil)
        have e : f i = Classical.choose (hget i hil) := dif_pos hil
        rw [e]
        generalize Classical.choose (hget i hil) = c at hs ⊢
        simpa only [Addr.add_lit] using hs
      have hlen : ((List.range n0).map f).length = n0 := by simp
      refine ⟨(List.range n0).map f, .inr ⟨g, o, c0, by rw [hlen], fun i x hx => ?_, hg⟩, by rw [hlen]; exact hn⟩
      have hil : i < n0 := by have := (List.getElem?_eq_some_iff.1 hx).1; simpa using this
      have e : f i = x := by rw [List.getElem?_map, List.getElem?_range hil] at hx; simpa using hx
      rw [← e]
      exact hfs i hil
end Go.Proofs.YtahlinekbllkaaaGreatDoor.Tr
