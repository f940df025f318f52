/- Boxes of nodes: the map that keeps them; shifted; the kids of a square at the origin. -/
import Derived.Test.YtahlinekbllkaaaGreatDoorTrB1
import Derived.Test.YtahlinekbllkaaaGreatDoorArM
import Derived.Maps.OwnOps
import Derived.Maps.OwnSet
import Derived.Deep.RegionHeld3
namespace Go.Proofs.YtahlinekbllkaaaGreatDoor.Tr
open Go.RowKit Go.Proofs.YtahlinekbllkaaaGreatDoor.Ba Go.Proofs.YtahlinekbllkaaaGreatDoor.Mp Go.Proofs.YtahlinekbllkaaaGreatDoor.Ar Go.Lib Go.Maps
open Go.Proofs.YtahlinekbllkaaaGreatDoor.Se (Q Bx boxL)

def qd (q : Q) : DataW Unit := .agg [.lit (.int .i64 q.1), .lit (.int .i64 q.2.1), .lit (.int .i64 q.2.2.1), .lit (.int .i64 q.2.2.2)]
theorem Bx_inj {q r : Q} (h : Value.agg (Bx q) = .agg (Bx r)) : q = r := by
  obtain ⟨qa, qb, qc, qd⟩ := q
  obtain ⟨ra, rb, rc, rd⟩ := r
  simp [Bx] at h
  simp [h]
theorem qd_inj {q r : Q} (h : qd q = qd r) : q = r := by
  obtain ⟨qa, qb, qc, qe⟩ := q
  obtain ⟨ra, rb, rc, re⟩ := r
  simp [qd] at h
  simp [h]
open Classical in
/-- How a box in a map reads. -/
noncomputable def boxElem (v : Value) : Option (DataW Unit × List MemPlace) := if h : ∃ q : Q, v = .agg (Bx q) then some (qd h.choose, []) else none
theorem boxElem_mk (q : Q) : boxElem (.agg (Bx q)) = some (qd q, []) := by
  have h : ∃ r : Q, Value.agg (Bx q) = .agg (Bx r) := ⟨q, rfl⟩
  unfold boxElem
  rw [dif_pos h, ← Bx_inj h.choose_spec]
theorem boxElem_inv {v : Value} {D : DataW Unit} {ps : List MemPlace} (h : boxElem v = some (D, ps)) : ∃ q, v = .agg (Bx q) ∧ D = qd q := by
  unfold boxElem at h
  split at h
  · rename_i h1
    injection h with h
    injection h with h _
    exact ⟨_, h1.choose_spec, h.symm⟩
  · cases h
theorem zeroBox (w : World) : (zeroValue 40).run Tryz.prog w = .ok (.agg (Bx (0, 0, 0, 0))) w := by kernel_rfl
theorem kU32 : Keyed Tryz.prog 28 := int_keyed Tryz.underlying28
/-- A node's box, whatever its level. -/
def bxN (N : List Nd) (i : Nat) : Q := bx N (levelOf N i - 2).toNat i
theorem bxN_of {N : List Nd} {d i : Nat} (h : lvOk N d i) : bxN N i = bx N d i := by
  unfold bxN
  have h : levelOf N i = (d : Int) + 2 := h
  rw [h, show ((d : Int) + 2 - 2).toNat = d by omega]
theorem range_lenB {n : Nat} {L : List Nat} (hn : L.Nodup) (h : ∀ x ∈ L, x ≤ n) : L.length ≤ n + 1 := by
  have := nodup_le (B := List.range (n + 1)) hn fun x hx => by rw [List.mem_range]; have := h x hx; omega
  rwa [List.length_range] at this
/-- A block is a map of nodes to their boxes. -/
structure KB (w : World) (b : Nat) (N : List Nd) (L : List Nat) : Prop where
  mp : ∃ D, w.ownsMap Tryz.prog 28 boxElem b L.length D ∧ (∀ x, okU x → has D (.int .u32 (x : Int)) = decide (x ∈ L)) ∧ ∀ x, okU x → x ∈ L → ∀ z, D.atKey (.int .u32 (x : Int)) z = qd (bxN N x)
  nodup : L.Nodup
  le : ∀ x ∈ L, x ≤ N.length
section
variable {w w' : World} {b : Nat} {N : List Nd} {L : List Nat} {x : Nat}
theorem KB.lt (h : KB w b N L) : b < w.heap.size := by
  obtain ⟨D, h1, _⟩ := h.mp
  exact World.ownsMap.lt h1
theorem KB.same (h : KB w b N L) (hs : w'.heap[b]? = w.heap[b]?) : KB w' b N L := by
  obtain ⟨⟨D, ⟨es, clock, h1, r⟩, h2⟩, h3, h4⟩ := h
  exact ⟨⟨D, ⟨es, clock, hs.trans h1, r⟩, h2⟩, h3, h4⟩
theorem KB.under (h : KB w b N L) (hb : Below w.heap.size w w') : KB w' b N L := h.same (hb.block b h.lt)
theorem KB.made (w : World) (N : List Nd) : KB (w.alloc (.map #[] 0)) w.heap.size N [] :=
  ⟨⟨.map [], World.ownsMap_made w Tryz.prog 28 _, fun x _ => by simp [has], fun x _ h => by simp at h⟩, List.nodup_nil, fun x h => by simp at h⟩
theorem KB.look (h : KB w b N L) (hx : okU x) : ∃ q : Q, (Instr.lookup 87 (.map (some b)) (.int .u32 (x : Int)) true).run Tryz.prog w = .ok (.tuple #[.agg (Bx q), .bool (decide (x ∈ L))]) w ∧ (x ∈ L → q = bxN N x) := by
  obtain ⟨⟨D, h1, h2, h3⟩, _⟩ := h
  obtain ⟨v, ps, hrun, hv⟩ := World.ownsMap.look_ok h1 kU32 Tryz.underlying87 (zeroBox w) (boxElem_mk _) (keyOf_int_mk Tryz.underlying28 (u32_lit hx))
  obtain ⟨q, rfl, hq⟩ := boxElem_inv hv
  rw [h2 x hx] at hrun
  exact ⟨q, hrun, fun hm => by rw [h3 x hx hm] at hq; exact (qd_inj hq).symm⟩
theorem KB.put (h : KB w b N L) (hN : N.length ≤ 1000000) (hx : okU x) (hn : x ∉ L) (hl : x ≤ N.length) :
    ∃ w', (Instr.mapUpdate 87 (.map (some b)) (.int .u32 (x : Int)) (.agg (Bx (bxN N x)))).run Tryz.prog w = .ok () w' ∧ KB w' b N (x :: L) ∧ w.grownBy w' (some b) := by
  have hL := range_lenB h.nodup h.le
  obtain ⟨⟨D, h1, h2, h3⟩, h4, h5⟩ := h
  obtain ⟨w', hup, hown, hg⟩ := World.ownsMap.update h1 kU32 Tryz.underlying87 (by unfold maxLen; omega) (keyOf_int_mk Tryz.underlying28 (u32_lit hx)) (boxElem_mk (bxN N x))
  have hm := World.ownsMap.isMap h1
  have hk := kU32.key (keyOf_int_mk Tryz.underlying28 (u32_lit hx))
  refine ⟨w', hup, ⟨⟨_, by simpa using hown, fun y hy => ?_, fun y hy hyL z => ?_⟩, List.nodup_cons.2 ⟨hn, h4⟩, fun y hy => ?_⟩, hg⟩
  · by_cases e : y = x
    · subst e
      rw [has_put_same hm hk]; simp
    · rw [has_put_other (fun e2 => e (by simp only [Lit.int.injEq, true_and] at e2; omega)), h2 y hy]; simp [e]
  · by_cases e : y = x
    · subst e
      exact atKey_put_same hm hk _ _
    · rw [atKey_put_other (fun e2 => e (by simp only [Lit.int.injEq, true_and] at e2; omega))]
      exact h3 y hy (by simpa [e] using hyL) z
  · rcases List.mem_cons.1 hy with rfl | hy
    · exact hl
    · exact h5 y hy
end
theorem keepS {W w' : World} {A P : Nat} {q : Q} {x y : Int} (kB : Blk W A 40 (Bx q)) (kP : Blk W P 38 #[.int .i64 x, .int .i64 y]) (hb : Below W.heap.size W w') :
    (w'.cell? ⟨A, 0, none⟩ = some (.int .i64 q.1) ∧ w'.cell? ⟨A, 1, none⟩ = some (.int .i64 q.2.1) ∧ w'.cell? ⟨A, 2, none⟩ = some (.int .i64 q.2.2.1) ∧ w'.cell? ⟨A, 3, none⟩ = some (.int .i64 q.2.2.2)) ∧ w'.cell? ⟨P, 0, none⟩ = some (.int .i64 x) ∧ w'.cell? ⟨P, 1, none⟩ = some (.int .i64 y) :=
  ⟨⟨(kB.under hb).cell 0, (kB.under hb).cell 1, (kB.under hb).cell 2, (kB.under hb).cell 3⟩, (kP.under hb).cell 0, (kP.under hb).cell 1⟩
def sm (a : Int) : Prop := -35184372088832 ≤ a ∧ a ≤ 35184372088832
set_option maxRecDepth 100000 in
set_option maxHeartbeats 4000000 in
theorem shifted_any (q : Q) (x y : Int) (w : World) (h0 : sm q.1) (h1 : sm q.2.1) (h2 : sm q.2.2.1) (h3 : sm q.2.2.2) (hx : sm x) (hy : sm y) :
    Calls Tryz.prog 41 #[.agg (Bx q), .agg #[.int .i64 x, .int .i64 y]] w fun e w' => e = .returned (.agg (Bx (shQ q x y))) ∧ Below w.heap.size w w' := by
  unfold sm at *
  have hpl : ∀ (a b : Int) (W : World), ((a, b) = (q.1, q.2.1) ∨ (a, b) = (q.2.2.1, q.2.2.2)) → Calls Tryz.prog 71 #[.agg #[.int .i64 a, .int .i64 b], .agg #[.int .i64 x, .int .i64 y]] W fun e w' => e = .returned (.agg #[.int .i64 (a + x), .int .i64 (b + y)]) ∧ Gw W w' := fun a b W h => by
    rcases h with h | h
    · injection h with e1 e2
      subst e1 e2
      exact plus_any _ _ x y W (by omega) (by omega) (by omega) (by omega)
    · injection h with e1 e2
      subst e1 e2
      exact plus_any _ _ x y W (by omega) (by omega) (by omega) (by omega)
  have kB := ((Blk.newAt w 40 (Bx q) _ rfl).alloc (.cells #[.int .i64 x, .int .i64 y] 38)).alloc (.cells #[.int .i64 0, .int .i64 0, .int .i64 0, .int .i64 0] 40)
  have kP := (Blk.newAt (w.alloc (.cells (Bx q) 40)) 38 #[.int .i64 x, .int .i64 y] (w.heap.size + 1) (by simp)).alloc (.cells #[.int .i64 0, .int .i64 0, .int .i64 0, .int .i64 0] 40)
  have kR := Blk.newAt ((w.alloc (.cells (Bx q) 40)).alloc (.cells #[.int .i64 x, .int .i64 y] 38)) 40 #[.int .i64 0, .int .i64 0, .int .i64 0, .int .i64 0] (w.heap.size + 1 + 1) (by simp)
  have hbw : Below w.heap.size w (((w.alloc (.cells (Bx q) 40)).alloc (.cells #[.int .i64 x, .int .i64 y] 38)).alloc (.cells #[.int .i64 0, .int .i64 0, .int .i64 0, .int .i64 0] 40)) := by go_grown
  obtain ⟨qa, qb, qc, qd⟩ := q
  go_enter Tryz.func41, Tryz.ntmps41
  go_wp2_with fail
  generalize ((w.alloc (.cells (Bx (qa, qb, qc, qd)) 40)).alloc (.cells #[.int .i64 x, .int .i64 y] 38)).alloc (.cells #[.int .i64 0, .int .i64 0, .int .i64 0, .int .i64 0] 40) = w3 at *
  obtain ⟨⟨s0, s1, s2, s3⟩, p0, p1⟩ := keepS kB kP (Below.refl _ _)
  have hkb : Below w3.heap.size w3 w3 := Below.refl _ _
  have hl0 := kB.lt
  have hl1 := kR.lt
  have hl2 := kP.lt
  have HB := Lib.hid hbw
  have HKB := Lib.hid kB
  have HKP := Lib.hid kP
  have HKR := Lib.hid kR
  clear hbw kB kP kR h0 h1 h2 h3 hx hy
  go_region_held3 (fun w' => (w'.cell? ⟨w.heap.size, 0, none⟩ = some (.int .i64 qa) ∧ w'.cell? ⟨w.heap.size, 1, none⟩ = some (.int .i64 qb) ∧ w'.cell? ⟨w.heap.size, 2, none⟩ = some (.int .i64 qc) ∧ w'.cell? ⟨w.heap.size, 3, none⟩ = some (.int .i64 qd)) ∧ w'.cell? ⟨w.heap.size + 1, 0, none⟩ = some (.int .i64 x) ∧ w'.cell? ⟨w.heap.size + 1, 1, none⟩ = some (.int .i64 y)) (first | (refine keepS HKB.out HKP.out ?_; go_grown; done) | exact keepS (((((HKB.out.under hkb).far (by simp <;> omega) _).far (by simp <;> omega) _).far (by simp <;> omega) _).far (by simp <;> omega) _) (((((HKP.out.under hkb).far (by simp <;> omega) _).far (by simp <;> omega) _).far (by simp <;> omega) _).far (by simp <;> omega) _) (Below.refl _ _)) (first
    | (go_at_call 71; refine (hpl _ _ _ (by first | exact .inl rfl | exact .inr rfl)).mono ?_; rintro e w5 ⟨rfl, hg5⟩; have hkb : Below w3.heap.size w3 w5 := Ba.below_call hg5.below (by first | exact hkb | go_grown) (by first | exact hkb.size | go_size); have kR5 := HKR.out.under hkb; obtain ⟨z0, z1, z2, z3⟩ : w5.cell? ⟨w.heap.size + 1 + 1, 0, none⟩ = some (.int .i64 0) ∧ w5.cell? ⟨w.heap.size + 1 + 1, 1, none⟩ = some (.int .i64 0) ∧ w5.cell? ⟨w.heap.size + 1 + 1, 2, none⟩ = some (.int .i64 0) ∧ w5.cell? ⟨w.heap.size + 1 + 1, 3, none⟩ = some (.int .i64 0) := ⟨kR5.cell 0, kR5.cell 1, kR5.cell 2, kR5.cell 3⟩; have f0 := kR5.frozen 0; have f1 := kR5.frozen 1; have f2 := kR5.frozen 2; have f3 := kR5.frozen 3; have hl5 := kR5.lt; clear kR5; obtain ⟨⟨s0', s1', s2', s3'⟩, p0', p1'⟩ := keepS HKB.out HKP.out hkb))
  all_goals (go_wp2_with fail)
  all_goals exact bodyPost_ret (v := .agg (Bx (qa + x, qb + y, qc + x, qd + y))) (by simp [results, Tryz.results41, go_sem, *]) rfl ⟨rfl, by have := HB.out.trans (hkb.mono HB.out.size); go_grown⟩
set_option maxRecDepth 100000 in
set_option maxHeartbeats 4000000 in
theorem kid_zero (d q : Nat) (w : World) (hd : d ≤ 41) (hq : q < 4) :
    Calls Tryz.prog 49 #[Sq 0 0 ((d : Int) + 3), .int .i64 q] w fun e w' => e = .returned (Sq (px d 0 q) (py d 0 q) ((d : Int) + 2)) ∧ Gw w w' := by
  have hh := fun W => half_any ((d : Int) + 3) W
  have e1 : hf ((d : Int) + 3) = sd d := by rw [show (d : Int) + 3 = ((d + 1 : Nat) : Int) + 2 by omega, hf_sd _ (by omega)]; rfl
  rw [e1] at hh
  have hsp := sd_pos d
  have hsl := sd_le (d + 1) (by omega)
  rw [sd_succ] at hsl
  obtain ⟨x, hx, hx1⟩ : ∃ x : Int, Hid (x = 0) ∧ (-5 ≤ x ∧ x ≤ 5) := ⟨0, Lib.hid rfl, by omega⟩
  obtain ⟨y, hy, hy1⟩ : ∃ y : Int, Hid (y = 0) ∧ (-5 ≤ y ∧ y ≤ 5) := ⟨0, Lib.hid rfl, by omega⟩
  have h : Calls Tryz.prog 49 #[Sq x y ((d : Int) + 3), .int .i64 q] w fun e w' => e = .returned (Sq (px d x q) (py d y q) ((d : Int) + 2)) ∧ Gw w w' := by
    have hpl := fun a b W ha hb => plus_any x y a b W (by omega) (by omega) ha hb
    rcases pxy (d := d) (x := x) (y := y) hq with ⟨rfl, e2, e3⟩ | ⟨rfl, e2, e3⟩ | ⟨rfl, e2, e3⟩ | ⟨rfl, e2, e3⟩ <;> rw [e2, e3] <;> clear e2 e3
    · (go_enter Tryz.func49, Tryz.ntmps49; go_wp2_with (first | (go_at_call 33; refine (hh _).mono ?_; rintro e w' ⟨rfl, rfl⟩)); (have kS := ((Blk.newAt w 81 #[.int .i64 x, .int .i64 y, .int .i64 ((d : Int) + 3)] _ rfl).alloc (.cells #[.int .i64 0, .int .i64 0, .int .i64 0] 81)).alloc (.cells #[.int .i64 (0), .int .i64 (0)] 38)); (have kR := (Blk.newAt (w.alloc (.cells #[.int .i64 x, .int .i64 y, .int .i64 ((d : Int) + 3)] 81)) 81 #[.int .i64 0, .int .i64 0, .int .i64 0] (w.heap.size + 1) (by simp)).alloc (.cells #[.int .i64 (0), .int .i64 (0)] 38)); (have kP := Blk.newAt ((w.alloc (.cells #[.int .i64 x, .int .i64 y, .int .i64 ((d : Int) + 3)] 81)).alloc (.cells #[.int .i64 0, .int .i64 0, .int .i64 0] 81)) 38 #[.int .i64 (0), .int .i64 (0)] (w.heap.size + 1 + 1) (by simp)); (have hg : Gw w (((w.alloc (.cells #[.int .i64 x, .int .i64 y, .int .i64 ((d : Int) + 3)] 81)).alloc (.cells #[.int .i64 0, .int .i64 0, .int .i64 0] 81)).alloc (.cells #[.int .i64 (0), .int .i64 (0)] 38)) := ⟨by go_grown, by simp⟩); (generalize ((w.alloc (.cells #[.int .i64 x, .int .i64 y, .int .i64 ((d : Int) + 3)] 81)).alloc (.cells #[.int .i64 0, .int .i64 0, .int .i64 0] 81)).alloc (.cells #[.int .i64 (0), .int .i64 (0)] 38) = w3 at *); (obtain ⟨⟨s0, s1, s2⟩, p0, p1⟩ := keepK kS kP (Below.refl _ _)); (have ew : IntKind.i64.wrap ((d : Int) + 3 - 1) = (d : Int) + 2 := (by rw [show (d : Int) + 3 - 1 = (d : Int) + 2 by omega]; exact IntWalk.i64_in _ (by omega))); have hkb : Gw w3 w3 := Gw.refl _; have hl0 := kS.lt; have hl1 := kR.lt; have hl2 := kP.lt; clear hh; (go_region_held3 (fun w' => (w'.cell? ⟨w.heap.size, 0, none⟩ = some (.int .i64 x) ∧ w'.cell? ⟨w.heap.size, 1, none⟩ = some (.int .i64 y) ∧ w'.cell? ⟨w.heap.size, 2, none⟩ = some (.int .i64 ((d : Int) + 3))) ∧ w'.cell? ⟨w.heap.size + 1 + 1, 0, none⟩ = some (.int .i64 (0)) ∧ w'.cell? ⟨w.heap.size + 1 + 1, 1, none⟩ = some (.int .i64 (0)) ) (first | (refine keepK kS kP ?_; (have := hkb.below); go_grown; done) | (go_keep)) (first | (go_at_call 71; refine (hpl (0) (0) _ (by omega) (by omega)).mono ?_; rintro e w5 ⟨rfl, hg5⟩; have hkb : Gw w3 w5 := ⟨Ba.below_call hg5.below (by go_grown) (by go_size), by have := hg5.drawn; simp at this ⊢; omega⟩; have kR5 := kR.under hkb.below; obtain ⟨z0, z1, z2⟩ : w5.cell? ⟨w.heap.size + 1, 0, none⟩ = some (.int .i64 0) ∧ w5.cell? ⟨w.heap.size + 1, 1, none⟩ = some (.int .i64 0) ∧ w5.cell? ⟨w.heap.size + 1, 2, none⟩ = some (.int .i64 0) := ⟨kR5.cell 0, kR5.cell 1, kR5.cell 2⟩; have f0 := kR5.frozen 0; have f1 := kR5.frozen 1; have f2 := kR5.frozen 2; have hl5 := kR5.lt; obtain ⟨⟨s0', s1', s2'⟩, p0', p1'⟩ := keepK kS kP hkb.below))); all_goals (go_wp2_with fail); all_goals (exact bodyPost_ret (v := Sq (x) (y) ((d : Int) + 2)) (by simp [results, Tryz.results49, go_sem, *]) rfl ⟨rfl, ⟨by have := (hg.trans hkb).below; go_grown, by have := (hg.trans hkb).drawn; simp; omega⟩⟩))
    · (go_enter Tryz.func49, Tryz.ntmps49; go_wp2_with (first | (go_at_call 33; refine (hh _).mono ?_; rintro e w' ⟨rfl, rfl⟩)); (have kS := ((Blk.newAt w 81 #[.int .i64 x, .int .i64 y, .int .i64 ((d : Int) + 3)] _ rfl).alloc (.cells #[.int .i64 0, .int .i64 0, .int .i64 0] 81)).alloc (.cells #[.int .i64 (sd d), .int .i64 (0)] 38)); (have kR := (Blk.newAt (w.alloc (.cells #[.int .i64 x, .int .i64 y, .int .i64 ((d : Int) + 3)] 81)) 81 #[.int .i64 0, .int .i64 0, .int .i64 0] (w.heap.size + 1) (by simp)).alloc (.cells #[.int .i64 (sd d), .int .i64 (0)] 38)); (have kP := Blk.newAt ((w.alloc (.cells #[.int .i64 x, .int .i64 y, .int .i64 ((d : Int) + 3)] 81)).alloc (.cells #[.int .i64 0, .int .i64 0, .int .i64 0] 81)) 38 #[.int .i64 (sd d), .int .i64 (0)] (w.heap.size + 1 + 1) (by simp)); (have hg : Gw w (((w.alloc (.cells #[.int .i64 x, .int .i64 y, .int .i64 ((d : Int) + 3)] 81)).alloc (.cells #[.int .i64 0, .int .i64 0, .int .i64 0] 81)).alloc (.cells #[.int .i64 (sd d), .int .i64 (0)] 38)) := ⟨by go_grown, by simp⟩); (generalize ((w.alloc (.cells #[.int .i64 x, .int .i64 y, .int .i64 ((d : Int) + 3)] 81)).alloc (.cells #[.int .i64 0, .int .i64 0, .int .i64 0] 81)).alloc (.cells #[.int .i64 (sd d), .int .i64 (0)] 38) = w3 at *); (obtain ⟨⟨s0, s1, s2⟩, p0, p1⟩ := keepK kS kP (Below.refl _ _)); (have ew : IntKind.i64.wrap ((d : Int) + 3 - 1) = (d : Int) + 2 := (by rw [show (d : Int) + 3 - 1 = (d : Int) + 2 by omega]; exact IntWalk.i64_in _ (by omega))); have hkb : Gw w3 w3 := Gw.refl _; have hl0 := kS.lt; have hl1 := kR.lt; have hl2 := kP.lt; clear hh; (go_region_held3 (fun w' => (w'.cell? ⟨w.heap.size, 0, none⟩ = some (.int .i64 x) ∧ w'.cell? ⟨w.heap.size, 1, none⟩ = some (.int .i64 y) ∧ w'.cell? ⟨w.heap.size, 2, none⟩ = some (.int .i64 ((d : Int) + 3))) ∧ w'.cell? ⟨w.heap.size + 1 + 1, 0, none⟩ = some (.int .i64 (sd d)) ∧ w'.cell? ⟨w.heap.size + 1 + 1, 1, none⟩ = some (.int .i64 (0)) ) (first | (refine keepK kS kP ?_; (have := hkb.below); go_grown; done) | (go_keep)) (first | (go_at_call 71; refine (hpl (sd d) (0) _ (by omega) (by omega)).mono ?_; rintro e w5 ⟨rfl, hg5⟩; have hkb : Gw w3 w5 := ⟨Ba.below_call hg5.below (by go_grown) (by go_size), by have := hg5.drawn; simp at this ⊢; omega⟩; have kR5 := kR.under hkb.below; obtain ⟨z0, z1, z2⟩ : w5.cell? ⟨w.heap.size + 1, 0, none⟩ = some (.int .i64 0) ∧ w5.cell? ⟨w.heap.size + 1, 1, none⟩ = some (.int .i64 0) ∧ w5.cell? ⟨w.heap.size + 1, 2, none⟩ = some (.int .i64 0) := ⟨kR5.cell 0, kR5.cell 1, kR5.cell 2⟩; have f0 := kR5.frozen 0; have f1 := kR5.frozen 1; have f2 := kR5.frozen 2; have hl5 := kR5.lt; obtain ⟨⟨s0', s1', s2'⟩, p0', p1'⟩ := keepK kS kP hkb.below))); all_goals (go_wp2_with fail); all_goals (exact bodyPost_ret (v := Sq (x + sd d) (y) ((d : Int) + 2)) (by simp [results, Tryz.results49, go_sem, *]) rfl ⟨rfl, ⟨by have := (hg.trans hkb).below; go_grown, by have := (hg.trans hkb).drawn; simp; omega⟩⟩))
    · (go_enter Tryz.func49, Tryz.ntmps49; go_wp2_with (first | (go_at_call 33; refine (hh _).mono ?_; rintro e w' ⟨rfl, rfl⟩)); (have kS := ((Blk.newAt w 81 #[.int .i64 x, .int .i64 y, .int .i64 ((d : Int) + 3)] _ rfl).alloc (.cells #[.int .i64 0, .int .i64 0, .int .i64 0] 81)).alloc (.cells #[.int .i64 (0), .int .i64 (sd d)] 38)); (have kR := (Blk.newAt (w.alloc (.cells #[.int .i64 x, .int .i64 y, .int .i64 ((d : Int) + 3)] 81)) 81 #[.int .i64 0, .int .i64 0, .int .i64 0] (w.heap.size + 1) (by simp)).alloc (.cells #[.int .i64 (0), .int .i64 (sd d)] 38)); (have kP := Blk.newAt ((w.alloc (.cells #[.int .i64 x, .int .i64 y, .int .i64 ((d : Int) + 3)] 81)).alloc (.cells #[.int .i64 0, .int .i64 0, .int .i64 0] 81)) 38 #[.int .i64 (0), .int .i64 (sd d)] (w.heap.size + 1 + 1) (by simp)); (have hg : Gw w (((w.alloc (.cells #[.int .i64 x, .int .i64 y, .int .i64 ((d : Int) + 3)] 81)).alloc (.cells #[.int .i64 0, .int .i64 0, .int .i64 0] 81)).alloc (.cells #[.int .i64 (0), .int .i64 (sd d)] 38)) := ⟨by go_grown, by simp⟩); (generalize ((w.alloc (.cells #[.int .i64 x, .int .i64 y, .int .i64 ((d : Int) + 3)] 81)).alloc (.cells #[.int .i64 0, .int .i64 0, .int .i64 0] 81)).alloc (.cells #[.int .i64 (0), .int .i64 (sd d)] 38) = w3 at *); (obtain ⟨⟨s0, s1, s2⟩, p0, p1⟩ := keepK kS kP (Below.refl _ _)); (have ew : IntKind.i64.wrap ((d : Int) + 3 - 1) = (d : Int) + 2 := (by rw [show (d : Int) + 3 - 1 = (d : Int) + 2 by omega]; exact IntWalk.i64_in _ (by omega))); have hkb : Gw w3 w3 := Gw.refl _; have hl0 := kS.lt; have hl1 := kR.lt; have hl2 := kP.lt; clear hh; (go_region_held3 (fun w' => (w'.cell? ⟨w.heap.size, 0, none⟩ = some (.int .i64 x) ∧ w'.cell? ⟨w.heap.size, 1, none⟩ = some (.int .i64 y) ∧ w'.cell? ⟨w.heap.size, 2, none⟩ = some (.int .i64 ((d : Int) + 3))) ∧ w'.cell? ⟨w.heap.size + 1 + 1, 0, none⟩ = some (.int .i64 (0)) ∧ w'.cell? ⟨w.heap.size + 1 + 1, 1, none⟩ = some (.int .i64 (sd d)) ) (first | (refine keepK kS kP ?_; (have := hkb.below); go_grown; done) | (go_keep)) (first | (go_at_call 71; refine (hpl (0) (sd d) _ (by omega) (by omega)).mono ?_; rintro e w5 ⟨rfl, hg5⟩; have hkb : Gw w3 w5 := ⟨Ba.below_call hg5.below (by go_grown) (by go_size), by have := hg5.drawn; simp at this ⊢; omega⟩; have kR5 := kR.under hkb.below; obtain ⟨z0, z1, z2⟩ : w5.cell? ⟨w.heap.size + 1, 0, none⟩ = some (.int .i64 0) ∧ w5.cell? ⟨w.heap.size + 1, 1, none⟩ = some (.int .i64 0) ∧ w5.cell? ⟨w.heap.size + 1, 2, none⟩ = some (.int .i64 0) := ⟨kR5.cell 0, kR5.cell 1, kR5.cell 2⟩; have f0 := kR5.frozen 0; have f1 := kR5.frozen 1; have f2 := kR5.frozen 2; have hl5 := kR5.lt; obtain ⟨⟨s0', s1', s2'⟩, p0', p1'⟩ := keepK kS kP hkb.below))); all_goals (go_wp2_with fail); all_goals (exact bodyPost_ret (v := Sq (x) (y + sd d) ((d : Int) + 2)) (by simp [results, Tryz.results49, go_sem, *]) rfl ⟨rfl, ⟨by have := (hg.trans hkb).below; go_grown, by have := (hg.trans hkb).drawn; simp; omega⟩⟩))
    · (go_enter Tryz.func49, Tryz.ntmps49; go_wp2_with (first | (go_at_call 33; refine (hh _).mono ?_; rintro e w' ⟨rfl, rfl⟩)); (have kS := ((Blk.newAt w 81 #[.int .i64 x, .int .i64 y, .int .i64 ((d : Int) + 3)] _ rfl).alloc (.cells #[.int .i64 0, .int .i64 0, .int .i64 0] 81)).alloc (.cells #[.int .i64 (sd d), .int .i64 (sd d)] 38)); (have kR := (Blk.newAt (w.alloc (.cells #[.int .i64 x, .int .i64 y, .int .i64 ((d : Int) + 3)] 81)) 81 #[.int .i64 0, .int .i64 0, .int .i64 0] (w.heap.size + 1) (by simp)).alloc (.cells #[.int .i64 (sd d), .int .i64 (sd d)] 38)); (have kP := Blk.newAt ((w.alloc (.cells #[.int .i64 x, .int .i64 y, .int .i64 ((d : Int) + 3)] 81)).alloc (.cells #[.int .i64 0, .int .i64 0, .int .i64 0] 81)) 38 #[.int .i64 (sd d), .int .i64 (sd d)] (w.heap.size + 1 + 1) (by simp)); (have hg : Gw w (((w.alloc (.cells #[.int .i64 x, .int .i64 y, .int .i64 ((d : Int) + 3)] 81)).alloc (.cells #[.int .i64 0, .int .i64 0, .int .i64 0] 81)).alloc (.cells #[.int .i64 (sd d), .int .i64 (sd d)] 38)) := ⟨by go_grown, by simp⟩); (generalize ((w.alloc (.cells #[.int .i64 x, .int .i64 y, .int .i64 ((d : Int) + 3)] 81)).alloc (.cells #[.int .i64 0, .int .i64 0, .int .i64 0] 81)).alloc (.cells #[.int .i64 (sd d), .int .i64 (sd d)] 38) = w3 at *); (obtain ⟨⟨s0, s1, s2⟩, p0, p1⟩ := keepK kS kP (Below.refl _ _)); (have ew : IntKind.i64.wrap ((d : Int) + 3 - 1) = (d : Int) + 2 := (by rw [show (d : Int) + 3 - 1 = (d : Int) + 2 by omega]; exact IntWalk.i64_in _ (by omega))); have hkb : Gw w3 w3 := Gw.refl _; have hl0 := kS.lt; have hl1 := kR.lt; have hl2 := kP.lt; clear hh; (go_region_held3 (fun w' => (w'.cell? ⟨w.heap.size, 0, none⟩ = some (.int .i64 x) ∧ w'.cell? ⟨w.heap.size, 1, none⟩ = some (.int .i64 y) ∧ w'.cell? ⟨w.heap.size, 2, none⟩ = some (.int .i64 ((d : Int) + 3))) ∧ w'.cell? ⟨w.heap.size + 1 + 1, 0, none⟩ = some (.int .i64 (sd d)) ∧ w'.cell? ⟨w.heap.size + 1 + 1, 1, none⟩ = some (.int .i64 (sd d)) ) (first | (refine keepK kS kP ?_; (have := hkb.below); go_grown; done) | (go_keep)) (first | (go_at_call 71; refine (hpl (sd d) (sd d) _ (by omega) (by omega)).mono ?_; rintro e w5 ⟨rfl, hg5⟩; have hkb : Gw w3 w5 := ⟨Ba.below_call hg5.below (by go_grown) (by go_size), by have := hg5.drawn; simp at this ⊢; omega⟩; have kR5 := kR.under hkb.below; obtain ⟨z0, z1, z2⟩ : w5.cell? ⟨w.heap.size + 1, 0, none⟩ = some (.int .i64 0) ∧ w5.cell? ⟨w.heap.size + 1, 1, none⟩ = some (.int .i64 0) ∧ w5.cell? ⟨w.heap.size + 1, 2, none⟩ = some (.int .i64 0) := ⟨kR5.cell 0, kR5.cell 1, kR5.cell 2⟩; have f0 := kR5.frozen 0; have f1 := kR5.frozen 1; have f2 := kR5.frozen 2; have hl5 := kR5.lt; obtain ⟨⟨s0', s1', s2'⟩, p0', p1'⟩ := keepK kS kP hkb.below))); all_goals (go_wp2_with fail); all_goals (exact bodyPost_ret (v := Sq (x + sd d) (y + sd d) ((d : Int) + 2)) (by simp [results, Tryz.results49, go_sem, *]) rfl ⟨rfl, ⟨by have := (hg.trans hkb).below; go_grown, by have := (hg.trans hkb).drawn; simp; omega⟩⟩))
  rw [hx.out, hy.out] at h
  exact h
end Go.Proofs.YtahlinekbllkaaaGreatDoor.Tr
