/- append of a set's cells to a list of cells of one's own. -/
import Derived.Test.YtggpleppoplkcaaDoorSeL
import Derived.Maps.AppendAt
import Derived.Deep.RegionLaw
namespace Go.Proofs.YtggpleppoplkcaaDoor.Se
open Go.RowKit Go.Proofs.YtggpleppoplkcaaDoor.Ax Go.Proofs.YtggpleppoplkcaaDoor.Ba Go.Lib

theorem append_ty {P : Program} {w : World} (t t2 ty e e2 : TypeId) (h1 : P.underlying t = some (.slice e)) (h2 : P.underlying t2 = some (.slice e2)) (i : TypeInfo) (hi : P.info? e = some i) (p : Option Addr) (n c : Nat) (b : Value) :
    (Builtin.append_ #[t, t2] ty #[.slice p n c, b]).run P w = (Builtin.append_ #[t, t] ty #[.slice p n c, b]).run P w := by
  simp [Builtin.append_, run_underlying h1, run_underlying h2, sizeOf, typeInfo, hi]
theorem run_append_set {w : World} (base : Nat) (ty : TypeId) (v : Value) (n : Nat) (M : List C) (hown : w.ownsRow base 60 3 v n (flat M)) (x : Value) (S : List C) (hx : SetAt w x S) (h63 : n + S.length ≤ 3000000) (hbase : base ≤ w.heap.size) :
    ∃ v' w', (Builtin.append_ #[32, 33] ty #[v, x]).run Tryd.prog w = .ok v' w' ∧ w'.ownsRow base 60 3 v' (n + S.length) (flat (M ++ S)) ∧ w.grownBy w' v.ownBlock ∧ (v'.ownBlock = v.ownBlock ∨ v'.ownBlock = some w.heap.size) := by
  obtain ⟨i0, hi0, hz0, hz1, hz2⟩ := info_parts cell_info
  obtain ⟨q0, q1, q2, rfl⟩ : ∃ p n c, v = .slice p n c := by
    rcases hown.2 with ⟨rfl, _⟩ | ⟨g, cap, cur, rfl, _⟩
    · exact ⟨_, _, _, rfl⟩
    · exact ⟨_, _, _, rfl⟩
  rw [append_ty 32 33 ty _ _ Tryd.underlying32 Tryd.underlying33 i0 hi0, flat_app]
  rcases hx with ⟨rfl, rfl⟩ | ⟨g, cap, rfl, hc, hr⟩
  · refine ⟨_, w, run_append_owned_none w base 32 ty 60 i0 3 Tryd.underlying32 hi0 _ n (flat M) hown, by simpa [flat] using hown, ⟨rfl, rfl, rfl, Nat.le_refl _, fun _ _ _ => rfl⟩, .inl rfl⟩
  · obtain ⟨v', w', h1, h2, h3, _, h5⟩ := run_append_own_at (P := Tryd.prog) w base 32 ty 60 i0 _ 3 24 Tryd.underlying32 hi0 hz0 hz1 hz2 rfl (by decide) _ n (flat M) hown ⟨g, 0, none⟩ S.length cap (flat S) (flat_len S) (fun j u hu => by rw [Addr.add_lit]; exact hr.flat j u hu) (one_flat S) (by unfold maxLen; omega) (by omega) hbase
    exact ⟨v', w', h1, h2, h3, h5⟩
/-- As one step of a region that draws its order. -/
theorem step_append_set {ops : Array Oper} {o : Oper} {a : Act} {w : World} {K : Act → World → Prop} {Q : Exit → Act → World → Prop} {E : Prop}
    (hg : o.guard = none) (s x : Operand) (hop : o.op = Op.call { callee := Callee.builtin Builtin.append, args := #[s, x], argTypes := #[32, 33] })
    (base : Nat) (v y : Value) (n : Nat) (M S : List C) (hs : a.eval s = v) (hown : w.ownsRow base 60 3 v n (flat M)) (hx : a.eval x = y) (hS : SetAt w y S) (h63 : n + S.length ≤ 3000000) (hbase : base ≤ w.heap.size)
    (hK : ∀ v' w', w'.ownsRow base 60 3 v' (n + S.length) (flat (M ++ S)) → w.grownBy w' v.ownBlock → (v'.ownBlock = v.ownBlock ∨ v'.ownBlock = some w.heap.size) → K (a.put o.dst v') w') :
    if Region.wanted o (yielded ops a.tmps) = true then Oper.wp Tryd.prog o a w K Q else E := by
  have hw : Region.wanted o (yielded ops a.tmps) = true := by simp [Region.wanted, hg]
  rw [if_pos hw]
  obtain ⟨v', w', hrun, r1, r2, r3⟩ := run_append_set base o.type v n M hown y S hS h63 hbase
  unfold Oper.wp
  simp [execOp, hop, resolve, invoke, builtin, hs, hx, hrun, Result.andThen]
  exact hK v' w' r1 r2 r3
/-- .. and in a list of operations, guarded or not. -/
theorem wpList_append_set {ops : Array Oper} {rest : List Oper} {o : Oper} {a : Act} {w : World} {Q : Exit → Act → World → Prop}
    (hw : Region.wanted o (yielded ops a.tmps) = true) (s x : Operand) (hop : o.op = Op.call { callee := Callee.builtin Builtin.append, args := #[s, x], argTypes := #[32, 33] })
    (base : Nat) (v y : Value) (n : Nat) (M S : List C) (hs : a.eval s = v) (hown : w.ownsRow base 60 3 v n (flat M)) (hx : a.eval x = y) (hS : SetAt w y S) (h63 : n + S.length ≤ 3000000) (hbase : base ≤ w.heap.size)
    (h : ∀ v' w', w'.ownsRow base 60 3 v' (n + S.length) (flat (M ++ S)) → w.grownBy w' v.ownBlock → (v'.ownBlock = v.ownBlock ∨ v'.ownBlock = some w.heap.size) → wpList Tryd.prog ops Q rest (a.put o.dst v') w') :
    wpList Tryd.prog ops Q (o :: rest) a w := by
  refine wpList_step fun K hK => ?_
  rw [if_pos hw]
  obtain ⟨v', w', hrun, r1, r2, r3⟩ := run_append_set base o.type v n M hown y S hS h63 hbase
  unfold Oper.wp
  simp [execOp, hop, resolve, invoke, builtin, hs, hx, hrun, Result.andThen]
  exact hK _ _ (h v' w' r1 r2 r3)
end Go.Proofs.YtggpleppoplkcaaDoor.Se
