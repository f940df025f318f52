/- The contract of block's add: one more is counted, in a room of six. -/
import Derived.Test.YtcmfkdhadmfgkaaDoorBkW3
namespace Go.Proofs.YtcmfkdhadmfgkaaDoor.Bk
open Go.RowKit Go.Proofs.YtcmfkdhadmfgkaaDoor.Ba Go.Proofs.YtcmfkdhadmfgkaaDoor.Si Go.Lib

theorem RmAt.set {w : World} {G : Nat} {D : List Nat} (h : RmAt w G D) (i v : Nat) : RmAt (w.setCell ⟨G, i, none⟩ (.int .u64 v)) G (D.set i v) := by
  obtain ⟨hl, cs, hs, k, hc⟩ := h
  refine ⟨by simpa using hl, _, by simpa using hs, k.set_ i _, fun j e he => ?_⟩
  have hj : j < D.length := by
    rcases Nat.lt_or_ge j D.length with h | h
    · exact h
    · rw [List.getElem?_eq_none (by simpa using h)] at he; cases he
  by_cases e' : i = j
  · subst e'
    rw [List.getElem?_set_self hj] at he
    injection he with he
    subst he
    rw [Array.getElem?_setIfInBounds_self_of_lt (by omega)]
  · rw [List.getElem?_set_ne e'] at he
    rw [Array.getElem?_setIfInBounds_ne (by omega)]
    exact hc j e he
theorem RmAt.snoc {w : World} {G : Nat} {D : List Nat} (h : RmAt w G D) (hr : D.length < 6) (v : Nat) : RmAt (w.setCell ⟨G, D.length, none⟩ (.int .u64 v)) G (D ++ [v]) := by
  obtain ⟨hl, cs, hs, k, hc⟩ := h
  refine ⟨by rw [List.length_append]; exact hr, _, by simpa using hs, k.set_ _ _, fun j e he => ?_⟩
  rcases Nat.lt_or_ge j D.length with h | h
  · rw [List.getElem?_append_left h] at he
    rw [Array.getElem?_setIfInBounds_ne (by omega)]
    exact hc j e he
  · rw [List.getElem?_append_right h] at he
    have hj : j = D.length := by
      rcases Nat.lt_or_ge (j - D.length) 1 with h1 | h1
      · omega
      · rw [List.getElem?_eq_none (by simpa using h1)] at he; cases he
    subst hj
    simp only [Nat.sub_self, List.getElem?_cons_zero, Option.some.injEq] at he
    subst he
    rw [Array.getElem?_setIfInBounds_self_of_lt (by omega)]
theorem pn_info : (Tryd.prog.info? 107).map (fun i => (i.zero, i.size, i.bytes)) = some (some (.int .u64 0), 1, 8) := by kernel_rfl
theorem run_append_rm {W : World} (ty : TypeId) (G n X : Nat) (D : List Nat) (hn : D.length = n) (h6 : n < 6) (hR : RmAt W G D) (v : Nat) (hx : W.cell? ⟨X, 0, none⟩ = some (.int .u64 v)) :
    (Builtin.append_ #[153, 153] ty #[.slice (some ⟨G, 0, none⟩) n 6, .slice (some ⟨X, 0, none⟩) 1 1]).run Tryd.prog W = .ok (.slice (some ⟨G, 0, none⟩) (n + 1) 6) (W.setCell ⟨G, n, none⟩ (.int .u64 v)) := by
  obtain ⟨i0, hi0, hz0, hz1, hz2⟩ : ∃ i, Tryd.prog.info? 107 = some i ∧ i.zero = some (.int .u64 0) ∧ i.size = 1 ∧ i.bytes = 8 := by
    have := pn_info
    cases h : Tryd.prog.info? 107 with
    | none => rw [h] at this; cases this
    | some i =>
      rw [h] at this
      simp only [Option.map_some, Option.some.injEq, Prod.mk.injEq] at this
      exact ⟨i, rfl, this.1, this.2.1, this.2.2⟩
  obtain ⟨_, cs, hs, k, _⟩ := hR
  have := run_append_room_cells (P := Tryd.prog) W 153 ty 107 i0 Tryd.underlying153 hi0 G 0 n 6 ⟨X, 0, none⟩ 1 1 [.int .u64 v] (by rw [hz1]; rfl)
    (by intro j u hu
        cases j with
        | zero => simp only [List.getElem?_cons_zero, Option.some.injEq] at hu; subst hu; rw [Addr.add_lit]; exact hx
        | succ j => simp at hu)
    (by intro u hu; rw [List.mem_singleton] at hu; subst hu; rfl) (by omega)
    (by intro j hj; have hj : j < 1 := hj; rw [k.cell, hz1, Array.getElem?_eq_getElem (by omega)]; rfl)
    (by intro j _; exact k.frozen _)
  rw [this, hz1, Nat.zero_add, Nat.mul_one]
  rfl
theorem wpList_append_rm {ops : Array Oper} {rest : List Oper} {o : Oper} {a : Act} {W : World} {Q : Exit → Act → World → Prop}
    (hg : o.guard = none) (s x : Operand) (hop : o.op = Op.call { callee := Callee.builtin Builtin.append, args := #[s, x], argTypes := #[153, 153] })
    (G n X : Nat) (D : List Nat) (hn : D.length = n) (h6 : n < 6) (hR : RmAt W G D) (v : Nat) (hs : a.eval s = .slice (some ⟨G, 0, none⟩) n 6) (hx : a.eval x = .slice (some ⟨X, 0, none⟩) 1 1) (hv : W.cell? ⟨X, 0, none⟩ = some (.int .u64 v))
    (h : wpList Tryd.prog ops Q rest (a.put o.dst (.slice (some ⟨G, 0, none⟩) (n + 1) 6)) (W.setCell ⟨G, n, none⟩ (.int .u64 v))) :
    wpList Tryd.prog ops Q (o :: rest) a W := by
  have hw : Region.wanted o (yielded ops a.tmps) = true := by simp [Region.wanted, hg]
  refine wpList_step fun K hK => ?_
  rw [if_pos hw]
  have hrun := run_append_rm o.type G n X D hn h6 hR v hv
  unfold Oper.wp
  simp [execOp, hop, resolve, invoke, builtin, hs, hx, hrun, Result.andThen]
  exact hK _ _ h
def AdR (w : World) (G : Nat) (D : List Nat) (c : Nat) (cv i : Value) (wr : World) : Prop :=
  ∃ k : Nat, k ≤ D.length ∧ i = .int .i64 k ∧ cv = .int .u64 (carC D c k) ∧ RmAt wr G (addP D c k) ∧ w.grownBy wr (some G)
theorem add_any (D : List Nat) (c G : Nat) (w : World) (hc : c < 2 ^ 64) (hD : ∀ d ∈ D, d < 2 ^ 64) (hR : RmAt w G D) (hroom : carC D c D.length ≠ 0 → D.length ≤ 5) :
    Calls Tryd.prog 88 #[.slice (some ⟨G, 0, none⟩) D.length 6, .int .u64 c] w fun e w' => e = .returned (.slice (some ⟨G, 0, none⟩) (addL D c).length 6) ∧ RmAt w' G (addL D c) ∧ w.grownBy w' (some G) := by
  have hl6 := hR.1
  obtain ⟨n, hn⟩ : ∃ n, D.length = n := ⟨_, rfl⟩
  rw [hn] at hl6 ⊢
  go_enter Tryd.func88, Tryd.ntmps88
  go_wp2_with fail
  go_loopw [1, 9] (fun cv i wr => AdR w G D c cv i wr) (fun _ i _ => 6 - (intOf i).toNat)
  case atStart => exact ⟨0, by omega, rfl, by rw [carC_zero], by rw [addP_zero]; exact hR, ⟨rfl, rfl, rfl, Nat.le_refl _, fun _ _ _ => rfl⟩⟩
  case round =>
    clear hR
    obtain ⟨k, hk, rfl, rfl, hR, hgr⟩ := hrel
    rw [hn] at hk
    by_cases hlt : k < n
    · obtain ⟨d, hd⟩ : ∃ d, D[k]? = some d := ⟨_, List.getElem?_eq_getElem (by omega)⟩
      have hcell := hR.cell (i := k) (d := d) (by rw [addP_get D c k k (Nat.le_refl _)]; exact hd)
      have hset := hR.set k (d ^^^ carC D c k)
      rw [← addP_set D c k d hd] at hset
      have hcs := carC_succ D c k d hd
      have hx := Tb.u64_xor d (carC D c k) (hD d (List.mem_of_getElem? hd)) (carC_lt D c k hc)
      have ha := Tb.u64_and d (carC D c k) (hD d (List.mem_of_getElem? hd)) (carC_lt D c k hc)
      rw [← hcs] at ha
      clear hcs hd
      generalize carC D c k = ck at *
      generalize d ^^^ ck = dx at *
      obtain ⟨ck1, hck⟩ : ∃ x, carC D c (k + 1) = x := ⟨_, rfl⟩
      rw [hck] at ha
      have HCK := Lib.hid hck
      clear hck
      have hgl := hR.lt
      obtain ⟨_, cs, hcs6, kG, _⟩ := hR
      have hfz := kG.frozen k
      have HS := Lib.hid hset
      have hgr' : w.grownBy (wr.setCell ⟨G, k, none⟩ (.int .u64 dx)) (some G) := ⟨hgr.os, hgr.tape, hgr.output, by simpa using hgr.size, fun b hb hne => (Below.heap_setCell wr ⟨G, k, none⟩ _ b (fun e => hne (by rw [e]))).trans (hgr.block b hb hne)⟩
      have HG := Lib.hid hgr'
      clear hset hgr hgr' kG hcs6
      go_wp2_with fail
      exact ⟨⟨k + 1, by omega, by go_num, by rw [HCK.out], HS.out, HG.out⟩, by simp [intOf]; omega⟩
    · obtain rfl : k = n := by omega
      have hl := addP_len D c k
      rw [hn] at hl
      have hL := addL_len D c
      have HL : Hid (addL D c = if carC D c D.length = 0 then addP D c D.length else addP D c D.length ++ [carC D c D.length]) := Lib.hid rfl
      rw [hn] at hL hroom
      rw [hn] at HL
      have hcl := carC_lt D c k hc
      generalize carC D c k = cc at *
      generalize addP D c k = A at *
      by_cases h0 : cc = 0
      · subst h0
        rw [if_pos rfl] at hL
        have he : addL D c = A := by rw [HL.out, if_pos rfl]
        have HE := Lib.hid he
        clear HL he
        go_wp2_with fail
        go_ret
        exact ⟨by rw [HE.out, hl]; rfl, by rw [HE.out]; exact hR, hgr⟩
      · have hz : ((cc : Int) == 0) = false := by rw [beq_eq_false_iff_ne]; omega
        have h5 := hroom h0
        have he : addL D c = A ++ [cc] := by rw [HL.out, if_neg h0]
        have HE := Lib.hid he
        clear HL hL hroom h0 he
        have hgl := hR.lt
        have hR' := hR.under (w' := wr.alloc (.cells #[.int .u64 cc] 107)) (by go_grown)
        have hvl : (wr.alloc (.cells #[.int .u64 cc] 107)).cell? ⟨wr.heap.size, 0, none⟩ = some (.int .u64 cc) := (Blk.newAt wr _ _ _ rfl).cell 0
        have hsn := (hR.snoc (by omega) cc).under (w' := (wr.setCell ⟨G, A.length, none⟩ (.int .u64 cc)).alloc (.cells #[.int .u64 cc] 107)) (by go_grown)
        rw [hl] at hsn
        have hgr' : w.grownBy ((wr.setCell ⟨G, k, none⟩ (.int .u64 cc)).alloc (.cells #[.int .u64 cc] 107)) (some G) := ⟨hgr.os, hgr.tape, hgr.output, by have := hgr.size; simp; omega, fun b hb hne => ((Below.heap_alloc _ _ b (by have := hgr.size; simp; omega)).trans (Below.heap_setCell wr ⟨G, k, none⟩ _ b (fun e => hne (by rw [e])))).trans (hgr.block b hb hne)⟩
        have HG := Lib.hid hgr'
        have HS := Lib.hid hsn
        have hlen : (A ++ [cc]).length = k + 1 := by rw [List.length_append, hl]; rfl
        have HLn := Lib.hid hlen
        clear hgr hgr' hsn hlen
        go_wp2_with (at_builtin; refine wpList_append_rm rfl _ _ rfl G k wr.heap.size A hl (by omega) hR' cc rfl rfl hvl ?_)
        go_wp2_with fail
        go_ret
        exact ⟨by rw [HE.out, HLn.out]; rfl, by rw [HE.out]; exact HS.out, HG.out⟩
end Go.Proofs.YtcmfkdhadmfgkaaDoor.Bk
