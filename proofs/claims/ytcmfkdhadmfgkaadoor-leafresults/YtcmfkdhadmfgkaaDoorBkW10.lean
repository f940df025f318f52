/- Several texts, joined. -/
import Derived.Test.YtcmfkdhadmfgkaaDoorBs
import Derived.Maps.AppendAt
import Derived.Deep.RegionLaw
import Derived.Test.YtcmfkdhadmfgkaaDoorBkW6
import Derived.Test.YtcmfkdhadmfgkaaDoorFlG
import Derived.Test.YtcmfkdhadmfgkaaDoorCeW5
import Derived.Test.YtcmfkdhadmfgkaaDoorTbC5
import Derived.Test.YtcmfkdhadmfgkaaDoorBkW8
/- append to a row of one's own, as one step of a region that draws its order. -/
namespace Go.Proofs.YtcmfkdhadmfgkaaDoor.Ba
open Go.RowKit

theorem step_append_at {P : Program} {ops : Array Oper} {o : Oper} {a : Act} {w : World} {K : Act → World → Prop} {Q : Exit → Act → World → Prop} {E : Prop}
    (hg : o.guard = none) (s x : Operand) (t : TypeId) (hop : o.op = Op.call { callee := Callee.builtin Builtin.append, args := #[s, x], argTypes := #[t, t] })
    (base : Nat) (e : TypeId) (i : TypeInfo) (z : Value) (size bytes : Nat) (ht : P.underlying t = some (.slice e)) (hi : P.info? e = some i) (hz : i.zero = some z)
    (hsize : i.size = size) (hby : i.bytes = bytes) (hzs : z.cells.size = size) (hsz : 0 < size)
    (v : Value) (n : Nat) (xs : List Value) (hs : a.eval s = v) (hown : w.ownsRow base e size v n xs)
    (ad : Addr) (m c : Nat) (news : List Value) (hx : a.eval x = .slice (some ad) m c) (hl : news.length = m * size) (hnews : ∀ j u, news[j]? = some u → w.cell? (ad.add j) = some u) (h1 : ∀ u ∈ news, u.oneCell' = true)
    (h63 : n + m ≤ maxLen) (hbytes : (n + m) * bytes ≤ 140737488355328) (hbase : base ≤ w.heap.size)
    (hK : ∀ v' w', w'.ownsRow base e size v' (n + m) (xs ++ news) → w.grownBy w' v.ownBlock → (v'.ownBlock = v.ownBlock ∨ v'.ownBlock = some w.heap.size) → K (a.put o.dst v') w') :
    if Region.wanted o (yielded ops a.tmps) = true then Oper.wp P o a w K Q else E := by
  have hw : Region.wanted o (yielded ops a.tmps) = true := by simp [Region.wanted, hg]
  rw [if_pos hw]
  obtain ⟨v', w', hrun, r1, r2, _, r3⟩ := run_append_own_at (P := P) w base t o.type e i z size bytes ht hi hz hsize hby hzs hsz v n xs hown ad m c news hl hnews h1 h63 hbytes hbase
  unfold Oper.wp
  simp [execOp, hop, resolve, invoke, builtin, hs, hx, hrun, Result.andThen]
  exact hK v' w' r1 r2 r3
end Go.Proofs.YtcmfkdhadmfgkaaDoor.Ba

/- Contracts of package block: beside, New, Table. -/
namespace Go.Proofs.YtcmfkdhadmfgkaaDoor.Bk
open Go.RowKit Go.Proofs.YtcmfkdhadmfgkaaDoor.Ba Go.Proofs.YtcmfkdhadmfgkaaDoor.Si Go.Lib
open Go.Proofs.YtcmfkdhadmfgkaaDoor.Fl (C)
open Go.Proofs.YtcmfkdhadmfgkaaDoor.Ax (SixIs six_any sixCells goodB)
open Go.Proofs.YtcmfkdhadmfgkaaDoor.Tb (Tab)

theorem bes_good : ∀ l ∈ [(2 : Int), 3], ∀ h ∈ [(0 : Int), 1], Ce.allG (Ce.besAll l 0 0 h) = true := by decide +kernel
def sixX (k : Nat) : Int := (six0.getD k (0, 0, 0)).1
def sixY (k : Nat) : Int := (six0.getD k (0, 0, 0)).2.1
theorem idx_six (k : Nat) (h : k < 6) (W : World) : (Instr.index 137 (.agg sixCells) (.int .i64 (k : Int))).run Tryd.prog W = .ok (.agg #[.int .i64 (sixX k), .int .i64 (sixY k)]) W := by
  have h6 : k = 0 ∨ k = 1 ∨ k = 2 ∨ k = 3 ∨ k = 4 ∨ k = 5 := by omega
  clear h
  rcases h6 with rfl | rfl | rfl | rfl | rfl | rfl
  all_goals
    refine Eq.trans (b := Result.ok (.agg #[.int .i64 _, .int .i64 _]) W) ?_ rfl
    kernel_rfl
theorem six_take (k : Nat) (h : k < 6) : six0.take (k + 1) = six0.take k ++ [(sixX k, sixY k, 0)] := by
  have h6 : k = 0 ∨ k = 1 ∨ k = 2 ∨ k = 3 ∨ k = 4 ∨ k = 5 := by omega
  clear h
  rcases h6 with rfl | rfl | rfl | rfl | rfl | rfl <;> decide
def BsR6 (w : World) (v i : Value) (wr : World) : Prop := ∃ k : Nat, k ≤ 6 ∧ i = .int .i64 k ∧ wr.ownsRow w.heap.size 72 3 v k (Ce.flat (six0.take k)) ∧ Below w.heap.size w wr
set_option maxRecDepth 100000 in
set_option maxHeartbeats 1000000 in
theorem bbeside_any (l h : Nat) (hl : l = 1 ∨ l = 2 ∨ l = 3) (hh : h < Ce.H l) (w : World) (hs : SixIs w) :
    Calls Tryd.prog 51 #[.int .i64 l, .int .i64 h] w fun e w' => ∃ v, e = .returned (.tuple #[v, .nilIface]) ∧ w'.ownsRow w.heap.size 72 3 v (NB l h).length (Ce.flat (NB l h)) ∧ Below w.heap.size w w' := by
  have h2 := H2 l
  by_cases h1 : l = 1
  · have hb : ((l : Int) == 1) = true := by rw [beq_iff_eq]; omega
    obtain ⟨i0, hi0, hz0, hz1, hz2⟩ := info_parts Ce.cell_info
    have hN : NB (l : Int) h = six0 := by unfold NB; rw [if_pos (by omega)]
    rw [hN]
    have hsx := fun W h => six_any W h
    go_enter Tryd.func51, Tryd.ntmps51
    go_wp2_with fail
    refine (hsx _ hs).mono ?_
    rintro e w1 ⟨rfl, hb1⟩
    go_wp2_with fail
    clear hsx hb
    go_loopw [6, 18] (fun v i wr => BsR6 w v i wr) (fun _ i _ => 6 - (intOf i).toNat)
    case atStart => exact ⟨0, by omega, rfl, World.ownsRow_nil _ _ _ _, hb1⟩
    case round =>
      clear hb1
      obtain ⟨k, hk, rfl, ho, hb⟩ := hrel
      have hBs := hb.size
      by_cases hlt : k < 6
      · have hdb : decide ((k : Int) < 6) = true := by simp; omega
        have hix := idx_six k hlt
        have htk := six_take k hlt
        have HT := Lib.hid (show Ce.flat (six0.take (k + 1)) = Ce.flat (six0.take k) ++ [.int .i64 (sixX k), .int .i64 (sixY k), .int .i64 0] by rw [htk, Ce.flat_app, Ce.flat_one])
        clear htk
        generalize sixX k = x at *
        generalize sixY k = y at *
        generalize Ce.flat (six0.take k) = F at *
        have ho1 := ho.alloc (.cells #[.int .i64 x, .int .i64 y] 70)
        have hb1 : Below w.heap.size w (wr.alloc (.cells #[.int .i64 x, .int .i64 y] 70)) := hb.alloc hBs _
        have hb2 : Below w.heap.size w ((wr.alloc (.cells #[.int .i64 x, .int .i64 y] 70)).alloc (.cells #[.int .i64 x, .int .i64 y, .int .i64 0] 72)) := hb1.alloc hb1.size _
        have hsz1 : (wr.alloc (.cells #[.int .i64 x, .int .i64 y] 70)).heap.size = wr.heap.size + 1 := by simp
        have hnew := Ce.news3 (wr.alloc (.cells #[.int .i64 x, .int .i64 y] 70)) 72 (.int .i64 x) (.int .i64 y) (.int .i64 0)
        rw [hsz1] at hnew
        go_wp2_with (at_builtin; refine wpList_append_own_at _ rfl _ _ 104 rfl w.heap.size 72 i0 _ 3 24 Tryd.underlying104 hi0 hz0 hz1 hz2 rfl (by decide) _ _ _ rfl (ho1.alloc _) ⟨wr.heap.size + 1, 0, none⟩ 1 1 [.int .i64 x, .int .i64 y, .int .i64 0] rfl rfl hnew (by simp [Value.oneCell']) (by simp only [maxLen]; omega) (by omega) (by simp; omega) ?_)
        intro v' w8 ho8 hgr8 _ _
        have hb8 := hb2.grown hgr8 hb2.size (fun g hg => (ho.lt g hg).1)
        clear hb hb1 hb2 ho ho1 hix hnew
        go_wp2_with fail
        exact ⟨⟨k + 1, by omega, by go_num, by rw [HT.out]; exact ho8, hb8⟩, by simp [intOf]; omega⟩
      · obtain rfl : k = 6 := by omega
        go_wp2_with fail
        go_ret2
        exact ⟨_, rfl, ho, hb⟩
  · have hb : ((l : Int) == 1) = false := by rw [beq_eq_false_iff_ne]; omega
    have hN : NB (l : Int) h = Ce.besAll l 0 0 h := by unfold NB; rw [if_neg (by omega)]
    rw [hN]
    have hbs := Ce.beside_any l 0 0 h w (by omega) (by omega) (by unfold Ce.halvesV; unfold Ce.H at h2 hh; rw [if_neg (by omega)] at hh ⊢; omega) (by decide) hs
    have hg := bes_good l (by simp; omega) h (by simp; omega)
    have HG := Lib.hid hg
    clear hg
    go_enter Tryd.func51, Tryd.ntmps51
    go_wp2_with fail
    refine hbs.mono ?_
    rintro e w1 (⟨_, v, rfl, ho, hb1⟩ | ⟨hf, _⟩)
    · clear hbs
      go_wp2_with fail
      go_ret2
      exact ⟨v, rfl, ho, hb1⟩
    · rw [HG.out] at hf
      cases hf
end Go.Proofs.YtcmfkdhadmfgkaaDoor.Bk

/- The contract of block's New; Table. -/
namespace Go.Proofs.YtcmfkdhadmfgkaaDoor.Bk
open Go.RowKit Go.Proofs.YtcmfkdhadmfgkaaDoor.Ba Go.Proofs.YtcmfkdhadmfgkaaDoor.Si Go.Lib
open Go.Proofs.YtcmfkdhadmfgkaaDoor.Fl (C)
open Go.Proofs.YtcmfkdhadmfgkaaDoor.Ax (SixIs)
open Go.Proofs.YtcmfkdhadmfgkaaDoor.Tb (Tab errV wrongT check_nil chk_any chk)

def flatB (L : List C) : List Value := L.flatMap fun e => [.int .i64 e.2.2, .int .i64 (awayI e.1 e.2.1), .int .u64 (maskT e.1 64)]
theorem flatB_len (L : List C) : (flatB L).length = L.length * 3 := by
  induction L with
  | nil => rfl
  | cons d l ih => simp [flatB] at ih ⊢; omega
theorem flatB_app (L M : List C) : flatB (L ++ M) = flatB L ++ flatB M := by simp [flatB]
theorem flatB_one (e : C) : flatB [e] = [.int .i64 e.2.2, .int .i64 (awayI e.1 e.2.1), .int .u64 (maskT e.1 64)] := by simp [flatB]
theorem flatB_get : ∀ (L : List C) (i : Nat) (e : C), L[i]? = some e → (flatB L)[i * 3]? = some (.int .i64 e.2.2) ∧ (flatB L)[i * 3 + 1]? = some (.int .i64 (awayI e.1 e.2.1)) ∧ (flatB L)[i * 3 + 2]? = some (.int .u64 (maskT e.1 64))
  | [], _, _, h => by simp at h
  | d :: L, 0, e, h => by
    simp only [List.getElem?_cons_zero, Option.some.injEq] at h
    subst h
    exact ⟨rfl, rfl, rfl⟩
  | d :: L, i + 1, e, h => by
    simp only [List.getElem?_cons_succ] at h
    have ih := flatB_get L i e h
    have e0 : flatB (d :: L) = [Value.int .i64 d.2.2, .int .i64 (awayI d.1 d.2.1), .int .u64 (maskT d.1 64)] ++ flatB L := rfl
    rw [e0, show (i + 1) * 3 = i * 3 + 3 by omega]
    refine ⟨?_, ?_, ?_⟩
    · rw [List.getElem?_append_right (by simp)]; exact ih.1
    · rw [List.getElem?_append_right (by simp), show i * 3 + 3 + 1 - _ = i * 3 + 1 by simp]; exact ih.2.1
    · rw [List.getElem?_append_right (by simp), show i * 3 + 3 + 2 - _ = i * 3 + 2 by simp]; exact ih.2.2
theorem nb_of_own {w : World} {base : Nat} {v : Value} {L : List C} (h : w.ownsRow base 109 3 v L.length (flatB L)) (hL : 0 < L.length) : NbAt w w.heap.size v L := by
  rcases h.2 with ⟨_, h0⟩ | ⟨g, cap, cur, rfl, hb, hg, hrest⟩
  · omega
  · have hlt : g < w.heap.size := by
      rcases Nat.lt_or_ge g w.heap.size with h' | h'
      · exact h'
      · rw [Array.getElem?_eq_none h'] at hg; cases hg
    refine ⟨g, cap, rfl, hlt, Nat.le_refl _, fun i e he => ?_⟩
    have hi : i < L.length := by
      rcases Nat.lt_or_ge i L.length with h | h
      · exact h
      · rw [List.getElem?_eq_none h] at he; cases he
    obtain ⟨g0, g1, g2⟩ := flatB_get L i e he
    exact ⟨(h.cellAt (i * 3) (by omega)).trans g0, (h.cellAt (i * 3 + 1) (by omega)).trans g1, (h.cellAt (i * 3 + 2) (by omega)).trans g2⟩
theorem nbr_info : (Tryd.prog.info? 109).map (fun i => (i.zero, i.size, i.bytes)) = some (some (.agg #[.int .i64 0, .int .i64 0, .int .u64 0]), 3, 24) := by kernel_rfl
/-- A kernel of which so many Halves have their neighbours, and one of them so many. -/
def kA (l b0 b1 s0 s1 : Nat) (V : Nat → Value) : Array Value := #[.int .i64 l, .int .u64 b0, .int .u64 b1, .int .u64 s0, .int .u64 s1, V 0, V 1]
theorem kA_set (l b0 b1 s0 s1 : Nat) (V : Nat → Value) (h : Nat) (hh : h < 2) (v : Value) : (kA l b0 b1 s0 s1 V).setIfInBounds (5 + h) v = kA l b0 b1 s0 s1 fun i => if i = h then v else V i := by
  have : h = 0 ∨ h = 1 := by omega
  rcases this with rfl | rfl <;> rfl
theorem kA_get (l b0 b1 s0 s1 : Nat) (V : Nat → Value) (h : Nat) (hh : h < 2) : (kA l b0 b1 s0 s1 V)[5 + h]? = some (V h) := by
  have : h = 0 ∨ h = 1 := by omega
  rcases this with rfl | rfl <;> rfl
theorem flatC_get : ∀ (L : List C) (i : Nat) (e : C), L[i]? = some e → (Ce.flat L)[i * 3]? = some (.int .i64 e.1) ∧ (Ce.flat L)[i * 3 + 1]? = some (.int .i64 e.2.1) ∧ (Ce.flat L)[i * 3 + 2]? = some (.int .i64 e.2.2)
  | [], _, _, h => by simp at h
  | d :: L, 0, e, h => by
    simp only [List.getElem?_cons_zero, Option.some.injEq] at h
    subst h
    exact ⟨rfl, rfl, rfl⟩
  | d :: L, i + 1, e, h => by
    simp only [List.getElem?_cons_succ] at h
    have ih := flatC_get L i e h
    have e0 : Ce.flat (d :: L) = [Value.int .i64 d.1, .int .i64 d.2.1, .int .i64 d.2.2] ++ Ce.flat L := rfl
    rw [e0, show (i + 1) * 3 = i * 3 + 3 by omega]
    refine ⟨?_, ?_, ?_⟩
    · rw [List.getElem?_append_right (by simp)]; exact ih.1
    · rw [List.getElem?_append_right (by simp), show i * 3 + 3 + 1 - _ = i * 3 + 1 by simp]; exact ih.2.1
    · rw [List.getElem?_append_right (by simp), show i * 3 + 3 + 2 - _ = i * 3 + 2 by simp]; exact ih.2.2
/-- A list of cells in memory, in a block between two bounds. -/
def ClAt (w : World) (B B' : Nat) (v : Value) (L : List C) : Prop :=
  ∃ X cap, v = .slice (some ⟨X, 0, none⟩) L.length cap ∧ B ≤ X ∧ X < B' ∧ B' ≤ w.heap.size ∧ ∀ (i : Nat) (e : C), L[i]? = some e → w.cell? ⟨X, i * 3, none⟩ = some (.int .i64 e.1) ∧ w.cell? ⟨X, i * 3 + 1, none⟩ = some (.int .i64 e.2.1) ∧ w.cell? ⟨X, i * 3 + 2, none⟩ = some (.int .i64 e.2.2)
theorem cl_of_own {w : World} {base : Nat} {v : Value} {L : List C} (h : w.ownsRow base 72 3 v L.length (Ce.flat L)) (hL : 0 < L.length) : ClAt w base w.heap.size v L := by
  rcases h.2 with ⟨_, h0⟩ | ⟨g, cap, cur, rfl, hb, hg, hrest⟩
  · omega
  · have hlt : g < w.heap.size := by
      rcases Nat.lt_or_ge g w.heap.size with h' | h'
      · exact h'
      · rw [Array.getElem?_eq_none h'] at hg; cases hg
    refine ⟨g, cap, rfl, hb, hlt, Nat.le_refl _, fun i e he => ?_⟩
    have hi : i < L.length := by
      rcases Nat.lt_or_ge i L.length with h | h
      · exact h
      · rw [List.getElem?_eq_none h] at he; cases he
    obtain ⟨g0, g1, g2⟩ := flatC_get L i e he
    exact ⟨(h.cellAt (i * 3) (by omega)).trans g0, (h.cellAt (i * 3 + 1) (by omega)).trans g1, (h.cellAt (i * 3 + 2) (by omega)).trans g2⟩
theorem ClAt.same {w w' : World} {B B' : Nat} {v : Value} {L : List C} (h : ClAt w B B' v L) (hs : w.heap.size ≤ w'.heap.size) (hb : ∀ k, B ≤ k → k < B' → w'.heap[k]? = w.heap[k]?) : ClAt w' B B' v L := by
  obtain ⟨X, cap, rfl, h1, h2, h3, hc⟩ := h
  refine ⟨X, cap, rfl, h1, h2, Nat.le_trans h3 hs, fun i e he => ?_⟩
  obtain ⟨c0, c1, c2⟩ := hc i e he
  exact ⟨(World.cell?_of_block (hb X h1 h2)).trans c0, (World.cell?_of_block (hb X h1 h2)).trans c1, (World.cell?_of_block (hb X h1 h2)).trans c2⟩
/-- Neighbours laid already: in rows of their own, below a bound. -/
def Lo (wr : World) (l g k Bk : Nat) (V : Nat → Value) : Prop := ∀ h, h < k → wr.ownsRow (g + 1) 109 3 (V h) (NB l h).length (flatB (NB l h)) ∧ ∀ b, (V h).ownBlock = some b → b < Bk
def NwO (w : World) (l b0 b1 s0 s1 g : Nat) (t : Value) (wr : World) : Prop :=
  ∃ (k : Nat) (V : Nat → Value), k ≤ Ce.H l ∧ t = .int .i64 k ∧ Lo wr l g k wr.heap.size V ∧ (∀ h, k ≤ h → V h = .slice none 0 0) ∧ Blk wr g 103 (kA l b0 b1 s0 s1 V) ∧ Blk wr w.heap.size 47 #[.int .i64 l, .int .u64 b0, .int .u64 b1, .int .u64 s0, .int .u64 s1] ∧ Below w.heap.size w wr
def NwI (w : World) (l b0 b1 s0 s1 g k Ba Bk : Nat) (u : Value) (t : Value) (wr : World) : Prop :=
  ∃ (j : Nat) (V : Nat → Value), j ≤ (NB l k).length ∧ t = .int .i64 j ∧ Lo wr l g k Ba V ∧ wr.ownsRow Bk 109 3 (V k) j (flatB ((NB l k).take j)) ∧ (∀ h, k + 1 ≤ h → V h = .slice none 0 0) ∧
    ClAt wr Ba Bk u (NB l k) ∧ Blk wr g 103 (kA l b0 b1 s0 s1 V) ∧ Blk wr w.heap.size 47 #[.int .i64 l, .int .u64 b0, .int .u64 b1, .int .u64 s0, .int .u64 s1] ∧ Below w.heap.size w wr ∧ Bk ≤ wr.heap.size
theorem own_same {w w' : World} {base n size : Nat} {e : TypeId} {v : Value} {xs : List Value} (h : w.ownsRow base e size v n xs) (hb : ∀ b, v.ownBlock = some b → w'.heap[b]? = w.heap[b]?) : w'.ownsRow base e size v n xs := by
  refine ⟨h.1, ?_⟩
  rcases h.2 with hn | ⟨g, cap, cur, rfl, hB, hg, rest⟩
  · exact .inl hn
  · exact .inr ⟨g, cap, cur, rfl, hB, (hb g rfl).trans hg, rest⟩
theorem Lo.same {wr w' : World} {l g k Bk : Nat} {V V' : Nat → Value} (h : Lo wr l g k Bk V) (hs : ∀ b, g < b → b < Bk → w'.heap[b]? = wr.heap[b]?) (hV : ∀ h, h < k → V' h = V h) : Lo w' l g k Bk V' := fun h' hh => by
  obtain ⟨h1, h2⟩ := h h' hh
  rw [hV h' hh]
  exact ⟨own_same h1 fun b hb => hs b (h1.lt b hb).1 (h2 b hb), h2⟩
theorem own_slc {w : World} {base n size : Nat} {e : TypeId} {v : Value} {xs : List Value} (h : w.ownsRow base e size v n xs) : ∃ p cap, v = .slice p n cap := by
  rcases h.2 with ⟨rfl, rfl⟩ | ⟨g, cap, cur, rfl, _⟩
  · exact ⟨none, 0, rfl⟩
  · exact ⟨_, cap, rfl⟩
theorem one_b (a b : Int) (c : Nat) : ∀ u ∈ [Value.int .i64 a, .int .i64 b, .int .u64 c], u.oneCell' = true := by intro u hu; simp at hu; rcases hu with rfl | rfl | rfl <;> rfl
theorem NB_pos {l h : Nat} (hl : l = 1 ∨ l = 2 ∨ l = 3) (hh : h < Ce.H l) : 0 < (NB l h).length := by
  have key : ∀ l ∈ [(1 : Int), 2, 3], ∀ h ∈ [(0 : Int), 1], 0 < (NB l h).length := by decide +kernel
  have h2 := H2 l
  exact key l (by simp; omega) h (by simp; omega)
set_option maxRecDepth 100000 in
set_option maxHeartbeats 4000000 in
theorem bnew_any (l b0 b1 s0 s1 : Nat) (hg : Fl.Good l b0 b1 s0 s1) (w : World) (hs : SixIs w) :
    Calls Tryd.prog 20 #[Tab l b0 b1 s0 s1] w fun e w' => ∃ g, e = .returned (.tuple #[.pointer (some ⟨g, 0, none⟩), .nilIface]) ∧ KerAt w' w'.heap.size g l b0 b1 s0 s1 ∧ KerHi w' w.heap.size g ∧ Below w.heap.size w w' := by
  obtain ⟨i0, hi0, hz0, hz1, hz2⟩ := info_parts nbr_info
  have h2 := H2 l
  have HS := Lib.hid hs
  have hck := fun W => check_nil l b0 b1 s0 s1 hg.lat hg.h0 hg.h1 hg.h2 hg.h3 hg.ok W
  have kt0 := Blk.newAt w 47 #[.int .i64 l, .int .u64 b0, .int .u64 b1, .int .u64 s0, .int .u64 s1] _ rfl
  have hb0 : Below w.heap.size w (w.alloc (.cells #[.int .i64 l, .int .u64 b0, .int .u64 b1, .int .u64 s0, .int .u64 s1] 47)) := by go_grown
  clear hs
  go_enter Tryd.func20, Tryd.ntmps20
  go_wp2_with fail
  refine (hck _).mono ?_
  rintro e w1 ⟨rfl, hb1⟩
  have kt1 := kt0.under hb1
  have hb01 := hb0.trans (hb1.mono hb0.size)
  have hsz := kt1.lt
  have c0 := kt1.cell 0
  have c1 := kt1.cell 1
  have c2 := kt1.cell 2
  have c3 := kt1.cell 3
  have c4 := kt1.cell 4
  simp only [List.getElem?_toArray, List.getElem?_cons_zero, List.getElem?_cons_succ] at c0 c1 c2 c3 c4
  clear kt0 hb0 hb1 hck
  go_upto_region 5 with fail
  have kg : Blk (w1.alloc (.cells #[.int .i64 l, .int .u64 b0, .int .u64 b1, .int .u64 s0, .int .u64 s1, .slice none 0 0, .slice none 0 0] 103)) w1.heap.size 103 (kA l b0 b1 s0 s1 fun _ => .slice none 0 0) := Blk.newAt w1 _ _ _ rfl
  have kt := kt1.alloc (.cells #[.int .i64 l, .int .u64 b0, .int .u64 b1, .int .u64 s0, .int .u64 s1, .slice none 0 0, .slice none 0 0] 103)
  have hb2 : Below w.heap.size w (w1.alloc (.cells #[.int .i64 l, .int .u64 b0, .int .u64 b1, .int .u64 s0, .int .u64 s1, .slice none 0 0, .slice none 0 0] 103)) := hb01.alloc hb01.size _
  have hgl := kg.lt
  clear c0 c1 c2 c3 c4 kt1 hb01
  generalize w1.alloc (.cells #[.int .i64 l, .int .u64 b0, .int .u64 b1, .int .u64 s0, .int .u64 s1, .slice none 0 0, .slice none 0 0] 103) = W2 at *
  generalize w1.heap.size = g at *
  have c0 := kt.cell 0
  simp only [List.getElem?_toArray, List.getElem?_cons_zero] at c0
  have hlt := kt.lt
  have hhl := fun W => halves_l l W
  go_wp2_with fail
  refine (hhl _).mono ?_
  rintro e w' ⟨rfl, rfl⟩
  go_wp2_with fail
  clear hhl c0 hlt
  go_loopw [22] (fun t wr => NwO w l b0 b1 s0 s1 g t wr) (fun t _ => 2 - (intOf t).toNat)
  case atStart => exact ⟨0, fun _ => .slice none 0 0, Nat.zero_le _, rfl, fun h hh => absurd hh (Nat.not_lt_zero _), fun _ _ => rfl, kg, kt, hb2⟩
  case round =>
    clear kg kt hb2 hgl
    obtain ⟨k, V, hk, rfl, hLo, hV0, kg, kt, hb⟩ := hrel
    by_cases hlt : k < Ce.H l
    · have hdb : decide ((k : Int) < ((Ce.H l : Nat) : Int)) = true := by simpa using hlt
      have c0 := kt.cell 0
      simp only [List.getElem?_toArray, List.getElem?_cons_zero] at c0
      have hbs := fun W hs => bbeside_any l k hg.lat hlt W hs
      have hbS := hb.size
      have htl := kt.lt
      go_wp2_with fail
      refine (hbs _ (HS.out.below hb)).mono ?_
      rintro e w5 ⟨u, rfl, hu, hb5⟩
      clear hbs c0
      have hNl := (NB_in hg.lat hlt).2.1
      have hNp := NB_pos hg.lat hlt
      have hcl := cl_of_own hu hNp
      have hgw : g < wr.heap.size := kg.lt
      have hwg : w.heap.size < wr.heap.size := kt.lt
      have kg := kg.under hb5
      have kt := kt.under hb5
      have hLo : Lo w5 l g k wr.heap.size V := hLo.same (fun b _ hb' => hb5.block b hb') (fun _ _ => rfl)
      have hb := hb.trans (hb5.mono hb.size)
      have hs5 := hb5.size
      clear hu hb5
      obtain ⟨X, cap, rfl, hX⟩ := hcl
      have hcl : ClAt w5 wr.heap.size w5.heap.size (.slice (some ⟨X, 0, none⟩) (NB l k).length cap) (NB l k) := ⟨X, cap, rfl, hX⟩
      clear hX
      generalize wr.heap.size = Ba at *
      obtain ⟨n, hn⟩ : ∃ n, (NB l k).length = n := ⟨_, rfl⟩
      have HN := Lib.hid hn
      rw [hn]
      rw [hn] at hNl
      clear hn hNp
      go_wp2_with fail
      go_loopw [37] (fun t wr => NwI w l b0 b1 s0 s1 g k Ba w5.heap.size (.slice (some ⟨X, 0, none⟩) n cap) t wr) (fun t _ => 12 - (intOf t).toNat)
      case atStart => exact ⟨0, V, Nat.zero_le _, rfl, hLo, by rw [hV0 k (Nat.le_refl _)]; exact World.ownsRow_nil _ _ _ _, fun h hh => hV0 h (by omega), by rw [← HN.out]; exact hcl, kg, kt, hb, Nat.le_refl _⟩
      case round =>
        clear hLo hV0 hcl kg kt hb
        obtain ⟨j, V, hj, rfl, hLo, ho, hV0, hcl, kg, kt, hb, hBk⟩ := hrel
        have hdi := HN.out
        rw [hdi] at hj
        by_cases hlj : j < n
        · have hdj : decide ((j : Int) < (n : Int)) = true := by simpa using hlj
          obtain ⟨⟨A, Bb, hf⟩, he⟩ : ∃ e, (NB l k)[j]? = some e := ⟨_, List.getElem?_eq_getElem (by omega)⟩
          obtain ⟨hA, hB, hf2⟩ := (NB_in hg.lat hlt).1 _ (List.mem_of_getElem? he)
          obtain ⟨X', cap', hX', hX1, hX2, hX3, hcs⟩ := id hcl
          simp only [Value.slice.injEq, Option.some.injEq, Addr.mk.injEq, and_true] at hX'
          obtain ⟨rfl, -, rfl⟩ := hX'
          obtain ⟨x0, x1, x2⟩ := hcs j _ he
          have hXl : X < wr.heap.size := by omega
          have htw := fun W => toward_any A Bb hf hA hB W
          unfold nbrA at htw
          have hfl : flatB ((NB l k).take (j + 1)) = flatB ((NB l k).take j) ++ [.int .i64 hf, .int .i64 (awayI A Bb), .int .u64 (maskT A 64)] := by
            rw [List.take_add_one, he, flatB_app]
            rfl
          have HF := Lib.hid hfl
          dsimp only at x0 x1 x2
          generalize maskT A 64 = mm at *
          generalize awayI A Bb = aw at *
          generalize flatB ((NB l k).take j) = F at *
          clear hcs hA hB hf2 he hdi hfl
          have hVk := (kg.cell (5 + k)).trans (kA_get l b0 b1 s0 s1 V k (by omega))
          have hk2 : (k : Int) < 2 := by omega
          have hgl := kg.lt
          go_upto_region 14 with fail
          obtain ⟨vk, hvk⟩ : ∃ v, V k = v := ⟨_, rfl⟩
          rw [hvk] at ho hVk
          have HV := Lib.hid hvk
          obtain ⟨W, hW⟩ : ∃ W, wr.alloc (.cells #[.int .i64 A, .int .i64 Bb, .int .i64 hf] 72) = W := ⟨_, rfl⟩
          have kx : Blk W wr.heap.size 72 #[.int .i64 A, .int .i64 Bb, .int .i64 hf] := by rw [← hW]; exact Blk.newAt wr _ _ _ rfl
          have hbW : Below wr.heap.size wr W := by rw [← hW]; go_grown
          change Code.wp _ _ _ _ (wr.alloc (.cells #[.int .i64 A, .int .i64 Bb, .int .i64 hf] 72))
          rw [hW]
          clear hW hvk
          have hVk : W.cell? ⟨g, 5 + k, none⟩ = some vk := (hbW.cell (p := ⟨g, 5 + k, none⟩) hgl).trans hVk
          have hfk : W.frozen? ⟨g, 5 + k, none⟩ = false := (kg.under hbW).frozen _
          have hgl : g < W.heap.size := Nat.lt_of_lt_of_le hgl hbW.size
          have hxl := kx.lt
          have y0 : W.cell? ⟨wr.heap.size, 0, none⟩ = some (.int .i64 A) := kx.cell 0
          have y1 : W.cell? ⟨wr.heap.size, 1, none⟩ = some (.int .i64 Bb) := kx.cell 1
          have y2 : W.cell? ⟨wr.heap.size, 2, none⟩ = some (.int .i64 hf) := kx.cell 2
          have hoW := own_below ho hbW
          have hBW : w5.heap.size ≤ W.heap.size := Nat.le_trans hBk hbW.size
          have hgB : g < w5.heap.size := by omega
          have keep : ∀ W', Below W.heap.size W W' → W'.cell? ⟨g, 5 + k, none⟩ = some vk ∧ W'.frozen? ⟨g, 5 + k, none⟩ = false ∧ (W'.cell? ⟨wr.heap.size, 0, none⟩ = some (.int .i64 A) ∧ W'.cell? ⟨wr.heap.size, 1, none⟩ = some (.int .i64 Bb) ∧ W'.cell? ⟨wr.heap.size, 2, none⟩ = some (.int .i64 hf)) := fun W' hb => ⟨(hb.cell (p := ⟨g, 5 + k, none⟩) hgl).trans hVk, (hb.frozen (p := ⟨g, 5 + k, none⟩) hgl).trans hfk, (hb.cell (p := ⟨wr.heap.size, 0, none⟩) hxl).trans y0, (hb.cell (p := ⟨wr.heap.size, 1, none⟩) hxl).trans y1, (hb.cell (p := ⟨wr.heap.size, 2, none⟩) hxl).trans y2⟩
          have hcall : Calls Tryd.prog 52 #[.agg #[.int .i64 A, .int .i64 Bb, .int .i64 hf]] W.drew fun e w' => e = .returned (.agg #[.int .i64 hf, .int .i64 aw, .int .u64 mm]) ∧ Below W.heap.size W w' := by
            refine (htw W.drew).mono ?_
            rintro e w' ⟨he, hb⟩
            exact ⟨he, (show Below W.heap.size W W.drew from ⟨rfl, rfl, rfl, Nat.le_refl _, fun _ _ => rfl⟩).trans hb⟩
          have hm1 : j + 1 ≤ maxLen := by unfold maxLen; omega
          have hm2 : (j + 1) * 24 ≤ 140737488355328 := by omega
          have hof := one_b hf aw mm
          have hvlt : ∀ b, vk.ownBlock = some b → b < wr.heap.size := fun b hb => (ho.lt b hb).2
          have hgX : wr.heap.size ≠ g := by omega
          have hbW' := hbW
          clear htw hbW kx x0 x1 x2 ho
          go_region_law
            (first
              | (refine step_append_at rfl (.tmp 48) (.tmp 51) 100 rfl w5.heap.size 109 i0 _ 3 24 Tryd.underlying100 hi0 hz0 hz1 hz2 rfl (by decide) vk j F rfl hoA ⟨w9.heap.size, 0, none⟩ 1 1 [.int .i64 hf, .int .i64 aw, .int .u64 mm] rfl rfl hnA hof hm1 hm2 hsA ?_; intro v8 w8 ho8 hgr8 _; obtain ⟨p8, c8, rfl⟩ := own_slc ho8; have hne : some g ≠ vk.ownBlock := own_low_ne hoA hgB; have hVk : w8.cell? ⟨g, 5 + k, none⟩ = some vk := hgr8.cell ((keep _ (hb9.alloc hb9.size _)).1) hne; have hfk : w8.frozen? ⟨g, 5 + k, none⟩ = false := (World.frozen?_of_block (a := ⟨g, 5 + k, none⟩) (hgr8.block g (Nat.lt_of_lt_of_le hgl (Nat.le_trans hs9 (by simp))) hne)).trans ((keep _ (hb9.alloc hb9.size _)).2.1); have hg8 : g < w8.heap.size := Nat.lt_of_lt_of_le hgl (Nat.le_trans (Nat.le_trans hs9 (by simp)) hgr8.size))
              | (go_simp; go_at_call 52; (with_reducible refine Calls.mono hcall ?_); rintro e w9 ⟨rfl, hb9⟩; have hoA := (own_below hoW hb9).alloc (.cells #[.int .i64 hf, .int .i64 aw, .int .u64 mm] 109); have hnA := Ce.news3 w9 109 (.int .i64 hf) (.int .i64 aw) (.int .u64 mm); have hs9 := hb9.size; have hsA : w5.heap.size ≤ (w9.alloc (.cells #[.int .i64 hf, .int .i64 aw, .int .u64 mm] 109)).heap.size := Nat.le_trans (Nat.le_trans hBW hs9) (by simp); obtain ⟨hVk, hfk, y0, y1, y2⟩ := keep _ hb9; have hg9 : g < w9.heap.size := Nat.lt_of_lt_of_le hgl hs9; have hx9 : wr.heap.size < w9.heap.size := Nat.lt_of_lt_of_le hxl hs9))
          all_goals
            have hfin : ∀ (u : Value) (b : Nat), b < wr.heap.size → b ≠ g → some b ≠ vk.ownBlock → (w8.setCell ⟨g, 5 + k, none⟩ u).heap[b]? = wr.heap[b]? := fun u b h1 h3 h4 =>
              (Below.heap_setCell w8 ⟨g, 5 + k, none⟩ u b h3).trans ((hgr8.block b (by simp; have := hbW'.size; omega) h4).trans ((Below.heap_alloc w9 _ b (by have := hbW'.size; omega)).trans ((hb9.block b (by have := hbW'.size; omega)).trans (hbW'.block b h1))))
            have hvk5 : ∀ b, vk.ownBlock = some b → w5.heap.size ≤ b := fun b hb => (hoA.lt b hb).1
            have hsz8 : wr.heap.size ≤ w8.heap.size := by have h1 := hgr8.size; have := hbW'.size; simp at h1; omega
            have kg8 := ((((kg.under hbW').under hb9).alloc (.cells #[.int .i64 hf, .int .i64 aw, .int .u64 mm] 109)).grown hgr8 hne).set_ (5 + k) (.slice p8 (j + 1) c8)
            rw [kA_set l b0 b1 s0 s1 V k (by omega)] at kg8
            have HKg := Lib.hid kg8
            have HLo : Hid (Lo (w8.setCell ⟨g, 5 + k, none⟩ (.slice p8 (j + 1) c8)) l g k Ba fun i => if i = k then .slice p8 (j + 1) c8 else V i) := Lib.hid (hLo.same (fun b h1 h3 => hfin _ b (by omega) (by omega) (fun e => by have := hvk5 b e.symm; omega)) (fun h hh => if_neg (by omega)))
            have HOw : Hid ((w8.setCell ⟨g, 5 + k, none⟩ (.slice p8 (j + 1) c8)).ownsRow w5.heap.size 109 3 (.slice p8 (j + 1) c8) (j + 1) (flatB ((NB l k).take (j + 1)))) := Lib.hid (by rw [HF.out]; exact own_same ho8 fun b hb => Below.heap_setCell w8 ⟨g, 5 + k, none⟩ _ b (by have := (ho8.lt b hb).1; show b ≠ g; omega))
            have HCl := Lib.hid (hcl.same (w' := w8.setCell ⟨g, 5 + k, none⟩ (.slice p8 (j + 1) c8)) (by simpa using hsz8) (fun b h1 h3 => hfin _ b (by omega) (by omega) (fun e => by have := hvk5 b e.symm; omega)))
            have HKt : Hid (Blk (w8.setCell ⟨g, 5 + k, none⟩ (.slice p8 (j + 1) c8)) w.heap.size 47 #[.int .i64 l, .int .u64 b0, .int .u64 b1, .int .u64 s0, .int .u64 s1]) := Lib.hid ((hfin _ _ kt.lt (by omega) (fun e => by have := hvk5 _ e.symm; omega)).trans kt)
            have HBe : Hid (Below w.heap.size w (w8.setCell ⟨g, 5 + k, none⟩ (.slice p8 (j + 1) c8))) := Lib.hid ((((hb.trans (hbW'.mono hb.size)).trans (hb9.mono (by have := hbW'.size; omega))).alloc (by have := hb9.size; have := hbW'.size; omega) _).grown hgr8 (by have := hb9.size; have := hbW'.size; simp; omega) (fun b hb => by have := hvk5 b hb; omega) |>.setCell (by show w.heap.size ≤ g; omega) _)
            have HSz : Hid (w5.heap.size ≤ (w8.setCell ⟨g, 5 + k, none⟩ (.slice p8 (j + 1) c8)).heap.size) := Lib.hid (by simp; omega)
            clear hfin kg8 hcl kt kg hb hLo ho8 hgr8 hoA hnA hb9 hbW' keep hcall hoW
          all_goals go_wp2_with fail
          all_goals exact ⟨⟨j + 1, _, by rw [HN.out]; omega, by go_num, HLo.out, by rw [if_pos rfl]; exact HOw.out, fun h hh => by rw [if_neg (by omega)]; exact hV0 h hh, HCl.out, HKg.out, HKt.out, HBe.out, HSz.out⟩, by simp [intOf]; omega⟩
        · obtain rfl : j = n := by omega
          rw [List.take_of_length_le (by rw [HN.out]; exact Nat.le_refl _)] at ho
          have hLo' : Lo wr l g (k + 1) wr.heap.size V := fun h hh => by
            by_cases e : h = k
            · subst e
              rw [HN.out]
              exact ⟨owns_base (by omega) ho, fun b hb => (ho.lt b hb).2⟩
            · obtain ⟨h1, h3⟩ := hLo h (by omega)
              exact ⟨h1, fun b hb => (h1.lt b hb).2⟩
          have HLo := Lib.hid hLo'
          clear hLo hLo' ho hcl hdi
          go_wp2_with fail
          exact ⟨⟨k + 1, V, by omega, by go_num, HLo.out, hV0, kg, kt, hb⟩, by simp [intOf]; omega⟩
    · obtain rfl : k = Ce.H l := by omega
      have hH1 : 1 ≤ Ce.H (l : Int) := by unfold Ce.H; split <;> omega
      have hH2 : l ≠ 1 → 1 < Ce.H (l : Int) := fun hne => by unfold Ce.H; rw [if_neg (by omega)]; omega
      have n0 := nb_of_own (hLo 0 (by omega)).1 (NB_pos hg.lat (by omega))
      have hker : KerAt wr wr.heap.size g l b0 b1 s0 s1 := ⟨kg.lt, V 0, V 1, fun i _ => kg.cell i, n0, fun hne => nb_of_own (hLo 1 (hH2 hne)).1 (NB_pos (h := 1) hg.lat (hH2 hne))⟩
      have hwg : w.heap.size ≤ g := by omega
      have hhi : KerHi wr w.heap.size g := ⟨hwg, fun i v b hi hc hv => by
        rcases hi with rfl | rfl
        · rw [kg.cell 5] at hc
          obtain rfl : V 0 = v := by injection hc
          have := ((hLo 0 (by omega)).1.lt b hv).1
          omega
        · rw [kg.cell 6] at hc
          obtain rfl : V 1 = v := by injection hc
          by_cases hl : l = 1
          · rw [hV0 1 (by unfold Ce.H; rw [if_pos (by omega)]; omega)] at hv
            cases hv
          · have := ((hLo 1 (hH2 hl)).1.lt b hv).1
            omega⟩
      clear hLo hV0 kg kt n0 hH2
      go_wp2_with fail
      go_ret2
      exact ⟨g, rfl, hker, hhi, hb⟩
/-- Of a table that may not be: the error, and no kernel. -/
theorem bnew_bad (L : Int) (b0 b1 s0 s1 : Nat) (h0 : b0 < 2 ^ 64) (h1 : b1 < 2 ^ 64) (h2 : s0 < 2 ^ 64) (h3 : s1 < 2 ^ 64) (hc : chk L b0 b1 s0 s1 ≠ 0) (w : World) :
    Calls Tryd.prog 20 #[Tab L b0 b1 s0 s1] w fun e w' => e = .returned (.tuple #[.pointer none, errV (chk L b0 b1 s0 s1)]) ∧ Below w.heap.size w w' := by
  have hck := fun W => chk_any L b0 b1 s0 s1 h0 h1 h2 h3 W
  generalize chk L b0 b1 s0 s1 = n at *
  unfold errV at *
  rw [if_neg hc] at *
  have hb0 : Below w.heap.size w (w.alloc (.cells #[.int .i64 L, .int .u64 b0, .int .u64 b1, .int .u64 s0, .int .u64 s1] 47)) := by go_grown
  go_enter Tryd.func20, Tryd.ntmps20
  go_wp2_with fail
  refine (hck _).mono ?_
  rintro e w1 ⟨rfl, hb1⟩
  have hb01 := hb0.trans (hb1.mono hb0.size)
  clear hck hb1 hb0
  go_wp2_with fail
  go_ret2
  exact ⟨rfl, hb01⟩
theorem btable_any (B g l b0 b1 s0 s1 : Nat) (w : World) (hK : KerAt w B g l b0 b1 s0 s1) :
    Calls Tryd.prog 25 #[.pointer (some ⟨g, 0, none⟩)] w fun e w' => e = .returned (Tab l b0 b1 s0 s1) ∧ Below w.heap.size w w' := by
  have hlow := hK.low
  obtain ⟨hg, v0, v1, k, _, _⟩ := hK
  have c0 := k.cell 0
  have c1 := k.cell 1
  have c2 := k.cell 2
  have c3 := k.cell 3
  have c4 := k.cell 4
  simp only [List.getElem?_toArray, List.getElem?_cons_zero, List.getElem?_cons_succ] at c0 c1 c2 c3 c4
  have hgl : g < w.heap.size := by omega
  clear k
  go_enter Tryd.func25, Tryd.ntmps25
  go_wp2
  exact bodyPost_ret (v := Tab l b0 b1 s0 s1) (by simp [results, Tryd.results25, go_sem, *]) rfl ⟨rfl, by go_grown⟩
end Go.Proofs.YtcmfkdhadmfgkaaDoor.Bk
