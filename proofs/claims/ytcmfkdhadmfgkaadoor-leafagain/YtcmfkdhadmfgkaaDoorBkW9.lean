/- Several texts, joined. -/
import Derived.Test.YtcmfkdhadmfgkaaDoorBs
import Derived.Maps.AppendAt
import Derived.Deep.RegionLaw
import Derived.Test.YtcmfkdhadmfgkaaDoorBkW6
import Derived.Test.YtcmfkdhadmfgkaaDoorFlG
import Derived.Test.YtcmfkdhadmfgkaaDoorCeW5
import Derived.Test.YtcmfkdhadmfgkaaDoorTbC5
/- append to a row of one's own, as one step of a region that draws its order. -/
namespace Go.Proofs.YtcmfkdhadmfgkaaDoor.Ba
open Go.RowKit

theorem step_append_at {P : Program} {ops : Array Oper} {o : Oper} {a : Act} {w : World} {K : Act → World → Prop} {Q : Exit → Act → World → Prop} {E : Prop}
    (hg : o.guard = none) (s x : Operand) (t : TypeId) (hop : o.op = Op.call { callee := Callee.builtin Builtin.append, args := #[s, x], argTypes := #[t, t] })
    (base : Nat) (e : TypeId) (i : TypeInfo) (z : Value) (size bytes : Nat) (ht : P.underlying t = some (.slice e)) (hi : P.info? e = some i) (hz : i.zero = some z)
    (hsize : i.size = size) (hby : i.bytes = bytes) (hzs : z.cells.size = size) (hsz : 0 < size)
    (v : Value) (n : Nat) (xs : List Value) (hs : a.eval s = v) (hown : w.ownsRow base e size v n xs)
    (ad : Addr) (m c : Nat) (news : List Value) (hx : a.eval x = .slice (some ad) m c) (hl : news.length = m * size) (hnews : ∀ j u, news[j]? = some u → w.cell? (ad.add j) = some u) (h1 : ∀ u ∈ news, u.oneCell' = true)
    (h63 : n + m ≤ maxLen) (hbytes : (n + m) * bytes ≤ 140737488355328) (hbase : base ≤ w.heap.size)
    (hK : ∀ v' w', w'.ownsRow base e size v' (n + m) (xs ++ news) → w.grownBy w' v.ownBlock → (v'.ownBlock = v.ownBlock ∨ v'.ownBlock = some w.heap.size) → K (a.put o.dst v') w') :
    if Region.wanted o (yielded ops a.tmps) = true then Oper.wp P o a w K Q else E := by
  have hw : Region.wanted o (yielded ops a.tmps) = true := by simp [Region.wanted, hg]
  rw [if_pos hw]
  obtain ⟨v', w', hrun, r1, r2, _, r3⟩ := run_append_own_at (P := P) w base t o.type e i z size bytes ht hi hz hsize hby hzs hsz v n xs hown ad m c news hl hnews h1 h63 hbytes hbase
  unfold Oper.wp
  simp [execOp, hop, resolve, invoke, builtin, hs, hx, hrun, Result.andThen]
  exact hK v' w' r1 r2 r3
end Go.Proofs.YtcmfkdhadmfgkaaDoor.Ba

/- Contracts of package block: beside, New, Table. -/
namespace Go.Proofs.YtcmfkdhadmfgkaaDoor.Bk
open Go.RowKit Go.Proofs.YtcmfkdhadmfgkaaDoor.Ba Go.Proofs.YtcmfkdhadmfgkaaDoor.Si Go.Lib
open Go.Proofs.YtcmfkdhadmfgkaaDoor.Fl (C)
open Go.Proofs.YtcmfkdhadmfgkaaDoor.Ax (SixIs six_any sixCells goodB)
open Go.Proofs.YtcmfkdhadmfgkaaDoor.Tb (Tab)

theorem bes_good : ∀ l ∈ [(2 : Int), 3], ∀ h ∈ [(0 : Int), 1], Ce.allG (Ce.besAll l 0 0 h) = true := by decide +kernel
def sixX (k : Nat) : Int := (six0.getD k (0, 0, 0)).1
def sixY (k : Nat) : Int := (six0.getD k (0, 0, 0)).2.1
theorem idx_six (k : Nat) (h : k < 6) (W : World) : (Instr.index 137 (.agg sixCells) (.int .i64 (k : Int))).run Tryd.prog W = .ok (.agg #[.int .i64 (sixX k), .int .i64 (sixY k)]) W := by
  have h6 : k = 0 ∨ k = 1 ∨ k = 2 ∨ k = 3 ∨ k = 4 ∨ k = 5 := by omega
  clear h
  rcases h6 with rfl | rfl | rfl | rfl | rfl | rfl
  all_goals
    refine Eq.trans (b := Result.ok (.agg #[.int .i64 _, .int .i64 _]) W) ?_ rfl
    kernel_rfl
theorem six_take (k : Nat) (h : k < 6) : six0.take (k + 1) = six0.take k ++ [(sixX k, sixY k, 0)] := by
  have h6 : k = 0 ∨ k = 1 ∨ k = 2 ∨ k = 3 ∨ k = 4 ∨ k = 5 := by omega
  clear h
  rcases h6 with rfl | rfl | rfl | rfl | rfl | rfl <;> decide
def BsR6 (w : World) (v i : Value) (wr : World) : Prop := ∃ k : Nat, k ≤ 6 ∧ i = .int .i64 k ∧ wr.ownsRow w.heap.size 72 3 v k (Ce.flat (six0.take k)) ∧ Below w.heap.size w wr
set_option maxRecDepth 100000 in
set_option maxHeartbeats 1000000 in
theorem bbeside_any (l h : Nat) (hl : l = 1 ∨ l = 2 ∨ l = 3) (hh : h < Ce.H l) (w : World) (hs : SixIs w) :
    Calls Tryd.prog 51 #[.int .i64 l, .int .i64 h] w fun e w' => ∃ v, e = .returned (.tuple #[v, .nilIface]) ∧ w'.ownsRow w.heap.size 72 3 v (NB l h).length (Ce.flat (NB l h)) ∧ Below w.heap.size w w' := by
  have h2 := H2 l
  by_cases h1 : l = 1
  · have hb : ((l : Int) == 1) = true := by rw [beq_iff_eq]; omega
    obtain ⟨i0, hi0, hz0, hz1, hz2⟩ := info_parts Ce.cell_info
    have hN : NB (l : Int) h = six0 := by unfold NB; rw [if_pos (by omega)]
    rw [hN]
    have hsx := fun W h => six_any W h
    go_enter Tryd.func51, Tryd.ntmps51
    go_wp2_with fail
    refine (hsx _ hs).mono ?_
    rintro e w1 ⟨rfl, hb1⟩
    go_wp2_with fail
    clear hsx hb
    go_loopw [6, 18] (fun v i wr => BsR6 w v i wr) (fun _ i _ => 6 - (intOf i).toNat)
    case atStart => exact ⟨0, by omega, rfl, World.ownsRow_nil _ _ _ _, hb1⟩
    case round =>
      clear hb1
      obtain ⟨k, hk, rfl, ho, hb⟩ := hrel
      have hBs := hb.size
      by_cases hlt : k < 6
      · have hdb : decide ((k : Int) < 6) = true := by simp; omega
        have hix := idx_six k hlt
        have htk := six_take k hlt
        have HT := Lib.hid (show Ce.flat (six0.take (k + 1)) = Ce.flat (six0.take k) ++ [.int .i64 (sixX k), .int .i64 (sixY k), .int .i64 0] by rw [htk, Ce.flat_app, Ce.flat_one])
        clear htk
        generalize sixX k = x at *
        generalize sixY k = y at *
        generalize Ce.flat (six0.take k) = F at *
        have ho1 := ho.alloc (.cells #[.int .i64 x, .int .i64 y] 70)
        have hb1 : Below w.heap.size w (wr.alloc (.cells #[.int .i64 x, .int .i64 y] 70)) := hb.alloc hBs _
        have hb2 : Below w.heap.size w ((wr.alloc (.cells #[.int .i64 x, .int .i64 y] 70)).alloc (.cells #[.int .i64 x, .int .i64 y, .int .i64 0] 72)) := hb1.alloc hb1.size _
        have hsz1 : (wr.alloc (.cells #[.int .i64 x, .int .i64 y] 70)).heap.size = wr.heap.size + 1 := by simp
        have hnew := Ce.news3 (wr.alloc (.cells #[.int .i64 x, .int .i64 y] 70)) 72 (.int .i64 x) (.int .i64 y) (.int .i64 0)
        rw [hsz1] at hnew
        go_wp2_with (at_builtin; refine wpList_append_own_at _ rfl _ _ 104 rfl w.heap.size 72 i0 _ 3 24 Tryd.underlying104 hi0 hz0 hz1 hz2 rfl (by decide) _ _ _ rfl (ho1.alloc _) ⟨wr.heap.size + 1, 0, none⟩ 1 1 [.int .i64 x, .int .i64 y, .int .i64 0] rfl rfl hnew (by simp [Value.oneCell']) (by simp only [maxLen]; omega) (by omega) (by simp; omega) ?_)
        intro v' w8 ho8 hgr8 _ _
        have hb8 := hb2.grown hgr8 hb2.size (fun g hg => (ho.lt g hg).1)
        clear hb hb1 hb2 ho ho1 hix hnew
        go_wp2_with fail
        exact ⟨⟨k + 1, by omega, by go_num, by rw [HT.out]; exact ho8, hb8⟩, by simp [intOf]; omega⟩
      · obtain rfl : k = 6 := by omega
        go_wp2_with fail
        go_ret2
        exact ⟨_, rfl, ho, hb⟩
  · have hb : ((l : Int) == 1) = false := by rw [beq_eq_false_iff_ne]; omega
    have hN : NB (l : Int) h = Ce.besAll l 0 0 h := by unfold NB; rw [if_neg (by omega)]
    rw [hN]
    have hbs := Ce.beside_any l 0 0 h w (by omega) (by omega) (by unfold Ce.halvesV; unfold Ce.H at h2 hh; rw [if_neg (by omega)] at hh ⊢; omega) (by decide) hs
    have hg := bes_good l (by simp; omega) h (by simp; omega)
    have HG := Lib.hid hg
    clear hg
    go_enter Tryd.func51, Tryd.ntmps51
    go_wp2_with fail
    refine hbs.mono ?_
    rintro e w1 (⟨_, v, rfl, ho, hb1⟩ | ⟨hf, _⟩)
    · clear hbs
      go_wp2_with fail
      go_ret2
      exact ⟨v, rfl, ho, hb1⟩
    · rw [HG.out] at hf
      cases hf
end Go.Proofs.YtcmfkdhadmfgkaaDoor.Bk
