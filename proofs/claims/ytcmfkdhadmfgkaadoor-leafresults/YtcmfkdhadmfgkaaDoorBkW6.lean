/- Contracts of package block: neighbourhoods, next: a kernel in memory. -/
import Derived.Test.YtcmfkdhadmfgkaaDoorBkW4
import Derived.Test.YtcmfkdhadmfgkaaDoorBkW5
namespace Go.Proofs.YtcmfkdhadmfgkaaDoor.Bk
open Go.RowKit Go.Proofs.YtcmfkdhadmfgkaaDoor.Ba Go.Proofs.YtcmfkdhadmfgkaaDoor.Si Go.Lib
open Go.Proofs.YtcmfkdhadmfgkaaDoor.Fl (C)

/-- Neighbours in memory, in a block below B. -/
def NbAt (w : World) (B : Nat) (v : Value) (L : List C) : Prop :=
  ∃ X cap, v = .slice (some ⟨X, 0, none⟩) L.length cap ∧ X < B ∧ B ≤ w.heap.size ∧ ∀ (i : Nat) (e : C), L[i]? = some e → w.cell? ⟨X, i * 3, none⟩ = some (.int .i64 e.2.2) ∧ w.cell? ⟨X, i * 3 + 1, none⟩ = some (.int .i64 (awayI e.1 e.2.1)) ∧ w.cell? ⟨X, i * 3 + 2, none⟩ = some (.int .u64 (maskT e.1 64))
theorem NbAt.same {w w' : World} {B : Nat} {v : Value} {L : List C} (h : NbAt w B v L) (hs : w.heap.size ≤ w'.heap.size) (hb : ∀ k, k < B → w'.heap[k]? = w.heap[k]?) : NbAt w' B v L := by
  obtain ⟨X, cap, rfl, hX, hB, hc⟩ := h
  refine ⟨X, cap, rfl, hX, Nat.le_trans hB hs, fun i e he => ?_⟩
  obtain ⟨h0, h1, h2⟩ := hc i e he
  exact ⟨(World.cell?_of_block (hb X hX)).trans h0, (World.cell?_of_block (hb X hX)).trans h1, (World.cell?_of_block (hb X hX)).trans h2⟩
theorem NbAt.up {w : World} {B B' : Nat} {v : Value} {L : List C} (h : NbAt w B v L) (hB : B ≤ B') (hs : B' ≤ w.heap.size) : NbAt w B' v L := by
  obtain ⟨X, cap, e, hX, _, hc⟩ := h
  exact ⟨X, cap, e, Nat.lt_of_lt_of_le hX hB, hs, hc⟩
/-- The seven cells of a kernel at the beginning of a block, whatever stands behind them. -/
def KerC (w : World) (g : Nat) (cs : Array Value) : Prop := ∀ i : Nat, i < 7 → w.cell? ⟨g, i, none⟩ = cs[i]?
theorem KerC.cell {w : World} {g : Nat} {cs : Array Value} (h : KerC w g cs) (i : Nat) (hi : i < 7 := by decide) : w.cell? ⟨g, i, none⟩ = cs[i]? := h i hi
/-- A kernel in memory, all its blocks below B. -/
def KerAt (w : World) (B g : Nat) (l b0 b1 s0 s1 : Nat) : Prop :=
  g < B ∧ ∃ v0 v1, KerC w g #[.int .i64 l, .int .u64 b0, .int .u64 b1, .int .u64 s0, .int .u64 s1, v0, v1] ∧ NbAt w B v0 (NB l 0) ∧ (l ≠ 1 → NbAt w B v1 (NB l 1))
theorem KerAt.same {w w' : World} {B g l b0 b1 s0 s1 : Nat} (h : KerAt w B g l b0 b1 s0 s1) (hs : w.heap.size ≤ w'.heap.size) (hb : ∀ k, k < B → w'.heap[k]? = w.heap[k]?) : KerAt w' B g l b0 b1 s0 s1 := by
  obtain ⟨hg, v0, v1, k, n0, n1⟩ := h
  exact ⟨hg, v0, v1, fun i hi => (World.cell?_of_block (hb g hg)).trans (k i hi), n0.same hs hb, fun hl => (n1 hl).same hs hb⟩
theorem KerAt.up {w : World} {B B' g l b0 b1 s0 s1 : Nat} (h : KerAt w B g l b0 b1 s0 s1) (hB : B ≤ B') (hs : B' ≤ w.heap.size) : KerAt w B' g l b0 b1 s0 s1 := by
  obtain ⟨hg, v0, v1, k, n0, n1⟩ := h
  exact ⟨Nat.lt_of_lt_of_le hg hB, v0, v1, k, n0.up hB hs, fun hl => (n1 hl).up hB hs⟩
theorem KerAt.low {w : World} {B g l b0 b1 s0 s1 : Nat} (h : KerAt w B g l b0 b1 s0 s1) : B ≤ w.heap.size := by
  obtain ⟨_, _, _, _, ⟨_, _, _, _, hB, _⟩, _⟩ := h
  exact hB
theorem KerAt.below {w w' : World} {B g l b0 b1 s0 s1 : Nat} (h : KerAt w B g l b0 b1 s0 s1) (hb : Below B w w') : KerAt w' B g l b0 b1 s0 s1 := h.same hb.size (fun k hk => hb.block k hk)
theorem KerAt.under {w w' : World} {B g l b0 b1 s0 s1 : Nat} (h : KerAt w B g l b0 b1 s0 s1) (hb : Below w.heap.size w w') : KerAt w' B g l b0 b1 s0 s1 := h.same hb.size (fun k hk => hb.block k (Nat.lt_of_lt_of_le hk h.low))
/-- A kernel's blocks stand from A on. -/
structure KerHi (w : World) (A g : Nat) : Prop where
  le : A ≤ g
  hi : ∀ (i : Nat) (v : Value) (b : Nat), i = 5 ∨ i = 6 → w.cell? ⟨g, i, none⟩ = some v → v.ownBlock = some b → A ≤ b
theorem NbAt.move {w w2 : World} {B A : Nat} {v : Value} {L : List C} (h : NbAt w B v L) (ha : ∀ b, v.ownBlock = some b → A ≤ b) (hs : w.heap.size ≤ w2.heap.size) (hb : ∀ b, A ≤ b → b < w.heap.size → w2.heap[b]? = w.heap[b]?) : NbAt w2 B v L := by
  obtain ⟨X, cap, rfl, hX, hB, hc⟩ := h
  have hX2 := hb X (ha X rfl) (by omega)
  refine ⟨X, cap, rfl, hX, Nat.le_trans hB hs, fun i e he => ?_⟩
  obtain ⟨h0, h1, h2⟩ := hc i e he
  exact ⟨(World.cell?_of_block hX2).trans h0, (World.cell?_of_block hX2).trans h1, (World.cell?_of_block hX2).trans h2⟩
theorem KerAt.move {w w2 : World} {B A g l b0 b1 s0 s1 : Nat} (h : KerAt w B g l b0 b1 s0 s1) (k : KerHi w A g) (hs : w.heap.size ≤ w2.heap.size) (hb : ∀ b, A ≤ b → b < w.heap.size → w2.heap[b]? = w.heap[b]?) : KerAt w2 B g l b0 b1 s0 s1 := by
  have hlow := h.low
  obtain ⟨hg, v0, v1, c, n0, n1⟩ := h
  have hgb := hb g k.le (by omega)
  exact ⟨hg, v0, v1, fun i hi => (World.cell?_of_block hgb).trans (c i hi), n0.move (fun b e => k.hi 5 v0 b (.inl rfl) (c.cell 5) e) hs hb, fun hl => (n1 hl).move (fun b e => k.hi 6 v1 b (.inr rfl) (c.cell 6) e) hs hb⟩
theorem H2 (l : Int) : Ce.H l ≤ 2 := by unfold Ce.H; split <;> omega
theorem KerAt.slice {w : World} {B g l b0 b1 s0 s1 h : Nat} (k : KerAt w B g l b0 b1 s0 s1) (hh : h < Ce.H l) : ∃ v, w.cell? ⟨g, 5 + h, none⟩ = some v ∧ NbAt w B v (NB l h) := by
  obtain ⟨_, v0, v1, kb, n0, n1⟩ := k
  have h2 := H2 l
  have hh2 : h = 0 ∨ h = 1 := by omega
  rcases hh2 with rfl | rfl
  · exact ⟨v0, (kb.cell 5), n0⟩
  · refine ⟨v1, (kb.cell 6), n1 fun e => ?_⟩
    unfold Ce.H at hh
    rw [if_pos (by omega)] at hh
    omega
theorem NB_in {l h : Nat} (hl : l = 1 ∨ l = 2 ∨ l = 3) (hh : h < Ce.H l) : (∀ e ∈ NB l h, (-1 ≤ e.1 ∧ e.1 ≤ 1) ∧ (-1 ≤ e.2.1 ∧ e.2.1 ≤ 1) ∧ (0 ≤ e.2.2 ∧ e.2.2 < 2)) ∧ (NB l h).length ≤ 12 ∧ (l = 1 → (NB l h).length = 6) := by
  have key : ∀ l ∈ [(1 : Int), 2, 3], ∀ h ∈ [(0 : Int), 1], (∀ e ∈ NB l h, (-1 ≤ e.1 ∧ e.1 ≤ 1) ∧ (-1 ≤ e.2.1 ∧ e.2.1 ≤ 1) ∧ (0 ≤ e.2.2 ∧ e.2.2 < 2)) ∧ (NB l h).length ≤ 12 ∧ (l = 1 → (NB l h).length = 6) := by decide +kernel
  have h2 := H2 l
  have := key l (by simp; omega) h (by simp; omega)
  exact ⟨this.1, this.2.1, fun e => this.2.2 (by omega)⟩
/-- The digits behind so many neighbours. -/
def dgT (l h : Nat) (x : Nat → Nat) (k : Nat) : List Nat := dgs l x ((NB l h).take k).reverse
theorem dgT_succ {l h : Nat} {x : Nat → Nat} {k : Nat} {e : C} (he : (NB l h)[k]? = some e) : dgT l h x (k + 1) = if l = 1 then dgT l h x k ++ [nbP x e] else addL (dgT l h x k) (nbP x e) := by
  unfold dgT
  rw [List.take_add_one, he]
  simp only [Option.toList_some, List.reverse_append, List.reverse_cons, List.reverse_nil, List.nil_append, List.cons_append]
  by_cases h1 : l = 1
  · subst h1
    simp [dgs]
  · have : ¬ (l : Int) = 1 := by omega
    simp [dgs, h1, this]
theorem dgT_lt (l h : Nat) (x : Nat → Nat) (k : Nat) : ∀ d ∈ dgT l h x k, d < 2 ^ 64 := dgs_lt _ _ _
theorem dgT_room {l h : Nat} (hl : l = 1 ∨ l = 2 ∨ l = 3) (hh : h < Ce.H l) (x : Nat → Nat) {k : Nat} (hk : k < (NB l h).length) : (dgT l h x k).length ≤ 5 := by
  obtain ⟨h1, h2, h3⟩ := NB_in hl hh
  unfold dgT
  by_cases e : l = 1
  · subst e
    have := dgs_len_hex x ((NB (1 : Nat) h).take k).reverse
    have h6 := h3 rfl
    rw [List.length_reverse, List.length_take] at this
    show (dgs 1 x _).length ≤ 5
    omega
  · have := dgs_len (l := l) (by omega) x ((NB l h).take k).reverse (fun e he => by
      rw [List.mem_reverse] at he
      exact (h1 e (List.mem_of_mem_take he)).2.2.1) (by rw [List.length_reverse, List.length_take]; omega)
    omega
def NhR (W0 : World) (l h G Bx : Nat) (x : Nat → Nat) (dv i : Value) (wr : World) : Prop :=
  ∃ k : Nat, k ≤ (NB l h).length ∧ i = .int .i64 k ∧ dv = .slice (some ⟨G, 0, none⟩) (dgT l h x k).length 6 ∧ RmAt wr G (dgT l h x k) ∧ Blk wr Bx 114 (plA (plN x)) ∧ W0.grownBy wr (some G)
theorem grown_below {W0 wr w1 : World} {row : Option Nat} (h : W0.grownBy wr row) (hb : Below wr.heap.size wr w1) : W0.grownBy w1 row :=
  ⟨hb.os.trans h.os, hb.tape.trans h.tape, hb.output.trans h.output, Nat.le_trans h.size hb.size, fun k hk hne => (hb.block k (Nat.lt_of_lt_of_le hk h.size)).trans (h.block k hk hne)⟩
theorem grown_trans {W0 wr w1 : World} {row : Option Nat} (h : W0.grownBy wr row) (k : wr.grownBy w1 row) : W0.grownBy w1 row :=
  ⟨k.os.trans h.os, k.tape.trans h.tape, k.output.trans h.output, Nat.le_trans h.size k.size, fun b hb hne => (k.block b (Nat.lt_of_lt_of_le hb h.size) hne).trans (h.block b hb hne)⟩
theorem grown_set {W0 wr : World} {G i : Nat} {v : Value} (h : W0.grownBy wr (some G)) : W0.grownBy (wr.setCell ⟨G, i, none⟩ v) (some G) :=
  ⟨h.os, h.tape, h.output, by simpa using h.size, fun b hb hne => (Below.heap_setCell wr ⟨G, i, none⟩ _ b (fun e => hne (by rw [e]))).trans (h.block b hb hne)⟩
theorem grown_alloc {W0 wr : World} {row : Option Nat} (h : W0.grownBy wr row) (o : Obj) : W0.grownBy (wr.alloc o) row := grown_below h (by go_grown)
set_option maxRecDepth 100000 in
set_option maxHeartbeats 2000000 in
theorem neigh_any (B g l b0 b1 s0 s1 h G : Nat) (hl : l = 1 ∨ l = 2 ∨ l = 3) (hh : h < Ce.H l) (x : Nat → Nat) (w : World) (hK : KerAt w B g l b0 b1 s0 s1) (hG : B ≤ G) (hR : RmAt w G []) :
    Calls Tryd.prog 76 #[.pointer (some ⟨g, 0, none⟩), .agg (plA (plN x)), .int .i64 h, .slice (some ⟨G, 0, none⟩) 0 6] w fun e w' => e = .returned (.slice (some ⟨G, 0, none⟩) (dgT l h x (NB l h).length).length 6) ∧ RmAt w' G (dgT l h x (NB l h).length) ∧ w.grownBy w' (some G) := by
  obtain ⟨hin, hlen, h6⟩ := NB_in hl hh
  have hGl := hR.lt
  have hb0 : Below w.heap.size w (w.alloc (.cells (plA (plN x)) 114)) := by go_grown
  have hw0 : w.grownBy (w.alloc (.cells (plA (plN x)) 114)) (some G) := grown_alloc ⟨rfl, rfl, rfl, Nat.le_refl _, fun _ _ _ => rfl⟩ _
  have hR0 := hR.under hb0
  have hK0 := hK.under hb0
  have kp0 := Blk.newAt w 114 (plA (plN x)) _ rfl
  obtain ⟨v, hv, X, cap, rfl, hX, hXB, hcs⟩ := hK0.slice hh
  have hg := hK.1
  have hll : l ≤ 3 := by omega
  have hh2 : (h : Int) < 2 := by have := H2 l; omega
  have HC := Lib.hid hcs
  have HI := Lib.hid hin
  obtain ⟨n, hn⟩ : ∃ n, (NB l h).length = n := ⟨_, rfl⟩
  rw [hn] at hv hlen h6 ⊢
  have hgl0 : g < (w.alloc (.cells (plA (plN x)) 114)).heap.size := by simp; omega
  have hlc := (show (w.alloc (.cells (plA (plN x)) 114)).cell? ⟨g, 0, none⟩ = some (.int .i64 l) from by obtain ⟨_, _, _, k, _⟩ := hK0; exact k.cell 0)
  clear hcs hin hK hR hb0 h6
  go_enter Tryd.func76, Tryd.ntmps76
  go_upto_region 1 with fail
  generalize w.alloc (.cells (plA (plN x)) 114) = W0 at *
  go_wp2_with fail
  go_loopw [3, 19] (fun dv i wr => NhR W0 l h G w.heap.size x dv i wr) (fun _ i _ => 12 - (intOf i).toNat)
  case atStart => exact ⟨0, Nat.zero_le _, rfl, rfl, hR0, kp0, ⟨rfl, rfl, rfl, Nat.le_refl _, fun _ _ _ => rfl⟩⟩
  case round =>
    clear hR0 kp0
    obtain ⟨k, hk, rfl, rfl, hR, kp, hgr⟩ := hrel
    rw [hn] at hk
    by_cases hlt : k < n
    · obtain ⟨⟨A, Bb, eh⟩, he⟩ : ∃ e, (NB l h)[k]? = some e := ⟨_, List.getElem?_eq_getElem (by omega)⟩
      obtain ⟨hA, hBb, hu0, hu2⟩ := HI.out _ (List.mem_of_getElem? he)
      obtain ⟨u, hu⟩ : ∃ u : Nat, eh = (u : Int) := ⟨eh.toNat, by dsimp only at hu0; omega⟩
      subst hu
      have hu2' : u < 2 := by dsimp only at hu2; omega
      obtain ⟨c0, c1, c2⟩ := HC.out k _ he
      have hXG : ∀ o, some (⟨X, o, none⟩ : Addr).block ≠ some G := fun o e => by injection e with e; dsimp only at e; omega
      have c0 := hgr.cell c0 (hXG _)
      have c1 := hgr.cell c1 (hXG _)
      have c2 := hgr.cell c2 (hXG _)
      have hXl : X < wr.heap.size := by have := hgr.size; omega
      have p0 := (kp.cell 0).trans (plA_get (plN x) 0 (by decide))
      have p1 := (kp.cell 1).trans (plA_get (plN x) 1 (by decide))
      have hpl := kp.lt
      have hds := dgT_succ (x := x) he
      have hnb : nbP x (A, Bb, (u : Int)) = ofN (plN x u) A Bb := rfl
      rw [hnb] at hds
      have hrm := dgT_room hl hh x (k := k) (by omega)
      have hdl := dgT_lt l h x k
      have hof := fun W => nbof_any (plN x) (fun h _ => plN_lt x h) A Bb u hA hBb hu2' W
      unfold nbrA at hof
      have hol := ofN_lt (plN x u) A Bb
      dsimp only at c0 c1 c2
      generalize ofN (plN x u) A Bb = oo at *
      generalize maskT A 64 = mm at *
      generalize awayI A Bb = aw at *
      generalize dgT l h x k = D at *
      have HD := Lib.hid hds
      clear hds hnb hA hBb hu0 hu2
      go_wp2_with fail
      refine (hof _).mono ?_
      rintro e w1 ⟨rfl, hb1⟩
      have hb1 : Below wr.heap.size wr w1 := below_call hb1 (by go_grown) (by go_size)
      have hR1 := hR.under hb1
      have kp1 := kp.under hb1
      have hgr1 := grown_below hgr hb1
      have hl1 : w1.cell? ⟨g, 0, none⟩ = some (.int .i64 l) := hgr1.cell hlc (fun e => by injection e with e; dsimp only at e; omega)
      have hg1 : g < w1.heap.size := by have := hgr1.size; omega
      have hG1 := hR1.lt
      have hpl1 := kp1.lt
      have hGp : G ≠ w.heap.size := by omega
      clear hof c0 c1 c2 hXl p0 p1 hpl hR kp hgr hb1
      by_cases h1 : l = 1
      · have hle : ((l : Int) == 1) = true := by rw [beq_iff_eq]; omega
        have hD := HD.out
        rw [if_pos h1] at hD
        have HD := Lib.hid hD
        have hR' := hR1.under (w' := w1.alloc (.cells #[.int .u64 oo] 107)) (by go_grown)
        have hvl : (w1.alloc (.cells #[.int .u64 oo] 107)).cell? ⟨w1.heap.size, 0, none⟩ = some (.int .u64 oo) := (Blk.newAt w1 _ _ _ rfl).cell 0
        have hsn := (hR1.snoc (by omega) oo).under (w' := (w1.setCell ⟨G, D.length, none⟩ (.int .u64 oo)).alloc (.cells #[.int .u64 oo] 107)) (by go_grown)
        have hgr2 := grown_alloc (grown_set (i := D.length) (v := .int .u64 oo) hgr1) (.cells #[.int .u64 oo] 107)
        have kp2 := (kp1.far (p := ⟨G, D.length, none⟩) (by show w.heap.size ≠ G; omega) (.int .u64 oo)).alloc (.cells #[.int .u64 oo] 107)
        have HS := Lib.hid hsn
        have HG := Lib.hid hgr2
        have HK := Lib.hid kp2
        clear hD hsn hgr2 kp2 hgr1 kp1
        go_wp2_with (at_builtin; refine wpList_append_rm rfl _ _ rfl G D.length w1.heap.size D rfl (by omega) hR' oo rfl rfl hvl ?_)
        clear hR' hvl hR1 hl1
        go_wp2_with fail
        exact ⟨⟨k + 1, by omega, by go_num, by rw [HD.out, List.length_append]; rfl, by rw [HD.out]; exact HS.out, HK.out, HG.out⟩, by simp [intOf]; omega⟩
      · have hle : ((l : Int) == 1) = false := by rw [beq_eq_false_iff_ne]; omega
        have hD := HD.out
        rw [if_neg h1] at hD
        have HD := Lib.hid hD
        have had := add_any D oo G w1 hol hdl hR1 (fun _ => hrm)
        clear hD hR1
        go_wp2_with fail
        refine had.mono ?_
        rintro e w2 ⟨rfl, hR2, hgr2⟩
        have kp2 := kp1.grown hgr2 (fun e => by injection e with e; omega)
        have hgr3 := grown_trans hgr1 hgr2
        clear had hl1 hgr1 kp1 hgr2
        go_wp2_with fail
        exact ⟨⟨k + 1, by omega, by go_num, by rw [HD.out], by rw [HD.out]; exact hR2, kp2, hgr3⟩, by simp [intOf]; omega⟩
    · obtain rfl : k = n := by omega
      have hgr0 : w.grownBy wr (some G) := grown_trans hw0 hgr
      clear hgr kp
      go_wp2_with fail
      go_ret
      exact ⟨rfl, hR, hgr0⟩
end Go.Proofs.YtcmfkdhadmfgkaaDoor.Bk
