/- Plots in memory; slices.SortFunc at plots. -/
import Derived.Test.YtahlinekbllkaaaGreatDoorTrW2
import Derived.Test.YtahlinekbllkaaaGreatDoorTrSh
import Derived.Shelf.SlSortCmp.NoneTotal
namespace Go.Proofs.YtahlinekbllkaaaGreatDoor.Tr
open Go.RowKit Go.Proofs.YtahlinekbllkaaaGreatDoor.Ba Go.Lib Go.Shelf Go.Sort

/-- A block's plots, one behind the other, none of their cells frozen. -/
structure PlRow (w : World) (G : Nat) (L : List Plot) : Prop where
  cell : ∀ i p, L[i]? = some p → w.cell? ⟨G, i * 3, none⟩ = some (.int .i64 p.1.1) ∧ w.cell? ⟨G, i * 3 + 1, none⟩ = some (.int .i64 p.1.2) ∧ w.cell? ⟨G, i * 3 + 1 + 1, none⟩ = some (.int .u32 p.2)
  frozen : ∀ i, i < L.length * 3 → w.frozen? ⟨G, i, none⟩ = false
  lt : G < w.heap.size
theorem PlRow.same {w w' : World} {G : Nat} {L : List Plot} (h : PlRow w G L) (hs : w'.heap[G]? = w.heap[G]?) : PlRow w' G L := by
  have hc : ∀ o, w'.cell? ⟨G, o, none⟩ = w.cell? ⟨G, o, none⟩ := fun o => World.cell?_of_block (a := ⟨G, o, none⟩) hs
  have hf : ∀ o, w'.frozen? ⟨G, o, none⟩ = w.frozen? ⟨G, o, none⟩ := fun o => by simp [World.frozen?, hs]
  refine ⟨fun i p hp => ?_, fun i hi => by rw [hf]; exact h.frozen i hi, ?_⟩
  · rw [hc, hc, hc]; exact h.cell i p hp
  · rcases Nat.lt_or_ge G w'.heap.size with hlt | hge
    · exact hlt
    · rw [Array.getElem?_eq_none hge] at hs
      rw [Array.getElem?_eq_getElem h.lt] at hs
      cases hs
theorem PlRow.under {w w' : World} {G : Nat} {L : List Plot} (h : PlRow w G L) (hb : Below w.heap.size w w') : PlRow w' G L := h.same (hb.block G h.lt)
def encP (p : Plot) : List Value := [.int .i64 p.1.1, .int .i64 p.1.2, .int .u32 p.2]
theorem pl_holds {w : World} {G : Nat} {A L B : List Plot} (h : PlRow w G (A ++ L ++ B)) : HoldsK encP 3 w G (A.length * 3) L.toArray := by
  intro t ht
  have ht' : t < L.length * 3 := by simpa using ht
  rw [get_flatK encP 3 L.toArray t (by simpa using ht')]
  have hi : t / 3 < L.length := by omega
  have e : L.toArray[t / 3]! = L[t / 3] := by rw [getElem!_pos L.toArray (t / 3) (by simpa using hi)]; simp
  have hg : (A ++ L ++ B)[A.length + t / 3]? = some L[t / 3] := by
    rw [List.append_assoc, List.getElem?_append_right (by omega), List.getElem?_append_left (by omega), Nat.add_sub_cancel_left]
    exact List.getElem?_eq_getElem hi
  refine ⟨?_, h.frozen _ (by simp; omega)⟩
  obtain ⟨h0, h1, h2⟩ := h.cell _ _ hg
  rw [e]
  have h3 : t % 3 = 0 ∨ t % 3 = 1 ∨ t % 3 = 2 := by omega
  rcases h3 with h3 | h3 | h3
  · rw [show (A.length + t / 3) * 3 = A.length * 3 + t by omega] at h0; rw [h3]; exact h0
  · rw [show (A.length + t / 3) * 3 + 1 = A.length * 3 + t by omega] at h1; rw [h3]; exact h1
  · rw [show (A.length + t / 3) * 3 + 1 + 1 = A.length * 3 + t by omega] at h2; rw [h3]; exact h2
theorem holds_at {w : World} {G o i : Nat} {D : Array Plot} {p : Plot} (h : HoldsK encP 3 w G o D) (hp : D[i]? = some p) :
    w.cell? ⟨G, o + i * 3, none⟩ = some (.int .i64 p.1.1) ∧ w.cell? ⟨G, o + (i * 3 + 1), none⟩ = some (.int .i64 p.1.2) ∧ w.cell? ⟨G, o + (i * 3 + 2), none⟩ = some (.int .u32 p.2) := by
  have hi : i < D.size := (Array.getElem?_eq_some_iff.1 hp).1
  have e : ∀ t, t / 3 = i → D[t / 3]! = p := fun t ht => by
    subst ht
    rw [getElem!_pos D (t / 3) hi]
    exact (Array.getElem?_eq_some_iff.1 hp).2
  have key : ∀ t, t < D.size * 3 → w.cell? ⟨G, o + t, none⟩ = some (id (encP D[t / 3]!)[t % 3]!) := fun t ht => by
    have := (h t (by simpa using ht)).1
    rw [get_flatK encP 3 D t ht] at this
    exact this
  have k0 := key (i * 3) (by omega)
  have k1 := key (i * 3 + 1) (by omega)
  have k2 := key (i * 3 + 2) (by omega)
  rw [e _ (by omega)] at k0 k1 k2
  rw [show i * 3 % 3 = 0 by omega] at k0
  rw [show (i * 3 + 1) % 3 = 1 by omega] at k1
  rw [show (i * 3 + 2) % 3 = 2 by omega] at k2
  exact ⟨k0, k1, k2⟩
/-- The sort's worlds: what stays. -/
theorem sortW_block {w : World} {G o m b : Nat} {D : Array Plot} {os : Array Obj} (hb : b < w.heap.size) (hne : b ≠ G) : (sortWorldK encP 3 w G o m D os).heap[b]? = w.heap[b]? := by
  show ((w.heap.modify G _) ++ os)[b]? = w.heap[b]?
  rw [Array.getElem?_append, if_pos (by simpa using hb), Array.getElem?_modify, if_neg (fun e => hne e.symm)]
theorem sortW_cell {w : World} {G o m : Nat} {D : Array Plot} {os : Array Obj} (hG : G < w.heap.size) {i : Nat} (hi : i < o ∨ o + D.size * 3 ≤ i) : (sortWorldK encP 3 w G o m D os).cell? ⟨G, i, none⟩ = w.cell? ⟨G, i, none⟩ := by
  have h1 := cell?_putRow_other id (Sort.ahead w m) G o (flatK encP 3 D) ⟨G, i, none⟩ (by rw [size_flatK]; exact .inr hi)
  have h2 : (sortWorldK encP 3 w G o m D os).cell? ⟨G, i, none⟩ = (putRow id (Sort.ahead w m) G o (flatK encP 3 D)).cell? ⟨G, i, none⟩ := by
    refine World.cell?_of_block (a := ⟨G, i, none⟩) ?_
    show ((putRow id (Sort.ahead w m) G o (flatK encP 3 D)).heap ++ os)[G]? = _
    rw [Array.getElem?_append, if_pos (by rw [size_putRow]; exact hG)]
  rw [h2, h1]
  rfl
theorem sortW_frozen {w : World} {G o m : Nat} {D : Array Plot} {os : Array Obj} (hG : G < w.heap.size) {i : Nat} : (sortWorldK encP 3 w G o m D os).frozen? ⟨G, i, none⟩ = w.frozen? ⟨G, i, none⟩ := by
  have h2 : (sortWorldK encP 3 w G o m D os).frozen? ⟨G, i, none⟩ = (putRow id (Sort.ahead w m) G o (flatK encP 3 D)).frozen? ⟨G, i, none⟩ := by
    have : (sortWorldK encP 3 w G o m D os).heap[G]? = (putRow id (Sort.ahead w m) G o (flatK encP 3 D)).heap[G]? := by
      show ((putRow id (Sort.ahead w m) G o (flatK encP 3 D)).heap ++ os)[G]? = _
      rw [Array.getElem?_append, if_pos (by rw [size_putRow]; exact hG)]
    simp [World.frozen?, this]
  rw [h2, frozen?_putRow]
  rfl
theorem sortW_row {w : World} {G m : Nat} {A L B : List Plot} {D : Array Plot} {os : Array Obj} (h : PlRow w G (A ++ L ++ B)) (hs : D.size = L.length) : PlRow (sortWorldK encP 3 w G (A.length * 3) m D os) G (A ++ D.toList ++ B) := by
  have hH := holdsK_sortWorldK_c encP 3 w G (A.length * 3) L.toArray D m os (pl_holds h) h.lt (by simpa using hs)
  have hDl : D.toList.length = L.length := by simpa using hs
  refine ⟨fun i p hp => ?_, fun i hi => ?_, Nat.lt_of_lt_of_le h.lt (size_sortWorldK_c encP 3 w G (A.length * 3) m D os)⟩
  · by_cases h1 : i < A.length
    · have hp' : (A ++ L ++ B)[i]? = some p := by
        rw [List.append_assoc, List.getElem?_append_left h1] at hp ⊢
        exact hp
      rw [sortW_cell h.lt (.inl (by omega)), sortW_cell h.lt (.inl (by omega)), sortW_cell h.lt (.inl (by omega))]
      exact h.cell i p hp'
    · by_cases h2 : i < A.length + L.length
      · have hd : D[i - A.length]? = some p := by
          rw [List.append_assoc, List.getElem?_append_right (by omega), List.getElem?_append_left (by rw [hDl]; omega)] at hp
          simpa using hp
        obtain ⟨k0, k1, k2⟩ := holds_at hH hd
        rw [show A.length * 3 + (i - A.length) * 3 = i * 3 by omega] at k0
        rw [show A.length * 3 + ((i - A.length) * 3 + 1) = i * 3 + 1 by omega] at k1
        rw [show A.length * 3 + ((i - A.length) * 3 + 2) = i * 3 + 1 + 1 by omega] at k2
        exact ⟨k0, k1, k2⟩
      · have hp' : (A ++ L ++ B)[i]? = some p := by
          rw [List.append_assoc, List.getElem?_append_right (by omega), List.getElem?_append_right (by rw [hDl]; omega)] at hp
          rw [List.append_assoc, List.getElem?_append_right (by omega), List.getElem?_append_right (by omega), ← hDl]
          exact hp
        rw [sortW_cell h.lt (.inr (by omega)), sortW_cell h.lt (.inr (by omega)), sortW_cell h.lt (.inr (by omega))]
        exact h.cell i p hp'
  · rw [sortW_frozen h.lt]
    refine h.frozen i ?_
    simp only [List.length_append, hDl] at hi ⊢
    exact hi
theorem ltOf_cfP (d : Nat) (x y : Int) (p r : Plot) : ltOf (cfP d x y) p r = decide (twd d x y p.1 < twd d x y r.1) := by
  unfold ltOf cfP cmpV
  rw [Bool.eq_iff_iff]
  simp only [decide_eq_true_eq]
  split
  · simp; omega
  · split <;> simp <;> omega
theorem swoP (d : Nat) (x y : Int) : SWO (ltOf (cfP d x y)) where
  irrefl p := by rw [ltOf_cfP]; simp
  trans p q r h1 h2 := by rw [ltOf_cfP, decide_eq_true_eq] at *; omega
  ntrans p q r h1 h2 := by rw [ltOf_cfP, decide_eq_false_iff_not] at *; omega
/-- In the order of the kids that have them. -/
def SortedP (d : Nat) (x y : Int) (L : List Plot) : Prop := L.Pairwise fun p r => twd d x y p.1 ≤ twd d x y r.1
theorem sortP_any (d : Nat) (x y : Int) (G cap P : Nat) (A L B : List Plot) (w : World) (h : SqOk (d + 1) x y) (hr : PlRow w G (A ++ L ++ B)) (kq : Blk w P 81 #[.int .i64 x, .int .i64 y, .int .i64 ((d : Int) + 3)]) (hne : P ≠ G) (hL : L.length ≤ 1000000) :
    Calls Tryz.prog 89 #[.slice (some ⟨G, A.length * 3, none⟩) L.length cap, .func (.func 90) #[] #[.pointer (some ⟨P, 0, none⟩)]] w fun e w' => e = .returned (.tuple #[]) ∧
      ∃ L' : List Plot, L'.Perm L ∧ SortedP d x y L' ∧ PlRow w' G (A ++ L' ++ B) ∧ w.grownBy w' (some G) := by
  have eg : ∀ args w, (callFunc 90 args).run Tryz.prog w = .ok (.enter 90 args) w := enters_of Tryz.func90 (by kernel_rfl) rfl
  have hcmp : CmpLays Tryz.prog 90 #[.pointer (some ⟨P, 0, none⟩)] encP 3 (cfP d x y) G (A.length * 3) L.toArray.size w := fun m os dk _ p r =>
    (parted1_any d x y p r P _ h ((sortW_block kq.lt hne).trans kq)).mono fun _ _ ⟨he, hg⟩ => ⟨he, hg.grow⟩
  have hcon := AnyQ.slices_SortFunc Tryz.layPlots 3 Tryz.isAgg139 Tryz.sizeOf139 encP (fun _ => rfl) (fun p v hv => by simp [encP] at hv; rcases hv with rfl | rfl | rfl <;> rfl) (cfP d x y) (swoP d x y) 90 #[.pointer (some ⟨P, 0, none⟩)] G (A.length * 3) cap L.toArray w eg hcmp (pl_holds hr) hr.lt (by simp; omega)
  change Calls Tryz.prog 89 _ _ _ at hcon
  rw [show L.toArray.size = L.length by simp] at hcon
  refine hcon.mono ?_
  rintro e w' ⟨rfl, D, n, os, hp, hs, rfl⟩
  have hsz : D.size = L.length := by simpa using hp.1
  refine ⟨rfl, D.toList, ?_, ?_, sortW_row hr hsz, rfl, rfl, rfl, size_sortWorldK_c encP 3 w G (A.length * 3) n D os, fun i hi hne => sortW_block hi (fun e => hne (by rw [e]))⟩
  · have := hp.2.2
    rw [show D.extract 0 L.length = D by rw [← hsz]; simp, show L.toArray.extract 0 L.length = L.toArray by simp] at this
    simpa using this
  · unfold SortedP
    rw [List.pairwise_iff_getElem]
    intro i j hi hj hij
    have hi' : i < D.size := by simpa using hi
    have hj' : j < D.size := by simpa using hj
    have h1 := hs i j (Nat.zero_le _) hij (by omega)
    rw [ltOf_cfP, getElem!_pos D j hj', getElem!_pos D i hi', decide_eq_false_iff_not] at h1
    simp only [Array.getElem_toList]
    omega
end Go.Proofs.YtahlinekbllkaaaGreatDoor.Tr
