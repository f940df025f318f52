/- The contract of table.Classes; answers that the document fixes. -/
import Derived.Test.YtlblfnmmmkfodaaDoorTbW2
import Derived.Lib.OthersKept
namespace Go.Proofs.YtlblfnmmmkfodaaDoor.Tb
open Go.RowKit Go.Proofs.YtlblfnmmmkfodaaDoor.Ba

def flatC (l : List (Nat × Nat)) : List Value := l.flatMap fun d => [.int .i64 d.1, .int .u8 d.2]
def nC : Nat → Nat
  | 0 => 0 | 1 => 1 | 2 => 2 | 3 => 5 | 4 => 8 | 5 => 11 | 6 => 12 | _ => 13
abbrev omp : ByteArray := ⟨#[111, 109, 112]⟩
theorem news2 (w : World) (t : TypeId) (x y : Value) : ∀ j u, [x, y][j]? = some u → (w.alloc (.cells #[x, y] t)).cell? ((⟨w.heap.size, 0, none⟩ : Addr).add j) = some u := by
  intro j u hu
  have hj : j < 2 := by have := (List.getElem?_eq_some_iff.1 hu).1; simpa using this
  have : j = 0 ∨ j = 1 := by omega
  rcases this with rfl | rfl <;> simp at hu <;> subst hu <;> simp [Addr.add, go_sem]
theorem cl_info : (Tryd.prog.info? 45).map (fun i => (i.zero, i.size, i.bytes)) = some (some (.agg #[.int .i64 0, .int .u8 0]), 2, 16) := by kernel_rfl
theorem own_iter {w : World} {B e size n : Nat} {v : Value} {xs : List Value} {k : Nat} {s : ByteArray} {pos : Nat} (h : w.ownsRow B e size v n xs) (hk : w.heap[k]? = some (.stringIter s pos)) (pos' : Nat) : (w.iterAt k s pos').ownsRow B e size v n xs := by
  refine ⟨h.1, ?_⟩
  rcases h.2 with h0 | ⟨g, cap, cur, hv, hb, hg, rest⟩
  · exact .inl h0
  · refine .inr ⟨g, cap, cur, hv, hb, ?_, rest⟩
    rw [Lib.iterAt_other _ _ _ _ _ (fun e => by subst e; rw [hk] at hg; cases hg)]
    exact hg
theorem own_no_iter {w : World} {B e size n : Nat} {v : Value} {xs : List Value} {k : Nat} {s : ByteArray} {pos : Nat} (h : w.ownsRow B e size v n xs) (hk : w.heap[k]? = some (.stringIter s pos)) : some k ≠ v.ownBlock := by
  rcases h.2 with ⟨rfl, _⟩ | ⟨g, cap, cur, rfl, hb, hg, rest⟩
  · simp [Value.ownBlock]
  · intro e
    simp only [Value.ownBlock, Option.some.injEq] at e
    subst e
    rw [hk] at hg
    cases hg
def CoRel (w : World) (v i : Value) (wr : World) : Prop :=
  ∃ k : Nat, k ≤ 7 ∧ i = .int .i64 k ∧ wr.ownsRow w.heap.size 45 2 v (cls.take (nC k)).length (flatC (cls.take (nC k))) ∧ Below w.heap.size w wr
def CiRel (w : World) (IT k gf : Nat) (v : Value) (wr : World) : Prop :=
  ∃ p : Nat, p + gf = 3 ∧ wr.ownsRow w.heap.size 45 2 v (cls.take (nC k + p)).length (flatC (cls.take (nC k + p))) ∧ Below w.heap.size w wr ∧ wr.heap[IT]? = some (.stringIter omp p) ∧ w.heap.size ≤ IT
theorem cls_snoc : ∀ k, k < 13 → flatC (cls.take k) ++ [.int .i64 (cls.getD k (0, 0)).1, .int .u8 (cls.getD k (0, 0)).2] = flatC (cls.take (k + 1)) := by
  intro k hk
  have : k = 0 ∨ k = 1 ∨ k = 2 ∨ k = 3 ∨ k = 4 ∨ k = 5 ∨ k = 6 ∨ k = 7 ∨ k = 8 ∨ k = 9 ∨ k = 10 ∨ k = 11 ∨ k = 12 := by omega
  rcases this with rfl | rfl | rfl | rfl | rfl | rfl | rfl | rfl | rfl | rfl | rfl | rfl | rfl <;> rfl
def ClsPost (w : World) (e : Ending) (w' : World) : Prop :=
  ∃ v, e = .returned v ∧ w'.ownsRow w.heap.size 45 2 v 13 (flatC cls) ∧ Below w.heap.size w w'
set_option maxHeartbeats 4000000 in
theorem classes_any (w : World) : Calls Tryd.prog 14 #[] w (ClsPost w) := by
  obtain ⟨i0, hi0, hz0, hz1, hz2⟩ := info_parts cl_info
  go_enter Tryd.func14, Tryd.ntmps14
  go_wp2_with fail
  go_loopw [1, 5] (fun v i wr => CoRel w v i wr) (fun _ i _ => 7 - (intOf i).toNat)
  case atStart => exact ⟨0, by omega, rfl, World.ownsRow_nil _ _ _ _, Below.refl _ _⟩
  case round =>
    obtain ⟨k, hk, rfl, hown, hb0⟩ := hrel
    have hz := hb0.size
    have hk8 : (k = 0 ∨ k = 1 ∨ k = 5 ∨ k = 6) ∨ (k = 2 ∨ k = 3 ∨ k = 4) ∨ k = 7 := by omega
    rcases hk8 with h | h | rfl
    · rcases h with rfl | rfl | rfl | rfl
      · go_wp2_with (at_builtin; refine wpList_append_own _ rfl (.tmp 14) (.tmp 17) _ rfl w.heap.size 45 i0 _ 2 16 Tryd.underlying47 hi0 hz0 hz1 hz2 rfl (by omega) _ _ _ rfl (hown.alloc _) ⟨wr.heap.size, 0, none⟩ 1 1 [.int .i64 0, .int .u8 0] rfl rfl (news2 _ _ _ _) (by simp [Value.oneCell']) (by simp only [maxLen]; simp [cls, nC]) (by simp [cls, nC]) (by simp; omega) ?_; intro v' w8 hown8 hgr8 _)
        go_roundw
        case rel =>
          have hx8 : Below w.heap.size w (wr.alloc (.cells #[.int .i64 0, .int .u8 0] 45)) := by go_grown
          exact ⟨1, by omega, by go_num, hown8, hx8.grown hgr8 hx8.size (fun g hg => (hown.lt g hg).1)⟩
        case measure => simp [intOf]
      · go_wp2_with (at_builtin; refine wpList_append_own _ rfl (.tmp 14) (.tmp 17) _ rfl w.heap.size 45 i0 _ 2 16 Tryd.underlying47 hi0 hz0 hz1 hz2 rfl (by omega) _ _ _ rfl (hown.alloc _) ⟨wr.heap.size, 0, none⟩ 1 1 [.int .i64 1, .int .u8 0] rfl rfl (news2 _ _ _ _) (by simp [Value.oneCell']) (by simp only [maxLen]; simp [cls, nC]) (by simp [cls, nC]) (by simp; omega) ?_; intro v' w8 hown8 hgr8 _)
        go_roundw
        case rel =>
          have hx8 : Below w.heap.size w (wr.alloc (.cells #[.int .i64 1, .int .u8 0] 45)) := by go_grown
          exact ⟨2, by omega, by go_num, hown8, hx8.grown hgr8 hx8.size (fun g hg => (hown.lt g hg).1)⟩
        case measure => simp [intOf]
      · go_wp2_with (at_builtin; refine wpList_append_own _ rfl (.tmp 14) (.tmp 17) _ rfl w.heap.size 45 i0 _ 2 16 Tryd.underlying47 hi0 hz0 hz1 hz2 rfl (by omega) _ _ _ rfl (hown.alloc _) ⟨wr.heap.size, 0, none⟩ 1 1 [.int .i64 5, .int .u8 0] rfl rfl (news2 _ _ _ _) (by simp [Value.oneCell']) (by simp only [maxLen]; simp [cls, nC]) (by simp [cls, nC]) (by simp; omega) ?_; intro v' w8 hown8 hgr8 _)
        go_roundw
        case rel =>
          have hx8 : Below w.heap.size w (wr.alloc (.cells #[.int .i64 5, .int .u8 0] 45)) := by go_grown
          exact ⟨6, by omega, by go_num, hown8, hx8.grown hgr8 hx8.size (fun g hg => (hown.lt g hg).1)⟩
        case measure => simp [intOf]
      · go_wp2_with (at_builtin; refine wpList_append_own _ rfl (.tmp 14) (.tmp 17) _ rfl w.heap.size 45 i0 _ 2 16 Tryd.underlying47 hi0 hz0 hz1 hz2 rfl (by omega) _ _ _ rfl (hown.alloc _) ⟨wr.heap.size, 0, none⟩ 1 1 [.int .i64 6, .int .u8 0] rfl rfl (news2 _ _ _ _) (by simp [Value.oneCell']) (by simp only [maxLen]; simp [cls, nC]) (by simp [cls, nC]) (by simp; omega) ?_; intro v' w8 hown8 hgr8 _)
        go_roundw
        case rel =>
          have hx8 : Below w.heap.size w (wr.alloc (.cells #[.int .i64 6, .int .u8 0] 45)) := by go_grown
          exact ⟨7, by omega, by go_num, hown8, hx8.grown hgr8 hx8.size (fun g hg => (hown.lt g hg).1)⟩
        case measure => simp [intOf]
    · rcases h with rfl | rfl | rfl
      · have hitS := World.iter_heap wr omp 0
        have hbS : Below w.heap.size w (wr.iter omp 0) := hb0.alloc hz _
        have hoS : (wr.iter omp 0).ownsRow w.heap.size 45 2 _ _ _ := hown.alloc (.stringIter omp 0)
        go_wp2_with fail
        generalize wr.heap.size = IT at *
        go_loopg [1] 3 (fun gf v wq => CiRel w IT 2 gf v wq)
        case atStart => exact ⟨0, rfl, hoS, hbS, hitS, hz⟩
        case round =>
          clear hitS hbS hoS hown hb0
          obtain ⟨p, hp, hown, hb0, hit, hIT⟩ := hrel
          have hp4 : p = 0 ∨ p = 1 ∨ p = 2 ∨ p = 3 := by omega
          rcases hp4 with rfl | rfl | rfl | rfl
          · obtain ⟨g', rfl⟩ : ∃ g', gk = g' + 1 := ⟨gk - 1, by omega⟩
            have hnx : ∀ ty, (Instr.next (.pointer (some ⟨IT, 0, none⟩)) true ty).run Tryd.prog wr = .ok (.tuple #[.bool true, .int .i64 0, .int .i32 111]) (wr.iterAt IT omp 1) := fun ty => Lib.run_next_any_at wr IT omp 0 ty hit (by decide)
            have hit2 := Lib.iterAt_heap wr IT omp 0 1 hit
            have hb2 := Lib.below_iterAt hb0 hIT omp 1
            have hown2 := own_iter hown hit 1
            generalize wr.iterAt IT omp 1 = W at *
            clear hit hb0 hown
            have hz2' := hb2.size
            go_wp2_with (at_builtin; refine wpList_append_own _ rfl (.tmp 23) (.tmp 28) _ rfl w.heap.size 45 i0 _ 2 16 Tryd.underlying47 hi0 hz0 hz1 hz2 rfl (by omega) _ _ _ rfl (hown2.alloc _) ⟨W.heap.size, 0, none⟩ 1 1 [.int .i64 2, .int .u8 111] rfl rfl (news2 _ _ _ _) (by simp [Value.oneCell']) (by simp only [maxLen]; simp [cls, nC]) (by simp [cls, nC]) (by simp; omega) ?_; intro v' w8 hown8 hgr8 _)
            go_roundg g'
            case rel =>
              have hx8 : Below w.heap.size w (W.alloc (.cells #[.int .i64 2, .int .u8 111] 45)) := by go_grown
              refine ⟨1, by omega, hown8, hx8.grown hgr8 hx8.size (fun g hg => (hown2.lt g hg).1), ?_, hIT⟩
              have hl : IT < W.heap.size := (Array.getElem?_eq_some_iff.1 hit2).1
              rw [hgr8.block IT (by simp; omega) (own_no_iter hown2 hit2), Below.heap_alloc _ _ _ hl]; exact hit2
            case measure => omega
          · obtain ⟨g', rfl⟩ : ∃ g', gk = g' + 1 := ⟨gk - 1, by omega⟩
            have hnx : ∀ ty, (Instr.next (.pointer (some ⟨IT, 0, none⟩)) true ty).run Tryd.prog wr = .ok (.tuple #[.bool true, .int .i64 1, .int .i32 109]) (wr.iterAt IT omp 2) := fun ty => Lib.run_next_any_at wr IT omp 1 ty hit (by decide)
            have hit2 := Lib.iterAt_heap wr IT omp 1 2 hit
            have hb2 := Lib.below_iterAt hb0 hIT omp 2
            have hown2 := own_iter hown hit 2
            generalize wr.iterAt IT omp 2 = W at *
            clear hit hb0 hown
            have hz2' := hb2.size
            go_wp2_with (at_builtin; refine wpList_append_own _ rfl (.tmp 23) (.tmp 28) _ rfl w.heap.size 45 i0 _ 2 16 Tryd.underlying47 hi0 hz0 hz1 hz2 rfl (by omega) _ _ _ rfl (hown2.alloc _) ⟨W.heap.size, 0, none⟩ 1 1 [.int .i64 2, .int .u8 109] rfl rfl (news2 _ _ _ _) (by simp [Value.oneCell']) (by simp only [maxLen]; simp [cls, nC]) (by simp [cls, nC]) (by simp; omega) ?_; intro v' w8 hown8 hgr8 _)
            go_roundg g'
            case rel =>
              have hx8 : Below w.heap.size w (W.alloc (.cells #[.int .i64 2, .int .u8 109] 45)) := by go_grown
              refine ⟨2, by omega, hown8, hx8.grown hgr8 hx8.size (fun g hg => (hown2.lt g hg).1), ?_, hIT⟩
              have hl : IT < W.heap.size := (Array.getElem?_eq_some_iff.1 hit2).1
              rw [hgr8.block IT (by simp; omega) (own_no_iter hown2 hit2), Below.heap_alloc _ _ _ hl]; exact hit2
            case measure => omega
          · obtain ⟨g', rfl⟩ : ∃ g', gk = g' + 1 := ⟨gk - 1, by omega⟩
            have hnx : ∀ ty, (Instr.next (.pointer (some ⟨IT, 0, none⟩)) true ty).run Tryd.prog wr = .ok (.tuple #[.bool true, .int .i64 2, .int .i32 112]) (wr.iterAt IT omp 3) := fun ty => Lib.run_next_any_at wr IT omp 2 ty hit (by decide)
            have hit2 := Lib.iterAt_heap wr IT omp 2 3 hit
            have hb2 := Lib.below_iterAt hb0 hIT omp 3
            have hown2 := own_iter hown hit 3
            generalize wr.iterAt IT omp 3 = W at *
            clear hit hb0 hown
            have hz2' := hb2.size
            go_wp2_with (at_builtin; refine wpList_append_own _ rfl (.tmp 23) (.tmp 28) _ rfl w.heap.size 45 i0 _ 2 16 Tryd.underlying47 hi0 hz0 hz1 hz2 rfl (by omega) _ _ _ rfl (hown2.alloc _) ⟨W.heap.size, 0, none⟩ 1 1 [.int .i64 2, .int .u8 112] rfl rfl (news2 _ _ _ _) (by simp [Value.oneCell']) (by simp only [maxLen]; simp [cls, nC]) (by simp [cls, nC]) (by simp; omega) ?_; intro v' w8 hown8 hgr8 _)
            go_roundg g'
            case rel =>
              have hx8 : Below w.heap.size w (W.alloc (.cells #[.int .i64 2, .int .u8 112] 45)) := by go_grown
              refine ⟨3, by omega, hown8, hx8.grown hgr8 hx8.size (fun g hg => (hown2.lt g hg).1), ?_, hIT⟩
              have hl : IT < W.heap.size := (Array.getElem?_eq_some_iff.1 hit2).1
              rw [hgr8.block IT (by simp; omega) (own_no_iter hown2 hit2), Below.heap_alloc _ _ _ hl]; exact hit2
            case measure => omega
          · have hnx : ∀ ty, (Instr.next (.pointer (some ⟨IT, 0, none⟩)) true ty).run Tryd.prog wr = .ok (.tuple #[.bool false]) wr := fun ty => Lib.run_next_end_at wr IT omp 3 ty hit (by decide)
            go_wp2
            go_roundw
            case rel => exact ⟨3, by omega, by go_num, hown, hb0⟩
            case measure => simp [intOf]
      · have hitS := World.iter_heap wr omp 0
        have hbS : Below w.heap.size w (wr.iter omp 0) := hb0.alloc hz _
        have hoS : (wr.iter omp 0).ownsRow w.heap.size 45 2 _ _ _ := hown.alloc (.stringIter omp 0)
        go_wp2_with fail
        generalize wr.heap.size = IT at *
        go_loopg [1] 3 (fun gf v wq => CiRel w IT 3 gf v wq)
        case atStart => exact ⟨0, rfl, hoS, hbS, hitS, hz⟩
        case round =>
          clear hitS hbS hoS hown hb0
          obtain ⟨p, hp, hown, hb0, hit, hIT⟩ := hrel
          have hp4 : p = 0 ∨ p = 1 ∨ p = 2 ∨ p = 3 := by omega
          rcases hp4 with rfl | rfl | rfl | rfl
          · obtain ⟨g', rfl⟩ : ∃ g', gk = g' + 1 := ⟨gk - 1, by omega⟩
            have hnx : ∀ ty, (Instr.next (.pointer (some ⟨IT, 0, none⟩)) true ty).run Tryd.prog wr = .ok (.tuple #[.bool true, .int .i64 0, .int .i32 111]) (wr.iterAt IT omp 1) := fun ty => Lib.run_next_any_at wr IT omp 0 ty hit (by decide)
            have hit2 := Lib.iterAt_heap wr IT omp 0 1 hit
            have hb2 := Lib.below_iterAt hb0 hIT omp 1
            have hown2 := own_iter hown hit 1
            generalize wr.iterAt IT omp 1 = W at *
            clear hit hb0 hown
            have hz2' := hb2.size
            go_wp2_with (at_builtin; refine wpList_append_own _ rfl (.tmp 23) (.tmp 28) _ rfl w.heap.size 45 i0 _ 2 16 Tryd.underlying47 hi0 hz0 hz1 hz2 rfl (by omega) _ _ _ rfl (hown2.alloc _) ⟨W.heap.size, 0, none⟩ 1 1 [.int .i64 3, .int .u8 111] rfl rfl (news2 _ _ _ _) (by simp [Value.oneCell']) (by simp only [maxLen]; simp [cls, nC]) (by simp [cls, nC]) (by simp; omega) ?_; intro v' w8 hown8 hgr8 _)
            go_roundg g'
            case rel =>
              have hx8 : Below w.heap.size w (W.alloc (.cells #[.int .i64 3, .int .u8 111] 45)) := by go_grown
              refine ⟨1, by omega, hown8, hx8.grown hgr8 hx8.size (fun g hg => (hown2.lt g hg).1), ?_, hIT⟩
              have hl : IT < W.heap.size := (Array.getElem?_eq_some_iff.1 hit2).1
              rw [hgr8.block IT (by simp; omega) (own_no_iter hown2 hit2), Below.heap_alloc _ _ _ hl]; exact hit2
            case measure => omega
          · obtain ⟨g', rfl⟩ : ∃ g', gk = g' + 1 := ⟨gk - 1, by omega⟩
            have hnx : ∀ ty, (Instr.next (.pointer (some ⟨IT, 0, none⟩)) true ty).run Tryd.prog wr = .ok (.tuple #[.bool true, .int .i64 1, .int .i32 109]) (wr.iterAt IT omp 2) := fun ty => Lib.run_next_any_at wr IT omp 1 ty hit (by decide)
            have hit2 := Lib.iterAt_heap wr IT omp 1 2 hit
            have hb2 := Lib.below_iterAt hb0 hIT omp 2
            have hown2 := own_iter hown hit 2
            generalize wr.iterAt IT omp 2 = W at *
            clear hit hb0 hown
            have hz2' := hb2.size
            go_wp2_with (at_builtin; refine wpList_append_own _ rfl (.tmp 23) (.tmp 28) _ rfl w.heap.size 45 i0 _ 2 16 Tryd.underlying47 hi0 hz0 hz1 hz2 rfl (by omega) _ _ _ rfl (hown2.alloc _) ⟨W.heap.size, 0, none⟩ 1 1 [.int .i64 3, .int .u8 109] rfl rfl (news2 _ _ _ _) (by simp [Value.oneCell']) (by simp only [maxLen]; simp [cls, nC]) (by simp [cls, nC]) (by simp; omega) ?_; intro v' w8 hown8 hgr8 _)
            go_roundg g'
            case rel =>
              have hx8 : Below w.heap.size w (W.alloc (.cells #[.int .i64 3, .int .u8 109] 45)) := by go_grown
              refine ⟨2, by omega, hown8, hx8.grown hgr8 hx8.size (fun g hg => (hown2.lt g hg).1), ?_, hIT⟩
              have hl : IT < W.heap.size := (Array.getElem?_eq_some_iff.1 hit2).1
              rw [hgr8.block IT (by simp; omega) (own_no_iter hown2 hit2), Below.heap_alloc _ _ _ hl]; exact hit2
            case measure => omega
          · obtain ⟨g', rfl⟩ : ∃ g', gk = g' + 1 := ⟨gk - 1, by omega⟩
            have hnx : ∀ ty, (Instr.next (.pointer (some ⟨IT, 0, none⟩)) true ty).run Tryd.prog wr = .ok (.tuple #[.bool true, .int .i64 2, .int .i32 112]) (wr.iterAt IT omp 3) := fun ty => Lib.run_next_any_at wr IT omp 2 ty hit (by decide)
            have hit2 := Lib.iterAt_heap wr IT omp 2 3 hit
            have hb2 := Lib.below_iterAt hb0 hIT omp 3
            have hown2 := own_iter hown hit 3
            generalize wr.iterAt IT omp 3 = W at *
            clear hit hb0 hown
            have hz2' := hb2.size
            go_wp2_with (at_builtin; refine wpList_append_own _ rfl (.tmp 23) (.tmp 28) _ rfl w.heap.size 45 i0 _ 2 16 Tryd.underlying47 hi0 hz0 hz1 hz2 rfl (by omega) _ _ _ rfl (hown2.alloc _) ⟨W.heap.size, 0, none⟩ 1 1 [.int .i64 3, .int .u8 112] rfl rfl (news2 _ _ _ _) (by simp [Value.oneCell']) (by simp only [maxLen]; simp [cls, nC]) (by simp [cls, nC]) (by simp; omega) ?_; intro v' w8 hown8 hgr8 _)
            go_roundg g'
            case rel =>
              have hx8 : Below w.heap.size w (W.alloc (.cells #[.int .i64 3, .int .u8 112] 45)) := by go_grown
              refine ⟨3, by omega, hown8, hx8.grown hgr8 hx8.size (fun g hg => (hown2.lt g hg).1), ?_, hIT⟩
              have hl : IT < W.heap.size := (Array.getElem?_eq_some_iff.1 hit2).1
              rw [hgr8.block IT (by simp; omega) (own_no_iter hown2 hit2), Below.heap_alloc _ _ _ hl]; exact hit2
            case measure => omega
          · have hnx : ∀ ty, (Instr.next (.pointer (some ⟨IT, 0, none⟩)) true ty).run Tryd.prog wr = .ok (.tuple #[.bool false]) wr := fun ty => Lib.run_next_end_at wr IT omp 3 ty hit (by decide)
            go_wp2
            go_roundw
            case rel => exact ⟨4, by omega, by go_num, hown, hb0⟩
            case measure => simp [intOf]
      · have hitS := World.iter_heap wr omp 0
        have hbS : Below w.heap.size w (wr.iter omp 0) := hb0.alloc hz _
        have hoS : (wr.iter omp 0).ownsRow w.heap.size 45 2 _ _ _ := hown.alloc (.stringIter omp 0)
        go_wp2_with fail
        generalize wr.heap.size = IT at *
        go_loopg [1] 3 (fun gf v wq => CiRel w IT 4 gf v wq)
        case atStart => exact ⟨0, rfl, hoS, hbS, hitS, hz⟩
        case round =>
          clear hitS hbS hoS hown hb0
          obtain ⟨p, hp, hown, hb0, hit, hIT⟩ := hrel
          have hp4 : p = 0 ∨ p = 1 ∨ p = 2 ∨ p = 3 := by omega
          rcases hp4 with rfl | rfl | rfl | rfl
          · obtain ⟨g', rfl⟩ : ∃ g', gk = g' + 1 := ⟨gk - 1, by omega⟩
            have hnx : ∀ ty, (Instr.next (.pointer (some ⟨IT, 0, none⟩)) true ty).run Tryd.prog wr = .ok (.tuple #[.bool true, .int .i64 0, .int .i32 111]) (wr.iterAt IT omp 1) := fun ty => Lib.run_next_any_at wr IT omp 0 ty hit (by decide)
            have hit2 := Lib.iterAt_heap wr IT omp 0 1 hit
            have hb2 := Lib.below_iterAt hb0 hIT omp 1
            have hown2 := own_iter hown hit 1
            generalize wr.iterAt IT omp 1 = W at *
            clear hit hb0 hown
            have hz2' := hb2.size
            go_wp2_with (at_builtin; refine wpList_append_own _ rfl (.tmp 23) (.tmp 28) _ rfl w.heap.size 45 i0 _ 2 16 Tryd.underlying47 hi0 hz0 hz1 hz2 rfl (by omega) _ _ _ rfl (hown2.alloc _) ⟨W.heap.size, 0, none⟩ 1 1 [.int .i64 4, .int .u8 111] rfl rfl (news2 _ _ _ _) (by simp [Value.oneCell']) (by simp only [maxLen]; simp [cls, nC]) (by simp [cls, nC]) (by simp; omega) ?_; intro v' w8 hown8 hgr8 _)
            go_roundg g'
            case rel =>
              have hx8 : Below w.heap.size w (W.alloc (.cells #[.int .i64 4, .int .u8 111] 45)) := by go_grown
              refine ⟨1, by omega, hown8, hx8.grown hgr8 hx8.size (fun g hg => (hown2.lt g hg).1), ?_, hIT⟩
              have hl : IT < W.heap.size := (Array.getElem?_eq_some_iff.1 hit2).1
              rw [hgr8.block IT (by simp; omega) (own_no_iter hown2 hit2), Below.heap_alloc _ _ _ hl]; exact hit2
            case measure => omega
          · obtain ⟨g', rfl⟩ : ∃ g', gk = g' + 1 := ⟨gk - 1, by omega⟩
            have hnx : ∀ ty, (Instr.next (.pointer (some ⟨IT, 0, none⟩)) true ty).run Tryd.prog wr = .ok (.tuple #[.bool true, .int .i64 1, .int .i32 109]) (wr.iterAt IT omp 2) := fun ty => Lib.run_next_any_at wr IT omp 1 ty hit (by decide)
            have hit2 := Lib.iterAt_heap wr IT omp 1 2 hit
            have hb2 := Lib.below_iterAt hb0 hIT omp 2
            have hown2 := own_iter hown hit 2
            generalize wr.iterAt IT omp 2 = W at *
            clear hit hb0 hown
            have hz2' := hb2.size
            go_wp2_with (at_builtin; refine wpList_append_own _ rfl (.tmp 23) (.tmp 28) _ rfl w.heap.size 45 i0 _ 2 16 Tryd.underlying47 hi0 hz0 hz1 hz2 rfl (by omega) _ _ _ rfl (hown2.alloc _) ⟨W.heap.size, 0, none⟩ 1 1 [.int .i64 4, .int .u8 109] rfl rfl (news2 _ _ _ _) (by simp [Value.oneCell']) (by simp only [maxLen]; simp [cls, nC]) (by simp [cls, nC]) (by simp; omega) ?_; intro v' w8 hown8 hgr8 _)
            go_roundg g'
            case rel =>
              have hx8 : Below w.heap.size w (W.alloc (.cells #[.int .i64 4, .int .u8 109] 45)) := by go_grown
              refine ⟨2, by omega, hown8, hx8.grown hgr8 hx8.size (fun g hg => (hown2.lt g hg).1), ?_, hIT⟩
              have hl : IT < W.heap.size := (Array.getElem?_eq_some_iff.1 hit2).1
              rw [hgr8.block IT (by simp; omega) (own_no_iter hown2 hit2), Below.heap_alloc _ _ _ hl]; exact hit2
            case measure => omega
          · obtain ⟨g', rfl⟩ : ∃ g', gk = g' + 1 := ⟨gk - 1, by omega⟩
            have hnx : ∀ ty, (Instr.next (.pointer (some ⟨IT, 0, none⟩)) true ty).run Tryd.prog wr = .ok (.tuple #[.bool true, .int .i64 2, .int .i32 112]) (wr.iterAt IT omp 3) := fun ty => Lib.run_next_any_at wr IT omp 2 ty hit (by decide)
            have hit2 := Lib.iterAt_heap wr IT omp 2 3 hit
            have hb2 := Lib.below_iterAt hb0 hIT omp 3
            have hown2 := own_iter hown hit 3
            generalize wr.iterAt IT omp 3 = W at *
            clear hit hb0 hown
            have hz2' := hb2.size
            go_wp2_with (at_builtin; refine wpList_append_own _ rfl (.tmp 23) (.tmp 28) _ rfl w.heap.size 45 i0 _ 2 16 Tryd.underlying47 hi0 hz0 hz1 hz2 rfl (by omega) _ _ _ rfl (hown2.alloc _) ⟨W.heap.size, 0, none⟩ 1 1 [.int .i64 4, .int .u8 112] rfl rfl (news2 _ _ _ _) (by simp [Value.oneCell']) (by simp only [maxLen]; simp [cls, nC]) (by simp [cls, nC]) (by simp; omega) ?_; intro v' w8 hown8 hgr8 _)
            go_roundg g'
            case rel =>
              have hx8 : Below w.heap.size w (W.alloc (.cells #[.int .i64 4, .int .u8 112] 45)) := by go_grown
              refine ⟨3, by omega, hown8, hx8.grown hgr8 hx8.size (fun g hg => (hown2.lt g hg).1), ?_, hIT⟩
              have hl : IT < W.heap.size := (Array.getElem?_eq_some_iff.1 hit2).1
              rw [hgr8.block IT (by simp; omega) (own_no_iter hown2 hit2), Below.heap_alloc _ _ _ hl]; exact hit2
            case measure => omega
          · have hnx : ∀ ty, (Instr.next (.pointer (some ⟨IT, 0, none⟩)) true ty).run Tryd.prog wr = .ok (.tuple #[.bool false]) wr := fun ty => Lib.run_next_end_at wr IT omp 3 ty hit (by decide)
            go_wp2
            go_roundw
            case rel => exact ⟨5, by omega, by go_num, hown, hb0⟩
            case measure => simp [intOf]
    · go_wp2
      go_ret
      exact ⟨_, rfl, hown, hb0⟩
end Go.Proofs.YtlblfnmmmkfodaaDoor.Tb
