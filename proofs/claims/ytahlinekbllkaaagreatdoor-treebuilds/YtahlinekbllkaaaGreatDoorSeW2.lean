/- slices.Clone, slices.SortFunc at cells, in our own words. -/
import Derived.Test.YtahlinekbllkaaaGreatDoorSeW1
namespace Go.Proofs.YtahlinekbllkaaaGreatDoor.Se
open Go.RowKit Go.Proofs.YtahlinekbllkaaaGreatDoor.Ax Go.Proofs.YtahlinekbllkaaaGreatDoor.Ba Go.Shelf Go.Lib Go.Sort

/-- slices.Clone: the same cells, in memory of the call's own (or nil). -/
theorem clone_any (v : Value) (L : List C) (w : World) (h : SetAt w v L) (hL : L.length ≤ 1000000) :
    Calls Tryz.prog 67 #[v] w fun e w' => ∃ v', e = .returned v' ∧ w'.ownsRow w.heap.size 53 3 v' L.length (flat L) ∧ Below w.heap.size w w' := by
  rcases h with ⟨rfl, rfl⟩ | ⟨g, cap, rfl, hc, hr⟩
  · have hcon := AnyE.slices_Clone_nil Tryz.layClone 0 0 w
    change Calls Tryz.prog 67 _ _ _ at hcon
    refine hcon.mono ?_
    rintro e w' ⟨rfl, rfl⟩
    exact ⟨_, rfl, World.ownsRow_nil _ _ _ _, Below.refl _ _⟩
  · obtain ⟨i0, hi0, hz0, hz1, hz2⟩ := info_parts cell_info
    have hcon := AnyE.slices_Clone Tryz.layClone i0 _ 3 24 hi0 hz0 hz1 hz2 rfl (by decide) Tryz.sizeOf53 g 0 L.length cap (flat L) w (flat_len L) (by unfold maxLen; omega) (by omega) hr.flat (one_flat L)
    change Calls Tryz.prog 67 _ _ _ at hcon
    refine hcon.mono ?_
    rintro e w' ⟨v', rfl, ho, _, hb⟩
    exact ⟨v', rfl, ho, hb⟩
end Go.Proofs.YtahlinekbllkaaaGreatDoor.Se
