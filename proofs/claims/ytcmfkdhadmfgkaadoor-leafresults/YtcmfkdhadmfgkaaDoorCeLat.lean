/- The laws' own Lattice and Some of a cell (as in CellW6, over fewer texts). -/
import Derived.Test.YtcmfkdhadmfgkaaDoorCeW1
import Derived.Test.YtcmfkdhadmfgkaaDoorAxBits
namespace Go.Proofs.YtcmfkdhadmfgkaaDoor.Ce
open Go.RowKit Go.Proofs.YtcmfkdhadmfgkaaDoor.Ax

theorem own_any (a b h : Int) (w : World) :
    Calls Tryd.prog 59 #[Ce a b h] w fun e w' => e = .returned (Ce a b h) ∧ Below w.heap.size w w' := by
  go_enter Tryd.func59, Tryd.ntmps59
  go_wp2
  exact bodyPost_ret (v := Ce a b h) (by simp [results, Tryd.results59, go_sem, *]) rfl ⟨rfl, by go_grown⟩
/-- One of the three lattices, by any number. -/
def latV (n : Int) : Int := 1 + n % 256 % 3
theorem latV_cases (n : Int) : latV n = 1 ∨ latV n = 2 ∨ latV n = 3 := by unfold latV; omega
def someH (l h : Int) : Int := if l = 1 then 0 else h % 2
theorem some_any (l a b h : Int) (w : World) :
    Calls Tryd.prog 30 #[.int .i64 l, Ce a b h] w fun e w' => e = .returned (Ce (a.tmod 100) (b.tmod 100) (someH l h)) ∧ Below w.heap.size w w' := by
  have hh := i64_and1 h
  by_cases h1 : l = 1
  · subst h1
    go_enter Tryd.func30, Tryd.ntmps30
    go_wp2_with fail
    refine (own_any _ _ _ _).mono ?_
    rintro e w1 ⟨rfl, hb⟩
    obtain ⟨hc_w1, hf_w1⟩ := bcell hb; have hz_w1 := hb.size; (try simp at hz_w1); have hb_w1 := below_call (B := w.heap.size) (w := w) hb (by go_grown) (by go_size); clear hb; (try have hy0_w1 : w.heap.size < w1.heap.size := by omega); (try have hy1_w1 : w.heap.size + 1 < w1.heap.size := by omega); (try have hy2_w1 : w.heap.size + 1 + 1 < w1.heap.size := by omega)
    go_wp2_with fail
    exact bodyPost_ret (v := Ce (a.tmod 100) (b.tmod 100) (someH 1 h)) (by simp [results, Tryd.results30, go_sem, someH, *]) rfl ⟨rfl, by go_grown⟩
  · have h' : (l == 1) = false := by simpa using h1
    have e : someH l h = h % 2 := if_neg h1
    rw [e]
    clear e h1
    go_enter Tryd.func30, Tryd.ntmps30
    go_wp2_with fail
    refine (own_any _ _ _ _).mono ?_
    rintro e w1 ⟨rfl, hb⟩
    obtain ⟨hc_w1, hf_w1⟩ := bcell hb; have hz_w1 := hb.size; (try simp at hz_w1); have hb_w1 := below_call (B := w.heap.size) (w := w) hb (by go_grown) (by go_size); clear hb; (try have hy0_w1 : w.heap.size < w1.heap.size := by omega); (try have hy1_w1 : w.heap.size + 1 < w1.heap.size := by omega); (try have hy2_w1 : w.heap.size + 1 + 1 < w1.heap.size := by omega)
    go_wp2_with fail
    exact bodyPost_ret (v := Ce (a.tmod 100) (b.tmod 100) (h % 2)) (by simp [results, Tryd.results30, go_sem, *]) rfl ⟨rfl, by go_grown⟩
theorem someH_bd (l h : Int) : 0 ≤ someH l h ∧ someH l h < halvesV l := by
  unfold someH halvesV; split <;> omega
end Go.Proofs.YtcmfkdhadmfgkaaDoor.Ce
