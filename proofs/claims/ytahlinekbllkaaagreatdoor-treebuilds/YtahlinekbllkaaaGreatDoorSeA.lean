/- The law's Are, of two lists that are the same. -/
import Derived.Test.YtahlinekbllkaaaGreatDoorSeL
namespace Go.Proofs.YtahlinekbllkaaaGreatDoor.Se
open Go.RowKit Go.Proofs.YtahlinekbllkaaaGreatDoor.Ax Go.Proofs.YtahlinekbllkaaaGreatDoor.Ba Go.Lib

/-! Are, of two lists that are the same. -/
theorem neq_raw (x : C) (w : World) : (binOp .neq 24 (.agg #[.int .i64 x.1, .int .i64 x.2.1, .int .i64 x.2.2]) (.agg #[.int .i64 x.1, .int .i64 x.2.1, .int .i64 x.2.2])).run Tryz.prog w = .ok (.bool false) w := by
  rw [neq_rc]; simp
theorem keepRR {W w' : World} {g o g' o' : Nat} {x : C} (hg : g < W.heap.size) (hg' : g' < W.heap.size) (p0 : W.cell? ⟨g, o, none⟩ = some (.int .i64 x.1)) (p1 : W.cell? ⟨g, o + 1, none⟩ = some (.int .i64 x.2.1)) (p2 : W.cell? ⟨g, o + 1 + 1, none⟩ = some (.int .i64 x.2.2)) (q0 : W.cell? ⟨g', o', none⟩ = some (.int .i64 x.1)) (q1 : W.cell? ⟨g', o' + 1, none⟩ = some (.int .i64 x.2.1)) (q2 : W.cell? ⟨g', o' + 1 + 1, none⟩ = some (.int .i64 x.2.2)) (hb : Below W.heap.size W w') :
    w'.cell? ⟨g, o, none⟩ = some (.int .i64 x.1) ∧ w'.cell? ⟨g, o + 1, none⟩ = some (.int .i64 x.2.1) ∧ w'.cell? ⟨g, o + 1 + 1, none⟩ = some (.int .i64 x.2.2) ∧ w'.cell? ⟨g', o', none⟩ = some (.int .i64 x.1) ∧ w'.cell? ⟨g', o' + 1, none⟩ = some (.int .i64 x.2.1) ∧ w'.cell? ⟨g', o' + 1 + 1, none⟩ = some (.int .i64 x.2.2) :=
  ⟨(hb.cell (p := ⟨g, o, none⟩) hg).trans p0, (hb.cell (p := ⟨g, o + 1, none⟩) hg).trans p1, (hb.cell (p := ⟨g, o + 1 + 1, none⟩) hg).trans p2, (hb.cell (p := ⟨g', o', none⟩) hg').trans q0, (hb.cell (p := ⟨g', o' + 1, none⟩) hg').trans q1, (hb.cell (p := ⟨g', o' + 1 + 1, none⟩) hg').trans q2⟩
def ArR (w : World) (L : List C) (i : Value) (wr : World) : Prop := ∃ k : Nat, k ≤ L.length ∧ i = .int .i64 k ∧ Below w.heap.size w wr
set_option maxRecDepth 100000 in
set_option maxHeartbeats 4000000 in
theorem are_any (u v : Value) (L : List C) (w : World) (h : SetAt w u L) (h' : SetAt w v L) (hL : L.length ≤ 1000000) :
    Calls Tryz.prog 12 #[u, v] w fun e w' => e = .returned (.int .i64 0) ∧ Below w.heap.size w w' := by
  have HU := Lib.hid h
  have HV := Lib.hid h'
  have key : ∀ v, SetAt w v L → ∃ p cap, v = .slice p L.length cap := by
    rintro v (⟨rfl, rfl⟩ | ⟨g, cap, rfl, _, _⟩)
    · exact ⟨none, 0, rfl⟩
    · exact ⟨_, _, rfl⟩
  obtain ⟨p, cap, rfl⟩ := key u h
  obtain ⟨p', cap', rfl⟩ := key v h'
  clear h h' key
  go_enter Tryz.func12, Tryz.ntmps12
  go_wp2_with fail
  go_loopw [13] (fun i wr => ArR w L i wr) (fun i _ => L.length - (intOf i).toNat)
  case atStart => exact ⟨0, Nat.zero_le _, rfl, Below.refl _ _⟩
  case round =>
    obtain ⟨k, hk, rfl, hb⟩ := hrel
    have hz := hb.size
    by_cases hlt : k < L.length
    · obtain ⟨x, hx⟩ : ∃ x, L[k]? = some x := ⟨_, List.getElem?_eq_getElem hlt⟩
      rcases HU.out.below hb with ⟨_, hnil⟩ | ⟨g, cp, hv, _, hr⟩
      · subst hnil; simp at hlt
      · rcases HV.out.below hb with ⟨_, hnil⟩ | ⟨g', cp', hv', _, hr'⟩
        · subst hnil; simp at hlt
        · injection hv with hv1 hv2 hv3
          subst hv1 hv3
          injection hv' with hv1 hv4 hv3
          subst hv1 hv3
          clear hv2 hv4
          obtain ⟨c0, c1, c2⟩ := hr.1 k x hx
          obtain ⟨d0, d1, d2⟩ := hr'.1 k x hx
          have hgl := hr.2
          have hgl' := hr'.2
          have hne := neq_raw x
          clear hx hr hr'
          go_upto_region 6 with fail
          go_cut [25] (fun v wx => v = .bool false ∧ Below wr.heap.size wr wx)
          case first =>
            have hkb : Below wr.heap.size wr wr := Below.refl _ _
            go_region_held3 (fun w' => w'.cell? ⟨g, k * 3, none⟩ = some (.int .i64 x.1) ∧ w'.cell? ⟨g, k * 3 + 1, none⟩ = some (.int .i64 x.2.1) ∧ w'.cell? ⟨g, k * 3 + 1 + 1, none⟩ = some (.int .i64 x.2.2) ∧ w'.cell? ⟨g', k * 3, none⟩ = some (.int .i64 x.1) ∧ w'.cell? ⟨g', k * 3 + 1, none⟩ = some (.int .i64 x.2.1) ∧ w'.cell? ⟨g', k * 3 + 1 + 1, none⟩ = some (.int .i64 x.2.2)) (first | (refine keepRR hgl hgl' c0 c1 c2 d0 d1 d2 ?_; go_grown; done))
              (first | (go_at_call 43; refine (told3_any x _).mono ?_; rintro e w6 ⟨rfl, hb'⟩; have hkb : Below wr.heap.size wr w6 := Ba.below_call hb' (by go_grown) (by simp); clear hb'))
            all_goals go_wp2_with fail
            all_goals go_meet
            all_goals exact ⟨rfl, by go_grown⟩
          case rest =>
            obtain ⟨rfl, hbw⟩ := hcut
            clear c0 c1 c2 d0 d1 d2 hne
            go_wp2_with fail
            go_roundw
            case rel => exact ⟨k + 1, by omega, by go_num, hb.trans (hbw.mono hz)⟩
            case measure => simp [intOf]; omega
    · obtain rfl : k = L.length := by omega
      go_wp2_with fail
      go_ret
      exact ⟨rfl, hb⟩
end Go.Proofs.YtahlinekbllkaaaGreatDoor.Se
