/- SetPuts: any list of cells: its first thirty, put one by one, are the set of all; taken out one by one nothing is left; put twice it is there once. No conditions. -/
import Derived.Test.YtkejniadapnofaaSeW9
namespace Go.Proofs.Ytkejniadapnofaa.Se
open Go.RowKit Go.Proofs.Ytkejniadapnofaa.Ax Go.Proofs.Ytkejniadapnofaa.Ba Go.Shelf Go.Lib Go.Sort

theorem ins_len {L : List C} (h : Rising L) (c : C) : (ins L c).length ≤ L.length + 1 := by
  obtain ⟨h1, h2⟩ := parts h c
  unfold ins
  rw [← h1, ← h2, List.length_append, List.length_cons, List.length_take, List.length_drop]
  split <;> omega
theorem del_len {L : List C} (h : Rising L) (c : C) : (del L c).length ≤ L.length := by
  obtain ⟨h1, h2⟩ := parts h c
  unfold del
  rw [← h1, ← h2, List.length_append, List.length_take, List.length_drop]
  split <;> omega
theorem ofL_len : ∀ L : List C, (ofL L).length ≤ L.length
  | [] => Nat.le_refl _
  | c :: L => by have := ins_len (rising_ofL L) c; have := ofL_len L; simp only [ofL, List.length_cons]; omega
theorem ofL_put {M : List C} {k : Nat} {c : C} (h : M[k]? = some c) : ins (ofL (M.take k)) c = ofL (M.take (k + 1)) := by
  refine rising_ext (rising_ins (rising_ofL _) c) (rising_ofL _) fun x => ?_
  rw [mem_ins, mem_ofL, mem_ofL, List.take_add_one, h]
  simp [or_comm]
def Sp1 (w2 : World) (M : List C) (s i : Value) (wr : World) : Prop := ∃ (k : Nat) (t : Value), k ≤ M.length ∧ i = .int .i64 k ∧ t = s ∧ SetAt wr t (ofL (M.take k)) ∧ Below w2.heap.size w2 wr
def Sp2 (w2 : World) (M : List C) (s i : Value) (wr : World) : Prop := ∃ (k : Nat) (S : List C) (t : Value), k ≤ M.length ∧ i = .int .i64 k ∧ t = s ∧ SetAt wr t S ∧ Rising S ∧ S.length ≤ 40 ∧ (∀ x ∈ S, x ∈ M ∧ x ∉ M.take k) ∧ Below w2.heap.size w2 wr
/-- The law behind its first lines: the list is known. -/
theorem take_set {w : World} {g cap : Nat} {L : List C} (hr : Row w g L) (m : Nat) (hm : m ≤ L.length) (hc : L.length ≤ cap) : SetAt w (.slice (some ⟨g, 0, none⟩) m cap) (L.take m) := by
  refine .inr ⟨g, cap, by rw [List.length_take, Nat.min_eq_left hm], by rw [List.length_take]; omega, fun i d hd => ?_, hr.2⟩
  rw [List.getElem?_take] at hd
  split at hd
  · exact hr.1 i d hd
  · cases hd
set_option maxRecDepth 100000 in
set_option maxHeartbeats 8000000 in
theorem setPuts_walk (v : Value) (L : List C) (w : World) (h : RawAt w v L) (hL : L.length ≤ maxLen) :
    Calls Try.prog 5 #[v] w fun e w' => e = .returned (.bool true) ∧ Below w.heap.size w w' := by
  go_enter Try.func5, Try.ntmps5
  go_wp2_with fail
  refine (awake4_any _).mono ?_
  rintro e w1 ⟨rfl, hb1⟩
  have hraw := h.below hb1
  clear h
  have how := own4_any v L w1 hraw hL
  clear hraw hL
  go_wp2_with fail
  refine how.mono ?_
  rintro e w2 ⟨v2, rfl, hown, hb2⟩
  have hset2 := set_of_own hown
  have hb3 := hb1.trans (hb2.mono hb1.size)
  clear how hown hb1 hb2
  have hA40 : (L.take 40).length ≤ 40 := by rw [List.length_take]; omega
  generalize L.take 40 = A at *
  obtain ⟨m, hm⟩ : ∃ m : Nat, m = min A.length 30 := ⟨_, rfl⟩
  have hmA : m ≤ A.length := by omega
  have hm30 : m ≤ 30 := by omega
  have key : ∃ p cap, v2 = .slice p A.length cap ∧ SetAt w2 (.slice p m cap) (A.take m) ∧ (A.length : Int) ≤ cap := by
    rcases hset2 with ⟨rfl, rfl⟩ | ⟨g, cap, rfl, hc, hr⟩
    · obtain rfl : m = 0 := by simpa using hmA
      exact ⟨none, 0, rfl, .inl ⟨rfl, rfl⟩, by simp⟩
    · exact ⟨_, cap, rfl, take_set hr m hmA hc, by omega⟩
  obtain ⟨p, cap, rfl, hsM, hcap⟩ := key
  have hmm : min (A.length : Int) 30 = (m : Int) := by omega
  have hcm : (m : Int) ≤ (cap : Int) := by omega
  have hm0 : (0 : Int) ≤ (m : Int) := by omega
  have hlenM : (A.take m).length = m := by rw [List.length_take]; omega
  clear hm hset2
  go_upto_region 5 with fail
  clear hmm hcm hm0 hcap hmA hA40
  generalize A.take m = M at *
  subst hlenM
  have HM := Lib.hid hsM
  have hb0 : Below w2.heap.size w2 w2 := Below.refl _ _
  go_wp2_with fail
  go_loopw [4, 20] (fun s i wr => Sp1 w2 M s i wr) (fun _ i _ => M.length - (intOf i).toNat)
  case atStart => exact ⟨0, _, Nat.zero_le _, rfl, rfl, .inl ⟨rfl, rfl⟩, hb0⟩
  case round =>
    clear hb0 hsM
    obtain ⟨k, t, hk, rfl, rfl, hs, hb⟩ := hrel
    have hsM := HM.out.below hb
    have hz := hb.size
    by_cases hlt : k < M.length
    · obtain ⟨c, hc⟩ : ∃ c, M[k]? = some c := ⟨_, List.getElem?_eq_getElem hlt⟩
      have HP := Lib.hid (ofL_put hc)
      rcases hsM with ⟨h1, h2⟩ | ⟨g, cp, h1, hcp, hr⟩
      · subst h2; simp at hlt
      · injection h1 with h1 h2 h3
        subst h1 h3
        clear h2
        obtain ⟨c0, c1, c2⟩ := hr.1 k c hc
        have hgl := hr.2
        have hl1 := ofL_len (M.take k)
        rw [List.length_take] at hl1
        have hb1 : Below wr.heap.size wr (wr.alloc (.cells #[.int .i64 c.1, .int .i64 c.2.1, .int .i64 c.2.2] 37)) := (Below.refl _ _).alloc (Nat.le_refl _) _
        have hp1 := put_any t (ofL (M.take k)) c true (wr.alloc (.cells #[.int .i64 c.1, .int .i64 c.2.1, .int .i64 c.2.2] 37)) (hs.below hb1) (rising_ofL _) (by omega)
        rw [show putL (ofL (M.take k)) c true = ofL (M.take (k + 1)) from HP.out] at hp1
        have kc := Blk.newAt wr 37 #[.int .i64 c.1, .int .i64 c.2.1, .int .i64 c.2.2] _ rfl
        have hin : c ∈ ofL (M.take (k + 1)) := by rw [← HP.out, mem_ins]; exact .inl rfl
        have hl2 := ofL_len (M.take (k + 1))
        rw [List.length_take] at hl2
        clear hs hc hl1
        go_wp2_with fail
        refine hp1.mono ?_
        rintro e w3 ⟨t3, rfl, hs3, hb3⟩
        have kc3 := kc.under hb3
        have hb4 := hb1.trans (hb3.mono hb1.size)
        clear hp1 kc c0 c1 c2 hb1 hb3
        have hha := has_any t3 _ c w3 hs3 (rising_ofL _) (by omega)
        rw [decide_eq_true hin] at hha
        obtain ⟨c0, c1, c2⟩ := keepB kc3 (Below.refl _ _)
        have hcl := kc3.lt
        go_wp2_with fail
        refine hha.mono ?_
        rintro e w4 ⟨rfl, hb5⟩
        have kc4 := kc3.under hb5
        have hs4 := hs3.below hb5
        have hb6 := hb4.trans (hb5.mono hb4.size)
        clear hha kc3 hs3 c0 c1 c2 hcl hb5 hb4
        have hp2 := put_any t3 _ c true w4 hs4 (rising_ofL _) (by omega)
        rw [show putL (ofL (M.take (k + 1))) c true = ofL (M.take (k + 1)) from ins_same (rising_ofL _) hin] at hp2
        obtain ⟨c0, c1, c2⟩ := keepB kc4 (Below.refl _ _)
        have hcl := kc4.lt
        go_wp2_with fail
        refine hp2.mono ?_
        rintro e w5 ⟨t5, rfl, hs5, hb7⟩
        have hs5' := hs4.below hb7
        have hb8 := hb6.trans (hb7.mono hb6.size)
        clear hp2 hs4 hb6 hb7 kc4 c0 c1 c2 hcl
        have hsa := same_any t5 t3 _ _ w5 hs5 hs5' (by omega) (by omega)
        rw [decide_eq_true rfl] at hsa
        go_wp2_with fail
        refine hsa.mono ?_
        rintro e w6 ⟨rfl, hb9⟩
        have hs6 := hs5'.below hb9
        have hb10 := hb.trans ((hb8.trans (hb9.mono hb8.size)).mono hz)
        clear hsa hs5 hs5' hb8 hb9
        go_wp2_with fail
        go_roundw
        case rel => exact ⟨k + 1, _, by omega, by go_num, rfl, hs6, hb10⟩
        case measure => simp [intOf]; omega
    · obtain rfl : k = M.length := by omega
      rw [List.take_length] at hs
      have hof := of_any _ M wr hsM (by omega)
      have hl1 := ofL_len M
      go_wp2_with fail
      refine hof.mono ?_
      rintro e w3 ⟨t3, rfl, hs3, hb3⟩
      have hs4 := hs.below hb3
      have hb4 := hb.trans (hb3.mono hz)
      clear hof hs hb hb3
      have hsa := same_any t t3 _ _ w3 hs4 hs3 (by omega) (by omega)
      rw [decide_eq_true rfl] at hsa
      go_wp2_with fail
      refine hsa.mono ?_
      rintro e w4 ⟨rfl, hb5⟩
      have hs5 := hs4.below hb5
      have hb6 := hb4.trans (hb5.mono hb4.size)
      clear hsa hs4 hs3 hb4 hb5 hsM hz
      have hst : Sp2 w2 M t (.int .i64 0) w4 := ⟨0, _, _, Nat.zero_le _, rfl, rfl, hs5, rising_ofL _, by omega, fun x hx => ⟨(mem_ofL M x).1 hx, by simp⟩, hb6⟩
      clear hs5 hb6
      go_wp2_with fail
      go_loopw [4, 47] (fun s i wr => Sp2 w2 M s i wr) (fun _ i _ => M.length - (intOf i).toNat)
      case atStart => exact hst
      case round =>
        clear hst
        obtain ⟨k, S, t', hk, rfl, rfl, hs, hR, hS, hmem, hb⟩ := hrel
        have hsM := HM.out.below hb
        have hz := hb.size
        by_cases hlt : k < M.length
        · obtain ⟨c, hc⟩ : ∃ c, M[k]? = some c := ⟨_, List.getElem?_eq_getElem hlt⟩
          rcases hsM with ⟨h1, h2⟩ | ⟨g, cp, h1, hcp, hr⟩
          · subst h2; simp at hlt
          · injection h1 with h1 h2 h3
            subst h1 h3
            clear h2
            obtain ⟨c0, c1, c2⟩ := hr.1 k c hc
            have hgl := hr.2
            have hb1 : Below wr.heap.size wr (wr.alloc (.cells #[.int .i64 c.1, .int .i64 c.2.1, .int .i64 c.2.2] 37)) := (Below.refl _ _).alloc (Nat.le_refl _) _
            have hp1 := put_any t' S c false (wr.alloc (.cells #[.int .i64 c.1, .int .i64 c.2.1, .int .i64 c.2.2] 37)) (hs.below hb1) hR (by omega)
            rw [show putL S c false = del S c from rfl] at hp1
            have kc := Blk.newAt wr 37 #[.int .i64 c.1, .int .i64 c.2.1, .int .i64 c.2.2] _ rfl
            have hl2 := del_len hR c
            have hnin : c ∉ del S c := fun hc' => ((mem_del S c c).1 hc').2 rfl
            have HMEM := Lib.hid (show ∀ x ∈ del S c, x ∈ M ∧ x ∉ M.take (k + 1) from fun x hx => by
              obtain ⟨h1, h2⟩ := (mem_del S c x).1 hx
              obtain ⟨h3, h4⟩ := hmem x h1
              refine ⟨h3, ?_⟩
              rw [List.take_add_one, hc]
              simp
              exact ⟨h4, h2⟩)
            have hR2 := rising_del hR c
            clear hs hc hmem hR
            generalize del S c = S2 at *
            go_wp2_with fail
            refine hp1.mono ?_
            rintro e w3 ⟨t3, rfl, hs3, hb3⟩
            have kc3 := kc.under hb3
            have hb4 := hb1.trans (hb3.mono hb1.size)
            clear hp1 kc c0 c1 c2 hb1 hb3
            have hha := has_any t3 _ c w3 hs3 hR2 (by omega)
            rw [decide_eq_false hnin] at hha
            obtain ⟨c0, c1, c2⟩ := keepB kc3 (Below.refl _ _)
            have hcl := kc3.lt
            go_wp2_with fail
            refine hha.mono ?_
            rintro e w4 ⟨rfl, hb5⟩
            have hs6 := hs3.below hb5
            have hb10 := hb.trans ((hb4.trans (hb5.mono hb4.size)).mono hz)
            clear hha kc3 hs3 c0 c1 c2 hcl hb5 hb4
            go_wp2_with fail
            go_roundw
            case rel => exact ⟨k + 1, S2, _, by omega, by go_num, rfl, hs6, hR2, by omega, HMEM.out, hb10⟩
            case measure => simp [intOf]; omega
        · obtain rfl : k = M.length := by omega
          have hnil : S = [] := by
            cases S with
            | nil => rfl
            | cons x r =>
              obtain ⟨h1, h2⟩ := hmem x (by simp)
              rw [List.take_length] at h2
              exact absurd h1 h2
          subst hnil
          rcases hs with ⟨rfl, _⟩ | ⟨g, cp, rfl, _, _⟩
          all_goals
            go_wp2_with fail
            go_ret
            exact ⟨rfl, hb3.trans (hb.mono hb3.size)⟩
section setPutsFrame
open Go.ChangeShapes Go.WideShapes Go.ChangeAt Go.RowKit
set_option maxRecDepth 100000 in
theorem setPuts_lifted (os : Os) (started : os.Started) (H : Type) (enc : TypeId × Value → H) :
    ReturnsInHanded {} Try.checked os 5 .any (Rows.setPutsSpec.pre6 enc Try.prog Try.f5 Rows.setPutsRow.domain false) (Rows.setPutsSpec.post enc Try.prog Try.f5 false true false false) := by
  refine returnsInHanded_of_change (C := Try.checked) own started (by kernel_rfl) Try.func5
    (ChangeSpec.witness6 (enc := enc) (C := Try.checked) false ⟨#[], #[.slice none 0 0], []⟩ 8 (by kernel_rfl) (by kernel_rfl) (by kernel_rfl) (by kernel_rfl)) ?_
  intro W base args ds gs before hval0 hW hcnd _
  have hval : ∀ (j : Nat) t v, Try.f5.params[j]? = some t → args[j]? = some v → Value.okWide Try.prog W .any base t v := hval0
  have hW' := hW
  obtain ⟨p, q, hA0, hV, rfl, hfz, hnd⟩ := hW
  have hA : DataW.TrodAll enc Try.prog W 0 (fun _ => true) true Try.f5.params.toList args.toList ds p := hA0
  rw [Try.params5] at hA hval
  obtain ⟨v0, vs0, d0, ds0, p0, q0, hargs, rfl, rfl, h0, r0⟩ := trodAll_cons hA
  obtain ⟨rfl, rfl, rfl⟩ := trodAll_nil r0
  obtain rfl : args = #[v0] := by cases args; simp_all
  obtain ⟨rfl, rfl⟩ := trodVars_none hV
  obtain ⟨L0, hraw0, hlen0⟩ := open_cells (hval 0 22 v0 rfl rfl) h0
  refine (setPuts_walk v0 L0 W hraw0 hlen0).mono fun e W' ⟨he, hb⟩ => ?_
  exact ⟨_, he, law_post laidOut rfl rfl Try.underlying4 (by kernel_rfl) hW' hb ⟨rfl, rfl, rfl⟩⟩
theorem setPuts_said : Rows.SetPutsSaid :=
  OpenClaim.holds_of_wide 5 Try.f5 rfl rfl rfl rfl rfl rfl rfl ⟨rfl, rfl, rfl, rfl, rfl⟩ rfl rfl rfl rfl rfl (by kernel_rfl) Try.func5 (by kernel_rfl)
    (of_decide_eq_true (by kernel_rfl)) (by unfold Func.isWrapper; first | (rw [if_pos (by decide +kernel)]; kernel_rfl) | (rw [if_neg (by decide +kernel)]; exact ⟨rfl, rfl⟩))
    (fun os started H enc _ => setPuts_lifted os started H enc)
end setPutsFrame
end Go.Proofs.Ytkejniadapnofaa.Se
namespace Go.Proofs.Ytkejniadapnofaa
theorem setPuts_proved : Rows.SetPutsSaid := Se.setPuts_said
#print axioms setPuts_proved
end Go.Proofs.Ytkejniadapnofaa
