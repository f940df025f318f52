/- SetBack: any set of at most forty cells of small coordinates: shifted, turned by any operator, and back: it is as it was; it has as many cells between. No conditions. -/
import Derived.Test.YtkejniadapnofaaSeB3
namespace Go.Proofs.Ytkejniadapnofaa.Se
open Go.RowKit Go.Proofs.Ytkejniadapnofaa.Ax Go.Proofs.Ytkejniadapnofaa.Ba Go.Shelf Go.Lib Go.Sort
open Go.Proofs.Ytkejniadapnofaa.Ce (onC onA onB onH halvesV latV someH latV_cases lattice_any onC_sm on_back bop_of someH_bd)

/-- There and back. -/
theorem ofL_back {A : List C} (h : Rising A) (f g : C → C) (hg : ∀ c ∈ A, g (f c) = c) : ofL ((ofL (A.map f)).map g) = A := by
  refine ofL_eq h fun c => ?_
  rw [List.mem_map]
  constructor
  · intro hc
    exact ⟨f c, (mem_ofL _ _).2 (List.mem_map.2 ⟨c, hc, rfl⟩), hg c hc⟩
  · rintro ⟨y, hy, rfl⟩
    obtain ⟨x, hx, rfl⟩ := List.mem_map.1 ((mem_ofL _ _).1 hy)
    rw [hg x hx]; exact hx
theorem ofL_map_len {A : List C} (h : Rising A) (f g : C → C) (hg : ∀ c ∈ A, g (f c) = c) : (ofL (A.map f)).length = A.length := by
  have h1 := ofL_len (A.map f)
  have h2 := ofL_len ((ofL (A.map f)).map g)
  rw [ofL_back h f g hg] at h2
  simp only [List.length_map] at h1 h2
  omega
/-- Small coordinates, within a bound. -/
def In (l M : Int) (c : C) : Prop := (-M ≤ c.1 ∧ c.1 ≤ M) ∧ (-M ≤ c.2.1 ∧ c.2.1 ≤ M) ∧ 0 ≤ c.2.2 ∧ c.2.2 < halvesV l
theorem In.fine {l M : Int} {c : C} (h : In l M c) (hM : M ≤ 274877906944) : Fine l c := by
  obtain ⟨h1, h2, h3, h4⟩ := h
  exact ⟨by omega, by omega, h3, h4⟩
theorem ofL_all {A : List C} {f : C → C} {Q : C → Prop} (h : ∀ c ∈ A, Q (f c)) : ∀ c ∈ ofL (A.map f), Q c := by
  intro c hc
  obtain ⟨x, hx, rfl⟩ := List.mem_map.1 ((mem_ofL _ _).1 hc)
  exact h x hx
theorem half_or {l h : Int} (h0 : 0 ≤ h) (h1 : h < halvesV l) : h = 0 ∨ h = 1 := by unfold halvesV at h1; split at h1 <;> omega
theorem on_in {l o M : Int} (o0 : 0 ≤ o) (o1 : o < 12) {c : C} (h : In l M c) : In l (2 * M + 2) (onC l o c) := by
  obtain ⟨h1, h2, h3, h4⟩ := h
  exact onC_sm l o o0 o1 c.1 c.2.1 c.2.2 (half_or h3 h4) M h1 h2
theorem some_in (l : Int) (c : C) : In l 100 (someC l c) := by
  have h1 := tmod_bd c.1 100 (by decide)
  have h2 := tmod_bd c.2.1 100 (by decide)
  have h3 := someH_bd l c.2.2
  exact ⟨by simp only [someC]; omega, by simp only [someC]; omega, h3.1, h3.2⟩
theorem sh_in {l M N a b : Int} {c : C} (h : In l M c) (ha : -N ≤ a ∧ a ≤ N) (hb : -N ≤ b ∧ b ≤ N) : In l (M + N) (shC a b c) := by
  obtain ⟨h1, h2, h3, h4⟩ := h
  exact ⟨by simp only [shC]; omega, by simp only [shC]; omega, h3, h4⟩
set_option maxRecDepth 100000 in
set_option maxHeartbeats 8000000 in
theorem setBack_walk (n : Int) (_wn : (Lit.int .i64 n).wf = true) (u : Int) (_wu : (Lit.int .i64 u).wf = true) (v : Value) (L : List C) (x : Int) (_wx : (Lit.int .i64 x).wf = true) (y : Int) (_wy : (Lit.int .i64 y).wf = true) (w : World) (h : RawAt w v L) (hL : L.length ≤ maxLen) :
    Calls Try.prog 4 #[.int .i64 n, .int .i64 u, v, .int .i64 x, .int .i64 y] w fun e w' => e = .returned (.bool true) ∧ Below w.heap.size w w' := by
  have hu := i64_and255 u
  have u0 : 0 ≤ u % 256 := by omega
  have u1 : u % 256 ≤ 255 := by omega
  go_enter Try.func4, Try.ntmps4
  go_wp2_with fail
  refine (awake4_any _).mono ?_
  rintro e w1 ⟨rfl, hb1⟩
  have hraw := h.below hb1
  clear h
  have hl := latV_cases n
  have hlv := lattice_any n
  generalize latV n = l at *
  have hso := some4_any l v L w1 hraw hL
  go_wp2_with (go_at_call 21; refine (hlv _).mono ?_; rintro e w' ⟨rfl, rfl⟩)
  refine hso.mono ?_
  rintro e w2 ⟨vS, rfl, hS, hb2⟩
  have hb3 := hb1.trans (hb2.mono hb1.size)
  clear hso hraw hL hb1 hb2
  have hSl := ofL_len ((L.take 40).map (someC l))
  rw [List.length_map, List.length_take] at hSl
  have hSR := rising_ofL ((L.take 40).map (someC l))
  have hSin : ∀ c ∈ ofL ((L.take 40).map (someC l)), In l 100 c := ofL_all fun c _ => some_in l c
  generalize ofL ((L.take 40).map (someC l)) = S at *
  have hx := tmod_bd x 1000000 (by decide)
  have hy := tmod_bd y 1000000 (by decide)
  have o0 : 0 ≤ u % 256 % 12 := by omega
  have o1 : u % 256 % 12 < 12 := by omega
  obtain ⟨⟨q0, q1⟩, _⟩ := bop_of (u % 256 % 12) o0 o1
  have hob := fun (c : C) (hc : In l 1000100 c) => on_back l (u % 256 % 12) c.1 c.2.1 c.2.2 hl hc.2.2.1 hc.2.2.2 o0 o1
  have hbk := back_any (u % 256 % 12)
  have hbk := fun W => hbk W o0 o1
  go_wp2_with fail
  clear hu u0 u1 hlv
  generalize x.tmod 1000000 = a at *
  generalize y.tmod 1000000 = b at *
  generalize u % 256 % 12 = o at *
  generalize Go.Proofs.Ytkejniadapnofaa.Ax.backV o = o' at *
  have kp := Blk.newAt w2 35 #[.int .i64 a, .int .i64 b] _ rfl
  have hbp : Below w2.heap.size w2 (w2.alloc (.cells #[.int .i64 a, .int .i64 b] 35)) := (Below.refl _ _).alloc (Nat.le_refl _) _
  have hsh := shift_any vS S a b _ (hS.below hbp) (by omega) (goodB_iff.2 (by omega)) (fun c hc => by
    obtain ⟨h1, h2, _⟩ := hSin c hc
    exact ⟨goodB_iff.2 (by omega), goodB_iff.2 (by omega)⟩)
  have hTin : ∀ c ∈ ofL (S.map (shC a b)), In l (100 + 1000000) c := ofL_all fun c hc => sh_in (hSin c hc) (by omega) (by omega)
  have hTR := rising_ofL (S.map (shC a b))
  have HTS := Lib.hid (ofL_back hSR (shC a b) (shC (-a) (-b)) (fun c _ => by simp only [shC]; refine Prod.ext ?_ (Prod.ext ?_ rfl) <;> dsimp only <;> omega))
  have hTl : (ofL (S.map (shC a b))).length = S.length := ofL_map_len hSR (shC a b) (shC (-a) (-b)) (fun c _ => by simp only [shC]; refine Prod.ext ?_ (Prod.ext ?_ rfl) <;> dsimp only <;> omega)
  generalize ofL (S.map (shC a b)) = T at *
  refine hsh.mono ?_
  rintro e w3 ⟨vT, rfl, hT, hb4⟩
  have kp3 := kp.under hb4
  have hS3 := hS.below (hbp.trans (hb4.mono hbp.size))
  have hb5 := hb3.trans ((hbp.trans (hb4.mono hbp.size)).mono hb3.size)
  clear hsh hS kp hbp hb3 hb4
  have htu := turn_any vT T l o w3 hT (by omega) hl o0 o1 (fun c hc => (hTin c hc).fine (by omega))
  have hUin : ∀ c ∈ ofL (T.map (onC l o)), In l (2 * (100 + 1000000) + 2) c := ofL_all fun c hc => on_in o0 o1 (hTin c hc)
  have hUR := rising_ofL (T.map (onC l o))
  have HUT := Lib.hid (ofL_back hTR (onC l o) (onC l o') (fun c hc => hob c (hTin c hc)))
  have hUl : (ofL (T.map (onC l o))).length = T.length := ofL_map_len hTR (onC l o) (onC l o') (fun c hc => hob c (hTin c hc))
  generalize ofL (T.map (onC l o)) = U at *
  go_wp2_with fail
  refine htu.mono ?_
  rintro e w4 ⟨vU, rfl, hU, hb6⟩
  have kp4 := kp3.under hb6
  have hS4 := hS3.below hb6
  have hT4 := hT.below hb6
  have hb7 := hb5.trans (hb6.mono hb5.size)
  clear htu kp3 hS3 hT hb5 hb6 hob
  have htv := turn_any vU U l o' w4 hU (by omega) hl q0 q1 (fun c hc => (hUin c hc).fine (by omega))
  rw [HUT.out] at htv
  go_wp2_with (go_at_call 25; refine (hbk _).mono ?_; rintro e w' ⟨rfl, rfl⟩)
  refine htv.mono ?_
  rintro e w5 ⟨vV, rfl, hV, hb8⟩
  have kp5 := kp4.under hb8
  have hS5 := hS4.below hb8
  have hT5 := hT4.below hb8
  have hU5 := hU.below hb8
  have hb9 := hb7.trans (hb8.mono hb7.size)
  clear htv kp4 hS4 hT4 hU hb7 hb8 hbk
  have hsw := shift_any vV T (-a) (-b) w5 hV (by omega) (goodB_iff.2 (by omega)) (fun c hc => by
    obtain ⟨h1, h2, _⟩ := hTin c hc
    exact ⟨goodB_iff.2 (by omega), goodB_iff.2 (by omega)⟩)
  rw [HTS.out] at hsw
  have z0 := kp5.cell 0
  have z1 := kp5.cell 1
  simp only [List.getElem?_toArray, List.getElem?_cons_zero, List.getElem?_cons_succ] at z0 z1
  have hpl := kp5.lt
  go_wp2_with fail
  refine hsw.mono ?_
  rintro e w6 ⟨vW, rfl, hW, hb10⟩
  have hS6 := hS5.below hb10
  have hT6 := hT5.below hb10
  have hU6 := hU5.below hb10
  have hV6 := hV.below hb10
  have hb11 := hb9.trans (hb10.mono hb9.size)
  clear hsw hS5 hT5 hU5 hV hb9 hb10 kp5 z0 z1 hpl HTS HUT
  have key : ∀ (v : Value) (M : List C), SetAt w6 v M → ∃ p cap, v = .slice p M.length cap := by
    rintro v M (⟨rfl, rfl⟩ | ⟨g, cap, rfl, _, _⟩)
    · exact ⟨none, 0, rfl⟩
    · exact ⟨_, _, rfl⟩
  obtain ⟨pS, cS, rfl⟩ := key vS S hS6
  obtain ⟨pU, cU, rfl⟩ := key vU U hU6
  clear key
  have hlU : U.length = S.length := by omega
  have s1 := same_any vV vT T T w6 hV6 hT6 (by omega) (by omega)
  rw [decide_eq_true rfl] at s1
  rw [hlU] at hU6 ⊢
  go_wp2_with fail
  refine s1.mono ?_
  rintro e w7 ⟨rfl, hb12⟩
  have hS7 := hS6.below hb12
  have hU7 := hU6.below hb12
  have hW7 := hW.below hb12
  have hb13 := hb11.trans (hb12.mono hb11.size)
  clear s1 hS6 hT6 hU6 hV6 hW hb11 hb12
  have s2 := same_any vW (.slice pS S.length cS) S S w7 hW7 hS7 (by omega) (by omega)
  rw [decide_eq_true rfl] at s2
  go_wp2_with fail
  refine s2.mono ?_
  rintro e w8 ⟨rfl, hb14⟩
  have hU8 := hU7.below hb14
  have hb15 := hb13.trans (hb14.mono hb13.size)
  clear s2 hS7 hU7 hW7 hb13 hb14
  have s3 := check_set (.slice pU S.length cU) U l w8 hU8 hUR (by omega) hl (fun c hc => (hUin c hc).fine (by omega))
  go_wp2_with fail
  refine s3.mono ?_
  rintro e w9 ⟨rfl, hb16⟩
  have hb17 := hb15.trans (hb16.mono hb15.size)
  go_wp2_with fail
  go_ret
  exact ⟨rfl, hb17⟩
section setBackFrame
open Go.ChangeShapes Go.WideShapes Go.ChangeAt Go.RowKit
set_option maxRecDepth 100000 in
theorem setBack_lifted (os : Os) (started : os.Started) (H : Type) (enc : TypeId × Value → H) :
    ReturnsInHanded {} Try.checked os 4 .any (Rows.setBackSpec.pre6 enc Try.prog Try.f4 Rows.setBackRow.domain false) (Rows.setBackSpec.post enc Try.prog Try.f4 false true false false) := by
  refine returnsInHanded_of_change (C := Try.checked) own started (by kernel_rfl) Try.func4
    (ChangeSpec.witness6 (enc := enc) (C := Try.checked) false ⟨#[], #[.int .i64 0, .int .i64 0, .slice none 0 0, .int .i64 0, .int .i64 0], []⟩ 8 (by kernel_rfl) (by kernel_rfl) (by kernel_rfl) (by kernel_rfl)) ?_
  intro W base args ds gs before hval0 hW hcnd _
  have hval : ∀ (j : Nat) t v, Try.f4.params[j]? = some t → args[j]? = some v → Value.okWide Try.prog W .any base t v := hval0
  have hW' := hW
  obtain ⟨p, q, hA0, hV, rfl, hfz, hnd⟩ := hW
  have hA : DataW.TrodAll enc Try.prog W 0 (fun _ => true) true Try.f4.params.toList args.toList ds p := hA0
  rw [Try.params4] at hA hval
  obtain ⟨v0, vs0, d0, ds0, p0, q0, hargs, rfl, rfl, h0, r0⟩ := trodAll_cons hA
  obtain ⟨v1, vs1, d1, ds1, p1, q1, rfl, rfl, rfl, h1, r1⟩ := trodAll_cons r0
  obtain ⟨v2, vs2, d2, ds2, p2, q2, rfl, rfl, rfl, h2, r2⟩ := trodAll_cons r1
  obtain ⟨v3, vs3, d3, ds3, p3, q3, rfl, rfl, rfl, h3, r3⟩ := trodAll_cons r2
  obtain ⟨v4, vs4, d4, ds4, p4, q4, rfl, rfl, rfl, h4, r4⟩ := trodAll_cons r3
  obtain ⟨rfl, rfl, rfl⟩ := trodAll_nil r4
  obtain rfl : args = #[v0, v1, v2, v3, v4] := by cases args; simp_all
  obtain ⟨rfl, rfl⟩ := trodVars_none hV
  obtain ⟨n, rfl, rfl, rfl, w_n⟩ := open_int Try.underlying3 (hval 0 3 v0 rfl rfl) h0
  obtain ⟨o, rfl, rfl, rfl, w_o⟩ := open_int Try.underlying3 (hval 1 3 v1 rfl rfl) h1
  obtain ⟨L2, hraw2, hlen2⟩ := open_cells (hval 2 22 v2 rfl rfl) h2
  obtain ⟨a, rfl, rfl, rfl, w_a⟩ := open_int Try.underlying2 (hval 3 2 v3 rfl rfl) h3
  obtain ⟨b, rfl, rfl, rfl, w_b⟩ := open_int Try.underlying2 (hval 4 2 v4 rfl rfl) h4
  refine (setBack_walk n w_n o w_o v2 L2 a w_a b w_b W hraw2 hlen2).mono fun e W' ⟨he, hb⟩ => ?_
  exact ⟨_, he, law_post laidOut rfl rfl Try.underlying4 (by kernel_rfl) hW' hb ⟨rfl, rfl, rfl⟩⟩
theorem setBack_said : Rows.SetBackSaid :=
  OpenClaim.holds_of_wide 4 Try.f4 rfl rfl rfl rfl rfl rfl rfl ⟨rfl, rfl, rfl, rfl, rfl⟩ rfl rfl rfl rfl rfl (by kernel_rfl) Try.func4 (by kernel_rfl)
    (of_decide_eq_true (by kernel_rfl)) (by unfold Func.isWrapper; first | (rw [if_pos (by decide +kernel)]; kernel_rfl) | (rw [if_neg (by decide +kernel)]; exact ⟨rfl, rfl⟩))
    (fun os started H enc _ => setBack_lifted os started H enc)
end setBackFrame
end Go.Proofs.Ytkejniadapnofaa.Se
namespace Go.Proofs.Ytkejniadapnofaa
theorem setBack_proved : Rows.SetBackSaid := Se.setBack_said
#print axioms setBack_proved
end Go.Proofs.Ytkejniadapnofaa
