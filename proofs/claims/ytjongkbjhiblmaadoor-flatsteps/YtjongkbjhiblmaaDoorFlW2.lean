/- Contracts of package flat: neighbourhoods. -/
import Derived.Test.YtjongkbjhiblmaaDoorFlW1
import Derived.Test.YtjongkbjhiblmaaDoorSeL
namespace Go.Proofs.YtjongkbjhiblmaaDoor.Fl
open Go.RowKit Go.Proofs.YtjongkbjhiblmaaDoor.Ax Go.Proofs.YtjongkbjhiblmaaDoor.Ce Go.Proofs.YtjongkbjhiblmaaDoor.Mp Go.Lib Go.Maps
open Go.Proofs.YtjongkbjhiblmaaDoor.Se (SetAt)

/-- The table behind one more. -/
def put1 (l : Int) (M : CC → Option Nat) (c d : C) : CC → Option Nat := fun q => if q = d then some ((M d).getD 0 + shareN l c d) else M q
def putL (l : Int) (c : C) (ds : List C) (M : CC → Option Nat) : CC → Option Nat := ds.foldl (fun M d => put1 l M c d) M
def tabN (l : Int) (S : List C) : CC → Option Nat := S.foldl (fun M c => putL l c (besC l c) M) fun _ => none
theorem putL_app (l : Int) (c : C) (ds : List C) (d : C) (M : CC → Option Nat) : putL l c (ds ++ [d]) M = put1 l (putL l c ds M) c d := by simp [putL, List.foldl_append]
theorem tabN_app (l : Int) (S : List C) (c : C) : tabN l (S ++ [c]) = putL l c (besC l c) (tabN l S) := by simp [tabN, List.foldl_append]
theorem shareN_le (l : Int) (c d : C) : shareN l c d ≤ 32 := by
  unfold shareN sixIx
  split
  · split
    · decide
    · split
      · decide
      · split
        · decide
        · split
          · decide
          · split <;> decide
  · decide
/-- What a table holds at most. -/
def Cap (M : CC → Option Nat) (m : Nat) : Prop := ∀ d, (M d).getD 0 ≤ m
theorem cap_put1 {l : Int} {M : CC → Option Nat} {m : Nat} (h : Cap M m) (c d : C) : Cap (put1 l M c d) (m + 32) := by
  intro q
  unfold put1
  by_cases e : q = d
  · rw [if_pos e]
    have := h d
    have := shareN_le l c d
    simp only [Option.getD_some]
    omega
  · rw [if_neg e]
    have := h q
    omega
theorem putL_at (l : Int) (c : C) : ∀ (ds : List C) (M : CC → Option Nat) (q : C), ds.Nodup → putL l c ds M q = if q ∈ ds then some ((M q).getD 0 + shareN l c q) else M q
  | [], M, q, _ => by simp [putL]
  | d :: ds, M, q, hn => by
    obtain ⟨h1, h2⟩ := List.nodup_cons.1 hn
    have ih := putL_at l c ds (put1 l M c d) q h2
    have e : putL l c (d :: ds) M = putL l c ds (put1 l M c d) := rfl
    rw [e, ih]
    unfold put1
    by_cases hq : q = d
    · subst hq
      simp [h1]
    · simp [hq]
theorem tabF_at {l : Int} (hl : l = 1 ∨ l = 2 ∨ l = 3) : ∀ (S : List C), (∀ c ∈ S, valid l c) → ∀ (M : CC → Option Nat) q, ((S.foldl (fun M c => putL l c (besC l c) M) M) q).getD 0 = (M q).getD 0 + around l S q ∧ (((S.foldl (fun M c => putL l c (besC l c) M) M) q).isSome = true ↔ (M q).isSome = true ∨ ∃ c ∈ S, q ∈ besC l c)
  | [], _, M, q => by simp [around]
  | c :: S, hv, M, q => by
    have ih := tabF_at hl S (fun c hc => hv c (by simp [hc])) (putL l c (besC l c) M) q
    rw [List.foldl_cons]
    rw [putL_at l c _ _ q (bes_nodup hl (hv c (by simp)))] at ih
    rw [ih.1, ih.2]
    unfold around
    by_cases hq : q ∈ besC l c
    · rw [if_pos hq, List.filter_cons_of_pos (by simpa using hq)]
      refine ⟨by simp only [Option.getD_some, List.map_cons, List.sum_cons]; omega, ?_⟩
      simp only [Option.isSome_some, true_or, true_iff]
      exact .inr ⟨c, by simp, hq⟩
    · rw [if_neg hq, List.filter_cons_of_neg (by simpa using hq)]
      refine ⟨rfl, ?_⟩
      constructor
      · rintro (h | ⟨x, hx, hqx⟩)
        · exact .inl h
        · exact .inr ⟨x, by simp [hx], hqx⟩
      · rintro (h | ⟨x, hx, hqx⟩)
        · exact .inl h
        · rcases List.mem_cons.1 hx with rfl | hx
          · exact absurd hqx hq
          · exact .inr ⟨x, hx, hqx⟩
/-- What the table holds of a set. -/
theorem tabN_at {l : Int} (hl : l = 1 ∨ l = 2 ∨ l = 3) (S : List C) (hv : ∀ c ∈ S, valid l c) (q : C) : (tabN l S q).getD 0 = around l S q ∧ ((tabN l S q).isSome = true ↔ ∃ c ∈ S, q ∈ besC l c) := by
  have := tabF_at hl S hv (fun _ => none) q
  simpa [tabN] using this
def N1 (w : World) (l : Int) (S : List C) (t16 : Value) (wr : World) : Prop :=
  ∃ i n s : Nat, i ≤ S.length ∧ t16 = .int .i64 i ∧ IsB mkC wr w.heap.size n s (tabN l (S.take i)) ∧ n ≤ 12 * i ∧ Cap (tabN l (S.take i)) (384 * i) ∧ Below w.heap.size w wr
def N2 (w : World) (l : Int) (S : List C) (c : C) (i Z B0 : Nat) (vb : Value) (t34 : Value) (wq : World) : Prop :=
  ∃ j n s : Nat, j ≤ (besC l c).length ∧ t34 = .int .i64 j ∧ IsB mkC wq w.heap.size n s (putL l c ((besC l c).take j) (tabN l (S.take i))) ∧ n ≤ 12 * i + j ∧ Cap (putL l c ((besC l c).take j) (tabN l (S.take i))) (384 * i + 32 * j) ∧
    Ba.Blk wq Z 56 #[.int .i64 c.1, .int .i64 c.2.1, .int .i64 c.2.2] ∧ wq.ownsRow B0 56 3 vb (besC l c).length (Ce.flat (besC l c)) ∧ Below w.heap.size w wq
theorem keepC2 {W w' : World} {Z Y : Nat} {c d : C} (kz : Ba.Blk W Z 56 #[.int .i64 c.1, .int .i64 c.2.1, .int .i64 c.2.2]) (ky : Ba.Blk W Y 56 #[.int .i64 d.1, .int .i64 d.2.1, .int .i64 d.2.2]) (hb : Below W.heap.size W w') :
    w'.cell? ⟨Z, 0, none⟩ = some (.int .i64 c.1) ∧ w'.cell? ⟨Z, 1, none⟩ = some (.int .i64 c.2.1) ∧ w'.cell? ⟨Z, 2, none⟩ = some (.int .i64 c.2.2) ∧ w'.cell? ⟨Y, 0, none⟩ = some (.int .i64 d.1) ∧ w'.cell? ⟨Y, 1, none⟩ = some (.int .i64 d.2.1) ∧ w'.cell? ⟨Y, 2, none⟩ = some (.int .i64 d.2.2) :=
  ⟨(kz.under hb).cell 0, (kz.under hb).cell 1, (kz.under hb).cell 2, (ky.under hb).cell 0, (ky.under hb).cell 1, (ky.under hb).cell 2⟩
theorem ceflat_get : ∀ (L : List C) (i : Nat) (d : C), L[i]? = some d → (Ce.flat L)[i * 3]? = some (.int .i64 d.1) ∧ (Ce.flat L)[i * 3 + 1]? = some (.int .i64 d.2.1) ∧ (Ce.flat L)[i * 3 + 1 + 1]? = some (.int .i64 d.2.2) := Se.flat_get
theorem wf_i64 {n : Int} (h : -9223372036854775808 ≤ n ∧ n ≤ 9223372036854775807) : (Lit.int .i64 n).wf = true := i64_lit h
theorem isB_ne {w : World} {b c s : Nat} {M : CC → Option Nat} (h : IsB mkC w b c s M) {g : Nat} {t : TypeId} {cs : Array Value} {fr : Nat × Nat} (hg : w.heap[g]? = some (.cells cs t fr)) : g ≠ b := by
  intro e
  subst e
  obtain ⟨D, ⟨es, clock, hm, _⟩, _⟩ := h
  rw [hm] at hg
  cases hg
theorem own_map {w w' : World} {b c s : Nat} {M : CC → Option Nat} {base n size : Nat} {e : TypeId} {v : Value} {xs : List Value} (h : w.ownsRow base e size v n xs) (hI : IsB mkC w b c s M) (hg : w.grownBy w' (some b)) : w'.ownsRow base e size v n xs := by
  refine ⟨h.1, ?_⟩
  rcases h.2 with hn | ⟨g, cap, cur, hv, hbs, hh, rest⟩
  · exact .inl hn
  · exact .inr ⟨g, cap, cur, hv, hbs, (hg.block g (Array.getElem?_eq_some_iff.1 hh).1 (fun e => isB_ne hI hh (by simpa using e))).trans hh, rest⟩
theorem Cap.mono {M : CC → Option Nat} {m m' : Nat} (h : Cap M m) (hm : m ≤ m') : Cap M m' := fun d => Nat.le_trans (h d) hm
theorem allG_near {l : Int} (hl : l = 1 ∨ l = 2 ∨ l = 3) {c : C} (hc : valid l c) (h : (-2000000 ≤ c.1 ∧ c.1 ≤ 2000000) ∧ (-2000000 ≤ c.2.1 ∧ c.2.1 ≤ 2000000)) : allG (besC l c) = true := by
  unfold allG
  rw [List.all_eq_true]
  intro d hd
  obtain ⟨_, _, h1, h2⟩ := bes_mem hl hc hd
  exact goodB_iff.2 (by omega)
set_option maxRecDepth 100000 in
set_option maxHeartbeats 2000000 in
theorem neigh_any (l : Int) (v : Value) (S : List C) (w : World) (hs : SixIs w) (hl : l = 1 ∨ l = 2 ∨ l = 3) (h : SetAt w v S) (hL : S.length ≤ 71000) (hv : ∀ c ∈ S, valid l c) (hsz : ∀ c ∈ S, (-2000000 ≤ c.1 ∧ c.1 ≤ 2000000) ∧ (-2000000 ≤ c.2.1 ∧ c.2.1 ≤ 2000000)) :
    Calls Tryd.prog 36 #[.int .i64 l, v] w fun e w' => ∃ B n s, e = .returned (.tuple #[.map (some B), .nilIface]) ∧ IsB mkC w' B n s (tabN l S) ∧ w.heap.size ≤ B ∧ n ≤ 12 * S.length ∧ Below w.heap.size w w' := by
  have hmm := @run_makeMap Tryd.prog
  have HS := Lib.hid h
  have HV := Lib.hid hv
  have HZ := Lib.hid hsz
  have key : ∃ p cap, v = .slice p S.length cap := by
    rcases h with ⟨rfl, rfl⟩ | ⟨g, cap, rfl, _⟩
    · exact ⟨_, _, rfl⟩
    · exact ⟨_, _, rfl⟩
  obtain ⟨p, cap, rfl⟩ := key
  clear h hv hsz
  have hIm := IsB.made (m := mkC) w
  have hbm : Below w.heap.size w (w.alloc (.map #[] 0)) := (Below.refl _ _).alloc (Nat.le_refl _) _
  go_enter Tryd.func36, Tryd.ntmps36
  go_wp2_with fail
  clear hmm
  go_loopw [16] (fun t16 wr => N1 w l S t16 wr) (fun t16 _ => S.length - (intOf t16).toNat)
  case atStart => exact ⟨0, 0, 0, Nat.zero_le _, rfl, hIm, Nat.le_refl _, fun d => Nat.le_refl _, hbm⟩
  case round =>
    clear hIm hbm
    obtain ⟨i, n, s, hi, rfl, hI, hn, hC, hb⟩ := hrel
    by_cases hlt : i < S.length
    · obtain ⟨c, hc⟩ : ∃ c, S[i]? = some c := ⟨_, List.getElem?_eq_getElem hlt⟩
      have hcm := List.mem_of_getElem? hc
      have hcv := HV.out c hcm
      have hcz := HZ.out c hcm
      have HT := Lib.hid (show S.take (i + 1) = S.take i ++ [c] by rw [List.take_add_one, hc]; rfl)
      have hset := HS.out.below hb
      rcases hset with ⟨_, hnil⟩ | ⟨g, cap', hvv, hcap, hrow⟩
      · subst hnil; simp at hlt
      · injection hvv with hv1 hv2 hv3
        subst hv1 hv3
        clear hv2
        obtain ⟨c0, c1, c2⟩ := hrow.1 i c hc
        have hgl := hrow.2
        have hbZ : Below wr.heap.size wr (wr.alloc (.cells #[.int .i64 c.1, .int .i64 c.2.1, .int .i64 c.2.2] 56)) := (Below.refl _ _).alloc (Nat.le_refl _) _
        have kz := Ba.Blk.newAt wr 56 #[.int .i64 c.1, .int .i64 c.2.1, .int .i64 c.2.2] _ rfl
        have hI1 := hI.under hbZ
        have hb1 := hb.trans (hbZ.mono hb.size)
        have hbe := fun W hW => beside_any l c.1 c.2.1 c.2.2 W hl hcv.1 (by have := hcv.2; unfold halvesV; exact this) (goodB_iff.2 (by omega)) hW
        clear hrow hI hc hcap
        go_wp2_with fail
        refine (hbe _ (hs.below hb1)).mono ?_
        rintro e w1 (⟨_, vb, rfl, hown, hb2⟩ | ⟨hno, _⟩)
        · have kz1 := kz.under hb2
          have hI2 := hI1.under hb2
          have hb3 := hb1.trans (hb2.mono hb1.size)
          clear hbe kz hI1 hb1 hbZ c0 c1 c2 hgl hb2
          have hlenB := bes_len12 hl hcv
          have hkey : ∃ p cap, vb = .slice p (besC l c).length cap := by
            rcases hown.2 with ⟨rfl, h0⟩ | ⟨_, _, _, rfl, _⟩
            · exact ⟨none, 0, by show Value.slice none 0 0 = .slice none (besC l c).length 0; rw [show (besC l c).length = 0 from h0]⟩
            · exact ⟨_, _, rfl⟩
          obtain ⟨pb, capb, rfl⟩ := hkey
          have hown2 : w1.ownsRow _ 56 3 (.slice pb (besC l c).length capb) (besC l c).length (Ce.flat (besC l c)) := hown
          clear hown
          generalize (wr.alloc (.cells #[.int .i64 c.1, .int .i64 c.2.1, .int .i64 c.2.2] 56)).heap.size = B0 at *
          generalize wr.heap.size = Z at *
          go_wp2_with fail
          go_loopw [34] (fun t34 wq => N2 w l S c i Z B0 (.slice pb (besC l c).length capb) t34 wq) (fun t34 _ => (besC l c).length - (intOf t34).toNat)
          case atStart => exact ⟨0, n, s, Nat.zero_le _, rfl, hI2, by omega, hC, kz1, hown2, hb3⟩
          case round =>
            clear hI2 kz1 hown2 hb3 hn hC
            obtain ⟨j, n, s, hj, rfl, hI, hn, hC, kz, hown, hbq⟩ := hrel
            by_cases hjl : j < (besC l c).length
            · obtain ⟨d, hd⟩ : ∃ d, (besC l c)[j]? = some d := ⟨_, List.getElem?_eq_getElem hjl⟩
              have hdm := List.mem_of_getElem? hd
              obtain ⟨hdv, _, hd1, hd2⟩ := bes_mem hl hcv hdm
              obtain ⟨G, capg, hpb, hGl⟩ : ∃ G capg, Value.slice pb (besC l c).length capb = .slice (some ⟨G, 0, none⟩) (besC l c).length capg ∧ G < wr.heap.size := by
                have hlt0 := hown.lt
                rcases hown.2 with ⟨_, h0⟩ | ⟨G, capg, cur, hv, _, hh, _⟩
                · omega
                · exact ⟨G, capg, hv, (hlt0 G (by rw [hv]; rfl)).2⟩
              injection hpb with hp1 _ hp3
              subst hp1 hp3
              obtain ⟨f0, f1, f2⟩ := ceflat_get _ j d hd
              have d0 := (hown.cellAt (j * 3) (by omega)).trans f0
              have d1 := (hown.cellAt (j * 3 + 1) (by omega)).trans f1
              have d2 := (hown.cellAt (j * 3 + 1 + 1) (by omega)).trans f2
              have HTj := Lib.hid (show putL l c ((besC l c).take (j + 1)) (tabN l (S.take i)) = put1 l (putL l c ((besC l c).take j) (tabN l (S.take i))) c d by rw [List.take_add_one, hd]; exact putL_app l c _ d _)
              have HCj := Lib.hid (cap_put1 (l := l) hC c d)
              have hMd := hC d
              have hokd : okC d := ⟨wf_i64 (by omega), wf_i64 (by omega), wf_i64 (by have := hdv.1; have := hdv.2; split at this <;> omega)⟩
              have hshle := shareN_le l c d
              have HP := Lib.hid (show put1 l (putL l c ((besC l c).take j) (tabN l (S.take i))) c d = fun q => if q = d then some ((putL l c ((besC l c).take j) (tabN l (S.take i)) d).getD 0 + shareN l c d) else putL l c ((besC l c).take j) (tabN l (S.take i)) q from rfl)
              have hsh := fun W hW => share_any l c d W hW hl (by omega) (by omega) hdm
              clear f0 f1 f2 hd hC hd1 hd2
              generalize putL l c ((besC l c).take j) (tabN l (S.take i)) = M at *
              have hbY : Below wr.heap.size wr (wr.alloc (.cells #[.int .i64 d.1, .int .i64 d.2.1, .int .i64 d.2.2] 56)) := (Below.refl _ _).alloc (Nat.le_refl _) _
              have ky := Ba.Blk.newAt wr 56 #[.int .i64 d.1, .int .i64 d.2.1, .int .i64 d.2.2] _ rfl
              have kz' := kz.under hbY
              have hI' := hI.under hbY
              have hown' := Ba.own_below hown hbY
              have hbq' := hbq.trans (hbY.mono hbq.size)
              clear kz hI hown hbq hbY
              go_upto_region 11 with fail
              change Code.wp _ _ _ _ (wr.alloc (.cells #[.int .i64 d.1, .int .i64 d.2.1, .int .i64 d.2.2] 56))
              clear d0 d1 d2 hGl
              generalize wr.alloc (.cells #[.int .i64 d.1, .int .i64 d.2.1, .int .i64 d.2.2] 56) = W at *
              generalize wr.heap.size = Y at *
              have hlk0 : (Instr.lookup 78 (.map (some w.heap.size)) (CV d) false).run Tryd.prog W.drew = .ok (.int .i64 (((M d).getD 0 : Nat) : Int)) W.drew := (hI'.under (Ba.below_dr 1 (Below.refl _ _))).look (x := d) hokd
              have hsW := hs.below hbq'
              have hkb : Below W.heap.size W W := Below.refl _ _
              have hBZ : some Z ≠ some w.heap.size := fun e => isB_ne hI' kz' (by simpa using e)
              have hBY : some Y ≠ some w.heap.size := fun e => isB_ne hI' ky (by simpa using e)
              have lz := kz'.lt
              have ly := ky.lt
              have hsW0 := hbq'.size
              generalize hae : (M d).getD 0 = a at *
              generalize shareN l c d = sh at *
              have HAE := Lib.hid hae
              clear hae
              have HWr := Lib.hid (show (((a + sh : Nat)) : Int) = IntKind.i64.wrap ((a : Int) + (sh : Int)) by rw [IntKind.wrap_i64]; omega)
              have hbd : Below W.heap.size W W.drew := ⟨rfl, rfl, rfl, Nat.le_refl _, fun _ _ => rfl⟩
              go_region_held3 (fun w' => w'.cell? ⟨Z, 0, none⟩ = some (.int .i64 c.1) ∧ w'.cell? ⟨Z, 1, none⟩ = some (.int .i64 c.2.1) ∧ w'.cell? ⟨Z, 2, none⟩ = some (.int .i64 c.2.2) ∧ w'.cell? ⟨Y, 0, none⟩ = some (.int .i64 d.1) ∧ w'.cell? ⟨Y, 1, none⟩ = some (.int .i64 d.2.1) ∧ w'.cell? ⟨Y, 2, none⟩ = some (.int .i64 d.2.2)) (first | (refine keepC2 kz' ky ?_; go_grown; done) | exact keepC2 kz2 ky2 (Below.refl _ _) | exact keepC2 kz3 ky3 (Below.refl _ _) | exact keepC2 kz4 ky4 (Below.refl _ _))
                (first | (go_at_call 52; (with_reducible refine Calls.mono (hsh _ (hsW.below hbd)) ?_); rintro e w2 ⟨rfl, hb2⟩; have hb2 : Below W.heap.size W w2 := Ba.below_call hb2 hbd (Nat.le_refl _); have kz2 := kz'.under hb2; have ky2 := ky.under hb2; have hI2 := hI'.under hb2; have hown2 := Ba.own_below hown' hb2; have hbq2 := hbq'.trans (hb2.mono hsW0); have hlk2 : (Instr.lookup 78 (.map (some w.heap.size)) (CV d) false).run Tryd.prog w2 = .ok (.int .i64 (a : Int)) w2 := (by have h0 := hI2.look (x := d) hokd; rw [HAE.out] at h0; exact h0); obtain ⟨v0, st, o1, o2, s', hme, hes, hI3, hg1, hg2, hlk1⟩ := entry_store hI2 (by unfold maxLen; omega) hokd (wf_i64 (by rw [HAE.out]; omega)) (y := a + sh) (wf_i64 (by omega)); rw [HAE.out] at hlk1; rw [HWr.out] at hes; unfold goInt at hme hes; have kz3 := kz2.grown hg1 hBZ; have ky3 := ky2.grown hg1 hBY; have kz4 := kz2.grown hg2 hBZ; have ky4 := ky2.grown hg2 hBY))
              all_goals go_wp2_with fail
              all_goals
                refine ⟨⟨j + 1, n + 1, s', by omega, by go_num, ?_, by omega, ?_, kz4, own_map hown2 hI2 hg2, hbq2.grown hg2 hbq2.size ?_⟩, by simp [intOf]; omega⟩
                · rw [HTj.out, HP.out]
                  exact hI3
                · rw [HTj.out]
                  have := HCj.out
                  rw [show 384 * i + 32 * (j + 1) = 384 * i + 32 * j + 32 by omega]
                  exact this
                · intro k hk
                  injection hk with hk
                  omega
            · obtain rfl : j = (besC l c).length := by omega
              rw [List.take_length] at hI hC
              have hT2 := tabN_app l (S.take i) c
              rw [← HT.out] at hT2
              rw [← hT2] at hI hC
              clear hT2 hown
              go_wp2_with fail
              exact ⟨⟨i + 1, n, s, by omega, by go_num, hI, by omega, hC.mono (by omega), hbq⟩, by simp [intOf]; omega⟩
        · have := allG_near hl hcv hcz
          unfold besC at this
          rw [this] at hno
          cases hno
    · obtain rfl : i = S.length := by omega
      rw [List.take_length] at hI
      go_wp2_with fail
      exact bodyPost_ret (v := .tuple #[.map (some w.heap.size), .nilIface]) (by simp [results, Tryd.results36, go_sem]) rfl ⟨w.heap.size, n, s, rfl, hI, Nat.le_refl _, by omega, hb⟩
end Go.Proofs.YtjongkbjhiblmaaDoor.Fl
