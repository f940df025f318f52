/- Several texts, joined. -/
import Derived.Test.YtjongkbjhiblmaaDoorSeW4
import Derived.Test.YtjongkbjhiblmaaDoorSeO
import Derived.Test.YtjongkbjhiblmaaDoorCeLat
import Derived.Test.YtjongkbjhiblmaaDoorBs
import Derived.Maps.AppendAt
import Derived.Deep.RegionLaw
import Derived.Test.YtjongkbjhiblmaaDoorFlW4
import Derived.Test.YtjongkbjhiblmaaDoorTbW2
import Derived.BigRegion
/- The laws' own Some of a list: a set of at most forty cells of small coordinates. -/
namespace Go.Proofs.YtjongkbjhiblmaaDoor.Se
open Go.RowKit Go.Proofs.YtjongkbjhiblmaaDoor.Ax Go.Proofs.YtjongkbjhiblmaaDoor.Ba Go.Shelf Go.Lib Go.Sort
open Go.Proofs.YtjongkbjhiblmaaDoor.Ce (someH)

def someC (l : Int) (c : C) : C := (c.1.tmod 100, c.2.1.tmod 100, someH l c.2.2)
def SoR (w : World) (l : Int) (L : List C) (s i : Value) (wr : World) : Prop :=
  ∃ k : Nat, k ≤ L.length ∧ k ≤ 40 ∧ i = .int .i64 k ∧ wr.ownsRow w.heap.size 56 3 s k (flat ((L.take k).map (someC l))) ∧ Below w.heap.size w wr
set_option maxRecDepth 100000 in
set_option maxHeartbeats 4000000 in
theorem some4_any (l : Int) (v : Value) (L : List C) (w : World) (h : RawAt w v L) (hL : L.length ≤ maxLen) :
    Calls Tryd.prog 17 #[.int .i64 l, v] w fun e w' => ∃ v', e = .returned v' ∧ SetAt w' v' (ofL ((L.take 40).map (someC l))) ∧ Below w.heap.size w w' := by
  obtain ⟨i0, hi0, hz0, hz1, hz2⟩ := info_parts cell_info
  unfold maxLen at hL
  have HR := Lib.hid h
  have key : ∃ p cap, v = .slice p L.length cap := by
    rcases h with ⟨p, cap, rfl, rfl⟩ | ⟨g, o, cap, rfl, _, _⟩
    · exact ⟨p, cap, rfl⟩
    · exact ⟨_, _, rfl⟩
  obtain ⟨p, cap, rfl⟩ := key
  clear h
  have hown0 := World.ownsRow_made (base := w.heap.size) (e := 56) (size := 3) w #[] 0 (Nat.le_refl _) (Nat.zero_le _) (by simp)
  have HO := Lib.hid hown0
  clear hown0
  go_enter Tryd.func17, Tryd.ntmps17
  go_wp2_with fail
  go_loopw [5, 6] (fun s i wr => SoR w l L s i wr) (fun _ i _ => 40 - (intOf i).toNat)
  case atStart => exact ⟨0, Nat.zero_le _, by omega, rfl, by simpa [flat] using HO.out, by go_grown⟩
  case round =>
    obtain ⟨k, hk, hk40, rfl, hown, hb⟩ := hrel
    have hz := hb.size
    by_cases hlt : k < L.length
    · by_cases hl40 : k < 40
      · obtain ⟨x, hx⟩ : ∃ x, L[k]? = some x := ⟨_, List.getElem?_eq_getElem hlt⟩
        have hraw := HR.out.below hb
        rcases hraw with ⟨_, _, _, hnil⟩ | ⟨g, o, cap', hv, hcs, hg⟩
        · subst hnil; simp at hlt
        · injection hv with hv1 hv2 hv3
          subst hv1 hv3
          clear hv2
          obtain ⟨f0, f1, f2⟩ := flat_get L k x hx
          have c0 := hcs _ _ f0
          have c1 := hcs _ _ f1
          have c2 := hcs _ _ f2
          rw [show o + (k * 3 + 1) = o + k * 3 + 1 by omega] at c1
          rw [show o + (k * 3 + 1 + 1) = o + k * 3 + 1 + 1 by omega] at c2
          have HT := Lib.hid (show (L.take (k + 1)).map (someC l) = (L.take k).map (someC l) ++ [someC l x] by rw [List.take_add_one, hx]; simp)
          obtain ⟨y, hyy⟩ : ∃ y, someC l x = y := ⟨_, rfl⟩
          have HY := Lib.hid hyy
          clear hcs f0 f1 f2 hx
          go_wp2_with fail
          refine (Go.Proofs.YtjongkbjhiblmaaDoor.Ce.some_any l x.1 x.2.1 x.2.2 _).mono ?_
          rw [show x.1.tmod 100 = y.1 by rw [← hyy]; rfl, show x.2.1.tmod 100 = y.2.1 by rw [← hyy]; rfl, show someH l x.2.2 = y.2.2 by rw [← hyy]; rfl]
          clear hyy
          rintro e w1 ⟨rfl, hb1⟩
          have hown1 := own_below hown hb1
          have hb2 := hb.trans (hb1.mono hz)
          have hzz := hb2.size
          have hown2 := hown1.alloc (.cells #[.int .i64 y.1, .int .i64 y.2.1, .int .i64 y.2.2] 56)
          have hnew : ∀ j u, (flat [y])[j]? = some u → (w1.alloc (.cells #[.int .i64 y.1, .int .i64 y.2.1, .int .i64 y.2.2] 56)).cell? ((⟨w1.heap.size, 0, none⟩ : Addr).add j) = some u := fun j u hu => by
            rw [Addr.add_lit, Nat.zero_add, (Blk.newAt w1 _ _ _ rfl).cell j]
            simpa [flat, encC] using hu
          go_wp2_with (at_builtin; refine wpList_append_own _ rfl _ _ 32 rfl w.heap.size 56 i0 _ 3 24 Tryd.underlying32 hi0 hz0 hz1 hz2 rfl (by decide) _ _ _ rfl hown2 ⟨w1.heap.size, 0, none⟩ 1 1 (flat [y]) rfl (by simp [flat_len]) hnew (one_flat [y]) (by unfold maxLen; omega) (by omega) (by simp; omega) ?_)
          intro v' w' hown' hgr _
          have hb' : Below w.heap.size w w' := (hb2.alloc hzz _).grown hgr (by simp; omega) (fun q hq => (hown2.lt q hq).1)
          go_wp2_with fail
          go_roundw
          case rel => exact ⟨k + 1, by omega, by omega, by go_num, by rw [HT.out, HY.out, flat_app, List.map_take]; exact hown', hb'⟩
          case measure => simp [intOf]; omega
      · obtain rfl : k = 40 := by omega
        have hlm : ((L.take 40).map (someC l)).length = 40 := by rw [List.length_map, List.length_take]; omega
        have hof := of_any _ _ wr (set_of_own (by rw [hlm]; exact hown)) (by omega)
        go_wp2_with fail
        refine hof.mono ?_
        rintro e w3 ⟨v3, rfl, hs3, hb3⟩
        go_wp2_with fail
        go_ret
        exact ⟨_, rfl, hs3, hb.trans (hb3.mono hz)⟩
    · obtain rfl : k = L.length := by omega
      have HT := Lib.hid (show L.take 40 = L.take L.length by rw [List.take_of_length_le (by omega), List.take_length])
      have hlm : ((L.take L.length).map (someC l)).length = L.length := by rw [List.length_map, List.take_length]
      have hof := of_any _ _ wr (set_of_own (by rw [hlm]; exact hown)) (by omega)
      go_wp2_with fail
      refine hof.mono ?_
      rintro e w3 ⟨v3, rfl, hs3, hb3⟩
      go_wp2_with fail
      go_ret
      rw [HT.out]
      exact ⟨_, rfl, hs3, hb.trans (hb3.mono hz)⟩
end Go.Proofs.YtjongkbjhiblmaaDoor.Se

/- append to a row of one's own, as one step of a region that draws its order. -/
namespace Go.Proofs.YtjongkbjhiblmaaDoor.Ba
open Go.RowKit

theorem step_append_at {P : Program} {ops : Array Oper} {o : Oper} {a : Act} {w : World} {K : Act → World → Prop} {Q : Exit → Act → World → Prop} {E : Prop}
    (hg : o.guard = none) (s x : Operand) (t : TypeId) (hop : o.op = Op.call { callee := Callee.builtin Builtin.append, args := #[s, x], argTypes := #[t, t] })
    (base : Nat) (e : TypeId) (i : TypeInfo) (z : Value) (size bytes : Nat) (ht : P.underlying t = some (.slice e)) (hi : P.info? e = some i) (hz : i.zero = some z)
    (hsize : i.size = size) (hby : i.bytes = bytes) (hzs : z.cells.size = size) (hsz : 0 < size)
    (v : Value) (n : Nat) (xs : List Value) (hs : a.eval s = v) (hown : w.ownsRow base e size v n xs)
    (ad : Addr) (m c : Nat) (news : List Value) (hx : a.eval x = .slice (some ad) m c) (hl : news.length = m * size) (hnews : ∀ j u, news[j]? = some u → w.cell? (ad.add j) = some u) (h1 : ∀ u ∈ news, u.oneCell' = true)
    (h63 : n + m ≤ maxLen) (hbytes : (n + m) * bytes ≤ 140737488355328) (hbase : base ≤ w.heap.size)
    (hK : ∀ v' w', w'.ownsRow base e size v' (n + m) (xs ++ news) → w.grownBy w' v.ownBlock → (v'.ownBlock = v.ownBlock ∨ v'.ownBlock = some w.heap.size) → K (a.put o.dst v') w') :
    if Region.wanted o (yielded ops a.tmps) = true then Oper.wp P o a w K Q else E := by
  have hw : Region.wanted o (yielded ops a.tmps) = true := by simp [Region.wanted, hg]
  rw [if_pos hw]
  obtain ⟨v', w', hrun, r1, r2, _, r3⟩ := run_append_own_at (P := P) w base t o.type e i z size bytes ht hi hz hsize hby hzs hsz v n xs hown ad m c news hl hnews h1 h63 hbytes hbase
  unfold Oper.wp
  simp [execOp, hop, resolve, invoke, builtin, hs, hx, hrun, Result.andThen]
  exact hK v' w' r1 r2 r3
end Go.Proofs.YtjongkbjhiblmaaDoor.Ba

/- The laws' own awake. -/
namespace Go.Proofs.YtjongkbjhiblmaaDoor.Fl
open Go.RowKit Go.Proofs.YtjongkbjhiblmaaDoor.Ax Go.Proofs.YtjongkbjhiblmaaDoor.Ba Go.Lib Go.Maps
open Go.Proofs.YtjongkbjhiblmaaDoor.Se (SetAt Rising ofL mem_ofL rising_ofL of_any rising_ext)
open Go.Proofs.YtjongkbjhiblmaaDoor.Tb (Tab sel wrongT ringsTo rings_any u64_or Cl)

def awB : Nat := 282668995843688
theorem aw_o : ringsTo 2 111 64 = 281483583426632 := by decide +kernel
theorem aw_m : ringsTo 2 109 64 = 1116692677664 := by decide +kernel
theorem aw_p : ringsTo 2 112 64 = 68719739392 := by decide +kernel
def awS : List C := [(0, 0, 0), (1, 0, 0)]
def awR : List C := [(1, -1, 0), (0, 1, 0)]
theorem aw_good : Good 1 awB 0 0 0 := ⟨.inl rfl, by decide, by decide, by decide, by decide, by decide +kernel⟩
theorem awS_of : ofL [(0, 0, 0), (1, 0, 0)] = awS := by decide
theorem awS_rising : Rising awS := by rw [← awS_of]; exact rising_ofL _
theorem awR_of : ofL [(1, -1, 0), (0, 1, 0)] = awR := by decide
theorem awR_rising : Rising awR := by rw [← awR_of]; exact rising_ofL _
theorem awS_good : GoodS 1 awS := ⟨awS_rising, by decide, by decide, by decide⟩
theorem aw_fin : ∀ x ∈ [(-1 : Int), 0, 1, 2], ∀ y ∈ [(-1 : Int), 0, 1], (nxT awB 0 0 0 0 (decide (((x, y, 0) : C) ∈ awS)) (nbC 1 awS (x, y, 0)) = true ↔ ((x, y, 0) : C) ∈ awR) := by decide +kernel
theorem aw_uniq {R : List C} (h : Stp (nxT awB 0 0 0) 1 awS R) : R = awR := by
  refine rising_ext h.1 awR_rising fun c => ⟨fun hc => ?_, fun hc => ?_⟩
  · have hv := h.val c hc
    obtain ⟨d, hd, hx, hy⟩ := stp_near (.inl rfl) (bare_of aw_good.ok) h hc
    have hn := ((h.2 c).1 hc).2
    obtain ⟨x, y, z⟩ := c
    simp [awS] at hd
    unfold valid at hv
    simp at hv
    obtain rfl : z = 0 := by omega
    have h1 : x = -1 ∨ x = 0 ∨ x = 1 ∨ x = 2 := by rcases hd with rfl | rfl <;> simp at hx <;> omega
    have h2 : y = -1 ∨ y = 0 ∨ y = 1 := by rcases hd with rfl | rfl <;> simp at hy <;> omega
    exact (aw_fin x (by simpa using h1) y (by simpa using h2)).1 hn
  · simp [awR] at hc
    rcases hc with rfl | rfl
    · exact (h.2 _).2 ⟨by decide, (aw_fin 1 (by decide) (-1) (by decide)).2 (by decide)⟩
    · exact (h.2 _).2 ⟨by decide, (aw_fin 0 (by decide) 1 (by decide)).2 (by decide)⟩
def AwR (w : World) (t2 t3 : Value) (wx : World) : Prop := t3 = .nilIface ∧ SetAt wx t2 awR ∧ Below w.heap.size w wx
theorem keepT5 {W w' : World} {Z : Nat} {l : Int} {b0 b1 s0 s1 : Nat} (kz : Ba.Blk W Z 30 (TabC l b0 b1 s0 s1)) (hb : Below W.heap.size W w') :
    w'.cell? ⟨Z, 0, none⟩ = some (.int .i64 l) ∧ w'.cell? ⟨Z, 1, none⟩ = some (.int .u64 b0) ∧ w'.cell? ⟨Z, 2, none⟩ = some (.int .u64 b1) ∧ w'.cell? ⟨Z, 3, none⟩ = some (.int .u64 s0) ∧ w'.cell? ⟨Z, 4, none⟩ = some (.int .u64 s1) :=
  ⟨(kz.under hb).cell 0, (kz.under hb).cell 1, (kz.under hb).cell 2, (kz.under hb).cell 3, (kz.under hb).cell 4⟩
theorem two_set (w : World) : SetAt (w.alloc (.cells #[.int .i64 0, .int .i64 0, .int .i64 0, .int .i64 1, .int .i64 0, .int .i64 0] 56)) (.slice (some ⟨w.heap.size, 0, none⟩) 2 2) [(0, 0, 0), (1, 0, 0)] := by
  have k4 := Blk.newAt w 56 #[.int .i64 0, .int .i64 0, .int .i64 0, .int .i64 1, .int .i64 0, .int .i64 0] _ rfl
  refine .inr ⟨_, 2, rfl, by decide, ⟨fun i d hd => ?_, k4.lt⟩⟩
  have hi : i < 2 := (List.getElem?_eq_some_iff.1 hd).1
  have h3 : i = 0 ∨ i = 1 := by omega
  rcases h3 with rfl | rfl <;> simp at hd <;> subst hd <;> exact ⟨k4.cell _, k4.cell _, k4.cell _⟩
set_option maxRecDepth 100000 in
set_option maxHeartbeats 4000000 in
theorem awake8_any (w : World) (hs : SixIs w) :
    Calls Tryd.prog 4 #[] w fun e w' => e = .returned (.bool true) ∧ Below w.heap.size w w' := by
  have r1 := rings_any 2 111
  have r2 := rings_any 2 109
  have r3 := rings_any 2 112
  rw [aw_o] at r1
  rw [aw_m] at r2
  rw [aw_p] at r3
  dsimp only [Cl] at r1 r2 r3
  have e1 : bits .or .u64 281483583426632 1116692677664 = 282600276104296 := by decide +kernel
  have e2 : bits .or .u64 282600276104296 68719739392 = 282668995843688 := by decide +kernel
  go_enter Tryd.func4, Tryd.ntmps4
  go_wp2_with fail
  refine (r1 _).mono ?_
  rintro e w1 ⟨rfl, hb1⟩
  go_wp2_with fail
  refine (r2 _).mono ?_
  rintro e w2 ⟨rfl, hb2⟩
  have hb3 := hb1.trans (hb2.mono hb1.size)
  clear hb1 hb2 r1 r2
  go_wp2_with fail
  refine (r3 _).mono ?_
  rintro e w3 ⟨rfl, hb4⟩
  have hb5 := hb3.trans (hb4.mono hb3.size)
  clear hb3 hb4 r3
  go_upto_region 2 with fail
  have kz := Blk.newAt w3 30 (TabC 1 awB 0 0 0) _ rfl
  have hb6 := hb5.alloc hb5.size (.cells (TabC 1 awB 0 0 0) 30)
  have hs6 := hs.below hb6
  clear hs hb5
  change Code.wp _ _ _ _ (w3.alloc (.cells (TabC 1 awB 0 0 0) 30))
  have HW := Lib.hid hb6
  generalize w3.alloc (.cells (TabC 1 awB 0 0 0) 30) = w4 at *
  generalize w3.heap.size = Z at *
  obtain ⟨t0, t1, t2, t3, t4⟩ := keepT5 kz (Below.refl _ _)
  have hzl := kz.lt
  clear hb6
  go_cut [2, 3] (fun t2 t3 wx => AwR w4 t2 t3 wx)
  case first =>
    have hkb : Below w4.heap.size w4 w4 := Below.refl _ _
    go_region_held3 (fun w' => w'.cell? ⟨Z, 0, none⟩ = some (.int .i64 1) ∧ w'.cell? ⟨Z, 1, none⟩ = some (.int .u64 awB) ∧ w'.cell? ⟨Z, 2, none⟩ = some (.int .u64 0) ∧ w'.cell? ⟨Z, 3, none⟩ = some (.int .u64 0) ∧ w'.cell? ⟨Z, 4, none⟩ = some (.int .u64 0)) (first | (refine keepT5 kz ?_; go_grown; done))
      (first
        | (go_at_call 9; refine (step_any 1 awB 0 0 0 aw_good v5 awS _ (hs6.below (by go_grown)) (by first | exact hset | (refine hset.below ?_; go_grown)) awS_good).mono ?_; rintro e w7 ⟨v7, R, rfl, hR, hst, _, hb⟩; have hkb : Below w4.heap.size w4 w7 := Ba.below_call hb (by go_grown) (by first | exact hkb.size | go_size); obtain rfl := aw_uniq hst; clear hb hst)
        | (go_at_call 15; refine (of_any _ [(0, 0, 0), (1, 0, 0)] _ ((two_set w4).below (by first | exact Below.refl _ _ | exact (Below.refl _ _).drew | exact Ba.below_dr _ (Below.refl _ _) | go_grown)) (by decide)).mono ?_; rintro e w5 ⟨v5, rfl, hset, hb⟩; rw [awS_of] at hset; have hkb : Below w4.heap.size w4 w5 := Ba.below_call hb (by go_grown) (by first | exact hkb.size | (simp; omega) | simp | go_size); clear hb))
    all_goals go_wp2_with fail
    all_goals go_meet
    all_goals exact ⟨rfl, hR, by go_grown⟩
  case rest =>
    obtain ⟨rfl, hR, hb8⟩ := hcut
    have hb9 := HW.out.trans (hb8.mono HW.out.size)
    clear kz hs6 t0 t1 t2 t3 t4 hzl HW hb8
    rcases hR with ⟨_, h⟩ | ⟨g, cap, rfl, hcap, hr⟩
    · cases h
    · obtain ⟨c0, c1, c2⟩ := hr.1 0 (1, -1, 0) rfl
      obtain ⟨d0, d1, d2⟩ := hr.1 1 (0, 1, 0) rfl
      have hgl := hr.2
      have ez : ∀ w, (binOp .eql 56 (.agg #[.int .i64 1, .int .i64 (-1), .int .i64 0]) (.agg #[.int .i64 1, .int .i64 (-1), .int .i64 0])).run Tryd.prog w = .ok (.bool true) w := fun w => Se.eq_c (1, -1, 0) (1, -1, 0) w
      have ez2 : ∀ w, (binOp .eql 56 (.agg #[.int .i64 0, .int .i64 1, .int .i64 0]) (.agg #[.int .i64 0, .int .i64 1, .int .i64 0])).run Tryd.prog w = .ok (.bool true) w := fun w => Se.eq_c (0, 1, 0) (0, 1, 0) w
      simp only [Nat.zero_mul, Nat.one_mul, Nat.zero_add] at c0 c1 c2 d0 d1 d2
      rw [show awR.length = 2 from rfl]
      clear hr hcap
      go_wp2_with fail
      go_ret
      exact ⟨rfl, by go_grown⟩
end Go.Proofs.YtjongkbjhiblmaaDoor.Fl

/- The laws' own Few. -/
namespace Go.Proofs.YtjongkbjhiblmaaDoor.Se
open Go.RowKit Go.Proofs.YtjongkbjhiblmaaDoor.Ax Go.Proofs.YtjongkbjhiblmaaDoor.Ba Go.Shelf Go.Lib Go.Sort
open Go.Proofs.YtjongkbjhiblmaaDoor.Ce (someH)

def fewC (c : C) : C := (c.1.tmod 7, c.2.1.tmod 7, c.2.2)
def fewL (L : List C) : List C := (L.take 16).map fewC
theorem raw_of_set {w : World} {v : Value} {L : List C} (h : SetAt w v L) : RawAt w v L := by
  rcases h with ⟨rfl, rfl⟩ | ⟨g, cap, rfl, _, hr⟩
  · exact .inl ⟨none, 0, rfl, rfl⟩
  · exact .inr ⟨g, 0, cap, rfl, hr.flat, hr.2⟩
def FeR (w : World) (L : List C) (s i : Value) (wr : World) : Prop :=
  ∃ k : Nat, k ≤ L.length ∧ k ≤ 16 ∧ i = .int .i64 k ∧ wr.ownsRow w.heap.size 58 3 s k (flat ((L.take k).map fewC)) ∧ Below w.heap.size w wr
set_option maxRecDepth 100000 in
set_option maxHeartbeats 4000000 in
theorem few_any (l : Int) (v : Value) (L : List C) (w : World) (h : RawAt w v L) (hL : L.length ≤ maxLen) :
    Calls Tryd.prog 6 #[.int .i64 l, v] w fun e w' => ∃ v', e = .returned v' ∧ SetAt w' v' (ofL ((fewL L).map (someC l))) ∧ Below w.heap.size w w' := by
  obtain ⟨i0, hi0, hz0, hz1, hz2⟩ := info_parts raw_info
  unfold maxLen at hL
  have HR := Lib.hid h
  have key : ∃ p cap, v = .slice p L.length cap := by
    rcases h with ⟨p, cap, rfl, rfl⟩ | ⟨g, o, cap, rfl, _, _⟩
    · exact ⟨p, cap, rfl⟩
    · exact ⟨_, _, rfl⟩
  obtain ⟨p, cap, rfl⟩ := key
  clear h
  have hown0 := World.ownsRow_made (base := w.heap.size) (e := 58) (size := 3) w #[] 0 (Nat.le_refl _) (Nat.zero_le _) (by simp)
  have HO := Lib.hid hown0
  clear hown0
  go_enter Tryd.func6, Tryd.ntmps6
  go_wp2_with fail
  go_loopw [5, 6] (fun s i wr => FeR w L s i wr) (fun _ i _ => 16 - (intOf i).toNat)
  case atStart => exact ⟨0, Nat.zero_le _, by omega, rfl, by simpa [flat] using HO.out, by go_grown⟩
  case round =>
    obtain ⟨k, hk, hk16, rfl, hown, hb⟩ := hrel
    have hz := hb.size
    by_cases hlt : k < L.length
    · by_cases hl16 : k < 16
      · obtain ⟨x, hx⟩ : ∃ x, L[k]? = some x := ⟨_, List.getElem?_eq_getElem hlt⟩
        have hraw := HR.out.below hb
        rcases hraw with ⟨_, _, _, hnil⟩ | ⟨g, o, cap', hv, hcs, hg⟩
        · subst hnil; simp at hlt
        · injection hv with hv1 hv2 hv3
          subst hv1 hv3
          clear hv2
          obtain ⟨f0, f1, f2⟩ := flat_get L k x hx
          have c0 := hcs _ _ f0
          have c1 := hcs _ _ f1
          have c2 := hcs _ _ f2
          rw [show o + (k * 3 + 1) = o + k * 3 + 1 by omega] at c1
          rw [show o + (k * 3 + 1 + 1) = o + k * 3 + 1 + 1 by omega] at c2
          have HT := Lib.hid (show (L.take (k + 1)).map fewC = (L.take k).map fewC ++ [fewC x] by rw [List.take_add_one, hx]; simp)
          obtain ⟨y, hyy⟩ : ∃ y, fewC x = y := ⟨_, rfl⟩
          have HY := Lib.hid hyy
          have e0 : x.1.tmod 7 = y.1 := by rw [← hyy]; rfl
          have e1 : x.2.1.tmod 7 = y.2.1 := by rw [← hyy]; rfl
          have e2 : x.2.2 = y.2.2 := by rw [← hyy]; rfl
          rw [e2] at c2
          clear hcs f0 f1 f2 hx hyy e2
          go_upto_region 5 with fail
          have hown2 : (wr.drew.alloc (.cells #[.int .i64 y.1, .int .i64 y.2.1, .int .i64 y.2.2] 58)).ownsRow w.heap.size 58 3 u5 k (flat ((L.take k).map fewC)) := hown.alloc _
          have hnew : ∀ j u, (flat [y])[j]? = some u → (wr.drew.alloc (.cells #[.int .i64 y.1, .int .i64 y.2.1, .int .i64 y.2.2] 58)).cell? ((⟨wr.heap.size, 0, none⟩ : Addr).add j) = some u := news1 wr.drew _ y
          have hba : Below w.heap.size w (wr.drew.alloc (.cells #[.int .i64 y.1, .int .i64 y.2.1, .int .i64 y.2.2] 58)) := hb.drew.alloc hz _
          go_region_law (refine step_append_at rfl (.tmp 18) (.tmp 37) 26 rfl w.heap.size 58 i0 _ 3 24 Tryd.underlying26 hi0 hz0 hz1 hz2 rfl (by decide) _ _ _ (by simp [Act.eval]) hown2 ⟨wr.heap.size, 0, none⟩ 1 1 (flat [y]) (by simp [Act.eval]) (by simp [flat_len]) hnew (one_flat [y]) (by unfold maxLen; omega) (by omega) (by first | exact hba.size | (simp; omega)) ?_; intro v' w' hown' hgr _)
          all_goals
            have hb' : Below w.heap.size w w' := hba.grown hgr hba.size (fun q hq => (hown2.lt q hq).1)
            go_wp2_with fail
            go_roundw
            case rel => exact ⟨k + 1, by omega, by omega, by go_num, by rw [HT.out, HY.out, flat_app]; exact hown', hb'⟩
            case measure => simp [intOf]; omega
      · obtain rfl : k = 16 := by omega
        have hlm : ((L.take 16).map fewC).length = 16 := by rw [List.length_map, List.length_take]; omega
        have hof := some4_any l u5 (fewL L) wr (raw_of_set (set_own (by rw [fewL, hlm]; exact hown))) (by rw [fewL, hlm]; unfold maxLen; omega)
        rw [show (fewL L).take 40 = fewL L from List.take_of_length_le (by rw [fewL, hlm]; omega)] at hof
        go_wp2_with fail
        refine hof.mono ?_
        rintro e w3 ⟨v3, rfl, hs3, hb3⟩
        go_wp2_with fail
        go_ret
        exact ⟨_, rfl, hs3, hb.trans (hb3.mono hz)⟩
    · obtain rfl : k = L.length := by omega
      have HT : L.take 16 = L.take L.length := by rw [List.take_of_length_le (by omega), List.take_length]
      have hlm : ((L.take 16).map fewC).length = L.length := by rw [HT, List.length_map, List.take_length]
      have hof := some4_any l u5 (fewL L) wr (raw_of_set (set_own (by rw [fewL, hlm, HT]; exact hown))) (by rw [fewL, hlm]; unfold maxLen; omega)
      rw [show (fewL L).take 40 = fewL L from List.take_of_length_le (by rw [fewL, hlm]; omega)] at hof
      clear HT hlm
      go_wp2_with fail
      refine hof.mono ?_
      rintro e w3 ⟨v3, rfl, hs3, hb3⟩
      go_wp2_with fail
      go_ret
      exact ⟨_, rfl, hs3, hb.trans (hb3.mono hz)⟩
end Go.Proofs.YtjongkbjhiblmaaDoor.Se

/- What the laws' own Few gives. -/
namespace Go.Proofs.YtjongkbjhiblmaaDoor.Fl
open Go.RowKit Go.Proofs.YtjongkbjhiblmaaDoor.Ax Go.Proofs.YtjongkbjhiblmaaDoor.Ba Go.Lib Go.Maps
open Go.Proofs.YtjongkbjhiblmaaDoor.Se (SetAt Rising ofL mem_ofL rising_ofL ofL_len fewL fewC someC)

def fewS (l : Int) (L : List C) : List C := ofL ((fewL L).map (someC l))
theorem fewS_in {l : Int} {L : List C} {c : C} (h : c ∈ fewS l L) : valid l c ∧ (-6 ≤ c.1 ∧ c.1 ≤ 6) ∧ (-6 ≤ c.2.1 ∧ c.2.1 ≤ 6) := by
  obtain ⟨x, hx, rfl⟩ := List.mem_map.1 ((mem_ofL _ _).1 h)
  obtain ⟨y, _, rfl⟩ := List.mem_map.1 hx
  have h1 := tmod_bd y.1 7 (by decide)
  have h2 := tmod_bd y.2.1 7 (by decide)
  have e1 : (y.1.tmod 7).tmod 100 = y.1.tmod 7 := by
    rcases Int.lt_or_le (y.1.tmod 7) 0 with h | h
    · have : (y.1.tmod 7) = -(-(y.1.tmod 7)) := by omega
      rw [this, Int.neg_tmod, Int.tmod_eq_of_lt (by omega) (by omega)]
    · exact Int.tmod_eq_of_lt h (by omega)
  have e2 : (y.2.1.tmod 7).tmod 100 = y.2.1.tmod 7 := by
    rcases Int.lt_or_le (y.2.1.tmod 7) 0 with h | h
    · have : (y.2.1.tmod 7) = -(-(y.2.1.tmod 7)) := by omega
      rw [this, Int.neg_tmod, Int.tmod_eq_of_lt (by omega) (by omega)]
    · exact Int.tmod_eq_of_lt h (by omega)
  have h3 := Go.Proofs.YtjongkbjhiblmaaDoor.Ce.someH_bd l y.2.2
  refine ⟨⟨h3.1, ?_⟩, ?_, ?_⟩
  · have := h3.2
    unfold Go.Proofs.YtjongkbjhiblmaaDoor.Ce.halvesV at this
    exact this
  · simp only [someC, fewC, e1]; omega
  · simp only [someC, fewC, e2]; omega
theorem fewS_len (l : Int) (L : List C) : (fewS l L).length ≤ 16 := by
  have h := ofL_len ((fewL L).map (someC l))
  unfold fewS
  simp only [fewL, List.length_map, List.length_take] at h
  exact Nat.le_trans h (Nat.min_le_left _ _)
theorem fewS_good (l : Nat) (L : List C) : GoodS l (fewS l L) := ⟨rising_ofL _, fun c hc => (fewS_in hc).1, fun c hc => by have := (fewS_in hc).2; omega, by have := fewS_len l L; omega⟩
end Go.Proofs.YtjongkbjhiblmaaDoor.Fl
