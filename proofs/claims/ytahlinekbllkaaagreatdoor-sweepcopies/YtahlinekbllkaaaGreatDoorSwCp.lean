/-
  SweepCopies: for any two lists of cells and any number it answers true: a set's root is copied into the arena of another set: it has its cells there, and is the root that building it there gives; what isn't there is told by Copy, Reach and Collect; in an arena of 64 nodes it is copied where it has no more nodes, or there is no room.
  Conditions: the listed table (math/bits.deBruijn32tab) reads as the card says.
-/
import Derived.Test.YtahlinekbllkaaaGreatDoorTrK3
import Derived.Test.YtahlinekbllkaaaGreatDoorTrK2
import Derived.Test.YtahlinekbllkaaaGreatDoorTrW14
import Derived.Test.YtahlinekbllkaaaGreatDoorTrU
import Derived.Test.YtahlinekbllkaaaGreatDoorSwU
import Derived.Test.YtahlinekbllkaaaGreatDoorBsT
import Derived.Deep.DeepHandedRow
import Derived.Lib.SmallJoins
import Derived.BigQuiet
namespace Go.Proofs.YtahlinekbllkaaaGreatDoor.Sw
open Go.RowKit Go.Proofs.YtahlinekbllkaaaGreatDoor.Ba Go.Proofs.YtahlinekbllkaaaGreatDoor.Ar Go.Proofs.YtahlinekbllkaaaGreatDoor.Tr Go.Lib
open Go.Proofs.YtahlinekbllkaaaGreatDoor.Si (DebIs)
open Go.Proofs.YtahlinekbllkaaaGreatDoor.Se (RawAt SetAt ofL own4_any set_of_own are_any rising_ofL Rising boxL)

def WidC (K : List C) : Prop := ∀ c ∈ K, (-2199023255552 < c.1 ∧ c.1 < 2199023255552) ∧ (-2199023255552 < c.2.1 ∧ c.2.1 < 2199023255552) ∧ (c.2.2 = 0 ∨ c.2.2 = 1)
theorem widc_in {K : List C} (h : WidC K) : ∀ c ∈ K, insB 44 c.1 c.2.1 = true := fun c hc => ins44 (by have := h c hc; omega) (by have := h c hc; omega)
theorem widc_half {K : List C} (h : WidC K) : ∀ c ∈ K, c.2.2 = 0 ∨ c.2.2 = 1 := fun c hc => (h c hc).2.2
theorem tight2 {w : World} {h : Nat} {S : Sta} {P : Nat → Prop} {v : Value} {K : List C} (hA : ArAt w h S P) (hN : S.N ≠ []) (hs : SetAt w v K) :
    ∃ P0 : Nat → Prop, ArAt w h S P0 ∧ (∀ b, P0 b → P b ∧ b < w.heap.size) ∧ ∀ w', Off (fun b => P0 b ∨ w.heap.size ≤ b) w w' → SetAt w' v K := by
  obtain ⟨P1, h1, h2, h3⟩ := ar_tight hA hN
  refine ⟨fun b => P1 b ∧ b < w.heap.size, h1.weak fun b hb hlt => ⟨hb, hlt⟩, fun b hb => ⟨h2 b hb.1, hb.2⟩, fun w' ho => ?_⟩
  rcases hs with hs | ⟨q, cap, hv, hc, hr⟩
  · exact .inl hs
  · refine .inr ⟨q, cap, hv, hc, ?_⟩
    cases K with
    | nil => exact ⟨fun i d hd => by simp at hd, Nat.lt_of_lt_of_le hr.2 ho.size⟩
    | cons x K =>
      have hq := h3 q (x :: K) hr (by simp)
      have e : w'.heap[q]? = w.heap[q]? := ho.block q hr.2 (fun hq' => by rcases hq' with hq' | hq'; exact hq hq'.1; have := hr.2; omega)
      exact ⟨fun i d hd => by
        obtain ⟨a, b, k⟩ := hr.1 i d hd
        exact ⟨(World.cell?_of_block (a := ⟨q, _, none⟩) e).trans a, (World.cell?_of_block (a := ⟨q, _, none⟩) e).trans b, (World.cell?_of_block (a := ⟨q, _, none⟩) e).trans k⟩, Nat.lt_of_lt_of_le hr.2 ho.size⟩
theorem lv_ne {S : Sta} {d i : Nat} (T : Tw S) (h : lvOk S.N d i) (hd : 1 ≤ d) : S.N ≠ [] := by
  obtain ⟨e, rfl⟩ : ∃ e, d = e + 1 := ⟨d - 1, by omega⟩
  obtain ⟨nd, _, h1, _⟩ := node_case T h
  intro e
  rw [e] at h1
  simp at h1
theorem nz_ge {L : List Nat} (h : L.Nodup) : L.length ≤ nz L + 1 := by
  have := nodup_le (B := 0 :: L.filter fun x => decide (x ≠ 0)) h fun x hx => by
    by_cases e : x = 0
    · simp [e]
    · exact List.mem_cons_of_mem _ (List.mem_filter.2 ⟨hx, by simpa using e⟩)
  exact this
section
variable {S T T0 : Sta} {R L Q J : List Nat} {er : Option Nat} {K : Nat → Option Nat} {d i j x y n : Nat}
theorem cy_bad (h : Cy S T0 R er T K L J) (h0 : T0.N.length ≤ 100000) (hN : S.N.length ≤ 600000) (hm : 800000 ≤ T0.more) (hR : x ∈ R) (hx : levelOf S.N x < 2) : er = some 4 := by
  rcases h.ok with ⟨_, h1, _⟩ | ⟨_, h2, _⟩ | ⟨h1, _⟩
  · have := h1 x hR; omega
  · exfalso
    unfold full at h2
    have h3 := h.ext.more
    rw [h3] at h2
    have h4 := h.len
    have h5 := nz_le L
    have h6 := h.kn.len
    omega
  · exact h1
/-- Into an arena of 64 nodes. -/
theorem cy_small (h : Cy S (newS 64) [x] er T K L J) (WS : Tw S) (hd : lvOk S.N d x) (hx : 2 ≤ levelOf S.N x) (hQ : Rr S.N [x] Q) : (er = none ∧ Q.length ≤ 64) ∨ (er = some 8 ∧ 64 ≤ Q.length) := by
  have hm : T.more = 0 := h.ext.more
  have hmemQ : ∀ y, y ∈ Q ↔ Rch S.N d x y := fun y => by
    rw [hQ.mem]
    constructor
    · rintro ⟨r, hr, e, h1, h2⟩
      rw [List.mem_singleton] at hr
      subst hr
      obtain rfl := lv_uniq h1 hd
      exact h2
    · exact fun h => ⟨x, by simp, d, hd, h⟩
  have hLQ : ∀ y ∈ L, y ∈ Q := fun y hy => by
    obtain ⟨r, hr, e, h1, h2⟩ := h.new y ((h.kn.keys y).1 hy)
    exact (hQ.mem y).2 ⟨r, hr, e, h1, h2⟩
  rcases h.ok with ⟨h1, _, h2⟩ | ⟨h1, h2, y, hy0, ⟨r, hr, e, g1, g2⟩, hyK⟩ | ⟨_, r, hr, h2⟩
  · refine .inl ⟨h1, ?_⟩
    have hKx : (K x).isSome = true := by
      cases hk : K x with
      | some j => rfl
      | none =>
        rw [List.map_cons, hk] at h2
        cases J with
        | nil => simp at h2
        | cons j J => simp at h2
    have hQL : ∀ y ∈ Q, y ∈ L := fun y hy => (h.kn.keys y).2 (h.kn.all WS hd hKx ((hmemQ y).1 hy))
    have a := nodup_le hQ.nodup hQL
    have b := nz_ge h.kn.nodup
    have c := h.kn.count WS
    have e := h.ext.cap (by decide)
    omega
  · refine .inr ⟨h1, ?_⟩
    unfold full at h2
    have hl := h.len
    rw [newS_nil] at hl
    have hyQ : y ∈ Q := (hQ.mem y).2 ⟨r, hr, e, g1, g2⟩
    have hyL : y ∉ L := fun hm => by
      have := (h.kn.keys y).1 hm
      rw [hyK] at this
      cases this
    have := nodup_le (A := y :: L.filter fun z => decide (z ≠ 0)) (B := Q) (List.nodup_cons.2 ⟨fun hm => hyL (List.mem_filter.1 hm).1, h.kn.nodup.filter _⟩) fun z hz => by
      rcases List.mem_cons.1 hz with rfl | hz
      · exact hyQ
      · exact hLQ z (List.mem_filter.1 hz).1
    have e2 : (y :: L.filter fun z => decide (z ≠ 0)).length = nz L + 1 := rfl
    omega
  · rw [List.mem_singleton] at hr
    subst hr
    omega
theorem lv_far (h : S.N.length < n) : levelOf S.N n = -1 := by
  have h0 : n ≠ 0 := by omega
  have h1 : S.N[n - 1]? = none := List.getElem?_eq_none (by omega)
  simp [levelOf, ndAt, h0, h1]
end
theorem eql_e44 (w : World) : (binOp .eql 34 (.iface 56 (.int .i64 4)) (.iface 56 (.int .i64 4))).run Tryz.prog w = .ok (.bool true) w := by kernel_rfl
theorem eql_e88 (w : World) : (binOp .eql 34 (.iface 56 (.int .i64 8)) (.iface 56 (.int .i64 8))).run Tryz.prog w = .ok (.bool true) w := by kernel_rfl
set_option maxRecDepth 100000 in
set_option maxHeartbeats 2000000 in
theorem sweepCopies_walk (v0 : Value) (L0 : List C) (v1 : Value) (L1 : List C) (i : Int) (w_i : (Lit.int .u32 i).wf = true) (w : World) (hD : DebIs w) (h0 : RawAt w v0 L0) (hL0 : L0.length ≤ maxLen) (h1 : RawAt w v1 L1) (hL1 : L1.length ≤ maxLen) :
    Calls Tryz.prog 5 #[v0, v1, .int .u32 i] w fun e w' => e = .returned (.bool true) ∧ Below w.heap.size w w' := by
  obtain ⟨n0, rfl, hn0⟩ : ∃ n : Nat, i = n ∧ n < 4294967296 := by
    simp [Lit.wf, IntKind.min, IntKind.max, IntKind.signed, IntKind.bits] at w_i
    exact ⟨i.toNat, by omega, by omega⟩
  obtain ⟨nn, hor, hnn, hnu⟩ : ∃ nn : Nat, bits .or .u32 (n0 : Int) 2147483648 = (nn : Int) ∧ 2147483648 ≤ nn ∧ okU nn := ⟨n0 ||| 2147483648, u32_or_nat n0 2147483648 hn0 (by decide), Nat.right_le_or, Nat.or_lt_two_pow (n := 32) hn0 (by decide)⟩
  have HOr := Lib.hid hor
  have HD := Lib.hid hD
  have HR0 := Lib.hid h0
  have HR1 := Lib.hid h1
  have HL0 := Lib.hid hL0
  have HL1 := Lib.hid hL1
  clear hD h0 h1 hL0 hL1 w_i hor
  go_enter Tryz.func5, Tryz.ntmps5
  go_wp2_with fail
  refine (Sw.awake_any _).mono ?_
  rintro e w1 ⟨rfl, hb1⟩
  have HB1 := Lib.hid hb1
  have hwi := wide_any v0 L0 w1 (HR0.out.below hb1) HL0.out
  clear hb1
  go_wp2_with fail
  refine hwi.mono ?_
  rintro e w2 ⟨vs, rfl, hs2, hb2⟩
  have HB2 := Lib.hid (HB1.out.trans (hb2.mono HB1.out.size))
  have hwj := wide_any v1 L1 w2 (HR1.out.below HB2.out) HL1.out
  clear hwi hb2
  go_wp2_with fail
  refine hwj.mono ?_
  rintro e w3 ⟨vt, rfl, ht3, hb3⟩
  have HB3 := Lib.hid (HB2.out.trans (hb3.mono HB2.out.size))
  have HS := Lib.hid (hs2.below hb3)
  have HT := Lib.hid ht3
  have HKi : Hid (WidC (wideS L0)) := Lib.hid fun c hc => wide_in hc
  have HMi : Hid (WidC (wideS L1)) := Lib.hid fun c hc => wide_in hc
  have hKl := wide_len L0
  have hMl := wide_len L1
  have HKr : Hid (Rising (wideS L0)) := Lib.hid (rising_ofL _)
  clear hwj hb3 hs2 ht3
  generalize wideS L0 = K at *
  generalize wideS L1 = M at *
  have hmk := make_any vs K w3 (set_raw HS.out) (widc_in HKi.out) (widc_half HKi.out) (by omega)
  go_wp2_with fail
  refine hmk.mono ?_
  rintro e w4 ⟨x, d, S1, rfl, hB1, hA4, hb4⟩
  obtain ⟨h, hh⟩ : ∃ h, w3.heap.size = h := ⟨_, rfl⟩
  rw [hh] at hA4 hb4 ⊢
  have HH := Lib.hid hh
  have HC4 := Lib.hid hb4
  have hz0 : ne (newS 1048576).N = 0 := by decide
  have hm1 : 800000 ≤ S1.more := by rw [hB1.ext.more]; decide
  have HRx : Hid (Rt S1 d x K) := Lib.hid (Rt.of hB1 HKr.out)
  have HLx : Hid (Lst (boxL K) (d + 2)) := Lib.hid hB1.lv
  have hd1 := hB1.pos
  have hd2 : d ≤ 42 := by have := hB1.lv.hi; omega
  have hN1 : S1.N.length ≤ 2000 := by have := bt_le hB1; rw [hz0] at this; omega
  have hsz4 : h ≤ w4.heap.size := by have := hb4.size; omega
  have hmk2 := make_any vt M w4 (set_raw (HT.out.below (by rw [HH.out]; exact hb4))) (widc_in HMi.out) (widc_half HMi.out) (by omega)
  clear hmk hB1 hb4 hh
  go_wp2_with fail
  refine hmk2.mono ?_
  rintro e w5 ⟨y, d2, S2, rfl, hB2, hA5, hb5⟩
  have HC5 := Lib.hid (HC4.out.trans (hb5.mono hsz4))
  have hsz5 : w4.heap.size ≤ w5.heap.size := hb5.size
  have hm2 : 800000 ≤ S2.more := by rw [hB2.ext.more]; decide
  have hN2 : S2.N.length ≤ 2000 := by have := bt_le hB2; rw [hz0] at this; omega
  have HW2 : Hid (Tw S2) := Lib.hid hB2.ext.tw
  have HA5 := Lib.hid ((hA4.weak (P' := fun k => h ≤ k ∧ k < w4.heap.size) fun k hk hlt => ⟨hk, hlt⟩).under hb5)
  have hxu := lv_u HRx.out.lv (by omega : S1.N.length ≤ 1000000)
  clear hmk2 hB2 hb5 hz0 hA4
  go_upto_region 8 with fail
  have hb6 : Below w5.heap.size w5 (w5.alloc (.cells #[.int .u32 (x : Int), .int .u32 (x : Int)] 28)) := by go_grown
  have hU6 := uat_two w5 28 x x
  have HA6 := Lib.hid (HA5.out.under hb6)
  have hT6 := (hA5.weak (P' := fun k => w4.heap.size ≤ k ∧ k ≠ w5.heap.size) fun k hk hlt => ⟨hk, by omega⟩).under hb6
  have HC6 := Lib.hid (HC5.out.trans (hb6.mono (by omega)))
  have hsz6 : w5.heap.size + 1 ≤ (w5.alloc (.cells #[.int .u32 (x : Int), .int .u32 (x : Int)] 28)).heap.size := by simp
  have hcp := copy_any h w4.heap.size S1 S2 (fun k => h ≤ k ∧ k < w4.heap.size) (fun k => w4.heap.size ≤ k ∧ k ≠ w5.heap.size) [x, x] _ _ HA6.out hT6 (fun k hk => by omega) (fun k hk => by omega) hU6 (fun g o n cap e hg => by injection e with e; injection e with e; injection e with e; exact hg.2 e.symm) (by intro r hr; simp only [List.mem_cons, List.not_mem_nil, or_false] at hr; rcases hr with rfl | rfl <;> exact hxu) (by simp) HRx.out.tw HW2.out (by omega) (by omega)
  clear hb6 hU6 hT6 hA5
  go_wp2_with fail
  refine hcp.mono ?_
  rintro e w7 ⟨v7, er, T, K1, Q1, J1, rfl, hCy, hA7, ho7, hown7, _⟩
  clear hcp
  generalize w5.alloc (.cells #[.int .u32 (x : Int), .int .u32 (x : Int)] 28) = w6 at *
  obtain rfl : er = none := cy_room hCy (by omega) (by omega) hm2 (by intro r hr; simp only [List.mem_cons, List.not_mem_nil, or_false] at hr; rcases hr with rfl | rfl <;> exact rt_there HRx.out)
  obtain ⟨j0, j1, rfl, hj0, hj1⟩ := cy_two hCy
  obtain rfl : j0 = j1 := by rw [hj0] at hj1; exact Option.some.inj hj1
  have HRj : Hid (Rt T d j0 K) := Lib.hid (rt_copy HRx.out hCy.kn hCy.ext.tw hj0).1
  have hm3 : 800000 ≤ T.more := by rw [hCy.ext.more]; exact hm2
  have hN3 : T.N.length ≤ 10000 := by have h1 := hCy.len; have := nz_le Q1; have := hCy.kn.len; omega
  have hsz7 : w6.heap.size ≤ w7.heap.size := ho7.size
  have HC7 := Lib.hid (HC6.out.trans (ho7.below (B := h) (by omega) (fun b hb => by omega)))
  have HA7 := Lib.hid (HA6.out.same fun k hk hlt => ho7.block k hlt fun hn => by omega)
  obtain ⟨g7, cp7, rfl, hc7, hg7, hgl7, hv7⟩ := own_u32 (k := 0) (x := j0) hown7 rfl
  have hv71 : w7.cell? ⟨g7, 1, none⟩ = some (.int .u32 (j0 : Int)) := by
    obtain ⟨g, cap, hv, _, _, _, hc⟩ := own_u32 (k := 1) (x := j0) hown7 rfl
    injection hv with hv
    injection hv with hv
    injection hv with hv
    rw [hv]
    exact hc
  have hT7 := hA7.weak (P' := fun k => w4.heap.size ≤ k ∧ k ≠ g7) fun k hk _ => ⟨hk.1.1, fun e => hk.2 (by rw [e]; rfl)⟩
  clear hCy hj0 hj1 ho7 hown7 hA7
  unfold errV
  go_upto_region 9 with fail
  go_cut [82] (fun t82 wx => t82 = .bool false ∧ Below w7.heap.size w7 wx)
  case first =>
    go_quiet (fail)
    all_goals go_wp2_with fail
    all_goals go_meet
    all_goals exact ⟨rfl, Ba.below_dr _ (Below.refl _ _)⟩
  case rest =>
    obtain ⟨rfl, hb8⟩ := hcut
    generalize wc = w8 at *
    have HC8 := Lib.hid (HC7.out.trans (hb8.mono (by omega)))
    have HA8 := Lib.hid (HA7.out.under hb8)
    have hT8 := hT7.under hb8
    have hv8 := (hb8.cell (p := ⟨g7, 0, none⟩) hgl7).trans hv7
    have hsz8 : w7.heap.size ≤ w8.heap.size := hb8.size
    have hgl8 : g7 < w8.heap.size := by omega
    have HDb : Hid (∀ W, Below h w3 W → DebIs W) := Lib.hid fun W hb => HD.out.below (HB3.out.trans ((show Below w3.heap.size w3 W by rw [HH.out]; exact hb).mono HB3.out.size))
    have hce := cells_root w4.heap.size j0 d 100 T _ w8 hT8 HRj.out.lv hd1 hd2 HRj.out.tw (by omega) (HDb.out _ HC8.out) (by decide) (by decide) (by have := HRj.out.count; omega) (by have := HRj.out.len; omega)
    rw [HRj.out.ofL] at hce
    clear hb8 hv7 hv71 hT7 hgl7
    go_wp2_with fail
    refine hce.mono ?_
    rintro e w9 ⟨got, rfl, hs9, hb9⟩
    have HC9 := Lib.hid (HC8.out.trans (hb9.mono (by omega)))
    have HA9 := Lib.hid (HA8.out.under hb9)
    have hT9 := hT8.under hb9
    have hv9 := (hb9.cell (p := ⟨g7, 0, none⟩) hgl8).trans hv8
    have hsz9 : w8.heap.size ≤ w9.heap.size := hb9.size
    have hgl9 : g7 < w9.heap.size := by omega
    have hos := own4_any vs K w9 (set_raw (HS.out.below (by rw [HH.out]; exact HC9.out))) (by unfold maxLen; omega)
    rw [List.take_of_length_le (by omega)] at hos
    clear hce hb9 hv8 hT8 hgl8
    go_wp2_with fail
    refine hos.mono ?_
    rintro e wA ⟨uA, rfl, hu, hbA⟩
    have HCA := Lib.hid (HC9.out.trans (hbA.mono (by omega)))
    have HAA := Lib.hid (HA9.out.under hbA)
    have hTA := hT9.under hbA
    have hvA := (hbA.cell (p := ⟨g7, 0, none⟩) hgl9).trans hv9
    have hszA : w9.heap.size ≤ wA.heap.size := hbA.size
    have hglA : g7 < wA.heap.size := by omega
    obtain ⟨P0, hA0, hP0, hkeep⟩ := tight2 hTA (lv_ne HRj.out.tw HRj.out.lv hd1) (hs9.below hbA)
    have hneT : ne T.N ≤ T.N.length := List.length_filter_le _ _
    have hbu := build_top uA K w4.heap.size T (fun k => P0 k ∨ wA.heap.size ≤ k) wA (set_of_own hu) (widc_in HKi.out) (widc_half HKi.out) (by omega) (hA0.weak fun k hk _ => .inl hk) (fun k hk => .inr hk) HRj.out.tw (by omega)
    have HP0 := Lib.hid hP0
    have HKeep := Lib.hid hkeep
    clear hos hu hbA hs9 hv9 hT9 hTA hgl9 hA0 hP0 hkeep
    go_wp2_with fail
    refine hbu.mono ?_
    rintro e wB ⟨z, er, T4, dz, rfl, hB4, hAB, hoB⟩
    obtain ⟨rfl, rfl, rfl, rfl⟩ := bt_same HRj.out HLx.out hB4
    have hszB : wA.heap.size ≤ wB.heap.size := hoB.size
    have HCB := Lib.hid (HCA.out.trans (hoB.below (B := h) (by omega) (fun b hb => by rcases hb with hb | hb; have := (HP0.out b hb).1.1; omega; omega)))
    have HABa := Lib.hid (HAA.out.same fun k hk hlt => hoB.block k hlt fun hn => by rcases hn with hn | hn; have := (HP0.out k hn).1.1; omega; omega)
    have hvB := (World.cell?_of_block (a := ⟨g7, 0, none⟩) (hoB.block g7 hglA (fun hn => by rcases hn with hn | hn; exact (HP0.out g7 hn).1.2 rfl; omega))).trans hvA
    have hglB : g7 < wB.heap.size := by omega
    have hTB := hAB.weak (P' := fun k => w4.heap.size ≤ k ∧ k < wB.heap.size) fun k hk hlt => by rcases hk with hk | hk; have := (HP0.out k hk).1.1; omega; omega
    have hag := are_any got vs K wB (HKeep.out wB hoB) (HS.out.below (by rw [HH.out]; exact HCB.out)) (by omega)
    clear hbu hB4 hAB hoB hvA hglA
    unfold errV
    go_wp2_with fail
    refine hag.mono ?_
    rintro e wC ⟨rfl, hbC⟩
    have HCC := Lib.hid (HCB.out.trans (hbC.mono (by omega)))
    have HAC := Lib.hid (HABa.out.under hbC)
    have HTC := Lib.hid (hTB.under hbC)
    have hszC : wB.heap.size ≤ wC.heap.size := hbC.size
    have hor := HOr.out
    clear hag hbC hvB hTB hglB
    go_upto_region 16 with fail
    clear hor
    have hfar : levelOf S1.N nn = -1 := lv_far (by omega)
    have HFar := Lib.hid hfar
    clear hfar
    -- Copy of what isn't there
    have hb1 : Below wC.heap.size wC (wC.alloc (.cells #[.int .u32 (x : Int), .int .u32 (nn : Int)] 28)) := by go_grown
    have hU1 := uat_two wC 28 x nn
    have HAD := Lib.hid (HAC.out.under hb1)
    have hTD := (HTC.out.weak (P' := fun k => (w4.heap.size ≤ k ∧ k ≠ wC.heap.size)) fun k hk hlt => ⟨hk.1, by omega⟩).under hb1
    have HCD := Lib.hid (HCC.out.trans (hb1.mono (by omega)))
    have hszD : wC.heap.size + 1 ≤ (wC.alloc (.cells #[.int .u32 (x : Int), .int .u32 (nn : Int)] 28)).heap.size := by simp
    have hcp := copy_any h w4.heap.size S1 T (fun k => h ≤ k ∧ k < w4.heap.size) (fun k => w4.heap.size ≤ k ∧ k ≠ wC.heap.size) [x, nn] _ _ HAD.out hTD (fun k hk => by omega) (fun k hk => by omega) hU1 (fun g o n cap e hg => by injection e with e; injection e with e; injection e with e; exact hg.2 e.symm) (by intro r hr; simp only [List.mem_cons, List.not_mem_nil, or_false] at hr; rcases hr with rfl | rfl; exact hxu; exact hnu) (by simp) HRx.out.tw HRj.out.tw (by omega) (by omega)
    clear hb1 hU1 hTD
    go_wp2_with fail
    refine hcp.mono ?_
    rintro e wE ⟨vE, er, T5, K5, Q5, J5, rfl, hCyE, _, hoE, _, hnE⟩
    clear hcp
    generalize wC.alloc (.cells #[.int .u32 (x : Int), .int .u32 (nn : Int)] 28) = wD at *
    obtain rfl : er = some 4 := cy_bad (x := nn) hCyE (by omega) (by omega) hm3 (by simp) (by rw [HFar.out]; omega)
    obtain rfl := hnE (by simp)
    have hszE : wD.heap.size ≤ wE.heap.size := hoE.size
    have HCE := Lib.hid (HCD.out.trans (hoE.below (B := h) (by omega) (fun b hb => by omega)))
    have HAE := Lib.hid (HAD.out.same fun k hk hlt => hoE.block k hlt fun hn => by omega)
    clear hCyE hoE hnE
    unfold errV
    go_upto_region 17 with fail
    -- Reach of it
    have hb1 : Below wE.heap.size wE (wE.alloc (.cells #[.int .u32 (nn : Int)] 28)) := by go_grown
    have hU1 := uat_one wE 28 nn
    have HAF := Lib.hid (HAE.out.under hb1)
    have HCF := Lib.hid (HCE.out.trans (hb1.mono (by omega)))
    have hszF : wE.heap.size + 1 ≤ (wE.alloc (.cells #[.int .u32 (nn : Int)] 28)).heap.size := by simp
    have hrt := reach_top h S1 _ [nn] _ _ HAF.out hU1 (by intro r hr; rw [List.mem_singleton] at hr; subst hr; exact hnu) (by simp) HRx.out.tw (by omega)
    clear hb1 hU1
    go_wp2_with fail
    refine hrt.mono ?_
    rintro e wG ⟨hbG, hrG⟩
    clear hrt
    generalize wE.alloc (.cells #[.int .u32 (nn : Int)] 28) = wF at *
    obtain rfl : e = .returned (.tuple #[.int .i64 0, errV (some 4)]) := by
      rcases hrG with ⟨L, _, h2, _⟩ | ⟨_, h3⟩
      · have := h2 nn (by simp); rw [HFar.out] at this; omega
      · exact h3
    have HAG := Lib.hid (HAF.out.under hbG)
    have HCG := Lib.hid (HCF.out.trans (hbG.mono (by omega)))
    have hszG : wF.heap.size ≤ wG.heap.size := hbG.size
    clear hbG hrG
    unfold errV
    go_upto_region 18 with fail
    -- Collect of it
    have hb1 : Below wG.heap.size wG (wG.alloc (.cells #[.int .u32 (nn : Int)] 28)) := by go_grown
    have hU1 := uat_one wG 28 nn
    have HAH := Lib.hid (HAG.out.under hb1)
    have HCH := Lib.hid (HCG.out.trans (hb1.mono (by omega)))
    have hszH : wG.heap.size + 1 ≤ (wG.alloc (.cells #[.int .u32 (nn : Int)] 28)).heap.size := by simp
    have hco := collect_any h S1 _ [nn] _ _ HAH.out hU1 (by intro r hr; rw [List.mem_singleton] at hr; subst hr; exact hnu) (by simp) HRx.out.tw (by omega)
    clear hb1 hU1
    go_wp2_with fail
    refine hco.mono ?_
    rintro e wI ⟨hbI, hrI⟩
    clear hco
    generalize wG.alloc (.cells #[.int .u32 (nn : Int)] 28) = wH at *
    have hnm : (newS (64 + S1.more)).more = S1.more := newS_more (by omega)
    obtain rfl : e = .returned (.tuple #[.pointer none, .slice none 0 0, errV (some 4)]) := by
      rcases hrI with ⟨v, T6, K6, L6, J6, _, h2, _⟩ | ⟨c, T6, K6, L6, h1, h2⟩
      · have := cy_bad (x := nn) h2 (by rw [newS_nil]; omega) (by omega) (by omega) (by simp) (by rw [HFar.out]; omega)
        cases this
      · have := cy_bad (x := nn) h2 (by rw [newS_nil]; omega) (by omega) (by omega) (by simp) (by rw [HFar.out]; omega)
        injection this with this
        rw [h1, this]
    have HAI := Lib.hid (HAH.out.under hbI)
    have HCI := Lib.hid (HCH.out.trans (hbI.mono (by omega)))
    have hszI : wH.heap.size ≤ wI.heap.size := hbI.size
    have hnw := Ar.new_any 64 (by decide) wI
    clear hbI hrI hnm
    unfold errV
    go_wp2_with fail
    refine hnw.mono ?_
    rintro e wJ ⟨rfl, hTJ, hbJ⟩
    have HAJ := Lib.hid (HAI.out.under hbJ)
    have HCJ := Lib.hid (HCI.out.trans (hbJ.mono (by omega)))
    have hszJ : wI.heap.size ≤ wJ.heap.size := hbJ.size
    clear hnw hbJ
    go_upto_region 20 with fail
    -- into a small one
    have hb1 : Below wJ.heap.size wJ (wJ.alloc (.cells #[.int .u32 (x : Int)] 28)) := by go_grown
    have hU1 := uat_one wJ 28 x
    have HAK := Lib.hid (HAJ.out.under hb1)
    have hTK := (hTJ.weak (P' := fun k => (wI.heap.size ≤ k ∧ k ≠ wJ.heap.size)) fun k hk hlt => by omega).under hb1
    have HCK := Lib.hid (HCJ.out.trans (hb1.mono (by omega)))
    have hszK : wJ.heap.size + 1 ≤ (wJ.alloc (.cells #[.int .u32 (x : Int)] 28)).heap.size := by simp
    have hcp := copy_any h wI.heap.size S1 (newS 64) (fun k => h ≤ k ∧ k < w4.heap.size) (fun k => wI.heap.size ≤ k ∧ k ≠ wJ.heap.size) [x] _ _ HAK.out hTK (fun k hk => by omega) (fun k hk => by omega) hU1 (fun g o n cap e hg => by injection e with e; injection e with e; injection e with e; exact hg.2 e.symm) (by intro r hr; rw [List.mem_singleton] at hr; subst hr; exact hxu) (by simp) HRx.out.tw (tw_new _) (by omega) (by rw [newS_nil]; omega)
    clear hb1 hU1 hTK hTJ
    go_wp2_with fail
    refine hcp.mono ?_
    rintro e wL ⟨vL, er, T7, K7, Q7, J7, rfl, hCyL, _, hoL, hownL, hnL⟩
    clear hcp
    generalize wJ.alloc (.cells #[.int .u32 (x : Int)] 28) = wK at *
    have hszL : wK.heap.size ≤ wL.heap.size := hoL.size
    have HCL := Lib.hid (HCK.out.trans (hoL.below (B := h) (by omega) (fun b hb => by omega)))
    have HAL := Lib.hid (HAK.out.same fun k hk hlt => hoL.block k hlt fun hn => by omega)
    have HCyL := Lib.hid hCyL
    clear hoL hCyL
    go_upto_region 21 with fail
    have hb1 : Below wL.heap.size wL (wL.alloc (.cells #[.int .u32 (x : Int)] 28)) := by go_grown
    have hU1 := uat_one wL 28 x
    have HAM := Lib.hid (HAL.out.under hb1)
    have HCM := Lib.hid (HCL.out.trans (hb1.mono (by omega)))
    have hrt := reach_top h S1 _ [x] _ _ HAM.out hU1 (by intro r hr; rw [List.mem_singleton] at hr; subst hr; exact hxu) (by simp) HRx.out.tw (by omega)
    have hszM : wL.heap.size + 1 ≤ (wL.alloc (.cells #[.int .u32 (x : Int)] 28)).heap.size := by simp
    clear hb1 hU1
    go_wp2_with fail
    refine hrt.mono ?_
    rintro e wN ⟨hbN, hrN⟩
    clear hrt
    generalize wL.alloc (.cells #[.int .u32 (x : Int)] 28) = wM at *
    obtain ⟨Q, hQ, rfl⟩ : ∃ Q : List Nat, Rr S1.N [x] Q ∧ e = .returned (.tuple #[.int .i64 (Q.length : Int), .nilIface]) := by
      rcases hrN with ⟨Q, h1, _, h3⟩ | ⟨⟨r, hr, h⟩, _⟩
      · exact ⟨Q, h1, h3⟩
      · rw [List.mem_singleton] at hr; subst hr; have := rt_there HRx.out; omega
    have HFin : Hid (Below w.heap.size w wN) := Lib.hid (HB3.out.trans ((show Below w3.heap.size w3 wN by rw [HH.out]; exact HCM.out.trans (hbN.mono (by omega))).mono HB3.out.size))
    have e4 := eql_e44
    have e8 := eql_e88
    have hsm := cy_small HCyL.out HRx.out.tw HRx.out.lv (rt_there HRx.out) hQ
    have hJ7 : er = none → J7.length = 1 := fun he => by
      subst he
      obtain ⟨j, hj, _⟩ := cy_one HCyL.out
      rw [hj]; rfl
    clear hbN hrN hQ
    generalize Q.length = r at *
    rcases hsm with ⟨rfl, hr⟩ | ⟨rfl, hr⟩
    · have h1 := hJ7 rfl
      obtain ⟨p, cp, rfl⟩ := own_slice hownL
      rw [h1]
      have hr' : (r : Int) ≤ 64 := by omega
      have hdr : decide ((r : Int) ≤ 64) = true := by simpa using hr'
      clear hJ7 hnL hownL h1 hr
      unfold errV
      go_wp2_with fail
      go_ret
      exact ⟨rfl, HFin.out⟩
    · obtain rfl := hnL (by simp)
      have hr' : 64 ≤ (r : Int) := by omega
      have hdr : decide (64 ≤ (r : Int)) = true := by simpa using hr'
      clear hJ7 hnL hownL hr
      unfold errV
      go_wp2_with fail
      go_ret
      exact ⟨rfl, HFin.out⟩
open Go.Proofs.YtahlinekbllkaaaGreatDoor.Si Go.Proofs.YtahlinekbllkaaaGreatDoor.Se
section sweepCopiesFrame
open Go.ChangeShapes Go.WideShapes Go.ChangeAt Go.RowKit Go.Joins
set_option maxRecDepth 100000 in
theorem sweepCopies_contract (H : Type) (enc : TypeId × Value → H) (W : World) (base : Nat) (args : Array Value) (ds gs : List (DataW H)) (before : List MemPlace)
    (hval : ∀ (j : Nat) t v, Tryz.f5.params[j]? = some t → args[j]? = some v → Value.okWide Tryz.prog W .any base t v)
    (hW : DataW.Whole enc Tryz.prog Tryz.f5.params.toList Rows.sweepCopiesSpec.vars false W args.toList ds gs before) (hL : laidMetH Tryz.prog Rows.sweepCopiesRow.laid W) :
    Calls Tryz.prog 5 args W fun e W' => ∃ v, e = .returned v ∧ Rows.sweepCopiesSpec.post enc Tryz.prog Tryz.f5 false true false false W args v W' := by
  have hW' := hW
  obtain ⟨p, q, hA0, hV, rfl, hfz, hnd⟩ := hW
  have hA : DataW.TrodAll enc Tryz.prog W 0 (fun _ => true) true Tryz.f5.params.toList args.toList ds p := hA0
  rw [Tryz.params5] at hA hval
  obtain ⟨v0, vs0, d0, ds0, p0, q0, hargs, rfl, rfl, h0, r0⟩ := trodAll_cons hA
  obtain ⟨v1, vs1, d1, ds1, p1, q1, rfl, rfl, rfl, h1, r1⟩ := trodAll_cons r0
  obtain ⟨v2, vs2, d2, ds2, p2, q2, rfl, rfl, rfl, h2, r2⟩ := trodAll_cons r1
  obtain ⟨rfl, rfl, rfl⟩ := trodAll_nil r2
  obtain rfl : args = #[v0, v1, v2] := by cases args; simp_all
  obtain ⟨rfl, rfl⟩ := trodVars_none hV
  obtain ⟨L0, hraw0, hlen0⟩ := open_cells (hval 0 22 v0 rfl rfl) h0
  obtain ⟨L1, hraw1, hlen1⟩ := open_cells (hval 1 22 v1 rfl rfl) h1
  obtain ⟨i, rfl, rfl, rfl, w_i⟩ := open_int Tryz.underlying28 (hval 2 28 v2 rfl rfl) h2
  refine (sweepCopies_walk v0 L0 v1 L1 i w_i W (deb_of_laid hL) hraw0 hlen0 hraw1 hlen1).mono fun e W' ⟨he, hb⟩ => ?_
  exact ⟨_, he, law_post laidOut rfl rfl Tryz.underlying4 (by kernel_rfl) hW' hb ⟨rfl, rfl, rfl⟩⟩
theorem sweepCopies_met (os : Os) : laidMet Tryz.prog Rows.sweepCopiesRow.laid ((laidWorldT os).forCall (fun _ _ => 0) ⟨#[], #[.slice none 0 0, .slice none 0 0, .int .u32 0], []⟩).memory :=
  laidMet_of_run' 8 (by kernel_rfl) (by kernel_rfl)
theorem sweepCopies_reads (os : Os) {H : Type} (enc : TypeId × Value → H) : ∃ places, DataW.whole enc Tryz.prog ((laidWorldT os).forCall (fun _ _ => 0) ⟨#[], #[.slice none 0 0, .slice none 0 0, .int .u32 0], []⟩).memory Tryz.f5.params.toList Rows.sweepCopiesSpec.vars false #[(.slice none 0 0 : Value), (.slice none 0 0 : Value), (.int .u32 0 : Value)].toList 8 = some ([.nil, .nil, .lit (.int .u32 0)], [], places) :=
  ⟨[], by kernel_rfl⟩
set_option maxRecDepth 100000 in
theorem sweepCopies_lifted (os : Os) (started : os.Started) (H : Type) (enc : TypeId × Value → H) (F : Stop.Interp) :
    ReturnsInHanded {} Tryz.checked os 5 .any ((OpenSpec.ofChange Rows.sweepCopiesSpec).preRow enc Tryz.prog Tryz.f5 Rows.sweepCopiesRow.domain false Rows.sweepCopiesRow.laid) (((OpenSpec.ofChange Rows.sweepCopiesSpec).at F).post enc Tryz.prog Tryz.f5 false true false false) := by
  obtain ⟨places, hx⟩ := sweepCopies_reads os enc
  refine returnsInHanded_of_row (C := Tryz.checked) (s := OpenSpec.ofChange Rows.sweepCopiesSpec) own started (by kernel_rfl) Tryz.func5
    (witness_row_at (enc := enc) (C := Tryz.checked) false (laidWorldT os) #[.slice none 0 0, .slice none 0 0, .int .u32 0] rfl (by kernel_rfl) (by kernel_rfl) (by kernel_rfl)
      (OpenSpec.preRow_of_cond 8 hx (by kernel_rfl) (fun k hk => by cases hk) (by kernel_rfl) (sweepCopies_met os))) ?_
  intro W base args ds gs before hval hW _ _ _ hL _ _
  exact sweepCopies_contract H enc W base args ds gs before hval hW hL
theorem sweepCopies_said : Rows.SweepCopiesSaid :=
  OpenClaim.holds_of_cond 5 Tryz.f5 rfl rfl rfl rfl rfl rfl rfl ⟨rfl, rfl, rfl, rfl, rfl⟩ rfl rfl rfl rfl rfl (by kernel_rfl) Tryz.func5 (by kernel_rfl)
    (of_decide_eq_true (by kernel_rfl)) (by unfold Func.isWrapper; first | (rw [if_pos (by decide +kernel)]; kernel_rfl) | (rw [if_neg (by decide +kernel)]; exact ⟨rfl, rfl⟩))
    (fun os started H enc _ F => by rw [OpenClaim.pre_eq_preRow]; exact sweepCopies_lifted os started H enc F)
theorem sweepCopies_plain (f : FuncId) (fn : Func) (hf : Tryz.pinned.checked.prog.funcNamed "honeycomb/honeycomblaw17.SweepCopies" = some f) (hfn : Tryz.pinned.checked.prog.funcs[f]? = some fn) :
    true = Tryz.pinned.checked.prog.looks [] ∧ ∀ (j : Nat) t, fn.params[j]? = some t → Tryz.pinned.checked.prog.wantsStandIn t = false := by
  obtain rfl : f = 5 := Option.some.inj ((show Tryz.prog.funcNamed "honeycomb/honeycomblaw17.SweepCopies" = some 5 by kernel_rfl).symm.trans hf) |>.symm
  obtain rfl : fn = Tryz.f5 := (Option.some.inj (Tryz.func5.symm.trans hfn)).symm
  refine ⟨by kernel_rfl, fun j t ht => ?_⟩
  have hall : (Tryz.f5.params.toList.all fun t => !Tryz.prog.wantsStandIn t) = true := by kernel_rfl
  have hm : t ∈ Tryz.f5.params.toList := by simpa using Array.mem_of_getElem? ht
  have := List.all_eq_true.1 hall t hm
  exact (show Tryz.prog.wantsStandIn t = false by simpa using this)
end sweepCopiesFrame
/-- SweepCopies: the card: for every input the law answers true. -/
theorem sweepCopies_card : Rows.SweepCopiesCardSaid :=
  Claim7.holds_tied_plain_at .later [] _ _ _ _ sweepCopies_said (fun _ h => by cases h) (by kernel_rfl) (fun _ h => by cases h) sweepCopies_row_tie rfl ⟨rfl, rfl⟩ (by kernel_rfl) rfl sweepCopies_plain (by kernel_rfl)
end Go.Proofs.YtahlinekbllkaaaGreatDoor.Sw
namespace Go.Proofs.YtahlinekbllkaaaGreatDoor
theorem sweepCopies_proved : Rows.SweepCopiesCardSaid := Sw.sweepCopies_card
#print axioms sweepCopies_proved
end Go.Proofs.YtahlinekbllkaaaGreatDoor
