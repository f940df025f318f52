/-
  SweepAgain: for any two lists of cells it answers true: of two sets in one arena both are collected, then one alone: the arena has no more nodes; collected once more it has just the nodes that its root reaches, but for the empty leaf; the other set is built again, and both have their cells.
  Conditions: the listed table (math/bits.deBruijn32tab) reads as the card says.
-/
import Derived.Test.YtahlinekbllkaaaGreatDoorTrK3
import Derived.Test.YtahlinekbllkaaaGreatDoorTrK2
import Derived.Test.YtahlinekbllkaaaGreatDoorTrW14
import Derived.Test.YtahlinekbllkaaaGreatDoorSwU
import Derived.Test.YtahlinekbllkaaaGreatDoorBsT
import Derived.Deep.DeepHandedRow
import Derived.Lib.SmallJoins
namespace Go.Proofs.YtahlinekbllkaaaGreatDoor.Sw
open Go.RowKit Go.Proofs.YtahlinekbllkaaaGreatDoor.Ba Go.Proofs.YtahlinekbllkaaaGreatDoor.Ar Go.Proofs.YtahlinekbllkaaaGreatDoor.Tr Go.Lib
open Go.Proofs.YtahlinekbllkaaaGreatDoor.Si (DebIs)
open Go.Proofs.YtahlinekbllkaaaGreatDoor.Se (RawAt SetAt ofL own4_any set_of_own are_any rising_ofL Rising boxL)

def Wid (K : List C) : Prop := ∀ c ∈ K, (-2199023255552 < c.1 ∧ c.1 < 2199023255552) ∧ (-2199023255552 < c.2.1 ∧ c.2.1 < 2199023255552) ∧ (c.2.2 = 0 ∨ c.2.2 = 1)
theorem wid_in {K : List C} (h : Wid K) : ∀ c ∈ K, insB 44 c.1 c.2.1 = true := fun c hc => ins44 (by have := h c hc; omega) (by have := h c hc; omega)
theorem wid_half {K : List C} (h : Wid K) : ∀ c ∈ K, c.2.2 = 0 ∨ c.2.2 = 1 := fun c hc => (h c hc).2.2
set_option maxRecDepth 100000 in
set_option maxHeartbeats 2000000 in
theorem sweepAgain_walk (v0 : Value) (L0 : List C) (v1 : Value) (L1 : List C) (w : World) (hD : DebIs w) (h0 : RawAt w v0 L0) (hL0 : L0.length ≤ maxLen) (h1 : RawAt w v1 L1) (hL1 : L1.length ≤ maxLen) :
    Calls Tryz.prog 6 #[v0, v1] w fun e w' => e = .returned (.bool true) ∧ Below w.heap.size w w' := by
  have HD := Lib.hid hD
  have HR0 := Lib.hid h0
  have HR1 := Lib.hid h1
  have HL0 := Lib.hid hL0
  have HL1 := Lib.hid hL1
  clear hD h0 h1 hL0 hL1
  go_enter Tryz.func6, Tryz.ntmps6
  go_wp2_with fail
  refine (Sw.awake_any _).mono ?_
  rintro e w1 ⟨rfl, hb1⟩
  have HB1 := Lib.hid hb1
  have hwi := wide_any v0 L0 w1 (HR0.out.below hb1) HL0.out
  clear hb1
  go_wp2_with fail
  refine hwi.mono ?_
  rintro e w2 ⟨vs, rfl, hs2, hb2⟩
  have HB2 := Lib.hid (HB1.out.trans (hb2.mono HB1.out.size))
  have hwj := wide_any v1 L1 w2 (HR1.out.below HB2.out) HL1.out
  clear hwi hb2
  go_wp2_with fail
  refine hwj.mono ?_
  rintro e w3 ⟨vt, rfl, ht3, hb3⟩
  have HB3 := Lib.hid (HB2.out.trans (hb3.mono HB2.out.size))
  have HS := Lib.hid (hs2.below hb3)
  have HT := Lib.hid ht3
  have HKi : Hid (Wid (wideS L0)) := Lib.hid fun c hc => wide_in hc
  have HMi : Hid (Wid (wideS L1)) := Lib.hid fun c hc => wide_in hc
  have hKl := wide_len L0
  have hMl := wide_len L1
  have HKr : Hid (Rising (wideS L0)) := Lib.hid (rising_ofL _)
  have HMr : Hid (Rising (wideS L1)) := Lib.hid (rising_ofL _)
  clear hwj hb3 hs2 ht3
  generalize wideS L0 = K at *
  generalize wideS L1 = M at *
  have hmk := make_any vs K w3 (set_raw HS.out) (wid_in HKi.out) (wid_half HKi.out) (by omega)
  go_wp2_with fail
  refine hmk.mono ?_
  rintro e w4 ⟨x, d, S1, rfl, hB1, hA4, hb4⟩
  obtain ⟨h, hh⟩ : ∃ h, w3.heap.size = h := ⟨_, rfl⟩
  rw [hh] at hA4 hb4 ⊢
  have HH := Lib.hid hh
  have HC4 := Lib.hid hb4
  have hz0 : ne (newS 1048576).N = 0 := by decide
  have hm1 : 800000 ≤ S1.more := by rw [hB1.ext.more]; decide
  have hn1 := hB1.len
  rw [hz0] at hn1
  have HRx : Hid (Rt S1 d x K) := Lib.hid (Rt.of hB1 HKr.out)
  have hd1 := hB1.pos
  have hd2 : d ≤ 42 := by have := hB1.lv.hi; omega
  have hsz4 : h ≤ w4.heap.size := by have := hb4.size; omega
  have hot := own4_any vt M w4 (set_raw (HT.out.below (by rw [HH.out]; exact hb4))) (by unfold maxLen; omega)
  rw [List.take_of_length_le (by omega)] at hot
  clear hmk hB1 hb4 hz0 hh
  go_wp2_with fail
  refine hot.mono ?_
  rintro e w5 ⟨u, rfl, hu, hb5⟩
  have HC5 := Lib.hid (HC4.out.trans (hb5.mono hsz4))
  have hA5 := hA4.under hb5
  have hsz5 : h ≤ w5.heap.size := Nat.le_trans hsz4 hb5.size
  have hbu := build_top u M h S1 (fun k => h ≤ k) w5 (set_of_own hu) (wid_in HMi.out) (wid_half HMi.out) (by omega) hA5 (fun k hk => Nat.le_trans hsz5 hk) HRx.out.tw (by omega)
  clear hot hu hb5 hA4 hA5
  go_wp2_with fail
  refine hbu.mono ?_
  rintro e w6 ⟨y, er, S2, d2, rfl, hB2, hA6, ho6⟩
  obtain rfl : er = none := bt_room hB2 (by omega) hm1
  have HC6 := Lib.hid (HC5.out.trans (ho6.below hsz5 (fun b hb => hb)))
  have hn2 := hB2.len
  have HRx2 : Hid (Rt S2 d x K) := Lib.hid (HRx.out.ext hB2.ext)
  have HRy : Hid (Rt S2 d2 y M) := Lib.hid (Rt.of hB2 HMr.out)
  have hm2 : 800000 ≤ S2.more := by rw [hB2.ext.more]; exact hm1
  have hN2 := bt_le hB2
  have hsz6 : h ≤ w6.heap.size := Nat.le_trans hsz5 ho6.size
  clear hbu hB2 ho6 HRx
  unfold errV
  go_upto_region 8 with fail
  have hb7 : Below w6.heap.size w6 (w6.alloc (.cells #[.int .u32 (x : Int), .int .u32 (y : Int)] 28)) := by go_grown
  have hU7 := uat_two w6 28 x y
  have hA7 := hA6.under hb7
  have HC7 := Lib.hid (HC6.out.trans (hb7.mono hsz6))
  have hco := collect_any h S2 _ [x, y] _ _ hA7 hU7 (by intro r hr; simp only [List.mem_cons, List.not_mem_nil, or_false] at hr; rcases hr with rfl | rfl; exact lv_u HRx2.out.lv (by omega); exact lv_u HRy.out.lv (by omega)) (by simp) HRx2.out.tw (by omega)
  have hsz7 : h ≤ (w6.alloc (.cells #[.int .u32 (x : Int), .int .u32 (y : Int)] 28)).heap.size := Nat.le_trans hsz6 hb7.size
  clear hb7 hU7 hA7 hA6
  go_wp2_with fail
  refine hco.mono ?_
  rintro e w8 ⟨hb8, hr8⟩
  clear hco
  generalize w6.alloc (.cells #[.int .u32 (x : Int), .int .u32 (y : Int)] 28) = w7 at *
  have HC8 := Lib.hid (HC7.out.trans (hb8.mono hsz7))
  have hsz8 : h ≤ w8.heap.size := Nat.le_trans hsz7 hb8.size
  have hnm : (newS (64 + S2.more)).more = S2.more := newS_more (by omega)
  rcases hr8 with ⟨v8, T1, K1, Q1, J1, rfl, hCy1, hA8, hown8⟩ | ⟨c, T1, K1, Q1, _, hCy1⟩
  case inr =>
    have := cy_room hCy1 (by rw [newS_nil]; omega) (by omega) (by omega) (by intro r hr; simp only [List.mem_cons, List.not_mem_nil, or_false] at hr; rcases hr with rfl | rfl; exact rt_there HRx2.out; exact rt_there HRy.out)
    cases this
  obtain ⟨j0, j1, rfl, hj0, hj1⟩ := cy_two hCy1
  have HRj : Hid (Rt T1 d j0 K) := Lib.hid (rt_copy HRx2.out hCy1.kn hCy1.ext.tw hj0).1
  have hm3 : 800000 ≤ T1.more := by rw [hCy1.ext.more, hnm]; exact hm2
  have hN3 : T1.N.length ≤ 100000 := by have h1 := hCy1.len; rw [newS_nil] at h1; have := nz_le Q1; have := hCy1.kn.len; omega
  obtain ⟨g8, cp8, rfl, hc8, hg8, hgl8, hv8⟩ := own_u32 (k := 0) (x := j0) hown8 rfl
  have hA8' := hA8.weak (P' := fun k => w7.heap.size ≤ k) fun k hk _ => hk.1
  clear hCy1 hj0 hj1 hnm hA8 hown8 hb8
  go_upto_region 11 with fail
  have hb9 : Below w8.heap.size w8 (w8.alloc (.cells #[.int .u32 (j0 : Int)] 28)) := by go_grown
  have hU9 := uat_one w8 28 j0
  have hA9 := hA8'.under hb9
  have HC9 := Lib.hid (HC8.out.trans (hb9.mono hsz8))
  have hsz9 : h ≤ (w8.alloc (.cells #[.int .u32 (j0 : Int)] 28)).heap.size := Nat.le_trans hsz8 hb9.size
  have hco := collect_any w7.heap.size T1 _ [j0] _ _ hA9 hU9 (by intro r hr; rw [List.mem_singleton] at hr; subst hr; exact lv_u HRj.out.lv (by omega)) (by simp) HRj.out.tw (by omega)
  have HA9 := Lib.hid hA9
  have h78 : w7.heap.size ≤ w8.heap.size := by omega
  clear hb9 hU9 hA9 hA8'
  go_wp2_with fail
  refine hco.mono ?_
  rintro e w10 ⟨hb10, hr10⟩
  clear hco
  generalize w8.alloc (.cells #[.int .u32 (j0 : Int)] 28) = w9 at *
  have HC10 := Lib.hid (HC9.out.trans (hb10.mono hsz9))
  have hsz10 : h ≤ w10.heap.size := Nat.le_trans hsz9 hb10.size
  have hnm : (newS (64 + T1.more)).more = T1.more := newS_more (by omega)
  rcases hr10 with ⟨v10, T2, K2, Q2, J2, rfl, hCy2, hA10, hown10⟩ | ⟨c, T2, K2, Q2, _, hCy2⟩
  case inr =>
    have := cy_room hCy2 (by rw [newS_nil]; omega) (by omega) (by omega) (by intro r hr; rw [List.mem_singleton] at hr; subst hr; exact rt_there HRj.out)
    cases this
  obtain ⟨k0, rfl, hk0⟩ := cy_one hCy2
  have HRk : Hid (Rt T2 d k0 K) := Lib.hid (rt_copy HRj.out hCy2.kn hCy2.ext.tw hk0).1
  have hm4 : 800000 ≤ T2.more := by rw [hCy2.ext.more, hnm]; exact hm3
  have hT21 : T2.N.length ≤ T1.N.length := by have h1 := hCy2.len; rw [newS_nil] at h1; have := hCy2.kn.small; omega
  obtain ⟨g10, cp10, rfl, hc10, hg10, hgl10, hv10⟩ := own_u32 (k := 0) (x := k0) hown10 rfl
  have HAc := Lib.hid (hA10.weak (P' := fun k => w9.heap.size ≤ k ∧ k < w10.heap.size) fun k hk hlt => ⟨hk.1, hlt⟩)
  have hl2 := Ar.len_any w9.heap.size T2 _ w10 HAc.out (by omega)
  have hl1 := Ar.len_any w7.heap.size T1 _ w10 (HA9.out.under hb10) (by omega)
  obtain ⟨n1, hn1'⟩ : ∃ n, T1.N.length + 1 = n := ⟨_, rfl⟩
  obtain ⟨n2, hn2'⟩ : ∃ n, T2.N.length + 1 = n := ⟨_, rfl⟩
  rw [hn1'] at hl1
  rw [hn2'] at hl2
  have hle12 : ¬ n1 < n2 := by omega
  have hd12 : decide (n1 < n2) = false := by simpa using hle12
  have hle12' : ¬ (n1 : Int) < (n2 : Int) := by omega
  have hd12' : decide ((n1 : Int) < (n2 : Int)) = false := by simpa using hle12'
  clear hCy2 hk0 hnm hA10 hown10 hb10 hn1' hn2' hv8
  go_wp2_with fail
  refine hl2.mono ?_
  rintro e w' ⟨rfl, rfl⟩
  go_wp2_with fail
  refine hl1.mono ?_
  rintro e w' ⟨rfl, rfl⟩
  clear hl1 hl2
  go_upto_region 14 with fail
  clear hle12 hd12 hle12' hd12'
  have hb11 : Below w10.heap.size w10 (w10.alloc (.cells #[.int .u32 (k0 : Int)] 28)) := by go_grown
  have hU11 := uat_one w10 28 k0
  have HAc11 := Lib.hid (HAc.out.under hb11)
  have HC11 := Lib.hid (HC10.out.trans (hb11.mono hsz10))
  have hsz11 : h ≤ (w10.alloc (.cells #[.int .u32 (k0 : Int)] 28)).heap.size := Nat.le_trans hsz10 hb11.size
  have hs1011 : w10.heap.size ≤ (w10.alloc (.cells #[.int .u32 (k0 : Int)] 28)).heap.size := hb11.size
  have hco := collect_any w9.heap.size T2 _ [k0] _ _ HAc11.out hU11 (by intro r hr; rw [List.mem_singleton] at hr; subst hr; exact lv_u HRk.out.lv (by omega)) (by simp) HRk.out.tw (by omega)
  clear hb11 hU11
  go_wp2_with fail
  refine hco.mono ?_
  rintro e w12 ⟨hb12, hr12⟩
  clear hco
  generalize w10.alloc (.cells #[.int .u32 (k0 : Int)] 28) = w11 at *
  have HC12 := Lib.hid (HC11.out.trans (hb12.mono hsz11))
  have hsz12 : h ≤ w12.heap.size := Nat.le_trans hsz11 hb12.size
  have hnm : (newS (64 + T2.more)).more = T2.more := newS_more (by omega)
  rcases hr12 with ⟨v12, T3, K3, Q3, J3, rfl, hCy3, hA12, hown12⟩ | ⟨c, T3, K3, Q3, _, hCy3⟩
  case inr =>
    have := cy_room hCy3 (by rw [newS_nil]; omega) (by omega) (by omega) (by intro r hr; rw [List.mem_singleton] at hr; subst hr; exact rt_there HRk.out)
    cases this
  obtain ⟨n0, rfl, hn0⟩ := cy_one hCy3
  have HRn : Hid (Rt T3 d n0 K) := Lib.hid (rt_copy HRk.out hCy3.kn hCy3.ext.tw hn0).1
  have HReach : Hid (∀ L2, Rr T3.N [n0] L2 → T3.N.length ≤ L2.length ∧ L2.length ≤ T3.N.length + 1) := Lib.hid fun L2 hL2 => cy_reach hCy3 (newS_nil _) HRk.out.tw hn0 hL2
  have hN4 : T3.N.length ≤ 200000 := by have h1 := hCy3.len; rw [newS_nil] at h1; have := hCy3.kn.small; omega
  obtain ⟨g12, cp12, rfl, hc12, hg12, hgl12, hv12⟩ := own_u32 (k := 0) (x := n0) hown12 rfl
  have HAd := Lib.hid (hA12.weak (P' := fun k => w11.heap.size ≤ k ∧ k < w12.heap.size) fun k hk hlt => ⟨hk.1, hlt⟩)
  have HAc12 := Lib.hid (HAc11.out.under hb12)
  have hot := own4_any vt M w12 (set_raw (HT.out.below (by rw [HH.out]; exact HC12.out))) (by unfold maxLen; omega)
  rw [List.take_of_length_le (by omega)] at hot
  have hs1112 : w11.heap.size ≤ w12.heap.size := hb12.size
  clear hCy3 hn0 hnm hA12 hown12 hb12 hv10
  go_wp2_with fail
  refine hot.mono ?_
  rintro e w13 ⟨u13, rfl, hu, hb13⟩
  have HC13 := Lib.hid (HC12.out.trans (hb13.mono hsz12))
  have hsz13 : h ≤ w13.heap.size := Nat.le_trans hsz12 hb13.size
  have HAd13 := Lib.hid (HAd.out.under hb13)
  have hAc13 := (HAc12.out.under hb13).weak (P' := fun k => (w9.heap.size ≤ k ∧ k < w10.heap.size) ∨ w13.heap.size ≤ k) fun k hk _ => .inl hk
  have hv13 : w13.cell? ⟨g12, 0, none⟩ = some (.int .u32 (n0 : Int)) := (hb13.cell (p := ⟨g12, 0, none⟩) hgl12).trans hv12
  have hs1213 : w12.heap.size ≤ w13.heap.size := hb13.size
  have hneT2 : ne T2.N ≤ T2.N.length := List.length_filter_le _ _
  have hbu := build_top u13 M w9.heap.size T2 (fun k => (w9.heap.size ≤ k ∧ k < w10.heap.size) ∨ w13.heap.size ≤ k) w13 (set_of_own hu) (wid_in HMi.out) (wid_half HMi.out) (by omega) hAc13 (fun k hk => .inr hk) HRk.out.tw (by omega)
  clear hot hu hb13 hAc13 hv12
  go_wp2_with fail
  refine hbu.mono ?_
  rintro e w14 ⟨z, er, T4, dz, rfl, hB4, hA14, ho14⟩
  obtain rfl : er = none := bt_room hB4 (by omega) hm4
  have HC14 := Lib.hid (HC13.out.trans (ho14.below hsz13 (fun b hb => by rcases hb with hb | hb <;> omega)))
  have hsz14 : h ≤ w14.heap.size := Nat.le_trans hsz13 ho14.size
  have HRz : Hid (Rt T4 dz z M) := Lib.hid (Rt.of hB4 HMr.out)
  have hz1 := hB4.pos
  have hz2 : dz ≤ 42 := by have := hB4.lv.hi; omega
  have hN5 := bt_le hB4
  have HAd14 := Lib.hid (HAd13.out.same fun k hk hlt => ho14.block k hlt fun hn => by rcases hn with hn | hn <;> omega)
  have hv14 : w14.cell? ⟨g12, 0, none⟩ = some (.int .u32 (n0 : Int)) := (World.cell?_of_block (a := ⟨g12, 0, none⟩) (ho14.block g12 (by omega) (fun hn => by rcases hn with hn | hn <;> omega))).trans hv13
  have hgl14 : g12 < w14.heap.size := by have := ho14.size; omega
  have HDw := Lib.hid (HD.out.below (HB3.out.trans ((show Below w3.heap.size w3 w14 by rw [HH.out]; exact HC14.out).mono HB3.out.size)))
  have hcz := cells_root w9.heap.size z dz 100 T4 _ w14 hA14 HRz.out.lv hz1 hz2 HRz.out.tw (by omega) HDw.out (by decide) (by decide) (by have := HRz.out.count; omega) (by have := HRz.out.len; omega)
  rw [HRz.out.ofL] at hcz
  clear hbu hB4 ho14 hv13
  unfold errV
  go_wp2_with fail
  refine hcz.mono ?_
  rintro e w15 ⟨got, rfl, hs15, hb15⟩
  have HC15 := Lib.hid (HC14.out.trans (hb15.mono hsz14))
  have hsz15 : h ≤ w15.heap.size := Nat.le_trans hsz14 hb15.size
  have HG15 := Lib.hid hs15
  have HAd15 := Lib.hid (HAd14.out.under hb15)
  have hv15 : w15.cell? ⟨g12, 0, none⟩ = some (.int .u32 (n0 : Int)) := (hb15.cell (p := ⟨g12, 0, none⟩) hgl14).trans hv14
  have hgl15 : g12 < w15.heap.size := Nat.lt_of_lt_of_le hgl14 hb15.size
  have hcn := cells_root w11.heap.size n0 d 100 T3 _ w15 HAd15.out HRn.out.lv hd1 hd2 HRn.out.tw (by omega) (HDw.out.below hb15) (by decide) (by decide) (by have := HRn.out.count; omega) (by have := HRn.out.len; omega)
  rw [HRn.out.ofL] at hcn
  clear hcz hs15 hb15 hA14 hv14 hgl14
  go_wp2_with fail
  refine hcn.mono ?_
  rintro e w16 ⟨one, rfl, hs16, hb16⟩
  have HC16 := Lib.hid (HC15.out.trans (hb16.mono hsz15))
  have hsz16 : h ≤ w16.heap.size := Nat.le_trans hsz15 hb16.size
  have HG16 := Lib.hid (HG15.out.below hb16)
  have HO16 := Lib.hid hs16
  have HAd16 := Lib.hid (HAd15.out.under hb16)
  have hv16 : w16.cell? ⟨g12, 0, none⟩ = some (.int .u32 (n0 : Int)) := (hb16.cell (p := ⟨g12, 0, none⟩) hgl15).trans hv15
  have hgl16 : g12 < w16.heap.size := Nat.lt_of_lt_of_le hgl15 hb16.size
  clear hcn hs16 hb16 hv15 hgl15
  go_upto_region 20 with fail
  have hb17 : Below w16.heap.size w16 (w16.alloc (.cells #[.int .u32 (n0 : Int)] 28)) := by go_grown
  have hU17 := uat_one w16 28 n0
  have HAd17 := Lib.hid (HAd16.out.under hb17)
  have hrt := reach_top w11.heap.size T3 _ [n0] _ _ HAd17.out hU17 (by intro r hr; rw [List.mem_singleton] at hr; subst hr; exact lv_u HRn.out.lv (by omega)) (by simp) HRn.out.tw (by omega)
  have HC17 := Lib.hid (HC16.out.trans (hb17.mono hsz16))
  have HG17 := Lib.hid (HG16.out.below hb17)
  have HO17 := Lib.hid (HO16.out.below hb17)
  have hsz17 : h ≤ (w16.alloc (.cells #[.int .u32 (n0 : Int)] 28)).heap.size := Nat.le_trans hsz16 hb17.size
  clear hb17 hU17
  go_wp2_with fail
  refine hrt.mono ?_
  rintro e w18 ⟨hb18, hr18⟩
  clear hrt
  generalize w16.alloc (.cells #[.int .u32 (n0 : Int)] 28) = w17 at *
  obtain ⟨Q5, hQ5, rfl⟩ : ∃ Q5 : List Nat, (T3.N.length ≤ Q5.length ∧ Q5.length ≤ T3.N.length + 1) ∧ e = .returned (.tuple #[.int .i64 (Q5.length : Int), .nilIface]) := by
    rcases hr18 with ⟨Q5, h1, _, h3⟩ | ⟨⟨r, hr, h⟩, _⟩
    · exact ⟨Q5, HReach.out Q5 h1, h3⟩
    · rw [List.mem_singleton] at hr; subst hr; have := rt_there HRn.out; omega
  have HC18 := Lib.hid (HC17.out.trans (hb18.mono hsz17))
  have hsz18 : h ≤ w18.heap.size := Nat.le_trans hsz17 hb18.size
  have HAd18 := Lib.hid (HAd17.out.under hb18)
  have hag := are_any got vt M w18 (HG17.out.below hb18) (HT.out.below (by rw [HH.out]; exact HC18.out)) (by omega)
  have HO18 := Lib.hid (HO17.out.below hb18)
  obtain ⟨hq1, hq2⟩ := hQ5
  clear hb18 hr18 hv16 hgl16
  generalize Q5.length = r at *
  go_wp2_with fail
  refine hag.mono ?_
  rintro e w19 ⟨rfl, hb19⟩
  have HC19 := Lib.hid (HC18.out.trans (hb19.mono hsz18))
  have hsz19 : h ≤ w19.heap.size := Nat.le_trans hsz18 hb19.size
  have HAd19 := Lib.hid (HAd18.out.under hb19)
  have hao := are_any one vs K w19 (HO18.out.below hb19) (HS.out.below (by rw [HH.out]; exact HC19.out)) (by omega)
  clear hag hb19
  go_wp2_with fail
  refine hao.mono ?_
  rintro e w20 ⟨rfl, hb20⟩
  have HC20 := Lib.hid (HC19.out.trans (hb20.mono hsz19))
  have HFin : Hid (Below w.heap.size w w20) := Lib.hid (HB3.out.trans ((show Below w3.heap.size w3 w20 by rw [HH.out]; exact HC20.out).mono HB3.out.size))
  have hln := Ar.len_any w11.heap.size T3 _ w20 (HAd19.out.under hb20) (by omega)
  obtain ⟨m, hm⟩ : ∃ m, T3.N.length + 1 = m := ⟨_, rfl⟩
  rw [hm] at hln
  clear hao hb20
  by_cases hq : m = r
  · subst hq
    clear hm hq1 hq2
    go_wp2_with fail
    refine hln.mono ?_
    rintro e w' ⟨rfl, rfl⟩
    go_wp2_with fail
    go_ret
    exact ⟨rfl, HFin.out⟩
  · obtain rfl : m = r + 1 := by omega
    have hne : (((r + 1 : Nat) : Int) == (r : Int)) = false := by rw [beq_eq_false_iff_ne]; omega
    have heq : (((r + 1 : Nat) : Int) == (r : Int) + 1) = true := by rw [beq_iff_eq]; omega
    have hr18 : (r : Int) ≤ 1000000 := by omega
    clear hm hq1 hq2 hq
    go_wp2_with fail
    refine hln.mono ?_
    rintro e w' ⟨rfl, rfl⟩
    go_wp2_with fail
    refine hln.mono ?_
    rintro e w' ⟨rfl, rfl⟩
    go_wp2_with fail
    go_ret
    exact ⟨rfl, HFin.out⟩
open Go.Proofs.YtahlinekbllkaaaGreatDoor.Si Go.Proofs.YtahlinekbllkaaaGreatDoor.Se
section sweepAgainFrame
open Go.ChangeShapes Go.WideShapes Go.ChangeAt Go.RowKit Go.Joins
set_option maxRecDepth 100000 in
theorem sweepAgain_contract (H : Type) (enc : TypeId × Value → H) (W : World) (base : Nat) (args : Array Value) (ds gs : List (DataW H)) (before : List MemPlace)
    (hval : ∀ (j : Nat) t v, Tryz.f6.params[j]? = some t → args[j]? = some v → Value.okWide Tryz.prog W .any base t v)
    (hW : DataW.Whole enc Tryz.prog Tryz.f6.params.toList Rows.sweepAgainSpec.vars false W args.toList ds gs before) (hL : laidMetH Tryz.prog Rows.sweepAgainRow.laid W) :
    Calls Tryz.prog 6 args W fun e W' => ∃ v, e = .returned v ∧ Rows.sweepAgainSpec.post enc Tryz.prog Tryz.f6 false true false false W args v W' := by
  have hW' := hW
  obtain ⟨p, q, hA0, hV, rfl, hfz, hnd⟩ := hW
  have hA : DataW.TrodAll enc Tryz.prog W 0 (fun _ => true) true Tryz.f6.params.toList args.toList ds p := hA0
  rw [Tryz.params6] at hA hval
  obtain ⟨v0, vs0, d0, ds0, p0, q0, hargs, rfl, rfl, h0, r0⟩ := trodAll_cons hA
  obtain ⟨v1, vs1, d1, ds1, p1, q1, rfl, rfl, rfl, h1, r1⟩ := trodAll_cons r0
  obtain ⟨rfl, rfl, rfl⟩ := trodAll_nil r1
  obtain rfl : args = #[v0, v1] := by cases args; simp_all
  obtain ⟨rfl, rfl⟩ := trodVars_none hV
  obtain ⟨L0, hraw0, hlen0⟩ := open_cells (hval 0 22 v0 rfl rfl) h0
  obtain ⟨L1, hraw1, hlen1⟩ := open_cells (hval 1 22 v1 rfl rfl) h1
  refine (sweepAgain_walk v0 L0 v1 L1 W (deb_of_laid hL) hraw0 hlen0 hraw1 hlen1).mono fun e W' ⟨he, hb⟩ => ?_
  exact ⟨_, he, law_post laidOut rfl rfl Tryz.underlying4 (by kernel_rfl) hW' hb ⟨rfl, rfl, rfl⟩⟩
theorem sweepAgain_met (os : Os) : laidMet Tryz.prog Rows.sweepAgainRow.laid ((laidWorldT os).forCall (fun _ _ => 0) ⟨#[], #[.slice none 0 0, .slice none 0 0], []⟩).memory :=
  laidMet_of_run' 8 (by kernel_rfl) (by kernel_rfl)
theorem sweepAgain_reads (os : Os) {H : Type} (enc : TypeId × Value → H) : ∃ places, DataW.whole enc Tryz.prog ((laidWorldT os).forCall (fun _ _ => 0) ⟨#[], #[.slice none 0 0, .slice none 0 0], []⟩).memory Tryz.f6.params.toList Rows.sweepAgainSpec.vars false #[(.slice none 0 0 : Value), (.slice none 0 0 : Value)].toList 8 = some ([.nil, .nil], [], places) :=
  ⟨[], by kernel_rfl⟩
set_option maxRecDepth 100000 in
theorem sweepAgain_lifted (os : Os) (started : os.Started) (H : Type) (enc : TypeId × Value → H) (F : Stop.Interp) :
    ReturnsInHanded {} Tryz.checked os 6 .any ((OpenSpec.ofChange Rows.sweepAgainSpec).preRow enc Tryz.prog Tryz.f6 Rows.sweepAgainRow.domain false Rows.sweepAgainRow.laid) (((OpenSpec.ofChange Rows.sweepAgainSpec).at F).post enc Tryz.prog Tryz.f6 false true false false) := by
  obtain ⟨places, hx⟩ := sweepAgain_reads os enc
  refine returnsInHanded_of_row (C := Tryz.checked) (s := OpenSpec.ofChange Rows.sweepAgainSpec) own started (by kernel_rfl) Tryz.func6
    (witness_row_at (enc := enc) (C := Tryz.checked) false (laidWorldT os) #[.slice none 0 0, .slice none 0 0] rfl (by kernel_rfl) (by kernel_rfl) (by kernel_rfl)
      (OpenSpec.preRow_of_cond 8 hx (by kernel_rfl) (fun k hk => by cases hk) (by kernel_rfl) (sweepAgain_met os))) ?_
  intro W base args ds gs before hval hW _ _ _ hL _ _
  exact sweepAgain_contract H enc W base args ds gs before hval hW hL
theorem sweepAgain_said : Rows.SweepAgainSaid :=
  OpenClaim.holds_of_cond 6 Tryz.f6 rfl rfl rfl rfl rfl rfl rfl ⟨rfl, rfl, rfl, rfl, rfl⟩ rfl rfl rfl rfl rfl (by kernel_rfl) Tryz.func6 (by kernel_rfl)
    (of_decide_eq_true (by kernel_rfl)) (by unfold Func.isWrapper; first | (rw [if_pos (by decide +kernel)]; kernel_rfl) | (rw [if_neg (by decide +kernel)]; exact ⟨rfl, rfl⟩))
    (fun os started H enc _ F => by rw [OpenClaim.pre_eq_preRow]; exact sweepAgain_lifted os started H enc F)
theorem sweepAgain_plain (f : FuncId) (fn : Func) (hf : Tryz.pinned.checked.prog.funcNamed "honeycomb/honeycomblaw17.SweepAgain" = some f) (hfn : Tryz.pinned.checked.prog.funcs[f]? = some fn) :
    true = Tryz.pinned.checked.prog.looks [] ∧ ∀ (j : Nat) t, fn.params[j]? = some t → Tryz.pinned.checked.prog.wantsStandIn t = false := by
  obtain rfl : f = 6 := Option.some.inj ((show Tryz.prog.funcNamed "honeycomb/honeycomblaw17.SweepAgain" = some 6 by kernel_rfl).symm.trans hf) |>.symm
  obtain rfl : fn = Tryz.f6 := (Option.some.inj (Tryz.func6.symm.trans hfn)).symm
  refine ⟨by kernel_rfl, fun j t ht => ?_⟩
  have hall : (Tryz.f6.params.toList.all fun t => !Tryz.prog.wantsStandIn t) = true := by kernel_rfl
  have hm : t ∈ Tryz.f6.params.toList := by simpa using Array.mem_of_getElem? ht
  have := List.all_eq_true.1 hall t hm
  exact (show Tryz.prog.wantsStandIn t = false by simpa using this)
end sweepAgainFrame
/-- SweepAgain: the card: for every input the law answers true. -/
theorem sweepAgain_card : Rows.SweepAgainCardSaid :=
  Claim7.holds_tied_plain_at .later [] _ _ _ _ sweepAgain_said (fun _ h => by cases h) (by kernel_rfl) (fun _ h => by cases h) sweepAgain_row_tie rfl ⟨rfl, rfl⟩ (by kernel_rfl) rfl sweepAgain_plain (by kernel_rfl)
end Go.Proofs.YtahlinekbllkaaaGreatDoor.Sw
namespace Go.Proofs.YtahlinekbllkaaaGreatDoor
theorem sweepAgain_proved : Rows.SweepAgainCardSaid := Sw.sweepAgain_card
#print axioms sweepAgain_proved
end Go.Proofs.YtahlinekbllkaaaGreatDoor
