/- The walk of the law FnExactEndAppend: at every marks its call returns true and writes nothing that was there. -/
import Derived.Test.YtabkjjbhnapgpaaKm
import Derived.Test.YtabkjjbhnapgpaaEm9
import Derived.Test.YtabkjjbhnapgpaaEi9
namespace Go.Proofs.Ytabkjjbhnapgpaa
open Go.RowKit Go.Deep Go.ChangeShapes Go.WideShapes Go.ChangeAt

set_option maxHeartbeats 8000000 in
set_option maxRecDepth 100000 in
theorem walk_fnExactEndAppend (w : World) (last : Int) (oo : Option Addr) (oc : Nat) (op : List Int) (ro : Option Addr) (rc n : Nat) (g : Nat → Vw) (id : Int) (hp : op.length ≤ maxLen) (hn : n ≤ maxLen) (hm : ∀ k, k < n → (g k).xs.length ≤ maxLen) (h : MH w w.heap.size oo op ro n g) (hid : -9223372036854775808 ≤ id ∧ id ≤ 9223372036854775807) :
    Calls Try.prog 5 #[.agg #[.int .i64 last, .slice oo op.length oc, .slice ro n rc], .int .i64 id] w fun e w' => e = .returned (.bool true) ∧ Below w.heap.size w w' := by
  have hb0 := (Below.refl w.heap.size w).alloc (Nat.le_refl _) (.cells #[.int .i64 last, .slice oo op.length oc, .slice ro n rc] 25)
  have HB0 := Lib.hid hb0
  have HX0 : Hid (At (w.alloc (.cells #[.int .i64 last, .slice oo op.length oc, .slice ro n rc] 25)) w.heap.size last oo oc op ro rc n g) := Lib.hid (At.new h _)
  have HSz := Lib.hid (fun W hW => szMk last oo oc op ro rc n g hp hn hm W hW)
  clear h hb0 hp hn hm
  go_enter Try.func5, Try.ntmps5
  go_wp2_with fail
  generalize w.alloc (.cells #[.int .i64 last, .slice oo op.length oc, .slice ro n rc] 25) = w0 at HB0 HX0 ⊢
  refine (HSz.out _ HX0.out.2).mono ?_
  rintro e w1 ⟨rfl | ⟨r, hr0, hr, rfl⟩, hb1⟩
  · have HB1 := Lib.hid (HB0.out.trans (hb1.mono HB0.out.size))
    clear hb1
    go_wp2
    go_ret
    exact ⟨rfl, HB1.out⟩
  have hp : op.length ≤ 1048576 := by omega
  have hsum : op.length + (n + sumV g n) ≤ 1048576 := by omega
  have HSm : Hid (SmallC (conL n g)) := Lib.hid (small_of (by omega) (fun k hk => by have := sumV_one g hk; omega))
  have hr1 : ¬ r < 0 := by omega
  have HB1 := Lib.hid (HB0.out.trans (hb1.mono HB0.out.size))
  have HX1 := Lib.hid (HX0.out.below hb1)
  obtain ⟨cs, hcs⟩ : ∃ cs, conL n g = cs := ⟨_, rfl⟩
  rw [hcs] at HSm
  have HTo := Lib.hid (fun W hW => toMk' last op cs HSm.out hp oo oc ro rc n g hcs W hW)
  have HSp := Lib.hid (contr2 (last := last) (id := id) HSm.out hp _ (fun oo oc ro rc n g hp hn hm W hW => endM last oo oc op ro rc n g id hp hn hm W hW))
  have HIm := Lib.hid (contr2 (last := last) (id := id) HSm.out hp _ (fun oo oc ro rc n g hp hn hm W hW => endI last oo oc op ro rc n g id hid hp hn hm W hW))
  have HEq := Lib.hid (fun oo qo oc qc ro so rc sc n n' g g' h1 h2 W h3 h4 => eqMk' last op cs HSm.out hp oo qo oc qc ro so rc sc n n' g g' h1 h2 W h3 h4)
  have HEr := Lib.hid (eqMk' (endL last op cs id) (endO last op cs id) (endC last op cs id) (endC_small HSm.out) endO_len)
  have HMk := Lib.hid (mark1 last op cs HSm.out hp)
  have HMr := Lib.hid (mark1 (endL last op cs id) (endO last op cs id) (endC last op cs id) (endC_small HSm.out) endO_len)
  have HHl := Lib.hid (held1 (endL last op cs id) (endO last op cs id) (endC last op cs id) (endC_small HSm.out) endO_len)
  have HC7 := Lib.hid (cnt_big hcs hsum)
  have HC8 := Lib.hid (endC_cnt (last := last) (id := id) hcs hsum)
  clear hb1 HB0 HX0 hr HSz hsum HSm
  unfold MbEnd at HSp HIm
  generalize endB last op cs id = Bq at HSp HIm
  generalize endL last op cs id = Lq at HSp HIm HEr HMr HHl
  generalize endO last op cs id = Oq at HSp HIm HEr HMr HHl HC8
  generalize endC last op cs id = Cq at HSp HIm HEr HMr HHl HC8
  have hqq : (Bq != Bq) = false := by cases Bq <;> rfl
  obtain ⟨x0, x1, x2⟩ := HX1.out.1.cells
  go_wp2_with fail
  refine (HTo.out _ HX1.out.2).mono ?_
  rintro e w2 ⟨_, rfl, oo2, oc2, ro2, rc2, n2, g2, rfl, hc2, hM2, hD2, hb2⟩
  have HB2 := Lib.hid (HB1.out.trans (hb2.mono HB1.out.size))
  have HX2 := Lib.hid (HX1.out.below hb2)
  have HM2 := Lib.hid hM2
  clear hM2 hD2 hb2 HB1 HX1 x0 x1 x2
  go_wp2_with fail
  refine (HSp.out _ _ _ _ _ _ hc2 _ HM2.out).mono ?_
  rintro e w3 ⟨_, rfl, oo3, oc3, ro3, rc3, n3, g3, rfl, hc3, hM3, hD3, hb3⟩
  have hba := (Below.refl w3.heap.size w3).alloc (Nat.le_refl _) (.cells #[.int .i64 Lq, .slice oo3 Oq.length oc3, .slice ro3 n3 rc3] 30)
  have HA4 : Hid (At (w3.alloc (.cells #[.int .i64 Lq, .slice oo3 Oq.length oc3, .slice ro3 n3 rc3] 30)) w3.heap.size Lq oo3 oc3 Oq ro3 rc3 n3 g3) := Lib.hid (At.new hM3 _)
  have HB4 := Lib.hid ((HB2.out.trans (hb3.mono HB2.out.size)).trans (hba.mono (Nat.le_trans HB2.out.size hb3.size)))
  have HX4 := Lib.hid ((HX2.out.below hb3).below hba)
  have hs4 : w3.heap.size < (w3.alloc (.cells #[.int .i64 Lq, .slice oo3 Oq.length oc3, .slice ro3 n3 rc3] 30)).heap.size := by simp
  clear hM3 hD3 hb3 hba HB2 HX2 HM2 hc2
  obtain ⟨x0, x1, x2⟩ := HX4.out.1.cells
  go_wp2_with fail
  generalize w3.alloc (.cells #[.int .i64 Lq, .slice oo3 Oq.length oc3, .slice ro3 n3 rc3] 30) = w4 at HA4 HB4 HX4 hs4 x0 x1 x2 ⊢
  refine (HTo.out _ HX4.out.2).mono ?_
  rintro e w5 ⟨_, rfl, oo5, oc5, ro5, rc5, n5, g5, rfl, hc5, hM5, hD5, hb5⟩
  have hba := (Below.refl w5.heap.size w5).alloc (Nat.le_refl _) (.cells #[.int .i64 last, .slice oo5 op.length oc5, .slice ro5 n5 rc5] 30)
  have HA7 : Hid (At (w5.alloc (.cells #[.int .i64 last, .slice oo5 op.length oc5, .slice ro5 n5 rc5] 30)) w5.heap.size last oo5 oc5 op ro5 rc5 n5 g5) := Lib.hid (At.new hM5 _)
  have HD7 := Lib.hid (hD5.only hM5 (Only.of_below (fun _ => False) hba))
  have HW7 : Hid (Btw w4.heap.size w5.heap.size oo5 op ro5 n5 g5) := Lib.hid (fun i hi => ⟨hD5.ge i hi, hM5.slt i hi⟩)
  have HB6 := Lib.hid ((HB4.out.trans (hb5.mono HB4.out.size)).trans (hba.mono (Nat.le_trans HB4.out.size hb5.size)))
  have HX6 := Lib.hid ((HX4.out.below hb5).below hba)
  have HA6 := Lib.hid ((HA4.out.below hb5).below hba)
  have hs5 : w4.heap.size ≤ w5.heap.size := hb5.size
  have hs6 : w5.heap.size < (w5.alloc (.cells #[.int .i64 last, .slice oo5 op.length oc5, .slice ro5 n5 rc5] 30)).heap.size := by simp
  have HL4 : Hid (∀ i, MS oo3 Oq ro3 n3 g3 i → i < w4.heap.size) := Lib.hid (HA4.out.2.slt)
  have HLx : Hid (∀ i, MS oo op ro n g i → i < w4.heap.size) := Lib.hid (HX4.out.2.slt)
  have hx4 : w.heap.size < w4.heap.size := HX4.out.1.lt
  clear hM5 hD5 hb5 hba HB4 HX4 HA4 x0 x1 x2
  obtain ⟨y0, y1, y2⟩ := HA7.out.1.cells
  go_wp2_with fail
  generalize w5.alloc (.cells #[.int .i64 last, .slice oo5 op.length oc5, .slice ro5 n5 rc5] 30) = w6 at HA7 HD7 HB6 HX6 HA6 hs6 y0 y1 y2 ⊢
  refine (HIm.out _ _ _ _ _ _ hc5 _ HA7.out.2).mono ?_
  rintro e w7 ⟨_, rfl, oo7, oc7, ro7, rc7, n7, g7, rfl, hc7, hM7, hD7, hb7⟩
  have hba := (Below.refl w7.heap.size w7).alloc (Nat.le_refl _) (.cells #[.int .i64 Lq, .slice oo7 Oq.length oc7, .slice ro7 n7 rc7] 30)
  have HA8 : Hid (At (w7.alloc (.cells #[.int .i64 Lq, .slice oo7 Oq.length oc7, .slice ro7 n7 rc7] 30)) w7.heap.size Lq oo7 oc7 Oq ro7 rc7 n7 g7) := Lib.hid (At.new hM7 _)
  have HD8 := Lib.hid (hD7.only hM7 (Only.of_below (fun _ => False) hba))
  have HW8 : Hid (Btw w6.heap.size w7.heap.size oo7 Oq ro7 n7 g7) := Lib.hid (fun i hi => ⟨hD7.ge i hi, hM7.slt i hi⟩)
  have HB8 := Lib.hid ((HB6.out.trans (hb7.mono HB6.out.size)).trans (hba.mono (Nat.le_trans HB6.out.size hb7.size)))
  have HX8 := Lib.hid ((HX6.out.below hb7).below hba)
  have HR8 := Lib.hid ((HA6.out.below hb7).below hba)
  have HM8 := Lib.hid ((HA7.out.below hb7).below hba)
  have HDm := Lib.hid ((HD7.out.only HA7.out.2 (Only.of_below (fun _ => False) hb7)).only (HA7.out.2.below hb7.size hb7) (Only.of_below (fun _ => False) hba))
  have hs7 : w6.heap.size ≤ w7.heap.size := hb7.size
  clear hM7 hD7 hb7 hba HB6 HX6 HA6 HA7 HD7 y0 y1 y2
  obtain ⟨y0, y1, y2⟩ := HA8.out.1.cells
  obtain ⟨z0, z1, z2⟩ := HR8.out.1.cells
  go_wp2_with fail
  generalize w7.alloc (.cells #[.int .i64 Lq, .slice oo7 Oq.length oc7, .slice ro7 n7 rc7] 30) = w8 at HA8 HD8 HB8 HX8 HR8 HM8 HDm y0 y1 y2 z0 z1 z2 ⊢
  refine (HEr.out _ _ _ _ _ _ _ _ _ _ _ _ hc7 hc3 _ HA8.out.2 HR8.out.2).mono ?_
  rintro e w9 ⟨rfl, hb9⟩
  have HB9 := Lib.hid (HB8.out.trans (hb9.mono HB8.out.size))
  have HX9 := Lib.hid (HX8.out.below hb9)
  have HR9 := Lib.hid (HR8.out.below hb9)
  have HM9 := Lib.hid (HM8.out.below hb9)
  have HA9 := Lib.hid (HA8.out.below hb9)
  have HDm9 := Lib.hid (HDm.out.only HM8.out.2 (Only.of_below (fun _ => False) hb9))
  have HD9 := Lib.hid (HD8.out.only HA8.out.2 (Only.of_below (fun _ => False) hb9))
  clear hb9 HB8 HX8 HR8 HM8 HA8 HDm HD8 y0 y1 y2 z0 z1 z2
  obtain ⟨x0, x1, x2⟩ := HX9.out.1.cells
  obtain ⟨y0, y1, y2⟩ := HM9.out.1.cells
  have hb0 := (Below.refl w9.heap.size w9).drew
  go_wp2_with fail
  go_region_held3 (fun W => (W.cell? ⟨w.heap.size, 0, none⟩ = some (.int .i64 last) ∧ W.cell? ⟨w.heap.size, 1, none⟩ = some (.slice oo op.length oc) ∧ W.cell? ⟨w.heap.size, 2, none⟩ = some (.slice ro n rc)) ∧ W.cell? ⟨w5.heap.size, 0, none⟩ = some (.int .i64 last) ∧ W.cell? ⟨w5.heap.size, 1, none⟩ = some (.slice oo5 op.length oc5) ∧ W.cell? ⟨w5.heap.size, 2, none⟩ = some (.slice ro5 n5 rc5)) (exact ⟨⟨by assumption, by assumption, by assumption⟩, by assumption, by assumption, by assumption⟩) (first | (go_at_call 13; refine (HTo.out _ (HX9.out.2.below hb0.size hb0)).mono ?_; rintro e wa ⟨_, rfl, ooa, oca, roa, rca, na, ga, rfl, hca, hMa, _, hba'⟩; have hba := hb0.trans hba'; clear hba'; obtain ⟨p0, p1, p2⟩ := (HX9.out.1.below hba).cells; obtain ⟨q0, q1, q2⟩ := (HM9.out.1.below hba).cells) | (go_at_call 15; refine (HEq.out _ _ _ _ _ _ _ _ _ _ _ _ hc5 hca _ (HM9.out.2.below hba.size hba) hMa).mono ?_; rintro e wb ⟨rfl, hbb'⟩; have hbb := hba.trans (hbb'.mono hba.size); clear hbb'; obtain ⟨r0, r1, r2⟩ := (HX9.out.1.below hbb).cells; obtain ⟨t0, t1, t2⟩ := (HM9.out.1.below hbb).cells))
  have HB10 := Lib.hid (HB9.out.trans (hbb.mono HB9.out.size))
  have HX10 := Lib.hid (HX9.out.below hbb)
  have HR10 := Lib.hid (HR9.out.below hbb)
  have HM10 := Lib.hid (HM9.out.below hbb)
  have HA10 := Lib.hid (HA9.out.below hbb)
  have HDm10 := Lib.hid (HDm9.out.only HM9.out.2 (Only.of_below (fun _ => False) hbb))
  have HD10 := Lib.hid (HD9.out.only HA9.out.2 (Only.of_below (fun _ => False) hbb))
  clear hbb hba hMa hca hb0 HB9 HX9 HR9 HM9 HA9 HDm9 HD9 x0 x1 x2 y0 y1 y2
  try clear p0 p1 p2 q0 q1 q2
  try clear r0 r1 r2 t0 t1 t2

  obtain ⟨y0, y1, y2⟩ := HM10.out.1.cells
  go_wp2_with fail
  refine (HMk.out _ _ _ _ _ _ hc5 (HC7.out _ _ hc5) _ HM10.out.2 _ HDm10.out).mono ?_
  rintro e w11 ⟨k7, hk7, _, rfl, _, ho⟩
  have hoS := ho.mono (T := fun i => w4.heap.size ≤ i ∧ i < w5.heap.size) (fun i _ hi => HW7.out i hi)
  have HB11 := Lib.hid (HB10.out.trans (hoS.below (B := w.heap.size) (fun i _ hi => by have h1 := hi.1; omega) HB10.out.size))
  have HX11 := Lib.hid (HX10.out.only hoS (fun hh => by have h1 := hh.1; omega) (fun i hi hh => by have h1 := hh.1; have := HLx.out i hi; omega))
  have HR11 := Lib.hid (HR10.out.only hoS (fun hh => by have h1 := hh.1; omega) (fun i hi hh => by have h1 := hh.1; have := HL4.out i hi; omega))
  have HA11 := Lib.hid (HA10.out.only hoS (fun hh => by have h1 := hh.2; omega) (fun i hi hh => by have h1 := hh.2; have := HW8.out i hi; omega))
  have HD11 := Lib.hid (HD10.out.only HA10.out.2 hoS)
  clear ho hoS HB10 HX10 HR10 HA10 HD10 HM10 HDm10 y0 y1 y2 HW7
  obtain ⟨y0, y1, y2⟩ := HA11.out.1.cells
  obtain ⟨z0, z1, z2⟩ := HR11.out.1.cells
  go_wp2_with fail
  refine (HEr.out _ _ _ _ _ _ _ _ _ _ _ _ hc7 hc3 _ HA11.out.2 HR11.out.2).mono ?_
  rintro e w12 ⟨rfl, hb⟩
  have HB12 := Lib.hid (HB11.out.trans (hb.mono HB11.out.size))
  have HX12 := Lib.hid (HX11.out.below hb)
  have HR12 := Lib.hid (HR11.out.below hb)
  have HA12 := Lib.hid (HA11.out.below hb)
  have HD12 := Lib.hid (HD11.out.only HA11.out.2 (Only.of_below (fun _ => False) hb))
  clear hb HB11 HX11 HR11 HA11 HD11 y0 y1 y2 z0 z1 z2
  obtain ⟨y0, y1, y2⟩ := HA12.out.1.cells
  go_wp2_with fail
  refine (HMr.out _ _ _ _ _ _ hc7 (by have := HC8.out _ _ hc7; omega) _ HA12.out.2 _ HD12.out).mono ?_
  rintro e w13 ⟨k8, hk8, hke, rfl, hMM, ho⟩
  have hoS := ho.mono (T := fun i => w6.heap.size ≤ i ∧ i < w7.heap.size) (fun i _ hi => HW8.out i hi)
  have HB13 := Lib.hid (HB12.out.trans (hoS.below (B := w.heap.size) (fun i _ hi => by have h1 := hi.1; omega) HB12.out.size))
  have HX13 := Lib.hid (HX12.out.only hoS (fun hh => by have h1 := hh.1; omega) (fun i hi hh => by have h1 := hh.1; have := HLx.out i hi; omega))
  have HR13 := Lib.hid (HR12.out.only hoS (fun hh => by have h1 := hh.1; omega) (fun i hi hh => by have h1 := hh.1; have := HL4.out i hi; omega))
  have HC13 := Lib.hid (HA12.out.1.only hoS (fun hh => by have h1 := hh.2; omega))
  have HMM13 := Lib.hid hMM
  have HKe := Lib.hid hke
  have hkk : (k8 != k8) = false := by simp
  clear ho hoS hMM hke HB12 HX12 HR12 HA12 HD12 y0 y1 y2 HW8
  obtain ⟨y0, y1, y2⟩ := HC13.out.cells
  go_wp2_with fail
  refine (HHl.out _ _ _ _ _ _ hc7 (HC8.out _ _ hc7) k8 HKe.out _ HMM13.out).mono ?_
  rintro e w14 ⟨rfl, hb⟩
  have HB14 := Lib.hid (HB13.out.trans (hb.mono HB13.out.size))
  have HX14 := Lib.hid (HX13.out.below hb)
  have HR14 := Lib.hid (HR13.out.below hb)
  have HC14 := Lib.hid (HC13.out.below hb)
  have HMM14 := Lib.hid (HMM13.out.after hb)
  clear hb HB13 HX13 HR13 HC13 HMM13 y0 y1 y2
  obtain ⟨x0, x1, x2⟩ := HX14.out.1.cells
  go_wp2_with fail
  refine (HTo.out _ HX14.out.2).mono ?_
  rintro e w15 ⟨_, rfl, oo15, oc15, ro15, rc15, n15, g15, rfl, hc15, hM15, hD15, hb15⟩
  have HB15 := Lib.hid (HB14.out.trans (hb15.mono HB14.out.size))
  have HR15 := Lib.hid (HR14.out.below hb15)
  have HC15 := Lib.hid (HC14.out.below hb15)
  have HMM15 := Lib.hid (HMM14.out.after hb15)
  have HM15 := Lib.hid hM15
  clear hM15 hD15 hb15 HB14 HX14 HR14 HC14 HMM14 x0 x1 x2
  go_wp2_with fail
  refine (HIm.out _ _ _ _ _ _ hc15 _ HM15.out).mono ?_
  rintro e w16 ⟨_, rfl, oo16, oc16, ro16, rc16, n16, g16, rfl, hc16, hM16, hD16, hb16⟩
  have hba := (Below.refl w16.heap.size w16).alloc (Nat.le_refl _) (.cells #[.int .i64 Lq, .slice oo16 Oq.length oc16, .slice ro16 n16 rc16] 30)
  have HA17 : Hid (At (w16.alloc (.cells #[.int .i64 Lq, .slice oo16 Oq.length oc16, .slice ro16 n16 rc16] 30)) w16.heap.size Lq oo16 oc16 Oq ro16 rc16 n16 g16) := Lib.hid (At.new hM16 _)
  have HB17 := Lib.hid ((HB15.out.trans (hb16.mono HB15.out.size)).trans (hba.mono (Nat.le_trans HB15.out.size hb16.size)))
  have HR17 := Lib.hid ((HR15.out.below hb16).below hba)
  have HC17 := Lib.hid ((HC15.out.below hb16).below hba)
  have HMM17 := Lib.hid ((HMM15.out.after hb16).after hba)
  clear hM16 hD16 hb16 hba HB15 HR15 HC15 HMM15 HM15
  obtain ⟨y0, y1, y2⟩ := HA17.out.1.cells
  obtain ⟨z0, z1, z2⟩ := HR17.out.1.cells
  go_wp2_with fail
  generalize w16.alloc (.cells #[.int .i64 Lq, .slice oo16 Oq.length oc16, .slice ro16 n16 rc16] 30) = w17 at HA17 HB17 HR17 HC17 HMM17 y0 y1 y2 z0 z1 z2 ⊢
  refine (HEr.out _ _ _ _ _ _ _ _ _ _ _ _ hc16 hc3 _ HA17.out.2 HR17.out.2).mono ?_
  rintro e w18 ⟨rfl, hb⟩
  have HB18 := Lib.hid (HB17.out.trans (hb.mono HB17.out.size))
  have HC18 := Lib.hid (HC17.out.below hb)
  have HMM18 := Lib.hid (HMM17.out.after hb)
  clear hb HB17 HR17 HC17 HMM17 HA17 y0 y1 y2 z0 z1 z2
  obtain ⟨y0, y1, y2⟩ := HC18.out.cells
  go_wp2_with fail
  refine (HHl.out _ _ _ _ _ _ hc7 (HC8.out _ _ hc7) k8 HKe.out _ HMM18.out).mono ?_
  rintro e w19 ⟨rfl, hb⟩
  have HB19 := Lib.hid (HB18.out.trans (hb.mono HB18.out.size))
  clear hb HB18 HC18 HMM18 y0 y1 y2
  go_wp2
  go_ret
  exact ⟨rfl, HB19.out⟩
end Go.Proofs.Ytabkjjbhnapgpaa
