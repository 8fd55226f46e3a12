/- The walk of the law FnExactPutAll: the call returns true, and nothing that was there has changed. -/
import Derived.Test.YteiefngamccapaaPj6
import Derived.Test.YteiefngamccapaaRiI
import Derived.Test.YteiefngamccapaaMkK
import Derived.Deep.DeepCutAuto
namespace Go.Proofs.Yteiefngamccapaa
open Go.RowKit Go.Deep

set_option maxHeartbeats 16000000 in
set_option maxRecDepth 100000 in
theorem walk_fnExactPutAll (w : World) (ao : Option Addr) (cap : Nat) (l : List Chk) (fl : Int) (bo : Option Addr) (bp : Nat) (xs : List Smp) (hl : l.length ≤ maxLen ∧ FitC l maxLen ∧ CRow w w.heap.size ao l) (hxs : xs.length ≤ maxLen ∧ FitS xs ∧ SRow w w.heap.size bo xs) :
    Calls Try.prog 6 #[.agg #[.slice ao l.length cap, .int .i64 fl], .slice bo xs.length bp] w fun e w' => e = .returned (.bool true) ∧ Below w.heap.size w w' := by
  obtain ⟨hn, hF, h⟩ := hl
  obtain ⟨hxm, hx, hs⟩ := hxs
  have HB0 := Lib.hid ((Below.refl w.heap.size w).alloc (Nat.le_refl _) (.cells #[.slice ao l.length cap, .int .i64 fl] 24))
  have HX0 := Lib.hid (Bt.new w (.slice ao l.length cap) (.int .i64 fl) 24)
  have HR0 := Lib.hid (GR.after h HB0.out); have HS0 := Lib.hid (SRow.after hs HB0.out)
  have HF := Lib.hid hF; have HFx := Lib.hid hx
  clear h hF hs hx
  go_enter Try.func6, Try.ntmps6
  go_wp2_with fail
  refine (szSer ao cap l fl hn HF.out 1048576 (by omega) (by omega) _ HR0.out).mono ?_
  rintro e w1 ⟨⟨r, rfl, hr1, hr⟩, hb1⟩
  have HB1 := Lib.hid (HB0.out.trans (hb1.mono HB0.out.size))
  have HX1 := Lib.hid (HX0.out.below hb1)
  have HR1 := Lib.hid (GR.after HR0.out hb1); have HS1 := Lib.hid (SRow.after HS0.out hb1)
  clear hb1 HB0 HX0 HR0 HS0
  rcases hr with rfl | ⟨hr0, hn1, hF1⟩
  · go_wp2
    go_ret
    exact ⟨rfl, HB1.out⟩
  have HF1 := Lib.hid hF1
  go_wp2_with fail
  refine (sz50 bo xs.length bp hxm r hr0 (by omega) _).mono ?_
  rintro e w1' ⟨⟨r2, rfl, hr2, hr'⟩, rfl⟩
  rcases hr' with ⟨rfl, _⟩ | ⟨hr20, hxn⟩
  · go_wp2
    go_ret
    exact ⟨rfl, HB1.out⟩
  have hxn1 : xs.length ≤ 1048576 := by omega
  have HT := Lib.hid (fun W hW => toSer ao cap l fl hn1 W hW)
  have HTs := Lib.hid (fun W hW => to51 bo bp xs hxn1 W hW)
  have HC1 := Lib.hid (fun a b c d W h1 h2 => paM a b c d l fl xs hn1 hxn1 HF1.out HFx.out W h1 h2)
  have HC2 := Lib.hid (fun a b c d W h1 h2 => paI a b c d l fl xs hn1 hxn1 HF1.out HFx.out W h1 h2)
  have HE := Lib.hid (fun o o' c c' W h1 h2 => eqSer o o' c c' l fl hn1 W h1 h2)
  have HEs := Lib.hid (fun o o' c c' W h1 h2 => eq52 o o' c c' xs hxn1 W h1 h2)
  have HMk := Lib.hid (fun base v ys W h => markSer base l.length v fl ys hn1 W h)
  have HMs := Lib.hid (fun s base v ys hs W h => mark57k s base xs.length v ys hs hxn1 W h)
  have hyl : (aaL l fl xs).length ≤ 6 := aaL_len HFx.out
  have hcl : (aaC l fl xs).length ≤ 60 := aaC_len
  have hci : ∀ x ∈ aaC l fl xs, I.In64 x := fun x h => aaC_in x h
  unfold P4End at HC1 HC2
  generalize aaB l fl xs = g at HC1 HC2
  generalize aaL l fl xs = y at HC1 HC2 hyl
  generalize aaF l fl xs = f at HC1 HC2
  generalize aaC l fl xs = cds at HC1 HC2 hcl hci
  have HEy := Lib.hid (fun (o o' : Option Addr) (c c' : Nat) W h1 h2 => eqSer o o' c c' y f (by omega) W h1 h2)
  have HEi := Lib.hid (fun (o o' : Option Addr) (c c' : Nat) W h1 h2 => I.eqInts o o' c c' cds (by omega) W h1 h2)
  have HMy := Lib.hid (fun base v ys W h => markSer base y.length v f ys (by omega) W h)
  have HMi := Lib.hid (fun (o : Option Addr) (c B k : Nat) hk W h => I.markAll2 o cds.length c B k (I.at0 cds) (by omega) hk W h)
  have HHy := Lib.hid (fun (o : Option Addr) (c : Nat) W h => heldSer y.length o c f (by omega) W h)
  have HHi := Lib.hid (fun (o : Option Addr) (c B k : Nat) hk W h => I.heldAll o cds.length c B k (by omega) hk W h)
  have HCi := Lib.hid hci
  have hgg : (g != g) = false := by cases g <;> rfl
  have hl20 : l.length ≤ 1048576 := hn1
  clear hn hF1 hn1 hci
  obtain ⟨x0, x1, _⟩ := HX1.out.cells
  go_wp2_with fail
  refine (HT.out _ HR1.out).mono ?_
  rintro e w2 h2
  obtain ⟨o2, k2, rfl, _, hR2, hb2⟩ := made_ser h2
  have HB2 := Lib.hid (HB1.out.trans (hb2.mono HB1.out.size)); have HX2 := Lib.hid (HX1.out.below hb2); have HR2 := Lib.hid (GR.after HR1.out hb2); have HS2 := Lib.hid (SRow.after HS1.out hb2); have HQ2 := Lib.hid hR2
  clear hb2 h2 hR2 x0 x1 HB1 HX1 HR1 HS1
  go_wp2_with fail
  refine (HTs.out _ HS2.out).mono ?_
  rintro e w3 h3
  obtain ⟨o3, k3, rfl, _, hS3, hb3⟩ := made_srow h3
  have HB3 := Lib.hid (HB2.out.trans (hb3.mono HB2.out.size)); have HX3 := Lib.hid (HX2.out.below hb3); have HR3 := Lib.hid (GR.after HR2.out hb3); have HS3 := Lib.hid (SRow.after HS2.out hb3); have HQ3 := Lib.hid (GR.after HQ2.out hb3); have HU3 := Lib.hid hS3
  clear hb3 h3 hS3 HB2 HX2 HR2 HS2 HQ2
  go_wp2_with fail
  refine (HC1.out _ _ _ _ _ HQ3.out HU3.out).mono ?_
  rintro e w4 ⟨⟨o6, k6, b7, k7, rfl, hO6, hO7, _⟩, hb4⟩
  have hW8 := (Below.refl w4.heap.size w4).alloc (Nat.le_refl _) (.cells #[.slice o6 y.length k6, .int .i64 f] 29)
  have hb8 := hb4.trans (hW8.mono hb4.size)
  have HB8 := Lib.hid (HB3.out.trans (hb8.mono HB3.out.size)); have HX8 := Lib.hid (HX3.out.below hb8); have HR8 := Lib.hid (GR.after HR3.out hb8); have HS8 := Lib.hid (SRow.after HS3.out hb8)
  have HY8 := Lib.hid (GR.after (GR.of_own cC_len hO6) hW8); have HI8 : Hid (I.IRow (w4.alloc (.cells #[.slice o6 y.length k6, .int .i64 f] 29)) (w4.alloc (.cells #[.slice o6 y.length k6, .int .i64 f] 29)).heap.size b7 cds) := Lib.hid (by
    obtain ⟨a, c, e, hI⟩ := I.IRow.of_own HCi.out hO7
    injection e with e1 e2 e3
    subst e1
    exact hI.after hW8)
  have HG8 := Lib.hid (Bt.new w4 (.slice o6 y.length k6) (.int .i64 f) 29)
  have hne8 : w4.heap.size ≠ w.heap.size := by have h1 := (HX3.out.below hb4).lt; omega
  obtain ⟨W8, hW8e⟩ : ∃ W, W = w4.alloc (.cells #[.slice o6 y.length k6, .int .i64 f] 29) := ⟨_, rfl⟩
  rw [← hW8e] at HB8 HX8 HR8 HS8 HY8 HI8 HG8
  have x := HX8.out.cells
  rw [hW8e] at x
  obtain ⟨x0, x1, _⟩ := x
  clear hb4 hb8 hW8 hO6 hO7 HB3 HX3 HR3 HS3 HQ3 HU3
  have HAX := Lib.hid (fun (W : World) (hb : Below W8.heap.size W8 W) => HX8.out.below hb)
  have HAR := Lib.hid (fun (W : World) (hb : Below W8.heap.size W8 W) => GR.after HR8.out hb)
  have HAS := Lib.hid (fun (W : World) (hb : Below W8.heap.size W8 W) => SRow.after HS8.out hb)
  have HAY := Lib.hid (fun (W : World) (hb : Below W8.heap.size W8 W) => GR.after HY8.out hb)
  have HAI := Lib.hid (fun (W : World) (hb : Below W8.heap.size W8 W) => HI8.out.after hb)
  have HAG := Lib.hid (fun (W : World) (hb : Below W8.heap.size W8 W) => HG8.out.below hb)
  have h68 : w4.heap.size < W8.heap.size := HG8.out.lt
  have h28 : w.heap.size < W8.heap.size := HX8.out.lt
  go_wp2_with fail
  rw [← hW8e]
  clear hW8e x0 x1 hne8 HX8 HR8 HS8 HY8 HI8 HG8
  refine (HT.out _ (HAR.out _ (Below.refl _ _))).mono ?_
  rintro e w9 h9
  obtain ⟨o9, k9, rfl, hO9, _, hb9⟩ := made_ser h9
  have hW9 := (Below.refl w9.heap.size w9).alloc (Nat.le_refl _) (.cells #[.slice o9 l.length k9, .int .i64 fl] 29)
  have HBW9 := Lib.hid (hb9.trans (hW9.mono hb9.size)); have HPN9 := Lib.hid (Bt.new w9 (.slice o9 l.length k9) (.int .i64 fl) 29); have HON9 := Lib.hid (hO9.alloc (.cells #[.slice o9 l.length k9, .int .i64 fl] 29))
  have HN9 := Lib.hid (fun g e => hO9.lt g e)
  have h89 := hb9.size
  obtain ⟨W9, hW9e⟩ : ∃ W, W = w9.alloc (.cells #[.slice o9 l.length k9, .int .i64 fl] 29) := ⟨_, rfl⟩
  have h99 : w9.heap.size < W9.heap.size := by rw [hW9e]; simp
  rw [← hW9e] at HBW9 HPN9 HON9
  clear hb9 h9 hW9 hO9
  go_wp2_with fail
  rw [← hW9e]
  clear hW9e
  refine (HTs.out _ (HAS.out _ HBW9.out)).mono ?_
  rintro e w10 h10
  obtain ⟨o10, k10, rfl, hO10, _, hb10⟩ := made_srow h10
  have h910 := hb10.size
  have HN10 := Lib.hid (fun g e => hO10.lt g e)
  have HOS10 := Lib.hid hO10
  have HBW10 := Lib.hid (HBW9.out.trans (hb10.mono HBW9.out.size)); have HPN10 := Lib.hid (HPN9.out.below hb10); have HON10 := Lib.hid (own_below HON9.out hb10)
  clear HBW9 HPN9 HON9 hb10
  clear h10 hO10
  obtain ⟨p0, p1, _⟩ := HPN10.out.cells
  go_wp2_with fail
  refine (HC2.out _ _ _ _ _ (GR.of_own cC_len HON10.out) (SRow.of_own HOS10.out).2).mono ?_
  rintro e w11 ⟨⟨o11, k11, b12, k12, rfl, hO11, hO12, hD⟩, hb11⟩
  have h1011 := hb11.size
  have hW12 := (Below.refl w11.heap.size w11).alloc (Nat.le_refl _) (.cells #[.slice o11 y.length k11, .int .i64 f] 29)
  have hb12 := hb11.trans (hW12.mono hb11.size)
  have HN11 := Lib.hid (fun g e => hO11.lt g e); have HN12 := Lib.hid (fun g e => hO12.lt g e); have HD := Lib.hid hD
  have HPE12 := Lib.hid (Bt.new w11 (.slice o11 y.length k11) (.int .i64 f) 29); have HOE12 := Lib.hid (hO11.alloc (.cells #[.slice o11 y.length k11, .int .i64 f] 29)); have HOI12 := Lib.hid (hO12.alloc (.cells #[.slice o11 y.length k11, .int .i64 f] 29))
  clear p0 p1 hb11 hW12 hO11 hO12 hD
  have HBW12 := Lib.hid (HBW10.out.trans (hb12.mono HBW10.out.size)); have HPN12 := Lib.hid (HPN10.out.below hb12); have HON12 := Lib.hid (own_below HON10.out hb12); have HOS12 := Lib.hid (own_below HOS10.out hb12)
  clear HBW10 HPN10 HON10 HOS10 hb12
  obtain ⟨W12, hW12e⟩ : ∃ W, W = w11.alloc (.cells #[.slice o11 y.length k11, .int .i64 f] 29) := ⟨_, rfl⟩
  have h1112 : w11.heap.size < W12.heap.size := by rw [hW12e]; simp
  rw [← hW12e] at HBW12 HPN12 HON12 HOS12 HPE12 HOE12 HOI12
  have x := (HAG.out _ HBW12.out).cells
  have x' := HPE12.out.cells
  rw [hW12e] at x x'
  obtain ⟨x0, x1, _⟩ := x
  obtain ⟨x2, x3, _⟩ := x'
  go_wp2_with fail
  rw [← hW12e]
  clear hW12e x0 x1 x2 x3
  refine (HEy.out _ _ _ _ _ (GR.of_own cC_len HOE12.out) (HAY.out _ HBW12.out)).mono ?_
  rintro e w13 ⟨rfl, hb13⟩
  have HBW13 := Lib.hid (HBW12.out.trans (hb13.mono HBW12.out.size)); have HPN13 := Lib.hid (HPN12.out.below hb13); have HON13 := Lib.hid (own_below HON12.out hb13); have HOS13 := Lib.hid (own_below HOS12.out hb13); have HPE13 := Lib.hid (HPE12.out.below hb13); have HOE13 := Lib.hid (own_below HOE12.out hb13); have HOI13 := Lib.hid (own_below HOI12.out hb13)
  clear HBW12 HPN12 HON12 HOS12 HPE12 HOE12 HOI12 hb13
  go_wp2_with fail
  refine (HEi.out _ _ _ _ _ (show I.IRow _ _ b12 cds from by obtain ⟨a, c, e, hI⟩ := I.IRow.of_own HCi.out HOI13.out; injection e with e1 e2 e3; subst e1; exact hI) (HAI.out _ HBW13.out)).mono ?_
  rintro e w14 ⟨rfl, hb14⟩
  have HBW14 := Lib.hid (HBW13.out.trans (hb14.mono HBW13.out.size)); have HPN14 := Lib.hid (HPN13.out.below hb14); have HON14 := Lib.hid (own_below HON13.out hb14); have HOS14 := Lib.hid (own_below HOS13.out hb14); have HPE14 := Lib.hid (HPE13.out.below hb14); have HOE14 := Lib.hid (own_below HOE13.out hb14); have HOI14 := Lib.hid (own_below HOI13.out hb14)
  clear HBW13 HPN13 HON13 HOS13 HPE13 HOE13 HOI13 hb14
  have HX14 := Lib.hid (HAX.out _ HBW14.out)
  have HArg := Lib.hid (fun (W : World) (hb : Below w14.heap.size w14 W) => HAR.out W (HBW14.out.trans (hb.mono HBW14.out.size)))
  have HBox := Lib.hid (fun (W : World) (hb : Below w14.heap.size w14 W) => GR.after (GR.of_own cC_len HON14.out) hb)
  obtain ⟨p0, p1, _⟩ := HPN14.out.cells
  obtain ⟨x0, x1, _⟩ := HX14.out.cells
  go_upto_region 14 with fail
  go_cut [69] (fun s69 wx => s69 = .bool false ∧ Hid (Below w14.heap.size w14 wx))
  case first =>
    go_region_held3 (fun w' => w'.cell? ⟨w9.heap.size, 0, none⟩ = some (.slice o9 l.length k9) ∧ w'.cell? ⟨w9.heap.size, 1, none⟩ = some (.int .i64 fl) ∧ w'.cell? ⟨w.heap.size, 0, none⟩ = some (.slice ao l.length cap) ∧ w'.cell? ⟨w.heap.size, 1, none⟩ = some (.int .i64 fl)) (exact ⟨by assumption, by assumption, by assumption, by assumption⟩) (first | (go_at_call 14; refine (HT.out _ (HArg.out _ (Below.refl _ _).drew)).mono ?_; rintro e w7 h6; obtain ⟨q6, kk6, rfl, _, hR6, hb6'⟩ := made_ser h6; have hb6 := (Below.refl w14.heap.size w14).drew.trans hb6'; clear hb6' h6; obtain ⟨q0, q1, _⟩ := (HPN14.out.below hb6).cells; obtain ⟨u0, u1, _⟩ := (HX14.out.below hb6).cells) | (go_at_call 16; refine (HE.out _ _ _ _ _ (HBox.out _ hb6) hR6).mono ?_; rintro e w8 ⟨rfl, hb7'⟩; have hb7 := hb6.trans (hb7'.mono hb6.size); clear hb7'; obtain ⟨r0, r1, _⟩ := (HPN14.out.below hb7).cells; obtain ⟨t0, t1, _⟩ := (HX14.out.below hb7).cells))
    all_goals
      have HB7 := Lib.hid hb7
      clear hb6 hb7
      go_wp2_with fail
      go_meet
      exact ⟨rfl, HB7⟩
  case rest =>
  obtain ⟨rfl, HBc⟩ := hcut
  obtain ⟨w15, rfl⟩ : ∃ W : World, W = wc := ⟨_, rfl⟩
  have hb15 := HBc.out
  clear HBc p0 p1 x0 x1 HX14 HArg HBox
  have HBW15 := Lib.hid (HBW14.out.trans (hb15.mono HBW14.out.size)); have HPN15 := Lib.hid (HPN14.out.below hb15); have HON15 := Lib.hid (own_below HON14.out hb15); have HOS15 := Lib.hid (own_below HOS14.out hb15); have HPE15 := Lib.hid (HPE14.out.below hb15); have HOE15 := Lib.hid (own_below HOE14.out hb15); have HOI15 := Lib.hid (own_below HOI14.out hb15)
  clear HBW14 HPN14 HON14 HOS14 HPE14 HOE14 HOI14 hb15
  go_wp2_with fail
  refine (HTs.out _ (HAS.out _ HBW15.out)).mono ?_
  rintro e w16 h16
  obtain ⟨o16, k16, rfl, _, hS16, hb16⟩ := made_srow h16
  clear h16
  have HBW16 := Lib.hid (HBW15.out.trans (hb16.mono HBW15.out.size)); have HPN16 := Lib.hid (HPN15.out.below hb16); have HON16 := Lib.hid (own_below HON15.out hb16); have HOS16 := Lib.hid (own_below HOS15.out hb16); have HPE16 := Lib.hid (HPE15.out.below hb16); have HOE16 := Lib.hid (own_below HOE15.out hb16); have HOI16 := Lib.hid (own_below HOI15.out hb16)
  clear HBW15 HPN15 HON15 HOS15 HPE15 HOE15 HOI15 hb16
  go_wp2_with fail
  refine (HEs.out _ _ _ _ _ (SRow.of_own HOS16.out).2 hS16).mono ?_
  rintro e w17 ⟨rfl, hb17⟩
  clear hS16
  have HBW17 := Lib.hid (HBW16.out.trans (hb17.mono HBW16.out.size)); have HPN17 := Lib.hid (HPN16.out.below hb17); have HON17 := Lib.hid (own_below HON16.out hb17); have HOS17 := Lib.hid (own_below HOS16.out hb17); have HPE17 := Lib.hid (HPE16.out.below hb17); have HOE17 := Lib.hid (own_below HOE16.out hb17); have HOI17 := Lib.hid (own_below HOI16.out hb17)
  clear HBW16 HPN16 HON16 HOS16 HPE16 HOE16 HOI16 hb17
  obtain ⟨p0, p1, _⟩ := HPN17.out.cells
  go_wp2_with fail
  refine (HMk.out _ _ _ _ HON17.out).mono ?_
  rintro e w18 ⟨rfl, _, hg18⟩
  obtain ⟨m9, hm9⟩ : ∃ m : Nat, m = 1 + 4 * l.length := ⟨_, rfl⟩
  rw [← hm9]
  have hm9' : m9 ≤ 6000000 := by omega
  clear hm9 p0 p1 HON17 HPN17
  have HBW18 := Lib.hid (HBW17.out.grown hg18 HBW17.out.size (fun g e => (HN9.out g e).1))
  have HOS18 := Lib.hid (own_apart2 HOS17.out hg18 (fun g e h => by have := (HN10.out g e).1; have := (HN9.out g h).2; omega))
  have HPE18 := Lib.hid (HPE17.out.apart hg18 (fun e => by have := (HN9.out _ e).2; omega))
  have HOE18 := Lib.hid (own_apart2 HOE17.out hg18 (fun g e h => by have := (HN11.out g e).1; have := (HN9.out g h).2; omega))
  have HOI18 := Lib.hid (own_apart2 HOI17.out hg18 (fun g e h => by have := (HN12.out g e).1; have := (HN9.out g h).2; omega))
  clear HBW17 HOS17 HPE17 HOE17 HOI17 hg18
  go_wp2_with fail
  refine (HMs.out m9 _ _ _ hm9' _ HOS18.out).mono ?_
  rintro e w19 ⟨rfl, _, hg19⟩
  obtain ⟨m10, hm10⟩ : ∃ m : Nat, m = m9 + 2 * xs.length := ⟨_, rfl⟩
  rw [← hm10]
  have hm10' : ¬ (m10 : Int) < 0 := by omega
  clear hm10 HOS18
  have HBW19 := Lib.hid (HBW18.out.grown hg19 HBW18.out.size (fun g e => by have := (HN10.out g e).1; omega))
  have HPE19 := Lib.hid (HPE18.out.apart hg19 (fun e => by have := (HN10.out _ e).2; omega))
  have HOE19 := Lib.hid (own_apart2 HOE18.out hg19 (fun g e h => by have := (HN11.out g e).1; have := (HN10.out g h).2; omega))
  have HOI19 := Lib.hid (own_apart2 HOI18.out hg19 (fun g e h => by have := (HN12.out g e).1; have := (HN10.out g h).2; omega))
  clear HBW18 HPE18 HOE18 HOI18 hg19
  obtain ⟨p0, p1, _⟩ := HPE19.out.cells
  obtain ⟨x0, x1, _⟩ := (HAG.out _ HBW19.out).cells
  go_wp2_with fail
  refine (HEy.out _ _ _ _ _ (GR.of_own cC_len HOE19.out) (HAY.out _ HBW19.out)).mono ?_
  rintro e w20 ⟨rfl, hb20⟩
  clear p0 p1 x0 x1
  have HBW20 := Lib.hid (HBW19.out.trans (hb20.mono HBW19.out.size)); have HPE20 := Lib.hid (HPE19.out.below hb20); have HOE20 := Lib.hid (own_below HOE19.out hb20); have HOI20 := Lib.hid (own_below HOI19.out hb20)
  clear HBW19 HPE19 HOE19 HOI19 hb20
  go_wp2_with fail
  refine (HEi.out _ _ _ _ _ (show I.IRow _ _ b12 cds from by obtain ⟨a, c, e, hI⟩ := I.IRow.of_own HCi.out HOI20.out; injection e with e1 e2 e3; subst e1; exact hI) (HAI.out _ HBW20.out)).mono ?_
  rintro e w21 ⟨rfl, hb21⟩
  have HBW21 := Lib.hid (HBW20.out.trans (hb21.mono HBW20.out.size)); have HPE21 := Lib.hid (HPE20.out.below hb21); have HOE21 := Lib.hid (own_below HOE20.out hb21); have HOI21 := Lib.hid (own_below HOI20.out hb21)
  clear HBW20 HPE20 HOE20 HOI20 hb21
  obtain ⟨p0, p1, _⟩ := HPE21.out.cells
  go_wp2_with fail
  refine (HMy.out _ _ _ _ HOE21.out).mono ?_
  rintro e w22 ⟨rfl, hM22, hg22⟩
  obtain ⟨m11, hm11⟩ : ∃ m : Nat, m = 1 + 4 * y.length := ⟨_, rfl⟩
  rw [← hm11]
  have hm11' : m11 ≤ 2097152 := by omega
  have hm11n : ¬ (m11 : Int) < 0 := by omega
  have HM11 := Lib.hid hm11
  have HOE22 := Lib.hid hM22
  clear hm11 p0 p1 HOE21 hM22
  have HBW22 := Lib.hid (HBW21.out.grown hg22 HBW21.out.size (fun g e => by have := (HN11.out g e).1; omega))
  have HPE22 := Lib.hid (HPE21.out.apart hg22 (fun e => by have := (HN11.out _ e).2; omega))
  have HOI22 := Lib.hid (own_apart2 HOI21.out hg22 (fun g e h => HD.out g h e))
  clear HBW21 HPE21 HOI21 hg22
  have HRI22 : Hid (I.Row w22 b12 cds.length k12 (I.at0 cds) w10.heap.size) := Lib.hid (by
    obtain ⟨a, c, e, hI⟩ := I.Row.of_own HOI22.out
    injection e with e1 e2 e3
    subst e1; subst e3
    exact hI)
  clear HOI22
  go_wp2_with fail
  refine (HMi.out _ _ _ m11 hm11' _ HRI22.out).mono ?_
  rintro e w23 ⟨rfl, hR23, hg23⟩
  obtain ⟨m12, hm12⟩ : ∃ m : Nat, m = m11 + cds.length := ⟨_, rfl⟩
  rw [← hm12]
  have hm12n : ¬ (m12 : Int) < 0 := by omega
  have HM12 := Lib.hid hm12
  have HRI23 := Lib.hid hR23
  clear hm12 hR23 HRI22
  have HBW23 := Lib.hid (HBW22.out.grown hg23 HBW22.out.size (fun g e => by have := (HN12.out g e).1; omega))
  have HPE23 := Lib.hid (HPE22.out.apart hg23 (fun e => by have := (HN12.out _ e).2; omega))
  have HOE23 := Lib.hid (own_apart2 HOE22.out hg23 (fun g e h => HD.out g e h))
  clear HBW22 HPE22 HOE22 hg23
  obtain ⟨p0, p1, _⟩ := HPE23.out.cells
  go_wp2_with fail
  refine (HHy.out _ _ _ (GR.of_own cC_len (l := marksC y.length) (by rw [marksC_len]; exact HOE23.out))).mono ?_
  rintro e w24 ⟨rfl, hb24⟩
  rw [← HM11.out]
  clear p0 p1
  have HBW24 := Lib.hid (HBW23.out.trans (hb24.mono HBW23.out.size)); have HPE24 := Lib.hid (HPE23.out.below hb24); have HOE24 := Lib.hid (own_below HOE23.out hb24); have HRI24 := Lib.hid (HRI23.out.below hb24)
  clear HBW23 HPE23 HOE23 HRI23 hb24
  go_wp2_with fail
  refine (HHi.out _ _ _ m11 hm11' _ HRI24.out).mono ?_
  rintro e w24' ⟨rfl, rfl⟩
  rw [← HM12.out]
  obtain ⟨x0, x1, _⟩ := (HAX.out _ HBW24.out).cells
  go_wp2_with fail
  refine (HT.out _ (HAR.out _ HBW24.out)).mono ?_
  rintro e w25 h25
  obtain ⟨o25, k25, rfl, _, hR25, hb25⟩ := made_ser h25
  clear h25 x0 x1
  have HBW25 := Lib.hid (HBW24.out.trans (hb25.mono HBW24.out.size)); have HPE25 := Lib.hid (HPE24.out.below hb25); have HOE25 := Lib.hid (own_below HOE24.out hb25); have HRI25 := Lib.hid (HRI24.out.below hb25)
  clear HBW24 HPE24 HOE24 HRI24 hb25
  go_wp2_with fail
  refine (HTs.out _ (HAS.out _ HBW25.out)).mono ?_
  rintro e w26 h26
  obtain ⟨o26, k26, rfl, _, hS26, hb26⟩ := made_srow h26
  have HQ26 := Lib.hid (GR.after hR25 hb26); have HU26 := Lib.hid hS26
  clear h26 hR25 hS26
  have HBW26 := Lib.hid (HBW25.out.trans (hb26.mono HBW25.out.size)); have HPE26 := Lib.hid (HPE25.out.below hb26); have HOE26 := Lib.hid (own_below HOE25.out hb26); have HRI26 := Lib.hid (HRI25.out.below hb26)
  clear HBW25 HPE25 HOE25 HRI25 hb26
  go_wp2_with fail
  refine (HC2.out _ _ _ _ _ HQ26.out HU26.out).mono ?_
  rintro e w27 ⟨⟨o27, k27, b28, k28, rfl, hO27, hO28, _⟩, hb27⟩
  have hW28 := (Below.refl w27.heap.size w27).alloc (Nat.le_refl _) (.cells #[.slice o27 y.length k27, .int .i64 f] 29)
  have hb28 := hb27.trans (hW28.mono hb27.size)
  have HY28 := Lib.hid (GR.after (GR.of_own cC_len hO27) hW28); have HG28 := Lib.hid (Bt.new w27 (.slice o27 y.length k27) (.int .i64 f) 29)
  have HI28 : Hid (I.IRow (w27.alloc (.cells #[.slice o27 y.length k27, .int .i64 f] 29)) (w27.alloc (.cells #[.slice o27 y.length k27, .int .i64 f] 29)).heap.size b28 cds) := Lib.hid (by
    obtain ⟨a, c, e, hI⟩ := I.IRow.of_own HCi.out hO28
    injection e with e1 e2 e3
    subst e1
    exact hI.after hW28)
  clear hb27 hW28 hO27 hO28 HQ26 HU26
  have HBW28 := Lib.hid (HBW26.out.trans (hb28.mono HBW26.out.size)); have HPE28 := Lib.hid (HPE26.out.below hb28); have HOE28 := Lib.hid (own_below HOE26.out hb28); have HRI28 := Lib.hid (HRI26.out.below hb28)
  clear HBW26 HPE26 HOE26 HRI26 hb28
  obtain ⟨W28, hW28e⟩ : ∃ W, W = w27.alloc (.cells #[.slice o27 y.length k27, .int .i64 f] 29) := ⟨_, rfl⟩
  rw [← hW28e] at HBW28 HPE28 HOE28 HRI28 HY28 HG28 HI28
  have x := (HAG.out _ HBW28.out).cells
  have x' := HG28.out.cells
  rw [hW28e] at x x'
  obtain ⟨x0, x1, _⟩ := x
  obtain ⟨x2, x3, _⟩ := x'
  go_wp2_with fail
  rw [← hW28e]
  clear hW28e x0 x1 x2 x3
  refine (HEy.out _ _ _ _ _ HY28.out (HAY.out _ HBW28.out)).mono ?_
  rintro e w29 ⟨rfl, hb29⟩
  have HI29 := Lib.hid (HI28.out.after hb29)
  clear HI28 HY28 HG28
  have HBW29 := Lib.hid (HBW28.out.trans (hb29.mono HBW28.out.size)); have HPE29 := Lib.hid (HPE28.out.below hb29); have HOE29 := Lib.hid (own_below HOE28.out hb29); have HRI29 := Lib.hid (HRI28.out.below hb29)
  clear HBW28 HPE28 HOE28 HRI28 hb29
  go_wp2_with fail
  refine (HEi.out _ _ _ _ _ HI29.out (HAI.out _ HBW29.out)).mono ?_
  rintro e w30 ⟨rfl, hb30⟩
  clear HI29
  have HBW30 := Lib.hid (HBW29.out.trans (hb30.mono HBW29.out.size)); have HPE30 := Lib.hid (HPE29.out.below hb30); have HOE30 := Lib.hid (own_below HOE29.out hb30); have HRI30 := Lib.hid (HRI29.out.below hb30)
  clear HBW29 HPE29 HOE29 HRI29 hb30
  obtain ⟨p0, p1, _⟩ := HPE30.out.cells
  go_wp2_with fail
  refine (HHy.out _ _ _ (GR.of_own cC_len (l := marksC y.length) (by rw [marksC_len]; exact HOE30.out))).mono ?_
  rintro e w31 ⟨rfl, hb31⟩
  rw [← HM11.out]
  clear p0 p1
  have HBW31 := Lib.hid (HBW30.out.trans (hb31.mono HBW30.out.size)); have HPE31 := Lib.hid (HPE30.out.below hb31); have HOE31 := Lib.hid (own_below HOE30.out hb31); have HRI31 := Lib.hid (HRI30.out.below hb31)
  clear HBW30 HPE30 HOE30 HRI30 hb31
  go_wp2_with fail
  refine (HHi.out _ _ _ m11 hm11' _ HRI31.out).mono ?_
  rintro e w31' ⟨rfl, rfl⟩
  rw [← HM12.out]
  have HEnd := Lib.hid (HB8.out.trans (HBW31.out.mono HB8.out.size))
  go_wp2
  go_ret
  exact ⟨rfl, HEnd.out⟩
end Go.Proofs.Yteiefngamccapaa
